import Derived.Test.YtpncnionnfomeaaAwX
import Derived.Test.YtpncnionnfomeaaPlaceW
namespace Go.Proofs.Ytpncnionnfomeaa.PlaceX
open Go Go.Proofs Go.Proofs.Ytpncnionnfomeaa.Aw Go.Proofs.Ytpncnionnfomeaa.Num Go.Proofs.Ytpncnionnfomeaa.DiskM Go.Proofs.Ytpncnionnfomeaa.DiskA Go.Proofs.Ytpncnionnfomeaa.DiskK Go.Proofs.Ytpncnionnfomeaa.DiskC Go.Proofs.Ytpncnionnfomeaa.Disk Go.Proofs.Ytpncnionnfomeaa.DiskH
open Go.Proofs.Ytpncnionnfomeaa.DiskL (readP syncP syncNamesP namesP doomP wbV len_wbV Sz sz_new crash_o op_o small_crash Live begin_live names_live read_live doomF_some)
open Go.Proofs.Ytpncnionnfomeaa.Place (Do Makes putAll growAll dropD putFP growFP dropFP makes_put makes_grow makes_drop makes_syncNames Core Keep onTheWay)
set_option linter.unusedSimpArgs false
set_option linter.unusedVariables false
def XA : Fns := { fn := fun f => X0.fn f, mu := fun d => .no, hp := fun f => if f = 12 then some shownP else if f = 20 then some madeP else if f = 22 then some namesLP else if f = 21 then some syncNamesP else if f = 23 then some syncP else if f = 25 then some doomP else if f = 28 then some growFP else if f = 17 then some crashP else if f = 27 then some readP else X0.hp f, ord := fun i => none, it := fun f => X0.it f }
theorem XA_fn (f : FuncId) : XA.fn f = (X0.fn f) := rfl
theorem XA_mu (d : Tmp) : XA.mu d = (.no) := rfl
theorem XA_hp (f : FuncId) : XA.hp f = (if f = 12 then some shownP else if f = 20 then some madeP else if f = 22 then some namesLP else if f = 21 then some syncNamesP else if f = 23 then some syncP else if f = 25 then some doomP else if f = 28 then some growFP else if f = 17 then some crashP else if f = 27 then some readP else X0.hp f) := rfl
theorem XA_ord (i : Nat) : XA.ord i = (none) := rfl
theorem XA_it (f : FuncId) : XA.it f = (X0.it f) := rfl
theorem XA_hy (b : Nat) : XA.hy b = none := rfl
theorem XAok : FnsOk Try.prog XA := FnsOk.same (FnsOk.consP (FnsOk.consP (FnsOk.consP (FnsOk.consP (FnsOk.consP (FnsOk.consP (FnsOk.consP (FnsOk.consP (FnsOk.consP X0ok _ _ read_ok Try.func27 (by decide) (fun h => by cases h)) _ _ crash_sound Try.func17 (by decide) (fun h => by cases h)) _ _ Place.growF_ok Try.func28 (by decide) (fun h => by cases h)) _ _ doom_ok Try.func25 (by decide) (fun h => by cases h)) _ _ sync_ok Try.func23 (by decide) (fun h => by cases h)) _ _ syncNames_ok Try.func21 (by decide) (fun h => by cases h)) _ _ namesL_ok Try.func22 (by decide) (fun h => by cases h)) _ _ made_ok Try.func20 (by decide) (fun h => by cases h)) _ _ shown_ok Try.func12 (by decide) (fun h => by cases h)) rfl rfl
attribute [bitvec_to_nat] XA_fn XA_mu XA_hp XA_ord XA_it XA_hy
theorem was_F {M : MD} (h : Begun M) (s : Name) : Place.WasF M s (M.readB s) := by
  refine ⟨fun hn => ?_, fun f hf => ?_⟩
  · rw [readB_live h.live, kept_now h.kept, hn]
  · rw [readB_live h.live, kept_now h.kept, hf]
    show M.file f = ((M.file f).1, (M.file f).1.length)
    rw [← h.kept.all s f hf]
theorem readB_len {k : Nat} {M : MD} (hl : Live M) (h : Sz k M) (s : Name) : (M.readB s).length ≤ 50 * k + 50 := by
  rw [readB_live hl]
  split
  · simp
  · rename_i f _
    have := h.file f
    omega
def growsP : PM := fun args L T K => ∃ (room : Int) (l : List Act) (name : Name) (b : List UInt8) (t : Option Nat) (n : Int) (wr : Wreck), args = [.int .i64 room, .list 7 (l.map actV) none, .str name, .bytes b t, .int .u8 n, .agg [.int .i64 wr.names, wbV wr.bytes]] ∧ 0 ≤ n ∧ n ≤ 255 ∧ l.length ≤ 9223372036854775807 ∧ wr.bytes.length ≤ 9223372036854775807 ∧ ∀ L' T', K (.bool true) L' T'
set_option maxHeartbeats 4000000 in
set_option maxRecDepth 4000 in
theorem grows_ok : PSound Try.prog 5 growsP := by
  refine psound tysOk XAok mix Try.func5 rfl ?_
  intro args L T K hm
  obtain ⟨room, l, name, b, t, n', wr, rfl, hn0, hn9, hlen, hwb, hK⟩ := hm
  obtain ⟨n, rfl⟩ := Int.eq_ofNat_of_zero_le hn0
  unfold wbV
  simp (maxSteps:=2000000) only[bitvec_to_nat,seval,↓tcd,Try.f5]
  refine ⟨rfl, fun L1 T1 hst1 => ?_⟩
  simp (maxSteps:=2000000) only[bitvec_to_nat,seval,↓tcd]
  refine ⟨room, l, rfl, hlen, fun L2 T2 M w hd2 hlv hsz hst2 => ?_⟩
  have hwr1 : L1[L.length]? = some [.int .i64 wr.names, .list 1 (wr.bytes.map fun n => .int .i64 n) none] := by rw [hst1.keep L.length (by simp) (fun h => h), at_new rfl]
  have hlw := lt_at hwr1
  obtain ⟨od, hod⟩ : ∃ o, w.o = o := ⟨_, rfl⟩
  rw [hod]
  obtain ⟨b1, b2, b3, b4, b5⟩ := begun hd2.ok hlv hsz
  have hmn : (if (300 : Int) < (b.length : Int) then 300 else (b.length : Int)) = ((min b.length 300 : Nat) : Int) := by split <;> omega
  have hml : min b.length 300 ≤ b.length := Nat.min_le_left _ _
  obtain ⟨x, hx⟩ : ∃ x, b.take (min b.length 300) = x := ⟨_, rfl⟩
  have hxl : x.length ≤ 300 := by rw [← hx, List.length_take]; omega
  simp (maxSteps:=2000000) only[bitvec_to_nat,seval,↓tcd,hmn,Int.toNat_natCast,hx]
  refine ⟨⟨by omega, by omega⟩, ?_⟩
  refine op_o hod rfl hd2 (hsz.small (by omega)) fun L3 T3 w3 ho3 hd3 hst3 => ?_
  simp only [b1, code_V, Int.natCast_zero] at hd3 ⊢
  have hg3 := hst2.trans hst3
  simp (maxSteps:=2000000) only[bitvec_to_nat,seval,↓tcd]
  refine ⟨_, w3, by rw [ho3], hd3, b2, b3, fun L4 T4 w4 ho4 hd4 hst4 => ?_⟩
  rw [ho3] at ho4
  have hg4 := hg3.trans hst4
  obtain ⟨M1, hM1⟩ : ∃ M1, M.syncNames.1 = M1 := ⟨_, rfl⟩
  rw [hM1] at hd4 b2 b3 b4 b5 ⊢
  obtain ⟨ns, hns⟩ : ∃ ns, M1.now.map (·.1) = ns := ⟨_, rfl⟩
  rw [hns] at b4 b5 ⊢
  simp (maxSteps:=2000000) only[bitvec_to_nat,seval,↓tcd,List.length_map]
  have hT0 : T.length ≤ T1.length := hst1.tlen
  have hL0 : L.length ≤ L1.length := by omega
  refine awpLoop_intro (α := {q : Nat × LL × TT × Own // q.1 ≤ ns.length ∧ q.2.2.2.o = od ∧ dAt q.2.1 q.2.2.1 (syncs (ns.take q.1) M1) q.2.2.2 ∧ Step noS noS L1 T1 q.2.2.2.S q.2.2.2.R q.2.1 q.2.2.1})
    (fun q => ⟨[.any, .any, .str name, .any, .int .u8 n, .any, .any, .any, .any, .any, .any, .box L.length 0, .bool false, .bool true, .box od 0, .bytes x none, .any, .any, .any, .any, .any, .any, .any, .any, .any, .any, .any, .any, .any, .any, .any, .any, .any, .any, .any, .any, .any, .any, .any, .any, .list 1 (ns.map .str) none, .int .i64 (ns.length : Int), .int .i64 (q.1.1 : Int), .any, .any, .any, .any, .any, .any, .any, .any, .any, .any, .any, .any, .any, .any, .any, .any, .any, .any, .any, .any, .any, .any, .any, .any, .any, .any, .any, .any, .any, .any, .any, .any, .any, .any, .any, .any, .any, .any, .any, .any, .any, .any, .any, .any, .any, .any, .any, .any, .any, .any, .any, .any, .any, .any, .any, .any, .any, .any, .any, .any, .any, .any, .any, .any, .any, .any, .any, .any, .any, .any, .any, .any, .any, .any, .any, .any, .any, .any, .any, .any, .any, .any, .any, .any, .any, .any, .any], q.1.2.1, q.1.2.2.1⟩) (fun q => ns.length - q.1.1)
    ⟨(0, L4, T4, w4), Nat.zero_le _, ho4, hd4, hg4⟩ ?_ ?_ (fun q => ⟨Nat.le_trans hL0 q.2.2.2.2.len, Nat.le_trans hT0 q.2.2.2.2.tlen⟩)
  · simp (maxSteps:=2000000) only[bitvec_to_nat,seval,↓tcd,leLL_self]
    all_goals simp
  · rintro ⟨⟨j, L5, T5, w5⟩, hj, ho5, hd5, hg5⟩
    simp only at hj ho5 hd5 hg5
    obtain ⟨c1, c2, c3⟩ := b5 j
    by_cases hjm : j < ns.length
    · have hdc : decide ((j : Int) < (ns.length : Int)) = true := decide_eq_true (by omega)
      have hgd : (ns.map V.str).getD j .any = .str ns[j] := by
        rw [List.getD_eq_getElem?_getD, List.getElem?_map, List.getElem?_eq_getElem hjm]; rfl
      have hj1 : IntKind.i64.wrap ((j : Int) + 1) = ((j + 1 : Nat) : Int) := by rw [i64w (by omega) (by omega)]; omega
      simp (maxSteps:=2000000) only[bitvec_to_nat,seval,↓tcd,hdc,hgd,Int.toNat_natCast,List.length_map]
      refine ⟨⟨by omega, by omega⟩, ?_⟩
      refine op_o ho5 rfl hd5 c2 fun L6 T6 w6 ho6 hd6 hst6 => ?_
      have hd6' : dAt L6 T6 (syncs (ns.take (j + 1)) M1) w6 := by rw [List.take_succ_eq_append_getElem hjm, syncs_snoc]; exact hd6
      simp (maxSteps:=2000000) only[bitvec_to_nat,seval,↓tcd,hj1]
      refine ⟨⟨(j + 1, L6, T6, w6), by omega, ho6, hd6', hg5.trans hst6⟩, ?_, by simp only; omega⟩
      simp (maxSteps:=2000000) only[bitvec_to_nat,seval,↓tcd,leLL_self]
    · have hdc : decide ((j : Int) < (ns.length : Int)) = false := decide_eq_false (by omega)
      have hbg := c3 (by omega)
      clear c1 c3 b5
      obtain ⟨M2, hM2⟩ : ∃ M2, syncs (ns.take j) M1 = M2 := ⟨_, rfl⟩
      rw [hM2] at hd5 c2 hbg
      have hwas := was_F hbg name
      have hol := readB_len hbg.live hbg.sz name
      obtain ⟨o, ho⟩ : ∃ o, M2.readB name = o := ⟨_, rfl⟩
      rw [ho] at hwas hol
      have hn1 : IntKind.i64.wrap ((n : Nat) : Int) = ((n : Nat) : Int) := i64w (by omega) (by omega)
      have hdm : M2.doom ((n : Nat) : Int) = (DiskL.Dm M2 n, 0) := by
        unfold MD.doom
        rw [if_neg (by omega)]
        rfl
      have okd := ok_dm hbg.ok (n := n) (by omega)
      have szd : Sz 2000 (DiskL.Dm M2 n) := hbg.sz.same rfl rfl rfl
      obtain ⟨p1, p2, p3⟩ := makes_grow name (b := x) hxl 2000 _ okd szd (by omega)
      obtain ⟨q1, q2, q3⟩ := Place.grow_part (x := x) hwas okd ⟨hbg.kept.chs, rfl, rfl⟩
      obtain ⟨R, hR⟩ : ∃ R, (growAll name x).f (DiskL.Dm M2 n) = R := ⟨_, rfl⟩
      rw [hR] at p2 p3 q2 q3
      simp (maxSteps:=2000000) only[bitvec_to_nat,seval,↓tcd,hdc]
      refine op_o ho5 rfl hd5 c2 fun L6 T6 w6 ho6 hd6 hst6 => ?_
      simp only [read_live hbg.live] at hd6 ⊢
      have hg6 := hg5.trans hst6
      rw [ho]
      obtain ⟨k0, hk0⟩ : ∃ k, (if (nfind M2.now name).isSome = true then 0 else 2 : Nat) = k := ⟨_, rfl⟩
      rw [hk0]
      simp (maxSteps:=2000000) only[bitvec_to_nat,seval,↓tcd,code_V,hn1]
      refine op_o ho6 (doomF_some (by omega)) hd6 c2 fun L7 T7 w7 ho7 hd7 hst7 => ?_
      simp only [hdm, code_V, Int.natCast_zero] at hd7 ⊢
      have hg7 := hg6.trans hst7
      simp (maxSteps:=2000000) only[bitvec_to_nat,seval,↓tcd]
      refine ⟨_, w7, name, x, none, by rw [ho7], by omega, hd7, p1, fun L8 T8 w8 ho8 hd8 hst8 => ?_⟩
      rw [ho7] at ho8
      rw [hR] at hd8 ⊢
      have hg8 := hg7.trans hst8
      have hwr8 : L8[L.length]? = some [.int .i64 wr.names, .list 1 (wr.bytes.map fun n => .int .i64 n) none] := by rw [hg8.keep L.length hlw (fun h => h)]; exact hwr1
      have hlw8 := lt_at hwr8
      obtain ⟨e, he⟩ : ∃ e, R.2 = e := ⟨_, rfl⟩
      rw [he]
      simp (maxSteps:=2000000) only[bitvec_to_nat,seval,↓tcd,hwr8,hlw8]
      refine crash_o ho8 wr.bytes (.inr ⟨none, rfl⟩) hwb hd8 (p3.small (by omega)) fun L9 T9 w9 ho9 hd9 hst9 => ?_
      have hg9 := hg8.trans hst9
      obtain ⟨y, hy, hry⟩ := Place.part_read p2 q2 ⟨wr.names, wr.bytes⟩
      have hfull : e = 0 → (R.1.crash ⟨wr.names, wr.bytes⟩).readB name = o ++ x := fun h => Place.hasF_read p2 (q3 (he.trans h)) _
      obtain ⟨M5, hM5⟩ : ∃ M5, R.1.crash ⟨wr.names, wr.bytes⟩ = M5 := ⟨_, rfl⟩
      have hs5 : Small M5 := by rw [← hM5]; exact small_crash (p3.small (by omega)) p2 _
      have hl5 : Live M5 := by rw [← hM5]; exact ⟨rfl, rfl⟩
      rw [hM5] at hd9 hry hfull
      simp (maxSteps:=2000000) only[bitvec_to_nat,seval,↓tcd,code_V,Int.natCast_zero]
      refine op_o ho9 rfl hd9 hs5 fun L10 T10 w10 ho10 hd10 hst10 => ?_
      simp only [read_live hl5] at hd10 ⊢
      have hg10 := hg9.trans hst10
      obtain ⟨k1, hk1⟩ : ∃ k, (if (nfind M5.now name).isSome = true then 0 else 2 : Nat) = k := ⟨_, rfl⟩
      rw [hk1]
      obtain ⟨nw, hnw⟩ : ∃ nw, M5.readB name = nw := ⟨_, rfl⟩
      rw [hnw] at hry hfull ⊢
      have hyl := hy.length_le
      have hnl : nw.length = o.length + y.length := by rw [hry, List.length_append]
      have g1 : decide ((nw.length : Int) < (o.length : Int)) = false := decide_eq_false (by omega)
      have g2 : nw.take o.length = o := by rw [hry, List.take_left']; rfl
      have g3 : IntKind.i64.wrap ((o.length : Int) + (x.length : Int)) = ((o.length + x.length : Nat) : Int) := by rw [i64w (by omega) (by omega)]; omega
      have g4 : decide (((o.length + x.length : Nat) : Int) < (nw.length : Int)) = false := decide_eq_false (by omega)
      have g5 : IntKind.i64.wrap ((nw.length : Int) - (o.length : Int)) = ((y.length : Nat) : Int) := by rw [i64w (by omega) (by omega)]; omega
      have g6 : nw.drop o.length = x.take y.length := by
        rw [hry, List.drop_left' rfl]
        exact List.prefix_iff_eq_take.1 hy
      simp (maxSteps:=2000000) only[bitvec_to_nat,seval,↓tcd,code_V,g1,g2,g3,g4,g5,g6,Int.toNat_natCast,eq_self]
      have hst : Step (fun _ => True) (fun _ => True) L T noS noS L10 T10 := ⟨Nat.le_trans hL0 hg10.len, fun _ _ h => absurd trivial h, fun _ h => h.elim, Nat.le_trans hT0 hg10.tlen, fun _ _ h => absurd trivial h, fun _ h => h.elim⟩
      refine ⟨by kernel_rfl, ⟨by omega, by omega⟩, ⟨by omega, by omega⟩, ⟨by omega, by omega⟩, awpIf_intro (fun h => ?_) (fun h => ?_)⟩
      · rw [decide_eq_true_eq] at h
        have hd : decide ((nw.length : Int) = ((o.length + x.length : Nat) : Int)) = true := decide_eq_true (by rw [hfull (by omega), List.length_append])
        rw [hd]
        exact ret_of hst (hK _ _)
      · exact ret_of hst (hK _ _)
end Go.Proofs.Ytpncnionnfomeaa.PlaceX
