import Derived.Test.YtpncnionnfomeaaAwX
import Derived.Test.YtpncnionnfomeaaPlaceU
import Derived.Test.YtpncnionnfomeaaDiskV2
namespace Go.Proofs.Ytpncnionnfomeaa.PlaceX
open Go Go.Proofs Go.Proofs.Ytpncnionnfomeaa.Aw Go.Proofs.Ytpncnionnfomeaa.Num Go.Proofs.Ytpncnionnfomeaa.DiskM Go.Proofs.Ytpncnionnfomeaa.DiskA Go.Proofs.Ytpncnionnfomeaa.DiskK Go.Proofs.Ytpncnionnfomeaa.DiskC Go.Proofs.Ytpncnionnfomeaa.Disk Go.Proofs.Ytpncnionnfomeaa.DiskH
open Go.Proofs.Ytpncnionnfomeaa.DiskL (readP syncP syncNamesP namesP doomP wbV len_wbV Sz sz_new crash_o op_o small_crash Live begin_live names_live read_live clone_o Two bS bR two_clone step_clone Step.two Step.two' doomF_some)
open Go.Proofs.Ytpncnionnfomeaa.Place (Do Makes putAll growAll dropD putFP growFP dropFP makes_put makes_grow makes_drop makes_syncNames Core Keep onTheWay)
set_option linter.unusedSimpArgs false
set_option linter.unusedVariables false
def X9 : Fns := { fn := fun f => X0.fn f, mu := fun d => .no, hp := fun f => if f = 12 then some shownP else if f = 20 then some madeP else if f = 22 then some namesLP else if f = 21 then some syncNamesP else if f = 23 then some syncP else if f = 24 then some cloneDP else if f = 25 then some doomP else if f = 26 then some putFP else if f = 17 then some crashP else if f = 27 then some readP else X0.hp f, ord := fun i => none, it := fun f => X0.it f }
theorem X9_fn (f : FuncId) : X9.fn f = (X0.fn f) := rfl
theorem X9_mu (d : Tmp) : X9.mu d = (.no) := rfl
theorem X9_hp (f : FuncId) : X9.hp f = (if f = 12 then some shownP else if f = 20 then some madeP else if f = 22 then some namesLP else if f = 21 then some syncNamesP else if f = 23 then some syncP else if f = 24 then some cloneDP else if f = 25 then some doomP else if f = 26 then some putFP else if f = 17 then some crashP else if f = 27 then some readP else X0.hp f) := rfl
theorem X9_ord (i : Nat) : X9.ord i = (none) := rfl
theorem X9_it (f : FuncId) : X9.it f = (X0.it f) := rfl
theorem X9_hy (b : Nat) : X9.hy b = none := rfl
theorem X9ok : FnsOk Try.prog X9 := FnsOk.same (FnsOk.consP (FnsOk.consP (FnsOk.consP (FnsOk.consP (FnsOk.consP (FnsOk.consP (FnsOk.consP (FnsOk.consP (FnsOk.consP (FnsOk.consP X0ok _ _ read_ok Try.func27 (by decide) (fun h => by cases h)) _ _ crash_sound Try.func17 (by decide) (fun h => by cases h)) _ _ Place.putF_ok Try.func26 (by decide) (fun h => by cases h)) _ _ doom_ok Try.func25 (by decide) (fun h => by cases h)) _ _ cloneD_ok Try.func24 (by decide) (fun h => by cases h)) _ _ sync_ok Try.func23 (by decide) (fun h => by cases h)) _ _ syncNames_ok Try.func21 (by decide) (fun h => by cases h)) _ _ namesL_ok Try.func22 (by decide) (fun h => by cases h)) _ _ made_ok Try.func20 (by decide) (fun h => by cases h)) _ _ shown_ok Try.func12 (by decide) (fun h => by cases h)) rfl rfl
attribute [bitvec_to_nat] X9_fn X9_mu X9_hp X9_ord X9_it X9_hy
def atOnceP : PM := fun args L T K => ∃ (room : Int) (l : List Act) (name : Name) (b : List UInt8) (t : Option Nat) (n : Int) (wr : Wreck), args = [.int .i64 room, .list 7 (l.map actV) none, .str name, .bytes b t, .int .u8 n, .agg [.int .i64 wr.names, wbV wr.bytes]] ∧ 0 ≤ n ∧ n ≤ 255 ∧ l.length ≤ 9223372036854775807 ∧ wr.bytes.length ≤ 9223372036854775807 ∧ ∀ L' T', K (.bool true) L' T'
set_option maxHeartbeats 4000000 in
set_option maxRecDepth 4000 in
theorem atOnce_ok : PSound Try.prog 4 atOnceP := by
  refine psound tysOk X9ok mix Try.func4 rfl ?_
  intro args L T K hm
  obtain ⟨room, l, name, b, t, n', wr, rfl, hn0, hn9, hlen, hwb, hK⟩ := hm
  obtain ⟨n, rfl⟩ := Int.eq_ofNat_of_zero_le hn0
  unfold wbV
  simp (maxSteps:=2000000) only[bitvec_to_nat,seval,↓tcd,Try.f4]
  refine ⟨rfl, fun L1 T1 hst1 => ?_⟩
  simp (maxSteps:=2000000) only[bitvec_to_nat,seval,↓tcd]
  refine ⟨room, l, rfl, hlen, fun L2 T2 M w hd2 hlv hsz hst2 => ?_⟩
  have hwr1 : L1[L.length]? = some [.int .i64 wr.names, .list 1 (wr.bytes.map fun n => .int .i64 n) none] := by rw [hst1.keep L.length (by simp) (fun h => h), at_new rfl]
  have hlw := lt_at hwr1
  obtain ⟨od, hod⟩ : ∃ o, w.o = o := ⟨_, rfl⟩
  rw [hod]
  obtain ⟨b1, b2, b3, b4, b5⟩ := begun hd2.ok hlv hsz
  have hmn : (if (300 : Int) < (b.length : Int) then 300 else (b.length : Int)) = ((min b.length 300 : Nat) : Int) := by split <;> omega
  have hml : min b.length 300 ≤ b.length := Nat.min_le_left _ _
  obtain ⟨x, hx⟩ : ∃ x, b.take (min b.length 300) = x := ⟨_, rfl⟩
  have hxl : x.length ≤ 300 := by rw [← hx, List.length_take]; omega
  simp (maxSteps:=2000000) only[bitvec_to_nat,seval,↓tcd,hmn,Int.toNat_natCast,hx]
  refine ⟨⟨by omega, by omega⟩, ?_⟩
  refine op_o hod rfl hd2 (hsz.small (by omega)) fun L3 T3 w3 ho3 hd3 hst3 => ?_
  simp only [b1, code_V, Int.natCast_zero] at hd3 ⊢
  have hg3 := hst2.trans hst3
  simp (maxSteps:=2000000) only[bitvec_to_nat,seval,↓tcd]
  refine ⟨_, w3, by rw [ho3], hd3, b2, b3, fun L4 T4 w4 ho4 hd4 hst4 => ?_⟩
  rw [ho3] at ho4
  have hg4 := hg3.trans hst4
  obtain ⟨M1, hM1⟩ : ∃ M1, M.syncNames.1 = M1 := ⟨_, rfl⟩
  rw [hM1] at hd4 b2 b3 b4 b5 ⊢
  obtain ⟨ns, hns⟩ : ∃ ns, M1.now.map (·.1) = ns := ⟨_, rfl⟩
  rw [hns] at b4 b5 ⊢
  simp (maxSteps:=2000000) only[bitvec_to_nat,seval,↓tcd,List.length_map]
  have hT0 : T.length ≤ T1.length := hst1.tlen
  have hL0 : L.length ≤ L1.length := by omega
  refine awpLoop_intro (α := {q : Nat × LL × TT × Own // q.1 ≤ ns.length ∧ q.2.2.2.o = od ∧ dAt q.2.1 q.2.2.1 (syncs (ns.take q.1) M1) q.2.2.2 ∧ Step noS noS L1 T1 q.2.2.2.S q.2.2.2.R q.2.1 q.2.2.1})
    (fun q => ⟨[.any, .any, .str name, .any, .int .u8 n, .any, .any, .any, .any, .any, .any, .box L.length 0, .bool false, .bool true, .box od 0, .bytes x none, .any, .any, .any, .any, .any, .any, .any, .any, .any, .any, .any, .any, .any, .any, .any, .any, .any, .any, .any, .any, .any, .any, .any, .any, .any, .any, .any, .any, .any, .any, .any, .any, .any, .list 1 (ns.map .str) none, .int .i64 (ns.length : Int), .int .i64 (q.1.1 : Int), .any, .any, .any, .any, .any, .any, .any, .any, .any, .any, .any, .any, .any, .any, .any, .any, .any, .any, .any, .any, .any, .any, .any, .any, .any, .any, .any, .any, .any, .any, .any, .any, .any, .any, .any, .any, .any, .any, .any, .any, .any, .any, .any, .any, .any, .any, .any, .any, .any, .any, .any, .any, .any, .any, .any, .any, .any, .any, .any, .any, .any, .any, .any, .any, .any, .any, .any, .any, .any, .any, .any, .any, .any, .any, .any, .any, .any, .any, .any, .any, .any, .any, .any, .any, .any, .any, .any, .any, .any, .any, .any, .any, .any, .any, .any, .any, .any, .any, .any, .any, .any, .any, .any, .any, .any, .any, .any, .any, .any], q.1.2.1, q.1.2.2.1⟩) (fun q => ns.length - q.1.1)
    ⟨(0, L4, T4, w4), Nat.zero_le _, ho4, hd4, hg4⟩ ?_ ?_ (fun q => ⟨Nat.le_trans hL0 q.2.2.2.2.len, Nat.le_trans hT0 q.2.2.2.2.tlen⟩)
  · simp (maxSteps:=2000000) only[bitvec_to_nat,seval,↓tcd,leLL_self]
    all_goals simp
  · rintro ⟨⟨j, L5, T5, w5⟩, hj, ho5, hd5, hg5⟩
    simp only at hj ho5 hd5 hg5
    obtain ⟨c1, c2, c3⟩ := b5 j
    by_cases hjm : j < ns.length
    · have hdc : decide ((j : Int) < (ns.length : Int)) = true := decide_eq_true (by omega)
      have hgd : (ns.map V.str).getD j .any = .str ns[j] := by
        rw [List.getD_eq_getElem?_getD, List.getElem?_map, List.getElem?_eq_getElem hjm]; rfl
      have hj1 : IntKind.i64.wrap ((j : Int) + 1) = ((j + 1 : Nat) : Int) := by rw [i64w (by omega) (by omega)]; omega
      simp (maxSteps:=2000000) only[bitvec_to_nat,seval,↓tcd,hdc,hgd,Int.toNat_natCast,List.length_map]
      refine ⟨⟨by omega, by omega⟩, ?_⟩
      refine op_o ho5 rfl hd5 c2 fun L6 T6 w6 ho6 hd6 hst6 => ?_
      have hd6' : dAt L6 T6 (syncs (ns.take (j + 1)) M1) w6 := by rw [List.take_succ_eq_append_getElem hjm, syncs_snoc]; exact hd6
      simp (maxSteps:=2000000) only[bitvec_to_nat,seval,↓tcd,hj1]
      refine ⟨⟨(j + 1, L6, T6, w6), by omega, ho6, hd6', hg5.trans hst6⟩, ?_, by simp only; omega⟩
      simp (maxSteps:=2000000) only[bitvec_to_nat,seval,↓tcd,leLL_self]
    · have hdc : decide ((j : Int) < (ns.length : Int)) = false := decide_eq_false (by omega)
      have hbg := c3 (by omega)
      clear c1 c3 b5
      obtain ⟨M2, hM2⟩ : ∃ M2, syncs (ns.take j) M1 = M2 := ⟨_, rfl⟩
      rw [hM2] at hd5 c2 hbg
      simp (maxSteps:=2000000) only[bitvec_to_nat,seval,↓tcd,hdc]
      refine clone_o ho5 hd5 c2 fun L6 T6 wx hdx hstx => ?_
      have ht6 := two_clone hd5 hdx hstx
      have hg6 := step_clone hg5 hstx
      obtain ⟨ox, hox⟩ : ∃ o, wx.o = o := ⟨_, rfl⟩
      rw [hox]
      have hn1 : IntKind.i64.wrap ((n : Nat) : Int) = ((n : Nat) : Int) := i64w (by omega) (by have := True.intro; omega)
      have hdm : M2.doom ((n : Nat) : Int) = (DiskL.Dm M2 n, 0) := by
        unfold MD.doom
        rw [if_neg (by omega)]
        rfl
      have okd := ok_dm hbg.ok (n := n) (by have := True.intro; omega)
      have szd : Sz 2000 (DiskL.Dm M2 n) := hbg.sz.same rfl rfl rfl
      obtain ⟨p1, p2, p3⟩ := makes_put name (b := x) hxl 2000 _ okd szd (by omega)
      have hat : ∀ s, Keep M2 (DiskL.Dm M2 n) s := keep_dm hbg.kept n
      obtain ⟨q1, q2, q3⟩ := Place.put_once (x := x) okd (hat name)
      have hoth : ∀ s, onTheWay ≠ s → name ≠ s → s ≠ [] → Keep M2 ((putAll name x).f (DiskL.Dm M2 n)).1 s := fun s g1 g2 g3 => (Place.spares_put g1 g2 g3 x M2 _ okd (hat s)).2
      obtain ⟨R, hR⟩ : ∃ R, (putAll name x).f (DiskL.Dm M2 n) = R := ⟨_, rfl⟩
      rw [hR] at p2 p3 q2 q3 hoth
      simp (maxSteps:=2000000) only[bitvec_to_nat,seval,↓tcd,hn1]
      refine op_o ho5 (doomF_some (by have := True.intro; omega)) ht6.d1 c2 fun L7 T7 w7 ho7 hd7 hst7 => ?_
      simp only [hdm, code_V, Int.natCast_zero] at hd7 ⊢
      have ht7 := ht6.left hd7 hst7
      have hg7 := hg6.trans (Step.two (w2 := wx) hst7)
      simp (maxSteps:=2000000) only[bitvec_to_nat,seval,↓tcd]
      refine ⟨_, w7, name, x, none, by rw [ho7], by omega, ht7.d1, p1, fun L8 T8 w8 ho8 hd8 hst8 => ?_⟩
      rw [ho7] at ho8
      rw [hR] at hd8 ⊢
      have ht8 := ht7.left hd8 hst8
      have hg8 := hg7.trans (Step.two (w2 := wx) hst8)
      have hwr8 : L8[L.length]? = some [.int .i64 wr.names, .list 1 (wr.bytes.map fun n => .int .i64 n) none] := by rw [hg8.keep L.length hlw (fun h => h)]; exact hwr1
      have hlw8 := lt_at hwr8
      obtain ⟨e, he⟩ : ∃ e, R.2 = e := ⟨_, rfl⟩
      rw [he]
      simp (maxSteps:=2000000) only[bitvec_to_nat,seval,↓tcd,hwr8,hlw8]
      refine crash_o ho8 wr.bytes (.inr ⟨none, rfl⟩) hwb ht8.d1 (p3.small (by omega)) fun L9 T9 w9 ho9 hd9 hst9 => ?_
      have ht9 := ht8.left hd9 hst9
      have hg9 := hg8.trans (Step.two (w2 := wx) hst9)
      obtain ⟨M5, hM5⟩ : ∃ M5, R.1.crash ⟨wr.names, wr.bytes⟩ = M5 := ⟨_, rfl⟩
      have hs5 : Small M5 := by rw [← hM5]; exact small_crash (p3.small (by omega)) p2 _
      have hl5 : Live M5 := by rw [← hM5]; exact ⟨rfl, rfl⟩
      rw [hM5] at ht9
      simp (maxSteps:=2000000) only[bitvec_to_nat,seval,↓tcd,code_V,Int.natCast_zero]
      refine op_o hox rfl ht9.d2 c2 fun L10 T10 w10 ho10 hd10 hst10 => ?_
      simp only [read_live hbg.live] at hd10 ⊢
      have ht10 := ht9.right hd10 hst10
      have hg10 := hg9.trans (Step.two' (w1 := w9) hst10)
      obtain ⟨f0, hf0⟩ : ∃ f0, (nfind M2.now name).isSome = f0 := ⟨_, rfl⟩
      obtain ⟨b0, hb0⟩ : ∃ b0, M2.readB name = b0 := ⟨_, rfl⟩
      obtain ⟨k0, hk0⟩ : ∃ k, (if f0 = true then 0 else 2 : Nat) = k := ⟨_, rfl⟩
      rw [hf0, hb0, hk0]
      simp (maxSteps:=2000000) only[bitvec_to_nat,seval,↓tcd,code_V]
      refine op_o ho9 rfl ht10.d1 hs5 fun L11 T11 w11 ho11 hd11 hst11 => ?_
      simp only [read_live hl5] at hd11 ⊢
      have ht11 := ht10.left hd11 hst11
      have hg11 := hg10.trans (Step.two (w2 := w10) hst11)
      obtain ⟨f1, hf1⟩ : ∃ f1, (nfind M5.now name).isSome = f1 := ⟨_, rfl⟩
      obtain ⟨b1', hb1⟩ : ∃ b1, M5.readB name = b1 := ⟨_, rfl⟩
      rw [hf1, hb1]
      have hres : (f1 = true ∧ b1' = x) ∨ (e ≠ 0 ∧ f1 = f0 ∧ b1' = b0) := by
        rw [← hf1, ← hb1, ← hf0, ← hb0, ← hM5, ← he]
        by_cases h0 : R.2 = 0
        · exact .inl (read_is p2 (q3 h0 _))
        · rcases q2 ⟨wr.names, wr.bytes⟩ with h | h
          · exact .inr ⟨h0, read_was hbg.kept hbg.live p2 h⟩
          · exact .inl (read_is p2 h)
      obtain ⟨k1, hk1⟩ : ∃ k, (if f1 = true then 0 else 2 : Nat) = k := ⟨_, rfl⟩
      rw [hk1]
      simp only [code_V]
      obtain ⟨v1, e1⟩ : ∃ v, decide ((k1 : Int) = 0) = v := ⟨_, rfl⟩
      obtain ⟨v2, e2⟩ : ∃ v, decide ((k0 : Int) = (k1 : Int)) = v := ⟨_, rfl⟩
      obtain ⟨v3, e3⟩ : ∃ v, decide ((e : Int) = 0) = v := ⟨_, rfl⟩
      obtain ⟨v4, e4⟩ : ∃ v, decide (b1' = x) = v := ⟨_, rfl⟩
      obtain ⟨v5, e5⟩ : ∃ v, decide (b0 = b1') = v := ⟨_, rfl⟩
      have hv : (v1 = true ∧ v4 = true) ∨ (v2 = true ∧ v3 = false ∧ v5 = true) := by
        rw [← e1, ← e2, ← e3, ← e4, ← e5]
        rcases hres with ⟨r1, r2⟩ | ⟨r0, r1, r2⟩
        · refine .inl ⟨?_, decide_eq_true r2⟩
          rw [← hk1, r1]; rfl
        · refine .inr ⟨?_, decide_eq_false (by omega), decide_eq_true r2.symm⟩
          rw [← hk1, ← hk0, r1]; exact decide_eq_true rfl
      clear hres
      have hns2 : (M2.now.map (·.1)).length ≤ 2000 := by rw [List.length_map]; exact Nat.le_trans (now_len hbg.ok) hbg.sz.nf
      have hall : ∀ s ∈ M2.now.map (·.1), s ≠ name → s ≠ onTheWay → (nfind M5.now s).isSome = true ∧ M5.readB s = M2.readB s := by
        intro s hs g1 g2
        have hk := hoth s (Ne.symm g2) (Ne.symm g1) (by
          obtain ⟨y, hy, rfl⟩ := List.mem_map.1 hs
          rw [kept_now hbg.kept] at hy
          exact (hbg.ok.right y hy).1)
        have := read_was hbg.kept hbg.live p2 (w := ⟨wr.names, wr.bytes⟩) (s := s) ⟨hk.at _, hk.file⟩
        rw [hM5] at this
        rw [(DiskL.find_iff s).2 hs] at this
        exact this
      obtain ⟨ns2, hns2e⟩ : ∃ ns, M2.now.map (·.1) = ns := ⟨_, rfl⟩
      rw [hns2e] at hall hns2
      have hl1 := hst1.len
      have htl1 := hst1.tlen
      have hv5 : (v1 && v4) = false → true = v5 := fun h => by
        rcases hv with ⟨rfl, rfl⟩ | ⟨_, _, h5⟩
        · cases h
        · exact h5.symm
      have hvn : (v1 && v4 || v2 && !v3) = true := by rcases hv with ⟨rfl, rfl⟩ | ⟨rfl, rfl, _⟩ <;> simp
      clear hv
      cases v1 <;> cases v2 <;> cases v3 <;> cases v4 <;> first | (cases hvn; done) | skip
      all_goals first | (obtain rfl := hv5 rfl) | skip
      all_goals simp (maxSteps:=2000000) only[bitvec_to_nat,seval,↓tcd,e1,e2,e3,e4,e5]
      all_goals
        refine ⟨M2, w10, by rw [ho10], ht11.d2, hbg.live, c2, fun L12 T12 w12 ho12 hd12 hst12 => ?_⟩
        rw [ho10] at ho12
        rw [hns2e]
        have ht12 := ht11.right hd12 hst12
        have hg12 := hg11.trans (Step.two' (w1 := w11) hst12)
        simp (maxSteps:=2000000) only[bitvec_to_nat,seval,↓tcd,List.length_map]
        refine awpLoop_intro (α := {q : Nat × LL × TT × Own × Own // q.1 ≤ ns2.length ∧ q.2.2.2.1.o = od ∧ q.2.2.2.2.o = ox ∧ Two q.2.1 q.2.2.1 M5 q.2.2.2.1 M2 q.2.2.2.2 ∧ Step noS noS L1 T1 (bS q.2.2.2.1 q.2.2.2.2) (bR q.2.2.2.1 q.2.2.2.2) q.2.1 q.2.2.1})
          (fun q => ⟨[.any, .any, .str name, .any, .any, .any, .any, .any, .any, .any, .any, .any, .bool false, .bool true, .box od 0, .any, .any, .any, .box ox 0, .any, .any, .any, .any, .any, .any, .any, .any, .any, .any, .any, .any, .any, .any, .any, .any, .any, .any, .any, .any, .any, .any, .any, .any, .any, .any, .any, .any, .any, .any, .any, .any, .any, .any, .any, .any, .any, .any, .any, .any, .any, .any, .any, .any, .any, .any, .any, .any, .any, .any, .any, .any, .any, .any, .any, .any, .any, .any, .any, .any, .any, .any, .any, .any, .any, .any, .any, .any, .any, .any, .any, .any, .any, .any, .any, .any, .any, .any, .any, .any, .any, .any, .any, .any, .any, .any, .any, .any, .any, .any, .any, .any, .any, .any, .any, .any, .any, .any, .any, .any, .any, .any, .any, .any, .list 1 (ns2.map .str) none, .int .i64 (ns2.length : Int), .int .i64 (q.1.1 : Int), .any, .any, .any, .any, .any, .any, .any, .any, .any, .any, .any, .any, .any, .any, .any, .any, .any, .any, .any, .any, .any, .any, .any, .any, .any, .any, .any, .any, .any, .any, .any, .any, .any, .any, .any], q.1.2.1, q.1.2.2.1⟩) (fun q => ns2.length - q.1.1)
          ⟨(0, L12, T12, w11, w12), Nat.zero_le _, ho11, ho12, ht12, hg12⟩ ?_ ?_ (fun q => ⟨Nat.le_trans hL0 q.2.2.2.2.2.len, Nat.le_trans hT0 q.2.2.2.2.2.tlen⟩)
        · simp (maxSteps:=2000000) only[bitvec_to_nat,seval,↓tcd,leLL_self]
          all_goals simp
        · rintro ⟨⟨i, L13, T13, w13, w14⟩, hi, ho13, ho14, ht13, hg13⟩
          simp only at hi ho13 ho14 ht13 hg13
          by_cases him : i < ns2.length
          · have hdc2 : decide ((i : Int) < (ns2.length : Int)) = true := decide_eq_true (by omega)
            have hgd2 : (ns2.map V.str).getD i .any = .str ns2[i] := by
              rw [List.getD_eq_getElem?_getD, List.getElem?_map, List.getElem?_eq_getElem him]; rfl
            have hi1 : IntKind.i64.wrap ((i : Int) + 1) = ((i + 1 : Nat) : Int) := by rw [i64w (by omega) (by omega)]; omega
            have hal := hall ns2[i] (List.getElem_mem him)
            obtain ⟨s, hs⟩ : ∃ s, ns2[i] = s := ⟨_, rfl⟩
            rw [hs] at hgd2 hal
            simp (maxSteps:=2000000) only[bitvec_to_nat,seval,↓tcd,hdc2,hgd2,Int.toNat_natCast,List.length_map]
            refine ⟨⟨by omega, by omega⟩, ?_⟩
            refine op_o ho14 rfl ht13.d2 c2 fun L15 T15 w15 ho15 hd15 hst15 => ?_
            simp only [read_live hbg.live] at hd15 ⊢
            have ht15 := ht13.right hd15 hst15
            have hg15 := hg13.trans (Step.two' (w1 := w13) hst15)
            obtain ⟨a1, ha1⟩ : ∃ k, (if (nfind M2.now s).isSome = true then 0 else 2 : Nat) = k := ⟨_, rfl⟩
            obtain ⟨a2, ha2⟩ : ∃ k, M2.readB s = k := ⟨_, rfl⟩
            rw [ha2] at hal
            rw [ha1, ha2]
            simp (maxSteps:=2000000) only[bitvec_to_nat,seval,↓tcd,code_V]
            refine op_o ho13 rfl ht15.d1 hs5 fun L16 T16 w16 ho16 hd16 hst16 => ?_
            simp only [read_live hl5] at hd16 ⊢
            have ht16 := ht15.left hd16 hst16
            have hg16 := hg15.trans (Step.two (w2 := w15) hst16)
            obtain ⟨a3, ha3⟩ : ∃ k, (if (nfind M5.now s).isSome = true then 0 else 2 : Nat) = k := ⟨_, rfl⟩
            obtain ⟨a4, ha4⟩ : ∃ k, M5.readB s = k := ⟨_, rfl⟩
            rw [ha4] at hal
            rw [ha3, ha4]
            simp only [code_V]
            obtain ⟨u1, f1⟩ : ∃ v, decide (s = name) = v := ⟨_, rfl⟩
            obtain ⟨u2, f2⟩ : ∃ v, decide (s = [116, 109, 112]) = v := ⟨_, rfl⟩
            obtain ⟨u3, f3⟩ : ∃ v, decide ((a3 : Int) = 0) = v := ⟨_, rfl⟩
            obtain ⟨u4, f4⟩ : ∃ v, decide (a2 = a4) = v := ⟨_, rfl⟩
            have hu : u1 = false → u2 = false → u3 = true ∧ u4 = true := by
              intro g1 g2
              obtain ⟨y1, y2⟩ := hal (of_decide_eq_false (f1.trans g1)) (of_decide_eq_false (f2.trans g2))
              refine ⟨?_, by rw [← f4]; exact decide_eq_true y2.symm⟩
              rw [← f3, ← ha3, y1]; rfl
            cases u1 <;> cases u2
            all_goals first | (obtain ⟨rfl, rfl⟩ := hu rfl rfl) | skip
            all_goals simp (maxSteps:=2000000) only[bitvec_to_nat,seval,↓tcd,f1,f2,f3,f4,hi1]
            all_goals
              refine ⟨⟨(i + 1, L16, T16, w16, w15), him, ho16, ho15, ht16, hg16⟩, ?_, by simp only; omega⟩
              simp (maxSteps:=2000000) only[bitvec_to_nat,seval,↓tcd,leLL_self,hi1]
          · have hdc2 : decide ((i : Int) < (ns2.length : Int)) = false := decide_eq_false (by omega)
            simp (maxSteps:=2000000) only[bitvec_to_nat,seval,↓tcd,hdc2]
            exact ret_of (⟨Nat.le_trans hL0 hg13.len, fun _ _ h => absurd trivial h, fun _ h => h.elim, Nat.le_trans hT0 hg13.tlen, fun _ _ h => absurd trivial h, fun _ h => h.elim⟩ : Step (fun _ => True) (fun _ => True) L T noS noS L13 T13) (hK _ _)
end Go.Proofs.Ytpncnionnfomeaa.PlaceX
