import Derived.Test.YtpncnionnfomeaaAwX
import Derived.Test.YtpncnionnfomeaaPlaceU
import Derived.Test.YtpncnionnfomeaaDiskV2
namespace Go.Proofs.Ytpncnionnfomeaa.PlaceX
open Go Go.Proofs Go.Proofs.Ytpncnionnfomeaa.Aw Go.Proofs.Ytpncnionnfomeaa.Num Go.Proofs.Ytpncnionnfomeaa.DiskM Go.Proofs.Ytpncnionnfomeaa.DiskA Go.Proofs.Ytpncnionnfomeaa.DiskK Go.Proofs.Ytpncnionnfomeaa.DiskC Go.Proofs.Ytpncnionnfomeaa.Disk Go.Proofs.Ytpncnionnfomeaa.DiskH
open Go.Proofs.Ytpncnionnfomeaa.DiskL (readP syncP syncNamesP namesP doomP wbV len_wbV Sz sz_new crash_o op_o small_crash Live begin_live names_live read_live remove_live gone_now clone_o Two bS bR two_clone step_clone Step.two Step.two' doomF_some)
open Go.Proofs.Ytpncnionnfomeaa.Place (Do Makes putAll growAll dropD putFP growFP dropFP makes_put makes_grow makes_drop makes_syncNames Core Keep onTheWay dropF Spares spares_remove spares_syncNames at_nil crash_of keep_refl)
set_option linter.unusedSimpArgs false
set_option linter.unusedVariables false
theorem drop_spares {s : Name} (h0 : s ≠ []) : ∀ (ns : List Name) (g : Bool) (M0 M : MD), s ∉ ns → M.Ok → Keep M0 M s → (dropF ns g M).1.Ok ∧ Keep M0 (dropF ns g M).1 s
  | [], g, M0, M, _, ok, h => by
    unfold dropF
    split
    · exact spares_syncNames s M0 M ok h
    · exact ⟨ok, h⟩
  | n :: r, g, M0, M, hs, ok, h => by
    obtain ⟨a, b⟩ := spares_remove (n := n) (fun e => hs (by rw [e]; simp)) h0 M0 M ok h
    unfold dropF
    split
    · exact drop_spares h0 r _ M0 _ (fun hm => hs (List.mem_cons_of_mem _ hm)) a b
    · exact ⟨a, b⟩
theorem drop_gone : ∀ (ns : List Name) (g : Bool) (M : MD), M.Ok → Live M → (g = false → M.chs = []) → (dropF ns g M).2 = 0 ∧ (dropF ns g M).1.chs = [] ∧ ∀ s, (s ∈ ns ∨ nfind M.now s = none) → nfind (dropF ns g M).1.kept s = none
  | [], g, M, ok, hl, hg => by
    unfold dropF
    cases g with
    | false =>
      rw [if_neg (by simp)]
      refine ⟨rfl, hg rfl, fun s hs => ?_⟩
      rcases hs with hs | hs
      · cases hs
      · unfold MD.now at hs; rw [hg rfl] at hs; exact hs
    | true =>
      rw [if_pos rfl]
      have e : M.syncNames = ({ M with kept := M.now, chs := [] }, 0) := by unfold MD.syncNames; rw [begin_live hl]; rfl
      rw [e]
      exact ⟨rfl, rfl, fun s hs => hs.elim (fun h => by cases h) id⟩
  | n :: r, g, M, ok, hl, hg => by
    have ok1 := Place.ok_remove ok n
    have hl1 := lives_remove n M hl
    change Live (M.remove n).1 at hl1
    unfold dropF
    have er := remove_live hl n
    by_cases hf : (nfind M.now n).isSome = true
    · rw [if_pos hf] at er
      obtain ⟨f, hff⟩ := Option.isSome_iff_exists.1 hf
      have hn : n ≠ [] := now_ne ok hff
      rw [if_pos (.inl (by rw [er]))]
      rw [er] at ok1 hl1 ⊢
      obtain ⟨a, b, c⟩ := drop_gone r (g || decide (0 = 0)) (M.does ⟨n, [], 0⟩) ok1 hl1 (fun h => by simp at h)
      refine ⟨a, b, fun s hs => c s ?_⟩
      by_cases hsr : s ∈ r
      · exact .inl hsr
      · refine .inr ?_
        rw [gone_now hn, nfind_without]
        split
        · rfl
        · rename_i hsn
          rcases hs with hs | hs
          · rcases List.mem_cons.1 hs with h | h
            · exact absurd h hsn
            · exact absurd h hsr
          · exact hs
    · rw [if_neg hf] at er
      rw [if_pos (.inr (by rw [er]))]
      rw [er]
      have hnn : nfind M.now n = none := by cases hx : nfind M.now n with
        | none => rfl
        | some y => rw [hx] at hf; simp at hf
      obtain ⟨a, b, c⟩ := drop_gone r (g || decide (2 = 0)) M ok hl (fun h => hg (by cases g <;> simp_all))
      refine ⟨a, b, fun s hs => c s ?_⟩
      rcases hs with hs | hs
      · rcases List.mem_cons.1 hs with h | h
        · exact .inr (h ▸ hnn)
        · exact .inl h
      · exact .inr hs
def XB : Fns := { fn := fun f => X0.fn f, mu := fun d => .no, hp := fun f => if f = 12 then some shownP else if f = 20 then some madeP else if f = 22 then some namesLP else if f = 21 then some syncNamesP else if f = 23 then some syncP else if f = 24 then some cloneDP else if f = 29 then some dropFP else if f = 17 then some crashP else if f = 27 then some readP else X0.hp f, ord := fun i => none, it := fun f => X0.it f }
theorem XB_fn (f : FuncId) : XB.fn f = (X0.fn f) := rfl
theorem XB_mu (d : Tmp) : XB.mu d = (.no) := rfl
theorem XB_hp (f : FuncId) : XB.hp f = (if f = 12 then some shownP else if f = 20 then some madeP else if f = 22 then some namesLP else if f = 21 then some syncNamesP else if f = 23 then some syncP else if f = 24 then some cloneDP else if f = 29 then some dropFP else if f = 17 then some crashP else if f = 27 then some readP else X0.hp f) := rfl
theorem XB_ord (i : Nat) : XB.ord i = (none) := rfl
theorem XB_it (f : FuncId) : XB.it f = (X0.it f) := rfl
theorem XB_hy (b : Nat) : XB.hy b = none := rfl
theorem XBok : FnsOk Try.prog XB := FnsOk.same (FnsOk.consP (FnsOk.consP (FnsOk.consP (FnsOk.consP (FnsOk.consP (FnsOk.consP (FnsOk.consP (FnsOk.consP (FnsOk.consP X0ok _ _ read_ok Try.func27 (by decide) (fun h => by cases h)) _ _ crash_sound Try.func17 (by decide) (fun h => by cases h)) _ _ Place.dropF_ok Try.func29 (by decide) (fun h => by cases h)) _ _ cloneD_ok Try.func24 (by decide) (fun h => by cases h)) _ _ sync_ok Try.func23 (by decide) (fun h => by cases h)) _ _ syncNames_ok Try.func21 (by decide) (fun h => by cases h)) _ _ namesL_ok Try.func22 (by decide) (fun h => by cases h)) _ _ made_ok Try.func20 (by decide) (fun h => by cases h)) _ _ shown_ok Try.func12 (by decide) (fun h => by cases h)) rfl rfl
attribute [bitvec_to_nat] XB_fn XB_mu XB_hp XB_ord XB_it XB_hy
def dropsP : PM := fun args L T K => ∃ (room : Int) (l : List Act) (gn : List Name) (wr : Wreck), args = [.int .i64 room, .list 7 (l.map actV) none, .list 1 (gn.map .str) none, .agg [.int .i64 wr.names, wbV wr.bytes]] ∧ l.length ≤ 9223372036854775807 ∧ gn.length ≤ 9223372036854775807 ∧ wr.bytes.length ≤ 9223372036854775807 ∧ ∀ L' T', K (.bool true) L' T'
set_option maxHeartbeats 4000000 in
set_option maxRecDepth 4000 in
theorem drops_ok : PSound Try.prog 6 dropsP := by
  refine psound tysOk XBok mix Try.func6 rfl ?_
  intro args L T K hm
  obtain ⟨room, l, gn, wr, rfl, hlen, hgn, hwb, hK⟩ := hm
  unfold wbV
  simp (maxSteps:=2000000) only[bitvec_to_nat,seval,↓tcd,Try.f6]
  refine ⟨rfl, fun L1 T1 hst1 => ?_⟩
  simp (maxSteps:=2000000) only[bitvec_to_nat,seval,↓tcd]
  refine ⟨room, l, rfl, hlen, fun L2 T2 M w hd2 hlv hsz hst2 => ?_⟩
  have hwr1 : L1[L.length]? = some [.int .i64 wr.names, .list 1 (wr.bytes.map fun n => .int .i64 n) none] := by rw [hst1.keep L.length (by simp) (fun h => h), at_new rfl]
  have hlw := lt_at hwr1
  obtain ⟨od, hod⟩ : ∃ o, w.o = o := ⟨_, rfl⟩
  rw [hod]
  obtain ⟨b1, b2, b3, b4, b5⟩ := begun hd2.ok hlv hsz
  have hmn : (if (10 : Int) < (gn.length : Int) then 10 else (gn.length : Int)) = ((min gn.length 10 : Nat) : Int) := by split <;> omega
  have hml : min gn.length 10 ≤ gn.length := Nat.min_le_left _ _
  obtain ⟨x, hx⟩ : ∃ x, gn.take (min gn.length 10) = x := ⟨_, rfl⟩
  have hxl : x.length ≤ 10 := by rw [← hx, List.length_take]; omega
  have hxm : (gn.map V.str).take (min gn.length 10) = x.map V.str := by rw [← hx, List.map_take]
  simp (maxSteps:=2000000) only[bitvec_to_nat,seval,↓tcd,List.length_map,hmn,Int.toNat_natCast,hxm]
  refine ⟨⟨by omega, by omega⟩, ?_⟩
  refine op_o hod rfl hd2 (hsz.small (by omega)) fun L3 T3 w3 ho3 hd3 hst3 => ?_
  simp only [b1, code_V, Int.natCast_zero] at hd3 ⊢
  have hg3 := hst2.trans hst3
  simp (maxSteps:=2000000) only[bitvec_to_nat,seval,↓tcd]
  refine ⟨_, w3, by rw [ho3], hd3, b2, b3, fun L4 T4 w4 ho4 hd4 hst4 => ?_⟩
  rw [ho3] at ho4
  have hg4 := hg3.trans hst4
  obtain ⟨M1, hM1⟩ : ∃ M1, M.syncNames.1 = M1 := ⟨_, rfl⟩
  rw [hM1] at hd4 b2 b3 b4 b5 ⊢
  obtain ⟨ns, hns⟩ : ∃ ns, M1.now.map (·.1) = ns := ⟨_, rfl⟩
  rw [hns] at b4 b5 ⊢
  simp (maxSteps:=2000000) only[bitvec_to_nat,seval,↓tcd,List.length_map]
  have hT0 : T.length ≤ T1.length := hst1.tlen
  have hL0 : L.length ≤ L1.length := by omega
  refine awpLoop_intro (α := {q : Nat × LL × TT × Own // q.1 ≤ ns.length ∧ q.2.2.2.o = od ∧ dAt q.2.1 q.2.2.1 (syncs (ns.take q.1) M1) q.2.2.2 ∧ Step noS noS L1 T1 q.2.2.2.S q.2.2.2.R q.2.1 q.2.2.1})
    (fun q => ⟨[.any, .any, .any, .any, .any, .any, .any, .box L.length 0, .bool false, .bool true, .box od 0, .list 1 (x.map .str) none, .any, .any, .any, .any, .any, .any, .any, .any, .any, .any, .any, .any, .any, .any, .any, .any, .any, .any, .any, .any, .any, .any, .any, .any, .any, .any, .any, .any, .any, .list 1 (ns.map .str) none, .int .i64 (ns.length : Int), .int .i64 (q.1.1 : Int), .any, .any, .any, .any, .any, .any, .any, .any, .any, .any, .any, .any, .any, .any, .any, .any, .any, .any, .any, .any, .any, .any, .any, .any, .any, .any, .any, .any, .any, .any, .any, .any, .any, .any, .any, .any, .any, .any, .any, .any, .any, .any, .any, .any, .any, .any, .any, .any, .any, .any, .any, .any, .any, .any, .any, .any, .any, .any, .any, .any, .any, .any, .any, .any, .any, .any, .any, .any, .any, .any, .any, .any, .any, .any, .any, .any, .any], q.1.2.1, q.1.2.2.1⟩) (fun q => ns.length - q.1.1)
    ⟨(0, L4, T4, w4), Nat.zero_le _, ho4, hd4, hg4⟩ ?_ ?_ (fun q => ⟨Nat.le_trans hL0 q.2.2.2.2.len, Nat.le_trans hT0 q.2.2.2.2.tlen⟩)
  · simp (maxSteps:=2000000) only[bitvec_to_nat,seval,↓tcd,leLL_self]
    all_goals simp
  · rintro ⟨⟨j, L5, T5, w5⟩, hj, ho5, hd5, hg5⟩
    simp only at hj ho5 hd5 hg5
    obtain ⟨c1, c2, c3⟩ := b5 j
    by_cases hjm : j < ns.length
    · have hdc : decide ((j : Int) < (ns.length : Int)) = true := decide_eq_true (by omega)
      have hgd : (ns.map V.str).getD j .any = .str ns[j] := by
        rw [List.getD_eq_getElem?_getD, List.getElem?_map, List.getElem?_eq_getElem hjm]; rfl
      have hj1 : IntKind.i64.wrap ((j : Int) + 1) = ((j + 1 : Nat) : Int) := by rw [i64w (by omega) (by omega)]; omega
      simp (maxSteps:=2000000) only[bitvec_to_nat,seval,↓tcd,hdc,hgd,Int.toNat_natCast,List.length_map]
      refine ⟨⟨by omega, by omega⟩, ?_⟩
      refine op_o ho5 rfl hd5 c2 fun L6 T6 w6 ho6 hd6 hst6 => ?_
      have hd6' : dAt L6 T6 (syncs (ns.take (j + 1)) M1) w6 := by rw [List.take_succ_eq_append_getElem hjm, syncs_snoc]; exact hd6
      simp (maxSteps:=2000000) only[bitvec_to_nat,seval,↓tcd,hj1]
      refine ⟨⟨(j + 1, L6, T6, w6), by omega, ho6, hd6', hg5.trans hst6⟩, ?_, by simp only; omega⟩
      simp (maxSteps:=2000000) only[bitvec_to_nat,seval,↓tcd,leLL_self]
    · have hdc : decide ((j : Int) < (ns.length : Int)) = false := decide_eq_false (by omega)
      have hbg := c3 (by omega)
      clear c1 c3 b5
      obtain ⟨M2, hM2⟩ : ∃ M2, syncs (ns.take j) M1 = M2 := ⟨_, rfl⟩
      rw [hM2] at hd5 c2 hbg
      simp (maxSteps:=2000000) only[bitvec_to_nat,seval,↓tcd,hdc]
      refine clone_o ho5 hd5 c2 fun L6 T6 wx hdx hstx => ?_
      have ht6 := two_clone hd5 hdx hstx
      have hg6 := step_clone hg5 hstx
      obtain ⟨ox, hox⟩ : ∃ o, wx.o = o := ⟨_, rfl⟩
      rw [hox]
      obtain ⟨p1, p2, p3⟩ := makes_drop (ns := x) hxl 2000 M2 hbg.ok hbg.sz (by omega)
      obtain ⟨d1, d2, d3⟩ := drop_gone x false M2 hbg.ok hbg.live (fun _ => hbg.kept.chs)
      have hoth : ∀ s, s ∉ x → s ≠ [] → Keep M2 (dropF x false M2).1 s := fun s g1 g2 => (drop_spares g2 x false M2 M2 g1 hbg.ok (keep_refl hbg.kept.chs s)).2
      change Place.dropPre x false M2 at p1
      change (dropF x false M2).1.Ok at p2
      change Sz _ (dropF x false M2).1 at p3
      obtain ⟨R, hR⟩ : ∃ R, dropF x false M2 = R := ⟨_, rfl⟩
      rw [hR] at p2 p3 d1 d2 d3 hoth
      simp (maxSteps:=2000000) only[bitvec_to_nat,seval,↓tcd]
      refine ⟨M2, w5, x, by rw [ho5], by omega, ht6.d1, p1, fun L8 T8 w8 ho8 hd8 hst8 => ?_⟩
      rw [ho5] at ho8
      rw [hR] at hd8 ⊢
      have ht8 := ht6.left hd8 hst8
      have hg8 := hg6.trans (Step.two (w2 := wx) hst8)
      have hwr8 : L8[L.length]? = some [.int .i64 wr.names, .list 1 (wr.bytes.map fun n => .int .i64 n) none] := by rw [hg8.keep L.length hlw (fun h => h)]; exact hwr1
      have hlw8 := lt_at hwr8
      simp only [d1, code_V, Int.natCast_zero]
      simp (maxSteps:=2000000) only[bitvec_to_nat,seval,↓tcd,hwr8,hlw8]
      refine crash_o ho8 wr.bytes (.inr ⟨none, rfl⟩) hwb ht8.d1 (p3.small (by omega)) fun L9 T9 w9 ho9 hd9 hst9 => ?_
      have ht9 := ht8.left hd9 hst9
      have hg9 := hg8.trans (Step.two (w2 := wx) hst9)
      have hgone : ∀ s, s ∈ x → nfind (R.1.crash ⟨wr.names, wr.bytes⟩).now s = none := fun s hs => ((crash_of p2 ⟨wr.names, wr.bytes⟩ s).1 (by rw [at_nil d2]; exact d3 s (.inl hs))).1
      obtain ⟨M5, hM5⟩ : ∃ M5, R.1.crash ⟨wr.names, wr.bytes⟩ = M5 := ⟨_, rfl⟩
      have hs5 : Small M5 := by rw [← hM5]; exact small_crash (p3.small (by omega)) p2 _
      have hl5 : Live M5 := by rw [← hM5]; exact ⟨rfl, rfl⟩
      rw [hM5] at ht9 hgone
      have hns2 : (M2.now.map (·.1)).length ≤ 2000 := by rw [List.length_map]; exact Nat.le_trans (now_len hbg.ok) hbg.sz.nf
      have hall : ∀ s ∈ M2.now.map (·.1), s ∉ x → (nfind M5.now s).isSome = true ∧ M5.readB s = M2.readB s := by
        intro s hs g1
        have hk := hoth s g1 (by
          obtain ⟨y, hy, rfl⟩ := List.mem_map.1 hs
          rw [kept_now hbg.kept] at hy
          exact (hbg.ok.right y hy).1)
        have := read_was hbg.kept hbg.live p2 (w := ⟨wr.names, wr.bytes⟩) (s := s) ⟨hk.at _, hk.file⟩
        rw [hM5] at this
        rw [(DiskL.find_iff s).2 hs] at this
        exact this
      obtain ⟨ns2, hns2e⟩ : ∃ ns, M2.now.map (·.1) = ns := ⟨_, rfl⟩
      rw [hns2e] at hall hns2
      simp (maxSteps:=2000000) only[bitvec_to_nat,seval,↓tcd,code_V,Int.natCast_zero]
      refine ⟨M2, wx, by rw [hox], ht9.d2, hbg.live, c2, fun L12 T12 w12 ho12 hd12 hst12 => ?_⟩
      rw [hox] at ho12
      rw [hns2e]
      have ht12 := ht9.right hd12 hst12
      have hg12 := hg9.trans (Step.two' (w1 := w9) hst12)
      simp (maxSteps:=2000000) only[bitvec_to_nat,seval,↓tcd,List.length_map]
      refine awpLoop_intro (α := {q : Nat × LL × TT × Own × Own // q.1 ≤ ns2.length ∧ q.2.2.2.1.o = od ∧ q.2.2.2.2.o = ox ∧ Two q.2.1 q.2.2.1 M5 q.2.2.2.1 M2 q.2.2.2.2 ∧ Step noS noS L1 T1 (bS q.2.2.2.1 q.2.2.2.2) (bR q.2.2.2.1 q.2.2.2.2) q.2.1 q.2.2.1})
        (fun q => ⟨[.any, .any, .any, .any, .any, .any, .any, .any, .bool false, .bool true, .box od 0, .list 1 (x.map .str) none, .any, .any, .box ox 0, .any, .any, .any, .any, .any, .any, .any, .any, .any, .any, .any, .any, .any, .any, .any, .any, .any, .any, .any, .any, .any, .any, .any, .any, .any, .any, .any, .any, .any, .any, .any, .any, .any, .any, .any, .any, .any, .any, .any, .any, .any, .any, .any, .any, .any, .any, .any, .any, .any, .any, .any, .any, .any, .list 1 (ns2.map .str) none, .int .i64 (ns2.length : Int), .int .i64 (q.1.1 : Int), .any, .any, .any, .any, .any, .any, .any, .any, .any, .any, .any, .any, .any, .any, .any, .any, .any, .any, .any, .any, .any, .any, .any, .any, .any, .any, .any, .any, .any, .any, .any, .any, .any, .any, .any, .any, .any, .any, .any, .any, .any, .any, .any, .any, .any, .any, .any, .any, .any, .any], q.1.2.1, q.1.2.2.1⟩) (fun q => ns2.length - q.1.1)
        ⟨(0, L12, T12, w9, w12), Nat.zero_le _, ho9, ho12, ht12, hg12⟩ ?_ ?_ (fun q => ⟨Nat.le_trans hL0 q.2.2.2.2.2.len, Nat.le_trans hT0 q.2.2.2.2.2.tlen⟩)
      · simp (maxSteps:=2000000) only[bitvec_to_nat,seval,↓tcd,leLL_self]
        all_goals simp
      · rintro ⟨⟨i, L13, T13, w13, w14⟩, hi, ho13, ho14, ht13, hg13⟩
        simp only at hi ho13 ho14 ht13 hg13
        by_cases him : i < ns2.length
        · have hdc2 : decide ((i : Int) < (ns2.length : Int)) = true := decide_eq_true (by omega)
          have hgd2 : (ns2.map V.str).getD i .any = .str ns2[i] := by
            rw [List.getD_eq_getElem?_getD, List.getElem?_map, List.getElem?_eq_getElem him]; rfl
          have hi1 : IntKind.i64.wrap ((i : Int) + 1) = ((i + 1 : Nat) : Int) := by rw [i64w (by omega) (by omega)]; omega
          have hal := hall ns2[i] (List.getElem_mem him)
          obtain ⟨s, hs⟩ : ∃ s, ns2[i] = s := ⟨_, rfl⟩
          rw [hs] at hgd2 hal
          have hgo := hgone s
          simp (maxSteps:=2000000) only[bitvec_to_nat,seval,↓tcd,hdc2,hgd2,Int.toNat_natCast,List.length_map]
          refine ⟨⟨by omega, by omega⟩, ?_⟩
          refine awpLoop_intro (α := {k : Nat // k ≤ x.length})
            (fun k => ⟨[.any, .any, .any, .any, .any, .any, .any, .any, .bool false, .bool true, .box od 0, .list 1 (x.map .str) none, .any, .any, .box ox 0, .any, .str s, .bool (decide (s ∈ x.take k.1)), .any, .any, .any, .any, .any, .any, .any, .any, .any, .any, .any, .any, .any, .any, .any, .any, .any, .any, .any, .any, .any, .any, .any, .any, .any, .any, .any, .any, .any, .any, .any, .any, .any, .any, .any, .any, .any, .any, .any, .any, .any, .any, .any, .any, .any, .any, .any, .any, .any, .any, .list 1 (ns2.map .str) none, .int .i64 (ns2.length : Int), .int .i64 (i : Int), .any, .any, .any, .list 1 (x.map .str) none, .int .i64 (x.length : Int), .int .i64 (k.1 : Int), .any, .any, .any, .any, .any, .any, .any, .any, .any, .any, .any, .any, .any, .any, .any, .any, .any, .any, .any, .any, .any, .any, .any, .any, .any, .any, .any, .any, .any, .any, .any, .any, .any, .any, .any, .any, .any, .any, .any, .any, .any, .any, .any, .any], L13, T13⟩) (fun k => x.length - k.1)
            ⟨0, Nat.zero_le _⟩ ?_ ?_ (fun k => ⟨Nat.le_trans hL0 hg13.len, Nat.le_trans hT0 hg13.tlen⟩)
          · simp (maxSteps:=2000000) only[bitvec_to_nat,seval,↓tcd,leLL_self]
            all_goals simp
          · rintro ⟨k, hk⟩
            by_cases hkm : k < x.length
            · have hdk : decide ((k : Int) < (x.length : Int)) = true := decide_eq_true (by omega)
              have hgk : (x.map V.str).getD k .any = .str x[k] := by
                rw [List.getD_eq_getElem?_getD, List.getElem?_map, List.getElem?_eq_getElem hkm]; rfl
              have hk1 : IntKind.i64.wrap ((k : Int) + 1) = ((k + 1 : Nat) : Int) := by rw [i64w (by omega) (by omega)]; omega
              have hnx : decide (s ∈ x.take (k + 1)) = (decide (s ∈ x.take k) || decide (x[k] = s)) := by
                rw [List.take_succ_eq_append_getElem hkm]
                simp only [List.mem_append, List.mem_singleton, Bool.decide_or]
                rw [decide_eq_decide.2 (eq_comm (a := s) (b := x[k]))]
              obtain ⟨v, hv⟩ : ∃ v, decide (s ∈ x.take k) = v := ⟨_, rfl⟩
              rw [hv] at hnx ⊢
              cases v
              · rw [Bool.false_or] at hnx
                simp (maxSteps:=2000000) only[bitvec_to_nat,seval,↓tcd,hdk,hgk,Int.toNat_natCast,List.length_map,hk1]
                refine ⟨⟨by omega, by omega⟩, ⟨k + 1, hkm⟩, ?_, by simp only; omega⟩
                simp (maxSteps:=2000000) only[bitvec_to_nat,seval,↓tcd,leLL_self,hnx]
              · rw [Bool.true_or] at hnx
                simp (maxSteps:=2000000) only[bitvec_to_nat,seval,↓tcd,hdk,hgk,Int.toNat_natCast,List.length_map,hk1]
                refine ⟨⟨by omega, by omega⟩, ⟨k + 1, hkm⟩, ?_, by simp only; omega⟩
                simp (maxSteps:=2000000) only[bitvec_to_nat,seval,↓tcd,leLL_self,hnx]
            · have hdk : decide ((k : Int) < (x.length : Int)) = false := decide_eq_false (by omega)
              have htk : x.take k = x := List.take_of_length_le (by omega)
              rw [htk]
              obtain ⟨v, hv⟩ : ∃ v, decide (s ∈ x) = v := ⟨_, rfl⟩
              rw [hv]
              simp (maxSteps:=2000000) only[bitvec_to_nat,seval,↓tcd,hdk]
              refine op_o ho14 rfl ht13.d2 c2 fun L15 T15 w15 ho15 hd15 hst15 => ?_
              simp only [read_live hbg.live] at hd15 ⊢
              have ht15 := ht13.right hd15 hst15
              have hg15 := hg13.trans (Step.two' (w1 := w13) hst15)
              obtain ⟨a1, ha1⟩ : ∃ k, (if (nfind M2.now s).isSome = true then 0 else 2 : Nat) = k := ⟨_, rfl⟩
              obtain ⟨a2, ha2⟩ : ∃ k, M2.readB s = k := ⟨_, rfl⟩
              rw [ha2] at hal
              rw [ha1, ha2]
              simp (maxSteps:=2000000) only[bitvec_to_nat,seval,↓tcd,code_V]
              refine op_o ho13 rfl ht15.d1 hs5 fun L16 T16 w16 ho16 hd16 hst16 => ?_
              simp only [read_live hl5] at hd16 ⊢
              have ht16 := ht15.left hd16 hst16
              have hg16 := hg15.trans (Step.two (w2 := w15) hst16)
              obtain ⟨a3, ha3⟩ : ∃ k, (if (nfind M5.now s).isSome = true then 0 else 2 : Nat) = k := ⟨_, rfl⟩
              obtain ⟨a4, ha4⟩ : ∃ k, M5.readB s = k := ⟨_, rfl⟩
              rw [ha4] at hal
              rw [ha3, ha4]
              simp only [code_V]
              cases v
              · obtain ⟨y1, y2⟩ := hal (of_decide_eq_false hv)
                have f3 : decide ((a3 : Int) = 0) = true := by rw [← ha3, y1]; rfl
                have f4 : decide (a2 = a4) = true := decide_eq_true y2.symm
                simp (maxSteps:=2000000) only[bitvec_to_nat,seval,↓tcd,f3,f4,hi1]
                refine ⟨⟨(i + 1, L16, T16, w16, w15), him, ho16, ho15, ht16, hg16⟩, ?_, by simp only; omega⟩
                simp (maxSteps:=2000000) only[bitvec_to_nat,seval,↓tcd,leLL_self,hi1]
              · have f3 : decide ((a3 : Int) = 2) = true := by rw [← ha3, hgo (of_decide_eq_true hv)]; rfl
                simp (maxSteps:=2000000) only[bitvec_to_nat,seval,↓tcd,f3,hi1]
                refine ⟨⟨(i + 1, L16, T16, w16, w15), him, ho16, ho15, ht16, hg16⟩, ?_, by simp only; omega⟩
                simp (maxSteps:=2000000) only[bitvec_to_nat,seval,↓tcd,leLL_self,hi1]
        · have hdc2 : decide ((i : Int) < (ns2.length : Int)) = false := decide_eq_false (by omega)
          simp (maxSteps:=2000000) only[bitvec_to_nat,seval,↓tcd,hdc2]
          exact ret_of (⟨Nat.le_trans hL0 hg13.len, fun _ _ h => absurd trivial h, fun _ h => h.elim, Nat.le_trans hT0 hg13.tlen, fun _ _ h => absurd trivial h, fun _ h => h.elim⟩ : Step (fun _ => True) (fun _ => True) L T noS noS L13 T13) (hK _ _)
end Go.Proofs.Ytpncnionnfomeaa.PlaceX
