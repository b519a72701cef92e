/-
  THE LAW DiskDown.
-/
import Derived.Test.YtieeojipodefoaaAwX
import Derived.Test.YtieeojipodefoaaDiskW
namespace Go.Proofs.Ytieeojipodefoaa.DiskL
open Go Go.Proofs Go.Proofs.Ytieeojipodefoaa.Aw Go.Proofs.Ytieeojipodefoaa.Num Go.Proofs.Ytieeojipodefoaa.DiskM Go.Proofs.Ytieeojipodefoaa.DiskA Go.Proofs.Ytieeojipodefoaa.DiskK Go.Proofs.Ytieeojipodefoaa.DiskC Go.Proofs.Ytieeojipodefoaa.Disk
set_option linter.unusedSimpArgs false
set_option linter.unusedVariables false

def H7 : Fns := { fn := fun f => H0.fn f, mu := fun d => .no, hp := fun f => if f = 16 then some newP else if f = 19 then some doesP else if f = 18 then some fewP else if f = 15 then some shownP else if f = 31 then some alikeP else if f = 32 then some doomP else if f = 26 then some crashP else if f = 21 then some usedP else H0.hp f, ord := fun i => none }
theorem H7_fn (f : FuncId) : H7.fn f = (H0.fn f) := rfl
theorem H7_mu (d : Tmp) : H7.mu d = (.no) := rfl
theorem H7_hp (f : FuncId) : H7.hp f = (if f = 16 then some newP else if f = 19 then some doesP else if f = 18 then some fewP else if f = 15 then some shownP else if f = 31 then some alikeP else if f = 32 then some doomP else if f = 26 then some crashP else if f = 21 then some usedP else H0.hp f) := rfl
theorem H7_ord (i : Nat) : H7.ord i = (none) := rfl
theorem H7ok : FnsOk Try.prog H7 := FnsOk.same (FnsOk.consP (FnsOk.consP (FnsOk.consP (FnsOk.consP (FnsOk.consP (FnsOk.consP (FnsOk.consP (FnsOk.consP H0ok _ _ used_ok Try.func21 (by decide) (fun h => by cases h)) _ _ crash_sound Try.func26 (by decide) (fun h => by cases h)) _ _ doom_ok Try.func32 (by decide) (fun h => by cases h)) _ _ alike_ok Try.func31 (by decide) (fun h => by cases h)) _ _ shown_ok Try.func15 (by decide) (fun h => by cases h)) _ _ few_ok Try.func18 (by decide) (fun h => by cases h)) _ _ does_ok Try.func19 (by decide) (fun h => by cases h)) _ _ new_ok Try.func16 (by decide) (fun h => by cases h)) rfl rfl
attribute [bitvec_to_nat] H7_fn H7_mu H7_hp H7_ord

def downP : PM := fun args L T K => ∃ (room : Int) (l : List Act) (n : Nat) (wr : Wreck), args = [.int .i64 room, .list 7 (l.map actV) none, .int .u8 (n : Int), .agg [.int .i64 wr.names, wbV wr.bytes]] ∧ n ≤ 255 ∧ l.length ≤ 9223372036854775807 ∧ (∀ a ∈ l, a.n ≤ 9223372036854775807) ∧ wr.bytes.length ≤ 9223372036854775807 ∧ ∀ L' T', K (.bool true) L' T'
theorem doomF_some {n : Int} (h : n ≤ 9223372036854775807) : doomF [.int .i64 n] = some fun M => ((M.doom n).1, codeV (M.doom n).2) := if_pos h
theorem small_crash {M : MD} (h : Small M) (ok : M.Ok) (w : Wreck) : Small (M.crash w) := by
  obtain ⟨a1, a2, a3, a4, a5⟩ := at_ok ok w
  have hcu := crash_used M w
  have hle := crs_sum_le ok w (M.at w) 0
  have hsu := h.used
  refine ⟨by show ([] : List Chg).length ≤ _; simp, by omega, fun x hx => ?_, ?_⟩
  · have hx' : x ∈ crs M w (M.at w) 0 := by
      have : x ∈ (M.crash w).files := hx
      rw [crash_eq] at this
      exact this
    have : ∀ (l : Names) (j : Nat), x ∈ crs M w l j → x.1.length ≤ 1099511627776 := by
      intro l
      induction l with
      | nil => intro j hj; cases hj
      | cons e r ih =>
        intro j hj
        rcases List.mem_cons.1 hj with rfl | hj
        · have q := (DiskC.crashF_ok (wr := w) (i := j) (file_cut ok e.2)).2
          have := file_small h e.2
          omega
        · exact ih _ hj
    exact this _ _ hx'
  · rw [crash_eq]
    show (crs M w (M.at w) 0).length ≤ _
    rw [crs_len]
    have q1 := nodup_len (r := List.range M.files.length) a3 fun f hf => by
      obtain ⟨e, he, rfl⟩ := List.mem_map.1 hf
      exact List.mem_range.2 (a4 e he)
    rw [List.length_map, List.length_range] at q1
    have := h.nf; omega
theorem crash_live (M : MD) (w : Wreck) : Live (M.crash w) := ⟨rfl, rfl⟩
set_option maxHeartbeats 4000000 in
theorem down_ok : PSound Try.prog 5 downP := by
  refine psound tysOk H7ok mix Try.func5 rfl ?_
  intro args L T K hm
  obtain ⟨room, l, n, wr, rfl, hn8, hlen, hn, hwb, hK⟩ := hm
  unfold wbV
  simp (config := { maxSteps := 2000000 }) only [bitvec_to_nat, ↓r_ifTrue, ↓r_ifFalse, Nat.reduceAdd, Nat.reduceSub, Nat.reduceMul, Nat.reduceLT, Nat.reduceLeDiff, Nat.reduceEqDiff, Nat.reduceBEq, Nat.reduceBNe, Int.reduceToNat, Int.reduceLE, Int.reduceLT, Int.reduceEq, Int.reduceNe, Int.reduceNeg, Nat.reducePow, Int.reducePow, reduceIte, reduceCtorEq, ↓tc25, ↓td25, ↓tc34, ↓td34, ↓tc76, ↓td76, ↓tc95, ↓td95, ↓tc103, ↓td103, Try.f5]
  refine ⟨rfl, fun L1 T1 hst1 => ?_⟩
  simp (config := { maxSteps := 2000000 }) only [bitvec_to_nat, ↓r_ifTrue, ↓r_ifFalse, Nat.reduceAdd, Nat.reduceSub, Nat.reduceMul, Nat.reduceLT, Nat.reduceLeDiff, Nat.reduceEqDiff, Nat.reduceBEq, Nat.reduceBNe, Int.reduceToNat, Int.reduceLE, Int.reduceLT, Int.reduceEq, Int.reduceNe, Int.reduceNeg, Nat.reducePow, Int.reducePow, reduceIte, reduceCtorEq, ↓tc25, ↓td25, ↓tc34, ↓td34, ↓tc76, ↓td76, ↓tc95, ↓td95, ↓tc103, ↓td103]
  refine ⟨room, rfl, fun L2 w2 ho2 hd2 hst2 => ?_⟩
  simp (config := { maxSteps := 2000000 }) only [bitvec_to_nat, ↓r_ifTrue, ↓r_ifFalse, Nat.reduceAdd, Nat.reduceSub, Nat.reduceMul, Nat.reduceLT, Nat.reduceLeDiff, Nat.reduceEqDiff, Nat.reduceBEq, Nat.reduceBNe, Int.reduceToNat, Int.reduceLE, Int.reduceLT, Int.reduceEq, Int.reduceNe, Int.reduceNeg, Nat.reducePow, Int.reducePow, reduceIte, reduceCtorEq, ↓tc25, ↓td25, ↓tc34, ↓td34, ↓tc76, ↓td76, ↓tc95, ↓td95, ↓tc103, ↓td103]
  refine ⟨room, rfl, fun L3 w3 ho3 hd3 hst3 => ?_⟩
  simp (config := { maxSteps := 2000000 }) only [bitvec_to_nat, ↓r_ifTrue, ↓r_ifFalse, Nat.reduceAdd, Nat.reduceSub, Nat.reduceMul, Nat.reduceLT, Nat.reduceLeDiff, Nat.reduceEqDiff, Nat.reduceBEq, Nat.reduceBNe, Int.reduceToNat, Int.reduceLE, Int.reduceLT, Int.reduceEq, Int.reduceNe, Int.reduceNeg, Nat.reducePow, Int.reducePow, reduceIte, reduceCtorEq, ↓tc25, ↓td25, ↓tc34, ↓td34, ↓tc76, ↓td76, ↓tc95, ↓td95, ↓tc103, ↓td103]
  have hwr1 : L1[L.length]? = some [.int .i64 wr.names, .list 1 (wr.bytes.map fun n => .int .i64 n) none] := by rw [hst1.keep L.length (by simp) (fun h => h), at_new rfl]
  have hlw := lt_at hwr1
  obtain ⟨od, hod⟩ : ∃ o, w2.o = o := ⟨_, rfl⟩
  obtain ⟨ox, hox⟩ : ∃ o, w3.o = o := ⟨_, rfl⟩
  rw [hod, hox]
  have ht3 : Two L3 T1 (DiskM.new room) w2 (DiskM.new room) w3 :=
    ⟨hd2.frame hst3 (fun _ _ h => h) (fun _ _ h => h), hd3, fun i h1 h2 => (by rcases hst3.own i h2 with h | h; exact h; have := hd2.lt i h1; omega), fun k h1 h2 => (by rcases hst3.town k h2 with h | h; exact h; have := hd2.tlt k h1; omega)⟩
  have hg2 : Step noS noS L1 T1 w2.S w2.R L3 T1 := hst2.via hst3 (fun _ h => h.elim) (fun _ h => h.elim)
  have hg3 : Step noS noS L1 T1 (bS w2 w3) (bR w2 w3) L3 T1 := ⟨hg2.len, hg2.keep, fun i h => h.elim (hg2.own i) (fun h => (hst3.own i h).elim (fun h => h.elim) (fun h => .inr (Nat.le_trans hst2.len h))), hg2.tlen, hg2.tkeep, fun k h => h.elim (hg2.town k) (fun h => (hst3.town k h).elim (fun h => h.elim) (fun h => .inr (Nat.le_trans hst2.tlen h)))⟩
  have hnw : IntKind.i64.wrap (n : Int) = (n : Int) := i64w (by omega) (by omega)
  rw [hnw]
  have hsm0 : Small (DiskM.new room) := ⟨by simp [DiskM.new], by show (0 : Nat) ≤ _; omega, by simp [DiskM.new], by simp [DiskM.new]⟩
  refine op_o hod (doomF_some (by omega)) ht3.d1 hsm0 fun L4 T4 w4 ho4 hd4 hst4 => ?_
  have edoom : (DiskM.new room).doom (n : Int) = (Dm (DiskM.new room) n, 0) := by
    unfold MD.doom
    rw [if_neg (by omega)]
    rfl
  simp only [edoom, code_V, Int.natCast_zero] at hd4 ⊢
  have ht4 := ht3.left hd4 hst4
  have hg4 := hg3.trans (Step.two (w2 := w3) hst4)
  simp (config := { maxSteps := 2000000 }) only [bitvec_to_nat, ↓r_ifTrue, ↓r_ifFalse, Nat.reduceAdd, Nat.reduceSub, Nat.reduceMul, Nat.reduceLT, Nat.reduceLeDiff, Nat.reduceEqDiff, Nat.reduceBEq, Nat.reduceBNe, Int.reduceToNat, Int.reduceLE, Int.reduceLT, Int.reduceEq, Int.reduceNe, Int.reduceNeg, Nat.reducePow, Int.reducePow, reduceIte, reduceCtorEq, ↓tc25, ↓td25, ↓tc34, ↓td34, ↓tc76, ↓td76, ↓tc95, ↓td95, ↓tc103, ↓td103]
  refine ⟨l, rfl, hlen, fun L5 T5 hst5 => ?_⟩
  simp (config := { maxSteps := 2000000 }) only [bitvec_to_nat, ↓r_ifTrue, ↓r_ifFalse, Nat.reduceAdd, Nat.reduceSub, Nat.reduceMul, Nat.reduceLT, Nat.reduceLeDiff, Nat.reduceEqDiff, Nat.reduceBEq, Nat.reduceBNe, Int.reduceToNat, Int.reduceLE, Int.reduceLT, Int.reduceEq, Int.reduceNe, Int.reduceNeg, Nat.reducePow, Int.reducePow, reduceIte, reduceCtorEq, ↓tc25, ↓td25, ↓tc34, ↓td34, ↓tc76, ↓td76, ↓tc95, ↓td95, ↓tc103, ↓td103, List.length_map]
  have ht5 := ht4.other hst5
  have hg5 : Step noS noS L1 T1 (bS w4 w3) (bR w4 w3) L5 T5 := hg4.via hst5 (fun _ h => h.elim) (fun _ h => h.elim)
  have hF := few_len l
  have hT0 : T.length ≤ T1.length := hst1.tlen
  have hL0 : L.length ≤ L1.length := by omega
  refine awpLoop_intro (α := {q : Nat × Nat × LL × TT × MD × MD × Own × Own // q.1 ≤ (few l).length ∧ q.2.1 ≤ n ∧ q.2.2.2.2.2.2.1.o = od ∧ q.2.2.2.2.2.2.2.o = ox ∧ Two q.2.2.1 q.2.2.2.1 q.2.2.2.2.2.1 q.2.2.2.2.2.2.1 q.2.2.2.2.1 q.2.2.2.2.2.2.2 ∧
      Step noS noS L1 T1 (bS q.2.2.2.2.2.2.1 q.2.2.2.2.2.2.2) (bR q.2.2.2.2.2.2.1 q.2.2.2.2.2.2.2) q.2.2.1 q.2.2.2.1 ∧ Sz q.1 q.2.2.2.2.1 ∧ Live q.2.2.2.2.1 ∧ (q.2.2.2.2.2.1 = Dm q.2.2.2.2.1 (n - q.2.1) ∨ (q.2.1 = n ∧ q.2.2.2.2.2.1 = Dd q.2.2.2.2.1))})
    (fun q => ⟨[.any, .any, .int .u8 (n : Int), .any, .any, .any, .any, .box L.length 0, .bool false, .bool true, .box od 0, .box ox 0, .int .i64 (q.1.2.1 : Int), .any, .any, .any, .any, .any, .any, .any, .any, .any, .any, .any, .any, .any, .any, .any, .any, .any, .any, .any, .any, .any, .any, .list 7 ((few l).map actV) none, .int .i64 ((few l).length : Int), .int .i64 (q.1.1 : Int), .any, .any, .any, .any, .any, .any, .any, .any, .any, .any, .any, .any, .any, .any, .any, .any, .any, .any, .any, .any, .any, .any, .any, .any, .any, .any, .any, .any, .any, .any, .any, .any, .any, .any, .any, .any, .any, .any, .any, .any, .any, .any, .any], q.1.2.2.1, q.1.2.2.2.1⟩) (fun q => (few l).length - q.1.1)
    ⟨(0, 0, L5, T5, DiskM.new room, Dm (DiskM.new room) n, w4, w3), Nat.zero_le _, Nat.zero_le _, ho4, hox, ht5, hg5, ⟨by simp [DiskM.new], by simp [DiskM.new], Nat.le_refl 0, by simp [DiskM.new]⟩, ⟨rfl, rfl⟩, .inl rfl⟩ ?_ ?_ (fun q => ⟨Nat.le_trans hL0 q.2.2.2.2.2.2.1.len, Nat.le_trans hT0 q.2.2.2.2.2.2.1.tlen⟩)
  · simp (config := { maxSteps := 2000000 }) only [bitvec_to_nat, ↓r_ifTrue, ↓r_ifFalse, Nat.reduceAdd, Nat.reduceSub, Nat.reduceMul, Nat.reduceLT, Nat.reduceLeDiff, Nat.reduceEqDiff, Nat.reduceBEq, Nat.reduceBNe, Int.reduceToNat, Int.reduceLE, Int.reduceLT, Int.reduceEq, Int.reduceNe, Int.reduceNeg, Nat.reducePow, Int.reducePow, reduceIte, reduceCtorEq, ↓tc25, ↓td25, ↓tc34, ↓td34, ↓tc76, ↓td76, ↓tc95, ↓td95, ↓tc103, ↓td103, leLL_self]
    simp
  · rintro ⟨⟨i, d, L6, T6, M, Md, wd, wx⟩, hi, hdn, hwd, hwx, ht, hg, hsz, hlv, hrel⟩
    simp only at hi hdn hwd hwx ht hg hsz hlv hrel
    have hwr6 : L6[L.length]? = some [.int .i64 wr.names, .list 1 (wr.bytes.map fun n => .int .i64 n) none] := by rw [hg.keep L.length hlw (fun h => h)]; exact hwr1
    have hlw6 := lt_at hwr6
    have hsmM : Small M := hsz.small (by omega)
    have hszd : Sz i Md := by rcases hrel with h | ⟨_, h⟩ <;> rw [h] <;> exact hsz.same rfl rfl rfl
    have hcr : ∀ w, Md.crash w = M.crash w := fun w => by rcases hrel with h | ⟨_, h⟩ <;> rw [h] <;> rfl
    by_cases him : i < (few l).length
    · have hdc : decide ((i : Int) < ((few l).length : Int)) = true := decide_eq_true (by omega)
      obtain ⟨a, ha⟩ : ∃ a, (few l)[i]? = some a := ⟨_, List.getElem?_eq_getElem him⟩
      obtain ⟨ham, hal⟩ := few_mem (List.mem_of_getElem? ha)
      have hgd : ((few l).map actV).getD i .any = .agg [.int .u8 a.kind.toNat, .str a.name, .str a.to, .bytes a.b none, .int .i64 a.n, .int .i64 a.w.names, wbV a.w.bytes] := by
        rw [List.getD_eq_getElem?_getD, List.getElem?_map, ha]; rfl
      have hmod : ((a.kind.toNat : Nat) : Int).tmod 13 = ((a.kind.toNat % 13 : Nat) : Int) := rfl
      have hi1 : IntKind.i64.wrap ((i : Int) + 1) = ((i + 1 : Nat) : Int) := by rw [i64w (by omega) (by omega)]; omega
      have hd1 : IntKind.i64.wrap ((d : Int) + 1) = ((d + 1 : Nat) : Int) := by rw [i64w (by omega) (by omega)]; omega
      unfold wbV at hgd
      have ht7 := ht.other ((Step.refl noS noS L6 T6).app [[.int .u8 a.kind.toNat, .str a.name, .str a.to, .bytes a.b none, .int .i64 a.n, .int .i64 a.w.names, .list 1 (a.w.bytes.map fun n => .int .i64 n) none]])
      have hat : (L6 ++ [[.int .u8 a.kind.toNat, .str a.name, .str a.to, .bytes a.b none, .int .i64 a.n, .int .i64 a.w.names, .list 1 (a.w.bytes.map fun n => .int .i64 n) none]])[L6.length]? = some [.int .u8 a.kind.toNat, .str a.name, .str a.to, .bytes a.b none, .int .i64 a.n, .int .i64 a.w.names, .list 1 (a.w.bytes.map fun n => .int .i64 n) none] := at_new rfl _
      simp (config := { maxSteps := 2000000 }) only [bitvec_to_nat, ↓r_ifTrue, ↓r_ifFalse, Nat.reduceAdd, Nat.reduceSub, Nat.reduceMul, Nat.reduceLT, Nat.reduceLeDiff, Nat.reduceEqDiff, Nat.reduceBEq, Nat.reduceBNe, Int.reduceToNat, Int.reduceLE, Int.reduceLT, Int.reduceEq, Int.reduceNe, Int.reduceNeg, Nat.reducePow, Int.reducePow, reduceIte, reduceCtorEq, ↓tc25, ↓td25, ↓tc34, ↓td34, ↓tc76, ↓td76, ↓tc95, ↓td95, ↓tc103, ↓td103, hdc, hgd, Int.toNat_natCast, List.length_map, hmod, hi1]
      have h9i : (9 < ((a.kind.toNat % 13 : Nat) : Int)) ↔ ¬ a.kind.toNat % 13 ≤ 9 := by omega
      refine ⟨⟨by omega, by omega⟩, awpIf_intro (fun h9 => ?_) (fun h9 => ?_)⟩ <;> simp only [decide_eq_true_eq, decide_eq_false_iff_not, h9i] at h9
      · refine ⟨⟨(i + 1, d, _, T6, M, Md, wd, wx), him, hdn, hwd, hwx, ht7, hg.app _, hsz.mono (Nat.le_succ _), hlv, hrel⟩, ?_, by simp only; omega⟩
        simp (config := { maxSteps := 2000000 }) only [bitvec_to_nat, ↓r_ifTrue, ↓r_ifFalse, Nat.reduceAdd, Nat.reduceSub, Nat.reduceMul, Nat.reduceLT, Nat.reduceLeDiff, Nat.reduceEqDiff, Nat.reduceBEq, Nat.reduceBNe, Int.reduceToNat, Int.reduceLE, Int.reduceLT, Int.reduceEq, Int.reduceNe, Int.reduceNeg, Nat.reducePow, Int.reducePow, reduceIte, reduceCtorEq, ↓tc25, ↓td25, ↓tc34, ↓td34, ↓tc76, ↓td76, ↓tc95, ↓td95, ↓tc103, ↓td103, leLL_self]
      · have h9' : a.kind.toNat % 13 ≤ 9 := Classical.not_not.1 h9
        refine ⟨Md, wd, a, by rw [hwd]; rfl, small_ok ham (hn a hal), ht7.d1, hszd.small (by omega), fun L8 T8 w8 ho8 hd8 hst8 => ?_⟩
        rw [hwd] at ho8
        have ht8 := ht7.left hd8 hst8
        have hg8 := (hg.app [[.int .u8 a.kind.toNat, .str a.name, .str a.to, .bytes a.b none, .int .i64 a.n, .int .i64 a.w.names, .list 1 (a.w.bytes.map fun n => .int .i64 n) none]]).trans (Step.two (w2 := wx) hst8)
        have hat8 : L8[L6.length]? = some [.int .u8 a.kind.toNat, .str a.name, .str a.to, .bytes a.b none, .int .i64 a.n, .int .i64 a.w.names, .list 1 (a.w.bytes.map fun n => .int .i64 n) none] := by
          rw [hst8.keep L6.length (by simp) (fun h => by have := ht.d1.lt _ h; omega)]; exact hat
        have hnd : ((n : Int) ≤ (d : Int)) ↔ n ≤ d := by omega
        simp (config := { maxSteps := 2000000 }) only [bitvec_to_nat, ↓r_ifTrue, ↓r_ifFalse, Nat.reduceAdd, Nat.reduceSub, Nat.reduceMul, Nat.reduceLT, Nat.reduceLeDiff, Nat.reduceEqDiff, Nat.reduceBEq, Nat.reduceBNe, Int.reduceToNat, Int.reduceLE, Int.reduceLT, Int.reduceEq, Int.reduceNe, Int.reduceNeg, Nat.reducePow, Int.reducePow, reduceIte, reduceCtorEq, ↓tc25, ↓td25, ↓tc34, ↓td34, ↓tc76, ↓td76, ↓tc95, ↓td95, ↓tc103, ↓td103, hnw, code_V, hat8]
        refine awpIf_intro (fun hnd1 => ?_) (fun hnd1 => ?_) <;> simp only [decide_eq_true_eq, decide_eq_false_iff_not, hnd] at hnd1
        · have hde : d = n := by omega
          have ea : act Md a = (Dd M, 40) := by
            rcases hrel with h | ⟨_, h⟩
            · rw [h, hde, Nat.sub_self]; exact no_act dm_begin0 h9'
            · rw [h]; exact no_act dd_begin h9'
          rw [ea] at ht8
          refine awpIf_intro (fun he => ?_) (fun he => ?_)
          · refine ⟨⟨(i + 1, d, L8, T8, M, Dd M, w8, wx), him, hdn, ho8, hwx, ht8, hg8, hsz.mono (Nat.le_succ _), hlv, .inr ⟨hde, rfl⟩⟩, ?_, by simp only; omega⟩
            simp (config := { maxSteps := 2000000 }) only [bitvec_to_nat, ↓r_ifTrue, ↓r_ifFalse, Nat.reduceAdd, Nat.reduceSub, Nat.reduceMul, Nat.reduceLT, Nat.reduceLeDiff, Nat.reduceEqDiff, Nat.reduceBEq, Nat.reduceBNe, Int.reduceToNat, Int.reduceLE, Int.reduceLT, Int.reduceEq, Int.reduceNe, Int.reduceNeg, Nat.reducePow, Int.reducePow, reduceIte, reduceCtorEq, ↓tc25, ↓td25, ↓tc34, ↓td34, ↓tc76, ↓td76, ↓tc95, ↓td95, ↓tc103, ↓td103, leLL_self, hi1]
          · rw [ea] at he
            have he2 : decide (((40 : Nat) : Int) = 40) = false := he
            exact absurd he2 (by decide)
        · obtain ⟨k, hk⟩ : ∃ k, n - d = k + 1 := ⟨n - d - 1, by omega⟩
          have hMd : Md = Dm M (k + 1) := by
            rcases hrel with h | ⟨h, _⟩
            · rw [h, hk]
            · omega
          have ea : act Md a = (Dm (act M a).1 k, (act M a).2) := by rw [hMd]; exact dm_act hlv k h9'
          rw [ea] at ht8
          rw [ea]
          refine ⟨M, wx, a, by rw [hwx]; rfl, small_ok ham (hn a hal), ht8.d2, hsmM, fun L9 T9 w9 ho9 hd9 hst9 => ?_⟩
          rw [hwx] at ho9
          have ht9 := ht8.right hd9 hst9
          have hg9 := hg8.trans (Step.two' (w1 := w8) hst9)
          have hlv9 := act_live hlv (a := a) (by omega)
          have hsz9 := act_sz hsz ht.d2.ok ham
          simp (config := { maxSteps := 2000000 }) only [bitvec_to_nat, ↓r_ifTrue, ↓r_ifFalse, Nat.reduceAdd, Nat.reduceSub, Nat.reduceMul, Nat.reduceLT, Nat.reduceLeDiff, Nat.reduceEqDiff, Nat.reduceBEq, Nat.reduceBNe, Int.reduceToNat, Int.reduceLE, Int.reduceLT, Int.reduceEq, Int.reduceNe, Int.reduceNeg, Nat.reducePow, Int.reducePow, reduceIte, reduceCtorEq, ↓tc25, ↓td25, ↓tc34, ↓td34, ↓tc76, ↓td76, ↓tc95, ↓td95, ↓tc103, ↓td103, code_V, hd1]
          refine ⟨⟨(i + 1, d + 1, L9, T9, (act M a).1, Dm (act M a).1 k, w8, w9), him, (show d + 1 ≤ n by omega), ho8, ho9, ht9, hg9, hsz9, hlv9, .inl (by simp only; rw [show n - (d + 1) = k by omega])⟩, ?_, by simp only; omega⟩
          simp (config := { maxSteps := 2000000 }) only [bitvec_to_nat, ↓r_ifTrue, ↓r_ifFalse, Nat.reduceAdd, Nat.reduceSub, Nat.reduceMul, Nat.reduceLT, Nat.reduceLeDiff, Nat.reduceEqDiff, Nat.reduceBEq, Nat.reduceBNe, Int.reduceToNat, Int.reduceLE, Int.reduceLT, Int.reduceEq, Int.reduceNe, Int.reduceNeg, Nat.reducePow, Int.reducePow, reduceIte, reduceCtorEq, ↓tc25, ↓td25, ↓tc34, ↓td34, ↓tc76, ↓td76, ↓tc95, ↓td95, ↓tc103, ↓td103, leLL_self, hi1]
    · have hdc : decide ((i : Int) < ((few l).length : Int)) = false := decide_eq_false (by omega)
      simp (config := { maxSteps := 2000000 }) only [bitvec_to_nat, ↓r_ifTrue, ↓r_ifFalse, Nat.reduceAdd, Nat.reduceSub, Nat.reduceMul, Nat.reduceLT, Nat.reduceLeDiff, Nat.reduceEqDiff, Nat.reduceBEq, Nat.reduceBNe, Int.reduceToNat, Int.reduceLE, Int.reduceLT, Int.reduceEq, Int.reduceNe, Int.reduceNeg, Nat.reducePow, Int.reducePow, reduceIte, reduceCtorEq, ↓tc25, ↓td25, ↓tc34, ↓td34, ↓tc76, ↓td76, ↓tc95, ↓td95, ↓tc103, ↓td103, hdc, hwr6, hlw6]
      refine crash_o hwd wr.bytes (.inr ⟨none, rfl⟩) hwb ht.d1 (hszd.small (by omega)) fun L7 T7 w7 ho7 hd7 hst7 => ?_
      rw [hcr] at hd7
      have ht7 := ht.left hd7 hst7
      have hg7 := hg.trans (Step.two (w2 := wx) hst7)
      have hwr7 : L7[L.length]? = some [.int .i64 wr.names, .list 1 (wr.bytes.map fun n => .int .i64 n) none] := by rw [hg7.keep L.length hlw (fun h => h)]; exact hwr1
      have hlw7 := lt_at hwr7
      simp (config := { maxSteps := 2000000 }) only [bitvec_to_nat, ↓r_ifTrue, ↓r_ifFalse, Nat.reduceAdd, Nat.reduceSub, Nat.reduceMul, Nat.reduceLT, Nat.reduceLeDiff, Nat.reduceEqDiff, Nat.reduceBEq, Nat.reduceBNe, Int.reduceToNat, Int.reduceLE, Int.reduceLT, Int.reduceEq, Int.reduceNe, Int.reduceNeg, Nat.reducePow, Int.reducePow, reduceIte, reduceCtorEq, ↓tc25, ↓td25, ↓tc34, ↓td34, ↓tc76, ↓td76, ↓tc95, ↓td95, ↓tc103, ↓td103, hwr7, hlw7]
      refine crash_o hwx wr.bytes (.inr ⟨none, rfl⟩) hwb ht7.d2 hsmM fun L8 T8 w8 ho8 hd8 hst8 => ?_
      have ht8 := ht7.right hd8 hst8
      have hg8 := hg7.trans (Step.two' (w1 := w7) hst8)
      have hsc := small_crash hsmM ht.d2.ok ⟨wr.names, wr.bytes⟩
      refine ⟨_, _, w7, w8, by rw [ho7, ho8], ht8, hsc, hsc, crash_live _ _, crash_live _ _, ⟨rfl, fun _ => rfl⟩, fun L9 T9 w9 w10 ho9 ho10 ht9 hst9 => ?_⟩
      simp (config := { maxSteps := 2000000 }) only [bitvec_to_nat, ↓r_ifTrue, ↓r_ifFalse, Nat.reduceAdd, Nat.reduceSub, Nat.reduceMul, Nat.reduceLT, Nat.reduceLeDiff, Nat.reduceEqDiff, Nat.reduceBEq, Nat.reduceBNe, Int.reduceToNat, Int.reduceLE, Int.reduceLT, Int.reduceEq, Int.reduceNe, Int.reduceNeg, Nat.reducePow, Int.reducePow, reduceIte, reduceCtorEq, ↓tc25, ↓td25, ↓tc34, ↓td34, ↓tc76, ↓td76, ↓tc95, ↓td95, ↓tc103, ↓td103]
      refine ⟨_, w9, by rw [ho9, ho7], ht9.d1, ?_⟩
      simp (config := { maxSteps := 2000000 }) only [bitvec_to_nat, ↓r_ifTrue, ↓r_ifFalse, Nat.reduceAdd, Nat.reduceSub, Nat.reduceMul, Nat.reduceLT, Nat.reduceLeDiff, Nat.reduceEqDiff, Nat.reduceBEq, Nat.reduceBNe, Int.reduceToNat, Int.reduceLE, Int.reduceLT, Int.reduceEq, Int.reduceNe, Int.reduceNeg, Nat.reducePow, Int.reducePow, reduceIte, reduceCtorEq, ↓tc25, ↓td25, ↓tc34, ↓td34, ↓tc76, ↓td76, ↓tc95, ↓td95, ↓tc103, ↓td103]
      refine ⟨_, w10, by rw [ho10, ho8], ht9.d2, ?_⟩
      simp (config := { maxSteps := 2000000 }) only [bitvec_to_nat, ↓r_ifTrue, ↓r_ifFalse, Nat.reduceAdd, Nat.reduceSub, Nat.reduceMul, Nat.reduceLT, Nat.reduceLeDiff, Nat.reduceEqDiff, Nat.reduceBEq, Nat.reduceBNe, Int.reduceToNat, Int.reduceLE, Int.reduceLT, Int.reduceEq, Int.reduceNe, Int.reduceNeg, Nat.reducePow, Int.reducePow, reduceIte, reduceCtorEq, ↓tc25, ↓td25, ↓tc34, ↓td34, ↓tc76, ↓td76, ↓tc95, ↓td95, ↓tc103, ↓td103]
      have hg9 := hg8.trans hst9
      exact ret_of (⟨Nat.le_trans hL0 hg9.len, fun _ _ h => absurd trivial h, fun _ h => h.elim, Nat.le_trans hT0 hg9.tlen, fun _ _ h => absurd trivial h, fun _ h => h.elim⟩ : Step (fun _ => True) (fun _ => True) L T noS noS L9 T9) (hK _ _)
end Go.Proofs.Ytieeojipodefoaa.DiskL
