/-
  THE LAW DiskRoom.
-/
import Derived.Test.YtieeojipodefoaaAwX
import Derived.Test.YtieeojipodefoaaDiskR
namespace Go.Proofs.Ytieeojipodefoaa.DiskL
open Go Go.Proofs Go.Proofs.Ytieeojipodefoaa.Aw Go.Proofs.Ytieeojipodefoaa.Num Go.Proofs.Ytieeojipodefoaa.DiskM Go.Proofs.Ytieeojipodefoaa.DiskA Go.Proofs.Ytieeojipodefoaa.DiskK Go.Proofs.Ytieeojipodefoaa.DiskC Go.Proofs.Ytieeojipodefoaa.Disk
set_option linter.unusedSimpArgs false
set_option linter.unusedVariables false

def usedP : PM := obsP fun M => .int .i64 (M.used : Int)
def H4 : Fns := { fn := fun f => H0.fn f, mu := fun d => .no, hp := fun f => if f = 16 then some newP else if f = 21 then some usedP else if f = 19 then some doesP else if f = 18 then some fewP else if f = 15 then some shownP else H0.hp f, ord := fun i => none }
theorem H4_fn (f : FuncId) : H4.fn f = (H0.fn f) := rfl
theorem H4_mu (d : Tmp) : H4.mu d = (.no) := rfl
theorem H4_hp (f : FuncId) : H4.hp f = (if f = 16 then some newP else if f = 21 then some usedP else if f = 19 then some doesP else if f = 18 then some fewP else if f = 15 then some shownP else H0.hp f) := rfl
theorem H4_ord (i : Nat) : H4.ord i = (none) := rfl
theorem H4ok : FnsOk Try.prog H4 := FnsOk.same (FnsOk.consP (FnsOk.consP (FnsOk.consP (FnsOk.consP (FnsOk.consP H0ok _ _ shown_ok Try.func15 (by decide) (fun h => by cases h)) _ _ few_ok Try.func18 (by decide) (fun h => by cases h)) _ _ does_ok Try.func19 (by decide) (fun h => by cases h)) _ _ used_ok Try.func21 (by decide) (fun h => by cases h)) _ _ new_ok Try.func16 (by decide) (fun h => by cases h)) rfl rfl
attribute [bitvec_to_nat] H4_fn H4_mu H4_hp H4_ord

theorem small_ok {a : Act} (h : a.small) (hn : a.n ≤ 9223372036854775807) : a.Ok := ⟨by have := h.1; omega, hn, by have := h.2.2.2; omega⟩
theorem few_mem {l : List Act} {a : Act} (h : a ∈ few l) : a.small ∧ a ∈ l := by
  unfold few at h
  obtain ⟨h1, h2⟩ := List.mem_filter.1 h
  exact ⟨of_decide_eq_true h2, List.mem_of_mem_take h1⟩
theorem few_len (l : List Act) : (few l).length ≤ 100 := by
  unfold few
  refine Nat.le_trans (List.length_filter_le _ _) ?_
  rw [List.length_take]; omega
def roomP : PM := fun args L T K => ∃ (room : Int) (l : List Act), args = [.int .i64 room, .list 7 (l.map actV) none] ∧ l.length ≤ 9223372036854775807 ∧ (∀ a ∈ l, a.n ≤ 9223372036854775807) ∧ room ≤ 9223372036854775807 ∧ ∀ L' T', K (.bool true) L' T'
set_option maxHeartbeats 4000000 in
theorem room_ok : PSound Try.prog 6 roomP := by
  refine psound tysOk H4ok mix Try.func6 rfl ?_
  intro args L T K hm
  obtain ⟨room, l, rfl, hlen, hn, hroom, hK⟩ := hm
  simp (config := { maxSteps := 2000000 }) only [bitvec_to_nat, ↓r_ifTrue, ↓r_ifFalse, Nat.reduceAdd, Nat.reduceSub, Nat.reduceMul, Nat.reduceLT, Nat.reduceLeDiff, Nat.reduceEqDiff, Nat.reduceBEq, Nat.reduceBNe, Int.reduceToNat, Int.reduceLE, Int.reduceLT, Int.reduceEq, Int.reduceNe, Int.reduceNeg, Nat.reducePow, Int.reducePow, reduceIte, reduceCtorEq, ↓tc25, ↓td25, ↓tc34, ↓td34, ↓tc76, ↓td76, ↓tc95, ↓td95, ↓tc103, ↓td103, Try.f6]
  refine ⟨rfl, fun L1 T1 hst1 => ?_⟩
  simp (config := { maxSteps := 2000000 }) only [bitvec_to_nat, ↓r_ifTrue, ↓r_ifFalse, Nat.reduceAdd, Nat.reduceSub, Nat.reduceMul, Nat.reduceLT, Nat.reduceLeDiff, Nat.reduceEqDiff, Nat.reduceBEq, Nat.reduceBNe, Int.reduceToNat, Int.reduceLE, Int.reduceLT, Int.reduceEq, Int.reduceNe, Int.reduceNeg, Nat.reducePow, Int.reducePow, reduceIte, reduceCtorEq, ↓tc25, ↓td25, ↓tc34, ↓td34, ↓tc76, ↓td76, ↓tc95, ↓td95, ↓tc103, ↓td103]
  refine ⟨room, rfl, fun L2 w2 ho2 hd2 hst2 => ?_⟩
  simp (config := { maxSteps := 2000000 }) only [bitvec_to_nat, ↓r_ifTrue, ↓r_ifFalse, Nat.reduceAdd, Nat.reduceSub, Nat.reduceMul, Nat.reduceLT, Nat.reduceLeDiff, Nat.reduceEqDiff, Nat.reduceBEq, Nat.reduceBNe, Int.reduceToNat, Int.reduceLE, Int.reduceLT, Int.reduceEq, Int.reduceNe, Int.reduceNeg, Nat.reducePow, Int.reducePow, reduceIte, reduceCtorEq, ↓tc25, ↓td25, ↓tc34, ↓td34, ↓tc76, ↓td76, ↓tc95, ↓td95, ↓tc103, ↓td103]
  refine ⟨l, rfl, hlen, fun L3 T3 hst3 => ?_⟩
  simp (config := { maxSteps := 2000000 }) only [bitvec_to_nat, ↓r_ifTrue, ↓r_ifFalse, Nat.reduceAdd, Nat.reduceSub, Nat.reduceMul, Nat.reduceLT, Nat.reduceLeDiff, Nat.reduceEqDiff, Nat.reduceBEq, Nat.reduceBNe, Int.reduceToNat, Int.reduceLE, Int.reduceLT, Int.reduceEq, Int.reduceNe, Int.reduceNeg, Nat.reducePow, Int.reducePow, reduceIte, reduceCtorEq, ↓tc25, ↓td25, ↓tc34, ↓td34, ↓tc76, ↓td76, ↓tc95, ↓td95, ↓tc103, ↓td103, List.length_map]
  obtain ⟨o, hwo⟩ : ∃ o, w2.o = o := ⟨_, rfl⟩
  rw [hwo]
  have hd3 : dAt L3 T3 (DiskM.new room) w2 := hd2.frame hst3 (fun _ _ h => h) (fun _ _ h => h)
  have hs3 : Step noS noS L T w2.S w2.R L3 T3 := (hst1.trans hst2).via hst3 (fun _ h => h.elim) (fun _ h => h.elim)
  have hF := few_len l
  have hr0 : (DiskM.new room).room = if room < 0 then 0 else room := rfl
  obtain ⟨R, hR⟩ : ∃ R : Int, (if room < 0 then 0 else room) = R := ⟨_, rfl⟩
  have hmax : max room 0 = R := by rw [← hR]; split <;> omega
  rw [hR] at hr0
  have hR0 : 0 ≤ R := by rw [← hR]; split <;> omega
  refine awpLoop_intro (α := {q : Nat × LL × TT × MD × Own // q.1 ≤ (few l).length ∧ q.2.2.2.2.o = o ∧ dAt q.2.1 q.2.2.1 q.2.2.2.1 q.2.2.2.2 ∧ Step noS noS L T q.2.2.2.2.S q.2.2.2.2.R q.2.1 q.2.2.1 ∧ Sz q.1 q.2.2.2.1 ∧ q.2.2.2.1.room = R ∧ (q.2.2.2.1.used : Int) ≤ R})
    (fun q => ⟨[.int .i64 room, .any, .any, .any, .bool false, .bool true, .box o 0, .any, .any, .any, .any, .any, .any, .any, .any, .any, .any, .list 7 ((few l).map actV) none, .int .i64 ((few l).length : Int), .int .i64 (q.1.1 : Int), .any, .any, .any, .any, .any, .any, .any, .any, .any, .any, .any, .any, .any, .any, .any, .any, .any, .any, .any, .any, .any, .any, .any, .any, .any, .any, .any, .any, .any, .any, .any, .any, .any, .any, .any, .any, .any, .any, .any], q.1.2.1, q.1.2.2.1⟩) (fun q => (few l).length - q.1.1)
    ⟨(0, L3, T3, DiskM.new room, w2), Nat.zero_le _, hwo, hd3, hs3, ⟨by simp [DiskM.new], by simp [DiskM.new], Nat.le_refl 0, by simp [DiskM.new]⟩, hr0, hR0⟩ ?_ ?_ (fun q => ⟨q.2.2.2.2.1.len, q.2.2.2.2.1.tlen⟩)
  · simp (config := { maxSteps := 2000000 }) only [bitvec_to_nat, ↓r_ifTrue, ↓r_ifFalse, Nat.reduceAdd, Nat.reduceSub, Nat.reduceMul, Nat.reduceLT, Nat.reduceLeDiff, Nat.reduceEqDiff, Nat.reduceBEq, Nat.reduceBNe, Int.reduceToNat, Int.reduceLE, Int.reduceLT, Int.reduceEq, Int.reduceNe, Int.reduceNeg, Nat.reducePow, Int.reducePow, reduceIte, reduceCtorEq, ↓tc25, ↓td25, ↓tc34, ↓td34, ↓tc76, ↓td76, ↓tc95, ↓td95, ↓tc103, ↓td103, leLL_self]
    simp
  · rintro ⟨⟨i, L4, T4, M, w⟩, hi, how, hd, hst, hsz, hMr, hMu⟩
    simp only at hi how hd hst hsz hMr hMu
    by_cases him : i < (few l).length
    · have hdc : decide ((i : Int) < ((few l).length : Int)) = true := decide_eq_true (by omega)
      obtain ⟨a, ha⟩ : ∃ a, (few l)[i]? = some a := ⟨_, List.getElem?_eq_getElem him⟩
      obtain ⟨ham, hal⟩ := few_mem (List.mem_of_getElem? ha)
      have hgd : ((few l).map actV).getD i .any = .agg [.int .u8 a.kind.toNat, .str a.name, .str a.to, .bytes a.b none, .int .i64 a.n, .int .i64 a.w.names, wbV a.w.bytes] := by
        rw [List.getD_eq_getElem?_getD, List.getElem?_map, ha]; rfl
      have hmod : ((a.kind.toNat : Nat) : Int).tmod 13 = ((a.kind.toNat % 13 : Nat) : Int) := rfl
      have hi1 : IntKind.i64.wrap ((i : Int) + 1) = ((i + 1 : Nat) : Int) := by rw [i64w (by omega) (by omega)]; omega
      have hd5 : dAt (L4 ++ [[.int .u8 a.kind.toNat, .str a.name, .str a.to, .bytes a.b none, .int .i64 a.n, .int .i64 a.w.names, wbV a.w.bytes]]) T4 M w := hd.frame ((Step.refl noS noS L4 T4).app _) (fun _ _ h => h) (fun _ _ h => h)
      have hat : (L4 ++ [[.int .u8 a.kind.toNat, .str a.name, .str a.to, .bytes a.b none, .int .i64 a.n, .int .i64 a.w.names, wbV a.w.bytes]])[L4.length]? = some [.int .u8 a.kind.toNat, .str a.name, .str a.to, .bytes a.b none, .int .i64 a.n, .int .i64 a.w.names, wbV a.w.bytes] := at_new rfl _
      unfold wbV at hgd hd5 hat
      simp (config := { maxSteps := 2000000 }) only [bitvec_to_nat, ↓r_ifTrue, ↓r_ifFalse, Nat.reduceAdd, Nat.reduceSub, Nat.reduceMul, Nat.reduceLT, Nat.reduceLeDiff, Nat.reduceEqDiff, Nat.reduceBEq, Nat.reduceBNe, Int.reduceToNat, Int.reduceLE, Int.reduceLT, Int.reduceEq, Int.reduceNe, Int.reduceNeg, Nat.reducePow, Int.reducePow, reduceIte, reduceCtorEq, ↓tc25, ↓td25, ↓tc34, ↓td34, ↓tc76, ↓td76, ↓tc95, ↓td95, ↓tc103, ↓td103, hdc, hgd, Int.toNat_natCast, List.length_map, hmod, hi1]
      have h12i : ((a.kind.toNat % 13 : Nat) : Int) = 12 ↔ a.kind.toNat % 13 = 12 := by omega
      refine ⟨⟨by omega, by omega⟩, awpIf_intro (fun h12 => ?_) (fun h12 => ?_)⟩ <;> simp only [decide_eq_true_eq, decide_eq_false_iff_not, h12i] at h12
      · refine ⟨⟨(i + 1, _, T4, M, w), him, how, hd5, hst.app _, hsz.mono (Nat.le_succ _), hMr, hMu⟩, ?_, by simp only; omega⟩
        simp (config := { maxSteps := 2000000 }) only [bitvec_to_nat, ↓r_ifTrue, ↓r_ifFalse, Nat.reduceAdd, Nat.reduceSub, Nat.reduceMul, Nat.reduceLT, Nat.reduceLeDiff, Nat.reduceEqDiff, Nat.reduceBEq, Nat.reduceBNe, Int.reduceToNat, Int.reduceLE, Int.reduceLT, Int.reduceEq, Int.reduceNe, Int.reduceNeg, Nat.reducePow, Int.reducePow, reduceIte, reduceCtorEq, ↓tc25, ↓td25, ↓tc34, ↓td34, ↓tc76, ↓td76, ↓tc95, ↓td95, ↓tc103, ↓td103, leLL_self]
      · have hdid := did_act hsz hd.ok ham h12
        obtain ⟨d1, d2, d3, d4⟩ := hdid
        refine ⟨M, w, by rw [how], hd5, ?_⟩
        simp (config := { maxSteps := 2000000 }) only [bitvec_to_nat, ↓r_ifTrue, ↓r_ifFalse, Nat.reduceAdd, Nat.reduceSub, Nat.reduceMul, Nat.reduceLT, Nat.reduceLeDiff, Nat.reduceEqDiff, Nat.reduceBEq, Nat.reduceBNe, Int.reduceToNat, Int.reduceLE, Int.reduceLT, Int.reduceEq, Int.reduceNe, Int.reduceNeg, Nat.reducePow, Int.reducePow, reduceIte, reduceCtorEq, ↓tc25, ↓td25, ↓tc34, ↓td34, ↓tc76, ↓td76, ↓tc95, ↓td95, ↓tc103, ↓td103, hat]
        refine ⟨M, w, a, by rw [how]; rfl, small_ok ham (hn a hal), hd5, hsz.small (by omega), fun L6 T6 w6 ho6 hd6 hst6 => ?_⟩
        rw [how] at ho6
        have hst7 : Step noS noS L T w6.S w6.R L6 T6 := (hst.app _).trans hst6
        have hat6 : L6[L4.length]? = some [.int .u8 a.kind.toNat, .str a.name, .str a.to, .bytes a.b none, .int .i64 a.n, .int .i64 a.w.names, .list 1 (a.w.bytes.map fun n => .int .i64 n) none] := by
          rw [hst6.keep L4.length (by simp) (fun h => by have := hd.lt _ h; omega)]; exact hat
        simp (config := { maxSteps := 2000000 }) only [bitvec_to_nat, ↓r_ifTrue, ↓r_ifFalse, Nat.reduceAdd, Nat.reduceSub, Nat.reduceMul, Nat.reduceLT, Nat.reduceLeDiff, Nat.reduceEqDiff, Nat.reduceBEq, Nat.reduceBNe, Int.reduceToNat, Int.reduceLE, Int.reduceLT, Int.reduceEq, Int.reduceNe, Int.reduceNeg, Nat.reducePow, Int.reducePow, reduceIte, reduceCtorEq, ↓tc25, ↓td25, ↓tc34, ↓td34, ↓tc76, ↓td76, ↓tc95, ↓td95, ↓tc103, ↓td103, code_V]
        obtain ⟨M', hM'⟩ : ∃ M', (act M a).1 = M' := ⟨_, rfl⟩
        obtain ⟨c, hc⟩ : ∃ c, (act M a).2 = c := ⟨_, rfl⟩
        rw [hM'] at d1 d2 d3 d4 hd6
        rw [hc] at d3
        rw [hc]
        have huR : (M'.used : Int) ≤ R := by rcases d2 with h | h <;> omega
        have hcap : decide (R < (M'.used : Int)) = false := decide_eq_false (by omega)
        have hsu := hsz.used
        have hnx : ∃ q : {q : Nat × LL × TT × MD × Own // q.1 ≤ (few l).length ∧ q.2.2.2.2.o = o ∧ dAt q.2.1 q.2.2.1 q.2.2.2.1 q.2.2.2.2 ∧ Step noS noS L T q.2.2.2.2.S q.2.2.2.2.R q.2.1 q.2.2.1 ∧ Sz q.1 q.2.2.2.1 ∧ q.2.2.2.1.room = R ∧ (q.2.2.2.1.used : Int) ≤ R}, q.1 = (i + 1, L6, T6, M', w6) :=
          ⟨⟨(i + 1, L6, T6, M', w6), him, ho6, hd6, hst7, d4, by simp only; rw [d1]; exact hMr, huR⟩, rfl⟩
        obtain ⟨q, hq⟩ := hnx
        refine awpIf_intro (fun h41 => ?_) (fun h41 => ?_) <;> simp only [decide_eq_true_eq, decide_eq_false_iff_not] at h41
        · obtain ⟨e1, e2⟩ := d3 (by omega)
          have hle : M.used + a.b.length ≤ 1099511627776 := by have := ham.1; omega
          have hw : IntKind.i64.wrap ((M.used : Int) + (a.b.length : Int)) = ((M.used + a.b.length : Nat) : Int) := by rw [i64w (by omega) (by omega)]; omega
          have hcmp : decide (((M.used + a.b.length : Nat) : Int) ≤ R) = false := decide_eq_false (by omega)
          refine ⟨M', w6, by rw [ho6], hd6, ?_⟩
          have hcap2 : decide (R < (M.used : Int)) = false := decide_eq_false (by omega)
          simp (config := { maxSteps := 2000000 }) only [bitvec_to_nat, ↓r_ifTrue, ↓r_ifFalse, Nat.reduceAdd, Nat.reduceSub, Nat.reduceMul, Nat.reduceLT, Nat.reduceLeDiff, Nat.reduceEqDiff, Nat.reduceBEq, Nat.reduceBNe, Int.reduceToNat, Int.reduceLE, Int.reduceLT, Int.reduceEq, Int.reduceNe, Int.reduceNeg, Nat.reducePow, Int.reducePow, reduceIte, reduceCtorEq, ↓tc25, ↓td25, ↓tc34, ↓td34, ↓tc76, ↓td76, ↓tc95, ↓td95, ↓tc103, ↓td103, e1, hat6, hw, hR, hcmp]
          refine ⟨M', w6, by rw [ho6], hd6, ?_⟩
          simp (config := { maxSteps := 2000000 }) only [bitvec_to_nat, ↓r_ifTrue, ↓r_ifFalse, Nat.reduceAdd, Nat.reduceSub, Nat.reduceMul, Nat.reduceLT, Nat.reduceLeDiff, Nat.reduceEqDiff, Nat.reduceBEq, Nat.reduceBNe, Int.reduceToNat, Int.reduceLE, Int.reduceLT, Int.reduceEq, Int.reduceNe, Int.reduceNeg, Nat.reducePow, Int.reducePow, reduceIte, reduceCtorEq, ↓tc25, ↓td25, ↓tc34, ↓td34, ↓tc76, ↓td76, ↓tc95, ↓td95, ↓tc103, ↓td103, e1, hR, hcap2, hi1]
          refine ⟨q, ?_, by rw [hq]; simp only; omega⟩
          rw [hq]
          simp (config := { maxSteps := 2000000 }) only [bitvec_to_nat, ↓r_ifTrue, ↓r_ifFalse, Nat.reduceAdd, Nat.reduceSub, Nat.reduceMul, Nat.reduceLT, Nat.reduceLeDiff, Nat.reduceEqDiff, Nat.reduceBEq, Nat.reduceBNe, Int.reduceToNat, Int.reduceLE, Int.reduceLT, Int.reduceEq, Int.reduceNe, Int.reduceNeg, Nat.reducePow, Int.reducePow, reduceIte, reduceCtorEq, ↓tc25, ↓td25, ↓tc34, ↓td34, ↓tc76, ↓td76, ↓tc95, ↓td95, ↓tc103, ↓td103, leLL_self]
        · refine ⟨M', w6, by rw [ho6], hd6, ?_⟩
          simp (config := { maxSteps := 2000000 }) only [bitvec_to_nat, ↓r_ifTrue, ↓r_ifFalse, Nat.reduceAdd, Nat.reduceSub, Nat.reduceMul, Nat.reduceLT, Nat.reduceLeDiff, Nat.reduceEqDiff, Nat.reduceBEq, Nat.reduceBNe, Int.reduceToNat, Int.reduceLE, Int.reduceLT, Int.reduceEq, Int.reduceNe, Int.reduceNeg, Nat.reducePow, Int.reducePow, reduceIte, reduceCtorEq, ↓tc25, ↓td25, ↓tc34, ↓td34, ↓tc76, ↓td76, ↓tc95, ↓td95, ↓tc103, ↓td103, hR, hcap, hi1]
          refine ⟨q, ?_, by rw [hq]; simp only; omega⟩
          rw [hq]
          simp (config := { maxSteps := 2000000 }) only [bitvec_to_nat, ↓r_ifTrue, ↓r_ifFalse, Nat.reduceAdd, Nat.reduceSub, Nat.reduceMul, Nat.reduceLT, Nat.reduceLeDiff, Nat.reduceEqDiff, Nat.reduceBEq, Nat.reduceBNe, Int.reduceToNat, Int.reduceLE, Int.reduceLT, Int.reduceEq, Int.reduceNe, Int.reduceNeg, Nat.reducePow, Int.reducePow, reduceIte, reduceCtorEq, ↓tc25, ↓td25, ↓tc34, ↓td34, ↓tc76, ↓td76, ↓tc95, ↓td95, ↓tc103, ↓td103, leLL_self]
    · have hdc : decide ((i : Int) < ((few l).length : Int)) = false := decide_eq_false (by omega)
      simp (config := { maxSteps := 2000000 }) only [bitvec_to_nat, ↓r_ifTrue, ↓r_ifFalse, Nat.reduceAdd, Nat.reduceSub, Nat.reduceMul, Nat.reduceLT, Nat.reduceLeDiff, Nat.reduceEqDiff, Nat.reduceBEq, Nat.reduceBNe, Int.reduceToNat, Int.reduceLE, Int.reduceLT, Int.reduceEq, Int.reduceNe, Int.reduceNeg, Nat.reducePow, Int.reducePow, reduceIte, reduceCtorEq, ↓tc25, ↓td25, ↓tc34, ↓td34, ↓tc76, ↓td76, ↓tc95, ↓td95, ↓tc103, ↓td103, hdc]
      exact ret_of hst (hK _ _)
end Go.Proofs.Ytieeojipodefoaa.DiskL
