/-
  THE LAW DiskNames.
-/
import Derived.Test.YtieeojipodefoaaAwX
import Derived.Test.YtieeojipodefoaaDiskL1
namespace Go.Proofs.Ytieeojipodefoaa.DiskL
open Go Go.Proofs Go.Proofs.Ytieeojipodefoaa.Aw Go.Proofs.Ytieeojipodefoaa.Num Go.Proofs.Ytieeojipodefoaa.DiskM Go.Proofs.Ytieeojipodefoaa.DiskA Go.Proofs.Ytieeojipodefoaa.DiskK Go.Proofs.Ytieeojipodefoaa.DiskC Go.Proofs.Ytieeojipodefoaa.Disk
set_option linter.unusedSimpArgs false
set_option linter.unusedVariables false

/-- it is up, and stays so -/
def Live (M : MD) : Prop := M.down = false ∧ M.doomed = false
theorem begin_live {M : MD} (h : Live M) : M.begin = (M, true) := by simp [MD.begin, h.1, h.2]
theorem onFile_live {M : MD} (h : Live M) (n : Name) (X : MD → Nat → MD × Nat) (hX : ∀ f, Live (X M f).1) : Live (M.onFile n X).1 := by
  rcases onFile_cases M n X with e | e | ⟨f, _, _, e⟩
  · rw [e, begin_live h]; exact h
  · rw [e, begin_live h]; exact h
  · rw [e, begin_live h]; exact hX f
theorem act_live {M : MD} (h : Live M) {a : Act} (ha : a.kind.toNat % 13 ≠ 10) : Live (act M a).1 := by
  have hb := begin_live h
  unfold act
  split
  · simp only [MD.create, hb]
    split
    · exact h
    · split
      · exact h
      · split
        · exact h
        · exact h
  · exact onFile_live h _ _ fun f => h
  · exact onFile_live h _ _ fun f => h
  · refine onFile_live h _ _ fun f => ?_
    split
    · exact h
    · exact h
  · exact onFile_live h _ _ fun f => h
  · simp only [MD.syncNames, hb]
    split
    · exact h
    · exact h
  · simp only [MD.names, hb]
    split
    · exact h
    · exact h
  · rename_i hc; exact absurd hc ha
  · exact ⟨rfl, rfl⟩
  · simp only [MD.grow]
    split
    · exact h
    · exact h
  · refine onFile_live h _ _ fun f => ?_
    split
    · exact h
    · exact h
theorem act_sz {k : Nat} {M : MD} (h : Sz k M) (ok : M.Ok) {a : Act} (ha : a.small) : Sz (k + 1) (act M a).1 := by
  by_cases hk : a.kind.toNat % 13 = 12
  · have e : act M a = M.grow a.n := by simp only [act, hk]
    rw [e]
    unfold MD.grow
    split
    · exact h.mono (Nat.le_succ _)
    · exact (h.mono (Nat.le_succ _)).same rfl rfl rfl
  · exact (did_act h ok ha hk).sz
theorem names_live {M : MD} (h : Live M) : M.names = (M, 0) ∧ M.namesL = M.now.map (·.1) := by
  simp [MD.names, MD.namesL, begin_live h]
theorem read_live {M : MD} (h : Live M) {n : Name} : M.read n = (M, if (nfind M.now n).isSome then 0 else 2) := by
  unfold MD.read MD.onFile
  rw [begin_live h]
  cases nfind M.now n <;> simp
theorem create_live {M : MD} (h : Live M) (n : Name) : M.create n = if ¬ right n then (M, 1) else if (nfind M.now n).isSome then (M, 4) else (M.newFile.does ⟨[], n, M.files.length⟩, 0) := by
  unfold MD.create
  rw [begin_live h]
  simp [MD.newFile]
theorem remove_live {M : MD} (h : Live M) (n : Name) : M.remove n = if (nfind M.now n).isSome then (M.does ⟨n, [], 0⟩, 0) else (M, 2) := by
  unfold MD.remove MD.onFile
  rw [begin_live h]
  cases nfind M.now n <;> simp
theorem nins_len (l : Names) (n : Name) (f : Nat) : (nins l n f).length = l.length + 1 := by
  induction l with
  | nil => rfl
  | cons e r ih => unfold nins; split <;> simp [ih]
theorem find_iff {M : MD} (n : Name) : (nfind M.now n).isSome = true ↔ n ∈ M.now.map (·.1) := by
  constructor
  · intro h
    obtain ⟨f, hf⟩ := Option.isSome_iff_exists.1 h
    exact List.mem_map.2 ⟨_, nfind_mem hf, rfl⟩
  · intro h
    cases hf : nfind M.now n with
    | none => exact absurd h (nfind_none.1 hf)
    | some f => rfl
/-- names behind a file that is made -/
theorem made_now {M : MD} (ok : M.Ok) {n : Name} (hr : right n) (hn : n ∉ M.now.map (·.1)) : (M.newFile.does ⟨[], n, M.files.length⟩).now = nwith M.now n M.files.length ∧ (nwith M.now n M.files.length).length = M.now.length + 1 := by
  have h0 : n ≠ [] := hr.1
  refine ⟨?_, ?_⟩
  · rw [does_now]
    show chg M.now ⟨[], n, M.files.length⟩ = _
    simp [chg, cleft, cfile, h0]
  · unfold nwith
    rw [nins_len, without_eq (nfind_none.2 hn)]
theorem gone_now {M : MD} {n : Name} (hn : n ≠ []) : (M.does ⟨n, [], 0⟩).now = nwithout M.now n := by
  rw [does_now]
  simp [chg, cleft, hn]
theorem beq_tf : (true == false) = false := rfl
theorem beq_ft : (false == true) = false := rfl
def H5 : Fns := { fn := fun f => H0.fn f, mu := fun d => .no, hp := fun f => if f = 16 then some newP else if f = 19 then some doesP else if f = 18 then some fewP else if f = 15 then some shownP else if f = 35 then some createP else if f = 34 then some readP else if f = 28 then some namesP else if f = 36 then some removeP else H0.hp f, ord := fun i => none }
theorem H5_fn (f : FuncId) : H5.fn f = (H0.fn f) := rfl
theorem H5_mu (d : Tmp) : H5.mu d = (.no) := rfl
theorem H5_hp (f : FuncId) : H5.hp f = (if f = 16 then some newP else if f = 19 then some doesP else if f = 18 then some fewP else if f = 15 then some shownP else if f = 35 then some createP else if f = 34 then some readP else if f = 28 then some namesP else if f = 36 then some removeP else H0.hp f) := rfl
theorem H5_ord (i : Nat) : H5.ord i = (none) := rfl
theorem H5ok : FnsOk Try.prog H5 := FnsOk.same (FnsOk.consP (FnsOk.consP (FnsOk.consP (FnsOk.consP (FnsOk.consP (FnsOk.consP (FnsOk.consP (FnsOk.consP H0ok _ _ remove_ok Try.func36 (by decide) (fun h => by cases h)) _ _ names_ok Try.func28 (by decide) (fun h => by cases h)) _ _ read_ok Try.func34 (by decide) (fun h => by cases h)) _ _ create_ok Try.func35 (by decide) (fun h => by cases h)) _ _ shown_ok Try.func15 (by decide) (fun h => by cases h)) _ _ few_ok Try.func18 (by decide) (fun h => by cases h)) _ _ does_ok Try.func19 (by decide) (fun h => by cases h)) _ _ new_ok Try.func16 (by decide) (fun h => by cases h)) rfl rfl
attribute [bitvec_to_nat] H5_fn H5_mu H5_hp H5_ord

def namesLP : PM := fun args L T K => ∃ (room : Int) (l : List Act) (name : Name), args = [.int .i64 room, .list 7 (l.map actV) none, .str name] ∧ l.length ≤ 9223372036854775807 ∧ (∀ a ∈ l, a.n ≤ 9223372036854775807) ∧ ∀ L' T', K (.bool true) L' T'
set_option maxRecDepth 4000 in
set_option maxHeartbeats 4000000 in
theorem namesL_ok : PSound Try.prog 9 namesLP := by
  refine psound tysOk H5ok mix Try.func9 rfl ?_
  intro args L T K hm
  obtain ⟨room, l, name, rfl, hlen, hn, hK⟩ := hm
  simp (config := { maxSteps := 2000000 }) only [bitvec_to_nat, ↓r_ifTrue, ↓r_ifFalse, Nat.reduceAdd, Nat.reduceSub, Nat.reduceMul, Nat.reduceLT, Nat.reduceLeDiff, Nat.reduceEqDiff, Nat.reduceBEq, Nat.reduceBNe, Int.reduceToNat, Int.reduceLE, Int.reduceLT, Int.reduceEq, Int.reduceNe, Int.reduceNeg, Nat.reducePow, Int.reducePow, reduceIte, reduceCtorEq, ↓tc25, ↓td25, ↓tc34, ↓td34, ↓tc76, ↓td76, ↓tc95, ↓td95, ↓tc103, ↓td103, Try.f9]
  refine ⟨rfl, fun L1 T1 hst1 => ?_⟩
  simp (config := { maxSteps := 2000000 }) only [bitvec_to_nat, ↓r_ifTrue, ↓r_ifFalse, Nat.reduceAdd, Nat.reduceSub, Nat.reduceMul, Nat.reduceLT, Nat.reduceLeDiff, Nat.reduceEqDiff, Nat.reduceBEq, Nat.reduceBNe, Int.reduceToNat, Int.reduceLE, Int.reduceLT, Int.reduceEq, Int.reduceNe, Int.reduceNeg, Nat.reducePow, Int.reducePow, reduceIte, reduceCtorEq, ↓tc25, ↓td25, ↓tc34, ↓td34, ↓tc76, ↓td76, ↓tc95, ↓td95, ↓tc103, ↓td103]
  refine ⟨room, rfl, fun L2 w2 ho2 hd2 hst2 => ?_⟩
  simp (config := { maxSteps := 2000000 }) only [bitvec_to_nat, ↓r_ifTrue, ↓r_ifFalse, Nat.reduceAdd, Nat.reduceSub, Nat.reduceMul, Nat.reduceLT, Nat.reduceLeDiff, Nat.reduceEqDiff, Nat.reduceBEq, Nat.reduceBNe, Int.reduceToNat, Int.reduceLE, Int.reduceLT, Int.reduceEq, Int.reduceNe, Int.reduceNeg, Nat.reducePow, Int.reducePow, reduceIte, reduceCtorEq, ↓tc25, ↓td25, ↓tc34, ↓td34, ↓tc76, ↓td76, ↓tc95, ↓td95, ↓tc103, ↓td103]
  refine ⟨l, rfl, hlen, fun L3 T3 hst3 => ?_⟩
  simp (config := { maxSteps := 2000000 }) only [bitvec_to_nat, ↓r_ifTrue, ↓r_ifFalse, Nat.reduceAdd, Nat.reduceSub, Nat.reduceMul, Nat.reduceLT, Nat.reduceLeDiff, Nat.reduceEqDiff, Nat.reduceBEq, Nat.reduceBNe, Int.reduceToNat, Int.reduceLE, Int.reduceLT, Int.reduceEq, Int.reduceNe, Int.reduceNeg, Nat.reducePow, Int.reducePow, reduceIte, reduceCtorEq, ↓tc25, ↓td25, ↓tc34, ↓td34, ↓tc76, ↓td76, ↓tc95, ↓td95, ↓tc103, ↓td103, List.length_map]
  obtain ⟨o, hwo⟩ : ∃ o, w2.o = o := ⟨_, rfl⟩
  rw [hwo]
  have hd3 : dAt L3 T3 (DiskM.new room) w2 := hd2.frame hst3 (fun _ _ h => h) (fun _ _ h => h)
  have hs3 : Step noS noS L T w2.S w2.R L3 T3 := (hst1.trans hst2).via hst3 (fun _ h => h.elim) (fun _ h => h.elim)
  have hF := few_len l
  refine awpLoop_intro (α := {q : Nat × LL × TT × MD × Own // q.1 ≤ (few l).length ∧ q.2.2.2.2.o = o ∧ dAt q.2.1 q.2.2.1 q.2.2.2.1 q.2.2.2.2 ∧ Step noS noS L T q.2.2.2.2.S q.2.2.2.2.R q.2.1 q.2.2.1 ∧ Sz q.1 q.2.2.2.1 ∧ Live q.2.2.2.1})
    (fun q => ⟨[.any, .any, .str name, .any, .any, .any, .bool false, .bool true, .box o 0, .any, .any, .any, .any, .any, .any, .any, .any, .any, .any, .any, .any, .any, .any, .any, .any, .any, .any, .any, .any, .any, .any, .list 7 ((few l).map actV) none, .int .i64 ((few l).length : Int), .int .i64 (q.1.1 : Int), .any, .any, .any, .any, .any, .any, .any, .any, .any, .any, .any, .any, .any, .any, .any, .any, .any, .any, .any, .any, .any, .any, .any, .any, .any, .any, .any, .any, .any, .any, .any, .any, .any, .any, .any, .any, .any, .any, .any, .any, .any, .any, .any, .any, .any, .any, .any, .any, .any, .any, .any, .any, .any, .any, .any, .any, .any, .any, .any, .any, .any, .any, .any, .any, .any, .any, .any, .any, .any, .any, .any, .any, .any, .any, .any, .any, .any, .any, .any, .any, .any, .any, .any, .any, .any, .any, .any, .any, .any, .any, .any, .any, .any, .any, .any, .any, .any, .any, .any, .any, .any, .any, .any, .any, .any, .any, .any, .any, .any, .any, .any, .any, .any, .any, .any, .any, .any, .any, .any, .any], q.1.2.1, q.1.2.2.1⟩) (fun q => (few l).length - q.1.1)
    ⟨(0, L3, T3, DiskM.new room, w2), Nat.zero_le _, hwo, hd3, hs3, ⟨by simp [DiskM.new], by simp [DiskM.new], Nat.le_refl 0, by simp [DiskM.new]⟩, rfl, rfl⟩ ?_ ?_ (fun q => ⟨q.2.2.2.2.1.len, q.2.2.2.2.1.tlen⟩)
  · simp (config := { maxSteps := 2000000 }) only [bitvec_to_nat, ↓r_ifTrue, ↓r_ifFalse, Nat.reduceAdd, Nat.reduceSub, Nat.reduceMul, Nat.reduceLT, Nat.reduceLeDiff, Nat.reduceEqDiff, Nat.reduceBEq, Nat.reduceBNe, Int.reduceToNat, Int.reduceLE, Int.reduceLT, Int.reduceEq, Int.reduceNe, Int.reduceNeg, Nat.reducePow, Int.reducePow, reduceIte, reduceCtorEq, ↓tc25, ↓td25, ↓tc34, ↓td34, ↓tc76, ↓td76, ↓tc95, ↓td95, ↓tc103, ↓td103, leLL_self]
    simp
  · rintro ⟨⟨i, L4, T4, M, w⟩, hi, how, hd, hst, hsz, hlv⟩
    simp only at hi how hd hst hsz hlv
    by_cases him : i < (few l).length
    · have hdc : decide ((i : Int) < ((few l).length : Int)) = true := decide_eq_true (by omega)
      obtain ⟨a, ha⟩ : ∃ a, (few l)[i]? = some a := ⟨_, List.getElem?_eq_getElem him⟩
      obtain ⟨ham, hal⟩ := few_mem (List.mem_of_getElem? ha)
      have hgd : ((few l).map actV).getD i .any = .agg [.int .u8 a.kind.toNat, .str a.name, .str a.to, .bytes a.b none, .int .i64 a.n, .int .i64 a.w.names, wbV a.w.bytes] := by
        rw [List.getD_eq_getElem?_getD, List.getElem?_map, ha]; rfl
      have hmod : ((a.kind.toNat : Nat) : Int).tmod 13 = ((a.kind.toNat % 13 : Nat) : Int) := rfl
      have hi1 : IntKind.i64.wrap ((i : Int) + 1) = ((i + 1 : Nat) : Int) := by rw [i64w (by omega) (by omega)]; omega
      have hd5 : dAt (L4 ++ [[.int .u8 a.kind.toNat, .str a.name, .str a.to, .bytes a.b none, .int .i64 a.n, .int .i64 a.w.names, wbV a.w.bytes]]) T4 M w := hd.frame ((Step.refl noS noS L4 T4).app _) (fun _ _ h => h) (fun _ _ h => h)
      unfold wbV at hgd hd5
      simp (config := { maxSteps := 2000000 }) only [bitvec_to_nat, ↓r_ifTrue, ↓r_ifFalse, Nat.reduceAdd, Nat.reduceSub, Nat.reduceMul, Nat.reduceLT, Nat.reduceLeDiff, Nat.reduceEqDiff, Nat.reduceBEq, Nat.reduceBNe, Int.reduceToNat, Int.reduceLE, Int.reduceLT, Int.reduceEq, Int.reduceNe, Int.reduceNeg, Nat.reducePow, Int.reducePow, reduceIte, reduceCtorEq, ↓tc25, ↓td25, ↓tc34, ↓td34, ↓tc76, ↓td76, ↓tc95, ↓td95, ↓tc103, ↓td103, hdc, hgd, Int.toNat_natCast, List.length_map, hmod, hi1]
      have h10i : ((a.kind.toNat % 13 : Nat) : Int) = 10 ↔ a.kind.toNat % 13 = 10 := by omega
      refine ⟨⟨by omega, by omega⟩, awpIf_intro (fun h10 => ?_) (fun h10 => ?_)⟩ <;> simp only [decide_eq_true_eq, decide_eq_false_iff_not, h10i] at h10
      · refine ⟨⟨(i + 1, _, T4, M, w), him, how, hd5, hst.app _, hsz.mono (Nat.le_succ _), hlv⟩, ?_, by simp only; omega⟩
        simp (config := { maxSteps := 2000000 }) only [bitvec_to_nat, ↓r_ifTrue, ↓r_ifFalse, Nat.reduceAdd, Nat.reduceSub, Nat.reduceMul, Nat.reduceLT, Nat.reduceLeDiff, Nat.reduceEqDiff, Nat.reduceBEq, Nat.reduceBNe, Int.reduceToNat, Int.reduceLE, Int.reduceLT, Int.reduceEq, Int.reduceNe, Int.reduceNeg, Nat.reducePow, Int.reducePow, reduceIte, reduceCtorEq, ↓tc25, ↓td25, ↓tc34, ↓td34, ↓tc76, ↓td76, ↓tc95, ↓td95, ↓tc103, ↓td103, leLL_self]
      · refine ⟨M, w, a, by rw [how]; rfl, small_ok ham (hn a hal), hd5, hsz.small (by omega), fun L6 T6 w6 ho6 hd6 hst6 => ?_⟩
        rw [how] at ho6
        have hst7 : Step noS noS L T w6.S w6.R L6 T6 := (hst.app _).trans hst6
        refine ⟨⟨(i + 1, L6, T6, (act M a).1, w6), him, ho6, hd6, hst7, act_sz hsz hd.ok ham, act_live hlv h10⟩, ?_, by simp only; omega⟩
        simp (config := { maxSteps := 2000000 }) only [bitvec_to_nat, ↓r_ifTrue, ↓r_ifFalse, Nat.reduceAdd, Nat.reduceSub, Nat.reduceMul, Nat.reduceLT, Nat.reduceLeDiff, Nat.reduceEqDiff, Nat.reduceBEq, Nat.reduceBNe, Int.reduceToNat, Int.reduceLE, Int.reduceLT, Int.reduceEq, Int.reduceNe, Int.reduceNeg, Nat.reducePow, Int.reducePow, reduceIte, reduceCtorEq, ↓tc25, ↓td25, ↓tc34, ↓td34, ↓tc76, ↓td76, ↓tc95, ↓td95, ↓tc103, ↓td103, leLL_self]
    · have hdc : decide ((i : Int) < ((few l).length : Int)) = false := decide_eq_false (by omega)
      simp (config := { maxSteps := 2000000 }) only [bitvec_to_nat, ↓r_ifTrue, ↓r_ifFalse, Nat.reduceAdd, Nat.reduceSub, Nat.reduceMul, Nat.reduceLT, Nat.reduceLeDiff, Nat.reduceEqDiff, Nat.reduceBEq, Nat.reduceBNe, Int.reduceToNat, Int.reduceLE, Int.reduceLT, Int.reduceEq, Int.reduceNe, Int.reduceNeg, Nat.reducePow, Int.reducePow, reduceIte, reduceCtorEq, ↓tc25, ↓td25, ↓tc34, ↓td34, ↓tc76, ↓td76, ↓tc95, ↓td95, ↓tc103, ↓td103, hdc]
      have hsm : Small M := hsz.small (by omega)
      obtain ⟨n1, n2⟩ := names_live hlv
      refine op_o how rfl hd hsm fun L5 T5 w5 ho5 hd5 hst5 => ?_
      simp only [n1, n2, code_V, Int.natCast_zero] at hd5 ⊢
      have hst6 := hst.trans hst5
      obtain ⟨ns, hns⟩ : ∃ ns, M.now.map (·.1) = ns := ⟨_, rfl⟩
      have hrise : ns.Pairwise (· < ·) := hns ▸ now_rise hd.ok
      have hnl : ns.length ≤ 1099511627776 := by
        have q1 := now_len hd.ok
        have q2 := hsm.nf
        rw [← hns, List.length_map]; omega
      rw [hns]
      simp (config := { maxSteps := 2000000 }) only [bitvec_to_nat, ↓r_ifTrue, ↓r_ifFalse, Nat.reduceAdd, Nat.reduceSub, Nat.reduceMul, Nat.reduceLT, Nat.reduceLeDiff, Nat.reduceEqDiff, Nat.reduceBEq, Nat.reduceBNe, Int.reduceToNat, Int.reduceLE, Int.reduceLT, Int.reduceEq, Int.reduceNe, Int.reduceNeg, Nat.reducePow, Int.reducePow, reduceIte, reduceCtorEq, ↓tc25, ↓td25, ↓tc34, ↓td34, ↓tc76, ↓td76, ↓tc95, ↓td95, ↓tc103, ↓td103, List.length_map]
      refine awpLoop_intro (α := {q : Nat × LL × TT × Own // q.1 ≤ ns.length ∧ q.2.2.2.o = o ∧ dAt q.2.1 q.2.2.1 M q.2.2.2 ∧ Step noS noS L T q.2.2.2.S q.2.2.2.R q.2.1 q.2.2.1})
        (fun q => ⟨[.any, .any, .str name, .any, .any, .any, .bool false, .bool true, .box o 0, .any, .any, .list 1 (ns.map .str) none, .int .i64 0, .bool (decide (name ∈ ns.take q.1.1)), .any, .any, .any, .any, .any, .any, .any, .any, .any, .any, .any, .any, .any, .any, .any, .any, .any, .any, .any, .any, .any, .any, .any, .any, .any, .any, .any, .any, .any, .any, .any, .any, .any, .any, .any, .any, .list 1 (ns.map .str) none, .int .i64 (ns.length : Int), .int .i64 (q.1.1 : Int), .any, .any, .any, .any, .any, .any, .any, .any, .any, .any, .any, .any, .any, .any, .any, .any, .any, .any, .any, .any, .any, .any, .any, .any, .any, .any, .any, .any, .any, .any, .any, .any, .any, .any, .any, .any, .any, .any, .any, .any, .any, .any, .any, .any, .any, .any, .any, .any, .any, .any, .any, .any, .any, .any, .any, .any, .any, .any, .any, .any, .any, .any, .any, .any, .any, .any, .any, .any, .any, .any, .any, .any, .any, .any, .any, .any, .any, .any, .any, .any, .any, .any, .any, .any, .any, .any, .any, .any, .any, .any, .any, .any, .any, .any, .any, .any, .any, .any, .any, .any, .any], q.1.2.1, q.1.2.2.1⟩) (fun q => ns.length - q.1.1)
        ⟨(0, L5, T5, w5), Nat.zero_le _, ho5, hd5, hst6⟩ ?_ ?_ (fun q => ⟨q.2.2.2.2.len, q.2.2.2.2.tlen⟩)
      · simp (config := { maxSteps := 2000000 }) only [bitvec_to_nat, ↓r_ifTrue, ↓r_ifFalse, Nat.reduceAdd, Nat.reduceSub, Nat.reduceMul, Nat.reduceLT, Nat.reduceLeDiff, Nat.reduceEqDiff, Nat.reduceBEq, Nat.reduceBNe, Int.reduceToNat, Int.reduceLE, Int.reduceLT, Int.reduceEq, Int.reduceNe, Int.reduceNeg, Nat.reducePow, Int.reducePow, reduceIte, reduceCtorEq, ↓tc25, ↓td25, ↓tc34, ↓td34, ↓tc76, ↓td76, ↓tc95, ↓td95, ↓tc103, ↓td103, leLL_self]
        simp
      · rintro ⟨⟨j, L7, T7, w7⟩, hj, ho7, hd7, hst7⟩
        simp only at hj ho7 hd7 hst7
        by_cases hjm : j < ns.length
        · have hdc : decide ((j : Int) < (ns.length : Int)) = true := decide_eq_true (by omega)
          have hgd : (ns.map V.str).getD j .any = .str ns[j] := by
            rw [List.getD_eq_getElem?_getD, List.getElem?_map, List.getElem?_eq_getElem hjm]; rfl
          simp (config := { maxSteps := 2000000 }) only [bitvec_to_nat, ↓r_ifTrue, ↓r_ifFalse, Nat.reduceAdd, Nat.reduceSub, Nat.reduceMul, Nat.reduceLT, Nat.reduceLeDiff, Nat.reduceEqDiff, Nat.reduceBEq, Nat.reduceBNe, Int.reduceToNat, Int.reduceLE, Int.reduceLT, Int.reduceEq, Int.reduceNe, Int.reduceNeg, Nat.reducePow, Int.reducePow, reduceIte, reduceCtorEq, ↓tc25, ↓td25, ↓tc34, ↓td34, ↓tc76, ↓td76, ↓tc95, ↓td95, ↓tc103, ↓td103, hdc, hgd, Int.toNat_natCast, List.length_map]
          refine ⟨⟨by omega, by omega⟩, ?_⟩
          have hfnd : (nfind M.now ns[j]).isSome = true := (find_iff _).2 (by rw [hns]; exact List.getElem_mem hjm)
          have hj1 : IntKind.i64.wrap ((j : Int) + 1) = ((j + 1 : Nat) : Int) := by rw [i64w (by omega) (by omega)]; omega
          have htk : name ∈ ns.take (j + 1) ↔ name ∈ ns.take j ∨ ns[j] = name := by
            rw [List.take_succ_eq_append_getElem hjm, List.mem_append, List.mem_singleton, eq_comm]
          refine op_o ho7 rfl hd7 hsm fun L8 T8 w8 ho8 hd8 hst8 => ?_
          simp only [read_live hlv, hfnd, if_true, code_V, Int.natCast_zero] at hd8 ⊢
          have hst9 := hst7.trans hst8
          by_cases hj0 : j = 0
          · subst hj0
            simp (config := { maxSteps := 2000000 }) only [bitvec_to_nat, ↓r_ifTrue, ↓r_ifFalse, Nat.reduceAdd, Nat.reduceSub, Nat.reduceMul, Nat.reduceLT, Nat.reduceLeDiff, Nat.reduceEqDiff, Nat.reduceBEq, Nat.reduceBNe, Int.reduceToNat, Int.reduceLE, Int.reduceLT, Int.reduceEq, Int.reduceNe, Int.reduceNeg, Nat.reducePow, Int.reducePow, reduceIte, reduceCtorEq, ↓tc25, ↓td25, ↓tc34, ↓td34, ↓tc76, ↓td76, ↓tc95, ↓td95, ↓tc103, ↓td103, hj1, Int.natCast_zero]
            refine ⟨⟨(0 + 1, L8, T8, w8), by omega, ho8, hd8, hst9⟩, ?_, by simp only; omega⟩
            simp (config := { maxSteps := 2000000 }) only [bitvec_to_nat, ↓r_ifTrue, ↓r_ifFalse, Nat.reduceAdd, Nat.reduceSub, Nat.reduceMul, Nat.reduceLT, Nat.reduceLeDiff, Nat.reduceEqDiff, Nat.reduceBEq, Nat.reduceBNe, Int.reduceToNat, Int.reduceLE, Int.reduceLT, Int.reduceEq, Int.reduceNe, Int.reduceNeg, Nat.reducePow, Int.reducePow, reduceIte, reduceCtorEq, ↓tc25, ↓td25, ↓tc34, ↓td34, ↓tc76, ↓td76, ↓tc95, ↓td95, ↓tc103, ↓td103, leLL_self]
            refine ⟨decide_eq_decide.2 ?_, ?_⟩
            · rw [htk]; simp
            · decide
          · have hjp : decide ((0 : Int) < (j : Int)) = true := decide_eq_true (by omega)
            have hjw : IntKind.i64.wrap ((j : Int) - 1) = ((j - 1 : Nat) : Int) := by rw [i64w (by omega) (by omega)]; omega
            have hjl : j - 1 < ns.length := by omega
            have hgd2 : (ns.map V.str).getD (j - 1) .any = .str ns[j - 1] := by
              rw [List.getD_eq_getElem?_getD, List.getElem?_map, List.getElem?_eq_getElem hjl]; rfl
            have hlt : ns[j - 1] < ns[j] := List.pairwise_iff_getElem.1 hrise _ _ hjl hjm (by omega)
            have hless : Op.bytesLess ns[j - 1] ns[j] = true := by
              rw [bytesLess_eq]; exact decide_eq_true hlt
            simp (config := { maxSteps := 2000000 }) only [bitvec_to_nat, ↓r_ifTrue, ↓r_ifFalse, Nat.reduceAdd, Nat.reduceSub, Nat.reduceMul, Nat.reduceLT, Nat.reduceLeDiff, Nat.reduceEqDiff, Nat.reduceBEq, Nat.reduceBNe, Int.reduceToNat, Int.reduceLE, Int.reduceLT, Int.reduceEq, Int.reduceNe, Int.reduceNeg, Nat.reducePow, Int.reducePow, reduceIte, reduceCtorEq, ↓tc25, ↓td25, ↓tc34, ↓td34, ↓tc76, ↓td76, ↓tc95, ↓td95, ↓tc103, ↓td103, hj1, hjp, hjw, hgd2, Int.toNat_natCast, List.length_map, hless]
            refine ⟨⟨by omega, by omega⟩, ?_⟩
            refine awpIf_intro (fun hin => ?_) (fun hin => ?_) <;> simp only [decide_eq_true_eq, decide_eq_false_iff_not] at hin
            · refine ⟨⟨(j + 1, L8, T8, w8), by omega, ho8, hd8, hst9⟩, ?_, by simp only; omega⟩
              simp (config := { maxSteps := 2000000 }) only [bitvec_to_nat, ↓r_ifTrue, ↓r_ifFalse, Nat.reduceAdd, Nat.reduceSub, Nat.reduceMul, Nat.reduceLT, Nat.reduceLeDiff, Nat.reduceEqDiff, Nat.reduceBEq, Nat.reduceBNe, Int.reduceToNat, Int.reduceLE, Int.reduceLT, Int.reduceEq, Int.reduceNe, Int.reduceNeg, Nat.reducePow, Int.reducePow, reduceIte, reduceCtorEq, ↓tc25, ↓td25, ↓tc34, ↓td34, ↓tc76, ↓td76, ↓tc95, ↓td95, ↓tc103, ↓td103, leLL_self]
              exact (decide_eq_true (htk.2 (.inl hin))).symm
            · refine ⟨⟨(j + 1, L8, T8, w8), by omega, ho8, hd8, hst9⟩, ?_, by simp only; omega⟩
              simp (config := { maxSteps := 2000000 }) only [bitvec_to_nat, ↓r_ifTrue, ↓r_ifFalse, Nat.reduceAdd, Nat.reduceSub, Nat.reduceMul, Nat.reduceLT, Nat.reduceLeDiff, Nat.reduceEqDiff, Nat.reduceBEq, Nat.reduceBNe, Int.reduceToNat, Int.reduceLE, Int.reduceLT, Int.reduceEq, Int.reduceNe, Int.reduceNeg, Nat.reducePow, Int.reducePow, reduceIte, reduceCtorEq, ↓tc25, ↓td25, ↓tc34, ↓td34, ↓tc76, ↓td76, ↓tc95, ↓td95, ↓tc103, ↓td103, leLL_self]
              exact decide_eq_decide.2 (by rw [htk]; simp [hin])
        · have hdc : decide ((j : Int) < (ns.length : Int)) = false := decide_eq_false (by omega)
          have hje : j = ns.length := by omega
          subst hje
          simp (config := { maxSteps := 2000000 }) only [bitvec_to_nat, ↓r_ifTrue, ↓r_ifFalse, Nat.reduceAdd, Nat.reduceSub, Nat.reduceMul, Nat.reduceLT, Nat.reduceLeDiff, Nat.reduceEqDiff, Nat.reduceBEq, Nat.reduceBNe, Int.reduceToNat, Int.reduceLE, Int.reduceLT, Int.reduceEq, Int.reduceNe, Int.reduceNeg, Nat.reducePow, Int.reducePow, reduceIte, reduceCtorEq, ↓tc25, ↓td25, ↓tc34, ↓td34, ↓tc76, ↓td76, ↓tc95, ↓td95, ↓tc103, ↓td103, hdc, List.take_length]
          have hin : name ∈ ns ↔ (nfind M.now name).isSome = true := by rw [find_iff, hns]
          have hcr := create_live hlv name
          have hlw : IntKind.i64.wrap ((ns.length : Int) + 1) = ((ns.length + 1 : Nat) : Int) := by rw [i64w (by omega) (by omega)]; omega
          have hle : decide ((ns.length : Int) = ((ns.length + 1 : Nat) : Int)) = false := decide_eq_false (by omega)
          by_cases hr : right name
          · have h0 : name ≠ [] := hr.1
            have hr1 : decide ((1 : Int) ≤ (name.length : Int)) = true := decide_eq_true (by have := List.length_pos_iff.2 h0; omega)
            have hr2 : decide ((name.length : Int) ≤ 32) = true := decide_eq_true (by have := hr.2; omega)
            have hkk : (DiskL.Act.mk 7 name [] [] 0 ⟨0, []⟩).small := ⟨by simp, by have := hr.2; show name.length ≤ 40; omega, by simp, by simp⟩
            have hkk0 : (DiskL.Act.mk 0 name [] [] 0 ⟨0, []⟩).small := hkk
            by_cases hmem : name ∈ ns
            · have ec : M.create name = (M, 4) := by rw [hcr, if_neg (by simpa using hr), if_pos (hin.1 hmem)]
              have hdm : decide (name ∈ ns) = true := decide_eq_true hmem
              have er : M.remove name = (M.does ⟨name, [], 0⟩, 0) := by rw [remove_live hlv, if_pos (hin.1 hmem)]
              have hgone : (nfind (M.does ⟨name, [], 0⟩).now name).isSome = false := by rw [gone_now h0, nfind_without, if_pos rfl]; rfl
              have ea : act M ⟨7, name, [], [], 0, ⟨0, []⟩⟩ = (M.does ⟨name, [], 0⟩, 0) := er
              have sz3 := act_sz hsz hd.ok hkk
              have lv3 := act_live hlv (a := ⟨7, name, [], [], 0, ⟨0, []⟩⟩) (show (7 : UInt8).toNat % 13 ≠ 10 by decide)
              rw [ea] at sz3 lv3
              refine op_o ho7 rfl hd7 hsm fun L8 T8 w8 ho8 hd8 hst8 => ?_
              simp only [ec, code_V, Int.natCast_zero, Int.cast_ofNat_Int] at hd8 ⊢
              refine op_o ho8 rfl hd8 hsm fun L9 T9 w9 ho9 hd9 hst9 => ?_
              simp only [n1, n2, hns, code_V, Int.natCast_zero] at hd9 ⊢
              simp (config := { maxSteps := 2000000 }) only [bitvec_to_nat, ↓r_ifTrue, ↓r_ifFalse, Nat.reduceAdd, Nat.reduceSub, Nat.reduceMul, Nat.reduceLT, Nat.reduceLeDiff, Nat.reduceEqDiff, Nat.reduceBEq, Nat.reduceBNe, Int.reduceToNat, Int.reduceLE, Int.reduceLT, Int.reduceEq, Int.reduceNe, Int.reduceNeg, Nat.reducePow, Int.reducePow, reduceIte, reduceCtorEq, ↓tc25, ↓td25, ↓tc34, ↓td34, ↓tc76, ↓td76, ↓tc95, ↓td95, ↓tc103, ↓td103, List.length_map, hdm, Int.cast_ofNat_Int, hr1, hr2, hlw, hle, beq_tf, beq_ft]
              refine op_o ho9 rfl hd9 hsm fun L10 T10 w10 ho10 hd10 hst10 => ?_
              simp only [er, code_V, Int.natCast_zero, Int.cast_ofNat_Int] at hd10 ⊢
              refine op_o ho10 rfl hd10 (sz3.small (by omega)) fun L11 T11 w11 ho11 hd11 hst11 => ?_
              simp only [read_live lv3, hgone, Bool.false_eq_true, if_false, code_V, Int.cast_ofNat_Int] at hd11 ⊢
              simp (config := { maxSteps := 2000000 }) only [bitvec_to_nat, ↓r_ifTrue, ↓r_ifFalse, Nat.reduceAdd, Nat.reduceSub, Nat.reduceMul, Nat.reduceLT, Nat.reduceLeDiff, Nat.reduceEqDiff, Nat.reduceBEq, Nat.reduceBNe, Int.reduceToNat, Int.reduceLE, Int.reduceLT, Int.reduceEq, Int.reduceNe, Int.reduceNeg, Nat.reducePow, Int.reducePow, reduceIte, reduceCtorEq, ↓tc25, ↓td25, ↓tc34, ↓td34, ↓tc76, ↓td76, ↓tc95, ↓td95, ↓tc103, ↓td103, hr1, hr2, Int.cast_ofNat_Int, beq_tf, beq_ft]
              exact ret_of ((((hst7.trans hst8).trans hst9).trans hst10).trans hst11) (hK _ _)
            · have hnf : (nfind M.now name).isSome = false := by cases hx : (nfind M.now name).isSome with
                | false => rfl
                | true => exact absurd (hin.2 hx) hmem
              have ec : M.create name = (M.newFile.does ⟨[], name, M.files.length⟩, 0) := by rw [hcr, if_neg (by simpa using hr), if_neg (by rw [hnf]; simp)]
              have hdm : decide (name ∈ ns) = false := decide_eq_false hmem
              obtain ⟨m1, m2⟩ := made_now hd.ok hr (by rw [hns]; exact hmem)
              obtain ⟨M2, hM2⟩ : ∃ M2, M.newFile.does ⟨[], name, M.files.length⟩ = M2 := ⟨_, rfl⟩
              rw [hM2] at ec m1
              have ea2 : act M ⟨0, name, [], [], 0, ⟨0, []⟩⟩ = (M2, 0) := ec
              have sz2 := act_sz hsz hd.ok hkk0
              have lv2 := act_live hlv (a := ⟨0, name, [], [], 0, ⟨0, []⟩⟩) (show (0 : UInt8).toNat % 13 ≠ 10 by decide)
              rw [ea2] at sz2 lv2
              obtain ⟨k1, k2⟩ := names_live lv2
              have hl2 : (M2.now.map (·.1)).length = ns.length + 1 := by rw [List.length_map, m1, m2, ← hns, List.length_map]
              have hfd : (nfind M2.now name).isSome = true := by rw [m1, nfind_with, if_pos rfl]; rfl
              have er : M2.remove name = (M2.does ⟨name, [], 0⟩, 0) := by rw [remove_live lv2, if_pos hfd]
              have hgone : (nfind (M2.does ⟨name, [], 0⟩).now name).isSome = false := by rw [gone_now h0, nfind_without, if_pos rfl]; rfl
              refine op_o ho7 rfl hd7 hsm fun L8 T8 w8 ho8 hd8 hst8 => ?_
              simp only [ec, code_V, Int.natCast_zero, Int.cast_ofNat_Int] at hd8 ⊢
              refine op_o ho8 rfl hd8 (sz2.small (by omega)) fun L9 T9 w9 ho9 hd9 hst9 => ?_
              simp only [k1, k2, code_V, Int.natCast_zero] at hd9 ⊢
              have ea : act M2 ⟨7, name, [], [], 0, ⟨0, []⟩⟩ = (M2.does ⟨name, [], 0⟩, 0) := er
              have sz3 := act_sz sz2 hd9.ok hkk
              have lv3 := act_live lv2 (a := ⟨7, name, [], [], 0, ⟨0, []⟩⟩) (show (7 : UInt8).toNat % 13 ≠ 10 by decide)
              rw [ea] at sz3 lv3
              have hll : decide (((M2.now.map (·.1)).length : Int) = ((ns.length + 1 : Nat) : Int)) = true := decide_eq_true (by rw [hl2])
              rw [List.length_map] at hll
              simp (config := { maxSteps := 2000000 }) only [bitvec_to_nat, ↓r_ifTrue, ↓r_ifFalse, Nat.reduceAdd, Nat.reduceSub, Nat.reduceMul, Nat.reduceLT, Nat.reduceLeDiff, Nat.reduceEqDiff, Nat.reduceBEq, Nat.reduceBNe, Int.reduceToNat, Int.reduceLE, Int.reduceLT, Int.reduceEq, Int.reduceNe, Int.reduceNeg, Nat.reducePow, Int.reducePow, reduceIte, reduceCtorEq, ↓tc25, ↓td25, ↓tc34, ↓td34, ↓tc76, ↓td76, ↓tc95, ↓td95, ↓tc103, ↓td103, List.length_map, hdm, Int.cast_ofNat_Int, hr1, hr2, hlw, hll, beq_tf, beq_ft]
              refine op_o ho9 rfl hd9 (sz2.small (by omega)) fun L10 T10 w10 ho10 hd10 hst10 => ?_
              simp only [er, code_V, Int.natCast_zero, Int.cast_ofNat_Int] at hd10 ⊢
              refine op_o ho10 rfl hd10 (sz3.small (by omega)) fun L11 T11 w11 ho11 hd11 hst11 => ?_
              simp only [read_live lv3, hgone, Bool.false_eq_true, if_false, code_V, Int.cast_ofNat_Int] at hd11 ⊢
              simp (config := { maxSteps := 2000000 }) only [bitvec_to_nat, ↓r_ifTrue, ↓r_ifFalse, Nat.reduceAdd, Nat.reduceSub, Nat.reduceMul, Nat.reduceLT, Nat.reduceLeDiff, Nat.reduceEqDiff, Nat.reduceBEq, Nat.reduceBNe, Int.reduceToNat, Int.reduceLE, Int.reduceLT, Int.reduceEq, Int.reduceNe, Int.reduceNeg, Nat.reducePow, Int.reducePow, reduceIte, reduceCtorEq, ↓tc25, ↓td25, ↓tc34, ↓td34, ↓tc76, ↓td76, ↓tc95, ↓td95, ↓tc103, ↓td103, hr1, hr2, Int.cast_ofNat_Int, beq_tf, beq_ft]
              exact ret_of ((((hst7.trans hst8).trans hst9).trans hst10).trans hst11) (hK _ _)
          · have hmem : name ∉ ns := fun hm => hr (by
              rw [← hns] at hm
              obtain ⟨e, he, rfl⟩ := List.mem_map.1 hm
              exact now_right hd.ok e he)
            have hdm : decide (name ∈ ns) = false := decide_eq_false hmem
            have hgone : (nfind M.now name).isSome = false := by cases hx : (nfind M.now name).isSome with
              | false => rfl
              | true => exact absurd (hin.2 hx) hmem
            have ec : M.create name = (M, 1) := by rw [hcr, if_pos hr]
            have er : M.remove name = (M, 2) := by rw [remove_live hlv, if_neg (by rw [hgone]; simp)]
            refine op_o ho7 rfl hd7 hsm fun L8 T8 w8 ho8 hd8 hst8 => ?_
            simp only [ec, code_V, Int.natCast_zero, Int.cast_ofNat_Int] at hd8 ⊢
            refine op_o ho8 rfl hd8 hsm fun L9 T9 w9 ho9 hd9 hst9 => ?_
            simp only [n1, n2, hns, code_V, Int.natCast_zero] at hd9 ⊢
            by_cases h0 : name = []
            · have hr1 : decide ((1 : Int) ≤ (name.length : Int)) = false := decide_eq_false (by rw [h0]; simp)
              have hr2 : True := trivial
              simp (config := { maxSteps := 2000000 }) only [bitvec_to_nat, ↓r_ifTrue, ↓r_ifFalse, Nat.reduceAdd, Nat.reduceSub, Nat.reduceMul, Nat.reduceLT, Nat.reduceLeDiff, Nat.reduceEqDiff, Nat.reduceBEq, Nat.reduceBNe, Int.reduceToNat, Int.reduceLE, Int.reduceLT, Int.reduceEq, Int.reduceNe, Int.reduceNeg, Nat.reducePow, Int.reducePow, reduceIte, reduceCtorEq, ↓tc25, ↓td25, ↓tc34, ↓td34, ↓tc76, ↓td76, ↓tc95, ↓td95, ↓tc103, ↓td103, List.length_map, hdm, Int.cast_ofNat_Int, hr1, hlw, hle, beq_tf, beq_ft]
              refine op_o ho9 rfl hd9 hsm fun L10 T10 w10 ho10 hd10 hst10 => ?_
              simp only [er, code_V, Int.natCast_zero, Int.cast_ofNat_Int] at hd10 ⊢
              refine op_o ho10 rfl hd10 hsm fun L11 T11 w11 ho11 hd11 hst11 => ?_
              simp only [read_live hlv, hgone, Bool.false_eq_true, if_false, code_V, Int.cast_ofNat_Int] at hd11 ⊢
              simp (config := { maxSteps := 2000000 }) only [bitvec_to_nat, ↓r_ifTrue, ↓r_ifFalse, Nat.reduceAdd, Nat.reduceSub, Nat.reduceMul, Nat.reduceLT, Nat.reduceLeDiff, Nat.reduceEqDiff, Nat.reduceBEq, Nat.reduceBNe, Int.reduceToNat, Int.reduceLE, Int.reduceLT, Int.reduceEq, Int.reduceNe, Int.reduceNeg, Nat.reducePow, Int.reducePow, reduceIte, reduceCtorEq, ↓tc25, ↓td25, ↓tc34, ↓td34, ↓tc76, ↓td76, ↓tc95, ↓td95, ↓tc103, ↓td103, hr1, hr2, Int.cast_ofNat_Int, beq_tf, beq_ft]
              exact ret_of ((((hst7.trans hst8).trans hst9).trans hst10).trans hst11) (hK _ _)
            · have hr1 : decide ((1 : Int) ≤ (name.length : Int)) = true := decide_eq_true (by have := List.length_pos_iff.2 h0; omega)
              have hr2 : decide ((name.length : Int) ≤ 32) = false := decide_eq_false (fun h => hr ⟨h0, by omega⟩)
              simp (config := { maxSteps := 2000000 }) only [bitvec_to_nat, ↓r_ifTrue, ↓r_ifFalse, Nat.reduceAdd, Nat.reduceSub, Nat.reduceMul, Nat.reduceLT, Nat.reduceLeDiff, Nat.reduceEqDiff, Nat.reduceBEq, Nat.reduceBNe, Int.reduceToNat, Int.reduceLE, Int.reduceLT, Int.reduceEq, Int.reduceNe, Int.reduceNeg, Nat.reducePow, Int.reducePow, reduceIte, reduceCtorEq, ↓tc25, ↓td25, ↓tc34, ↓td34, ↓tc76, ↓td76, ↓tc95, ↓td95, ↓tc103, ↓td103, List.length_map, hdm, Int.cast_ofNat_Int, hr1, hr2, hlw, hle, beq_tf, beq_ft]
              refine op_o ho9 rfl hd9 hsm fun L10 T10 w10 ho10 hd10 hst10 => ?_
              simp only [er, code_V, Int.natCast_zero, Int.cast_ofNat_Int] at hd10 ⊢
              refine op_o ho10 rfl hd10 hsm fun L11 T11 w11 ho11 hd11 hst11 => ?_
              simp only [read_live hlv, hgone, Bool.false_eq_true, if_false, code_V, Int.cast_ofNat_Int] at hd11 ⊢
              simp (config := { maxSteps := 2000000 }) only [bitvec_to_nat, ↓r_ifTrue, ↓r_ifFalse, Nat.reduceAdd, Nat.reduceSub, Nat.reduceMul, Nat.reduceLT, Nat.reduceLeDiff, Nat.reduceEqDiff, Nat.reduceBEq, Nat.reduceBNe, Int.reduceToNat, Int.reduceLE, Int.reduceLT, Int.reduceEq, Int.reduceNe, Int.reduceNeg, Nat.reducePow, Int.reducePow, reduceIte, reduceCtorEq, ↓tc25, ↓td25, ↓tc34, ↓td34, ↓tc76, ↓td76, ↓tc95, ↓td95, ↓tc103, ↓td103, hr1, hr2, Int.cast_ofNat_Int, beq_tf, beq_ft]
              exact ret_of ((((hst7.trans hst8).trans hst9).trans hst10).trans hst11) (hK _ _)
end Go.Proofs.Ytieeojipodefoaa.DiskL
