/-
  WHAT THE LAWS OF LAYER 4 SHARE.
-/
import Derived.Test.YtieeojipodefoaaAwX
import Derived.Test.YtieeojipodefoaaDiskR
import Derived.Test.YtieeojipodefoaaDiskE
namespace Go.Proofs.Ytieeojipodefoaa.DiskL
open Go Go.Proofs Go.Proofs.Ytieeojipodefoaa.Aw Go.Proofs.Ytieeojipodefoaa.Num Go.Proofs.Ytieeojipodefoaa.DiskM Go.Proofs.Ytieeojipodefoaa.DiskA Go.Proofs.Ytieeojipodefoaa.DiskK Go.Proofs.Ytieeojipodefoaa.DiskC Go.Proofs.Ytieeojipodefoaa.Disk
set_option linter.unusedSimpArgs false
set_option linter.unusedVariables false

def usedP : PM := obsP fun M => .int .i64 (M.used : Int)
theorem small_ok {a : Act} (h : a.small) (hn : a.n ≤ 9223372036854775807) : a.Ok := ⟨by have := h.1; omega, hn, by have := h.2.2.2; omega⟩
theorem few_mem {l : List Act} {a : Act} (h : a ∈ few l) : a.small ∧ a ∈ l := by
  unfold few at h
  obtain ⟨h1, h2⟩ := List.mem_filter.1 h
  exact ⟨of_decide_eq_true h2, List.mem_of_mem_take h1⟩
theorem few_len (l : List Act) : (few l).length ≤ 100 := by
  unfold few
  refine Nat.le_trans (List.length_filter_le _ _) ?_
  rw [List.length_take]; omega
/-- it is up, and stays so -/
def Live (M : MD) : Prop := M.down = false ∧ M.doomed = false
theorem begin_live {M : MD} (h : Live M) : M.begin = (M, true) := by simp [MD.begin, h.1, h.2]
theorem onFile_live {M : MD} (h : Live M) (n : Name) (X : MD → Nat → MD × Nat) (hX : ∀ f, Live (X M f).1) : Live (M.onFile n X).1 := by
  rcases onFile_cases M n X with e | e | ⟨f, _, _, e⟩
  · rw [e, begin_live h]; exact h
  · rw [e, begin_live h]; exact h
  · rw [e, begin_live h]; exact hX f
theorem act_live {M : MD} (h : Live M) {a : Act} (ha : a.kind.toNat % 13 ≠ 10) : Live (act M a).1 := by
  have hb := begin_live h
  unfold act
  split
  · simp only [MD.create, hb]
    split
    · exact h
    · split
      · exact h
      · split
        · exact h
        · exact h
  · exact onFile_live h _ _ fun f => h
  · exact onFile_live h _ _ fun f => h
  · refine onFile_live h _ _ fun f => ?_
    split
    · exact h
    · exact h
  · exact onFile_live h _ _ fun f => h
  · simp only [MD.syncNames, hb]
    split
    · exact h
    · exact h
  · simp only [MD.names, hb]
    split
    · exact h
    · exact h
  · rename_i hc; exact absurd hc ha
  · exact ⟨rfl, rfl⟩
  · simp only [MD.grow]
    split
    · exact h
    · exact h
  · refine onFile_live h _ _ fun f => ?_
    split
    · exact h
    · exact h
theorem act_sz {k : Nat} {M : MD} (h : Sz k M) (ok : M.Ok) {a : Act} (ha : a.small) : Sz (k + 1) (act M a).1 := by
  by_cases hk : a.kind.toNat % 13 = 12
  · have e : act M a = M.grow a.n := by simp only [act, hk]
    rw [e]
    unfold MD.grow
    split
    · exact h.mono (Nat.le_succ _)
    · exact (h.mono (Nat.le_succ _)).same rfl rfl rfl
  · exact (did_act h ok ha hk).sz
theorem names_live {M : MD} (h : Live M) : M.names = (M, 0) ∧ M.namesL = M.now.map (·.1) := by
  simp [MD.names, MD.namesL, begin_live h]
theorem read_live {M : MD} (h : Live M) {n : Name} : M.read n = (M, if (nfind M.now n).isSome then 0 else 2) := by
  unfold MD.read MD.onFile
  rw [begin_live h]
  cases nfind M.now n <;> simp
theorem create_live {M : MD} (h : Live M) (n : Name) : M.create n = if ¬ right n then (M, 1) else if (nfind M.now n).isSome then (M, 4) else (M.newFile.does ⟨[], n, M.files.length⟩, 0) := by
  unfold MD.create
  rw [begin_live h]
  simp [MD.newFile]
theorem remove_live {M : MD} (h : Live M) (n : Name) : M.remove n = if (nfind M.now n).isSome then (M.does ⟨n, [], 0⟩, 0) else (M, 2) := by
  unfold MD.remove MD.onFile
  rw [begin_live h]
  cases nfind M.now n <;> simp
theorem nins_len (l : Names) (n : Name) (f : Nat) : (nins l n f).length = l.length + 1 := by
  induction l with
  | nil => rfl
  | cons e r ih => unfold nins; split <;> simp [ih]
theorem find_iff {M : MD} (n : Name) : (nfind M.now n).isSome = true ↔ n ∈ M.now.map (·.1) := by
  constructor
  · intro h
    obtain ⟨f, hf⟩ := Option.isSome_iff_exists.1 h
    exact List.mem_map.2 ⟨_, nfind_mem hf, rfl⟩
  · intro h
    cases hf : nfind M.now n with
    | none => exact absurd h (nfind_none.1 hf)
    | some f => rfl
/-- names behind a file that is made -/
theorem made_now {M : MD} (ok : M.Ok) {n : Name} (hr : right n) (hn : n ∉ M.now.map (·.1)) : (M.newFile.does ⟨[], n, M.files.length⟩).now = nwith M.now n M.files.length ∧ (nwith M.now n M.files.length).length = M.now.length + 1 := by
  have h0 : n ≠ [] := hr.1
  refine ⟨?_, ?_⟩
  · rw [does_now]
    show chg M.now ⟨[], n, M.files.length⟩ = _
    simp [chg, cleft, cfile, h0]
  · unfold nwith
    rw [nins_len, without_eq (nfind_none.2 hn)]
theorem gone_now {M : MD} {n : Name} (hn : n ≠ []) : (M.does ⟨n, [], 0⟩).now = nwithout M.now n := by
  rw [does_now]
  simp [chg, cleft, hn]

def textsN : FM
  | [.list 1 a none, .list 1 b none] => some (∃ x y : List Name, a = x.map .str ∧ b = y.map .str ∧ x.length ≤ 9223372036854775807 ∧ x = y, .bool true, [])
  | _ => none
theorem texts_ok : FSound Try.prog 33 textsN := by
  refine fsound tysOk H0ok mix Try.func33 rfl ?_
  intro args p r fr hm hp
  unfold textsN at hm
  split at hm
  · rename_i a b
    cases hm
    obtain ⟨x, y, rfl, rfl, hl, rfl⟩ := hp
    simp (config := { maxSteps := 2000000 }) only [bitvec_to_nat, ↓r_ifTrue, ↓r_ifFalse, Nat.reduceAdd, Nat.reduceSub, Nat.reduceMul, Nat.reduceLT, Nat.reduceLeDiff, Nat.reduceEqDiff, Nat.reduceBEq, Nat.reduceBNe, Int.reduceToNat, Int.reduceLE, Int.reduceLT, Int.reduceEq, Int.reduceNe, Int.reduceNeg, Nat.reducePow, Int.reducePow, reduceIte, reduceCtorEq, ↓tc25, ↓td25, ↓tc34, ↓td34, ↓tc76, ↓td76, ↓tc95, ↓td95, ↓tc103, ↓td103, Try.f33, List.length_map]
    refine awpLoop_intro (α := {i : Nat // i ≤ x.length}) (fun i => ⟨[.list 1 (x.map .str) none, .list 1 (x.map .str) none, .any, .any, .any, .any, .any, .any, .any, .any, .any, .any, .int .i64 (x.length : Int), .int .i64 (i.1 : Int), .any, .any, .any, .any, .any, .any, .any, .any, .any, .any, .any, .any], [], []⟩) (fun i => x.length - i.1) ⟨0, by omega⟩ ?_ ?_
    · simp (config := { maxSteps := 2000000 }) only [bitvec_to_nat, ↓r_ifTrue, ↓r_ifFalse, Nat.reduceAdd, Nat.reduceSub, Nat.reduceMul, Nat.reduceLT, Nat.reduceLeDiff, Nat.reduceEqDiff, Nat.reduceBEq, Nat.reduceBNe, Int.reduceToNat, Int.reduceLE, Int.reduceLT, Int.reduceEq, Int.reduceNe, Int.reduceNeg, Nat.reducePow, Int.reducePow, reduceIte, reduceCtorEq, ↓tc25, ↓td25, ↓tc34, ↓td34, ↓tc76, ↓td76, ↓tc95, ↓td95, ↓tc103, ↓td103]
      simp
    · rintro ⟨i, hi⟩
      by_cases hlt : i < x.length
      · have hdc : decide ((i : Int) < (x.length : Int)) = true := decide_eq_true (by omega)
        have hgd : (x.map V.str).getD i .any = .str x[i] := by
          rw [List.getD_eq_getElem?_getD, List.getElem?_map, List.getElem?_eq_getElem hlt]; rfl
        have hi1 : IntKind.i64.wrap ((i : Int) + 1) = ((i + 1 : Nat) : Int) := by rw [i64w (by omega) (by omega)]; omega
        simp (config := { maxSteps := 2000000 }) only [bitvec_to_nat, ↓r_ifTrue, ↓r_ifFalse, Nat.reduceAdd, Nat.reduceSub, Nat.reduceMul, Nat.reduceLT, Nat.reduceLeDiff, Nat.reduceEqDiff, Nat.reduceBEq, Nat.reduceBNe, Int.reduceToNat, Int.reduceLE, Int.reduceLT, Int.reduceEq, Int.reduceNe, Int.reduceNeg, Nat.reducePow, Int.reducePow, reduceIte, reduceCtorEq, ↓tc25, ↓td25, ↓tc34, ↓td34, ↓tc76, ↓td76, ↓tc95, ↓td95, ↓tc103, ↓td103, hdc, hgd, Int.toNat_natCast, List.length_map, hi1]
        exact ⟨by kernel_rfl, ⟨by omega, by omega⟩, ⟨by omega, by omega⟩, ⟨i + 1, by omega⟩, rfl, by simp only; omega⟩
      · have hdc : decide ((i : Int) < (x.length : Int)) = false := decide_eq_false (by omega)
        simp (config := { maxSteps := 2000000 }) only [bitvec_to_nat, ↓r_ifTrue, ↓r_ifFalse, Nat.reduceAdd, Nat.reduceSub, Nat.reduceMul, Nat.reduceLT, Nat.reduceLeDiff, Nat.reduceEqDiff, Nat.reduceBEq, Nat.reduceBNe, Int.reduceToNat, Int.reduceLE, Int.reduceLT, Int.reduceEq, Int.reduceNe, Int.reduceNeg, Nat.reducePow, Int.reducePow, reduceIte, reduceCtorEq, ↓tc25, ↓td25, ↓tc34, ↓td34, ↓tc76, ↓td76, ↓tc95, ↓td95, ↓tc103, ↓td103, hdc]
  · cases hm
theorem doomF_some {n : Int} (h : n ≤ 9223372036854775807) : doomF [.int .i64 n] = some fun M => ((M.doom n).1, codeV (M.doom n).2) := if_pos h
theorem small_crash {M : MD} (h : Small M) (ok : M.Ok) (w : Wreck) : Small (M.crash w) := by
  obtain ⟨a1, a2, a3, a4, a5⟩ := at_ok ok w
  have hcu := crash_used M w
  have hle := crs_sum_le ok w (M.at w) 0
  have hsu := h.used
  refine ⟨by show ([] : List Chg).length ≤ _; simp, by omega, fun x hx => ?_, ?_⟩
  · have hx' : x ∈ crs M w (M.at w) 0 := by
      have : x ∈ (M.crash w).files := hx
      rw [crash_eq] at this
      exact this
    have : ∀ (l : Names) (j : Nat), x ∈ crs M w l j → x.1.length ≤ 1099511627776 := by
      intro l
      induction l with
      | nil => intro j hj; cases hj
      | cons e r ih =>
        intro j hj
        rcases List.mem_cons.1 hj with rfl | hj
        · have q := (DiskC.crashF_ok (wr := w) (i := j) (file_cut ok e.2)).2
          have := file_small h e.2
          omega
        · exact ih _ hj
    exact this _ _ hx'
  · rw [crash_eq]
    show (crs M w (M.at w) 0).length ≤ _
    rw [crs_len]
    have q1 := nodup_len (r := List.range M.files.length) a3 fun f hf => by
      obtain ⟨e, he, rfl⟩ := List.mem_map.1 hf
      exact List.mem_range.2 (a4 e he)
    rw [List.length_map, List.length_range] at q1
    have := h.nf; omega
theorem crash_live (M : MD) (w : Wreck) : Live (M.crash w) := ⟨rfl, rfl⟩
theorem clone_o {L : LL} {T : TT} {M : MD} {w : Own} {o : Nat} (ho : w.o = o) {K : V → LL → TT → Prop} (hd : dAt L T M w) (hs : Small M)
    (hK : ∀ L' T' w', dAt L' T' M w' → Step noS noS L T w'.S w'.R L' T' → K (.box w'.o 0) L' T') : cloneDP [.box o 0] L T K := by
  subst ho
  exact ⟨M, w, rfl, hd, hs, hK⟩
theorem small_new (room : Int) : Small (DiskM.new room) := ⟨by simp [DiskM.new], by show (0 : Nat) ≤ _; omega, by simp [DiskM.new], by simp [DiskM.new]⟩
theorem sz_new (room : Int) : Sz 0 (DiskM.new room) := ⟨by simp [DiskM.new], by simp [DiskM.new], Nat.le_refl 0, by simp [DiskM.new]⟩
end Go.Proofs.Ytieeojipodefoaa.DiskL
