/-
  WHAT A DOOM DOES: one more thing after the other, and then none.
-/
import Derived.Test.YtieeojipodefoaaAwX
import Derived.Test.YtieeojipodefoaaDiskT
namespace Go.Proofs.Ytieeojipodefoaa.DiskL
open Go Go.Proofs Go.Proofs.Ytieeojipodefoaa.Aw Go.Proofs.Ytieeojipodefoaa.Num Go.Proofs.Ytieeojipodefoaa.DiskM Go.Proofs.Ytieeojipodefoaa.DiskA Go.Proofs.Ytieeojipodefoaa.DiskK Go.Proofs.Ytieeojipodefoaa.DiskC Go.Proofs.Ytieeojipodefoaa.Disk
set_option linter.unusedSimpArgs false
set_option linter.unusedVariables false
/-- doomed, behind n more things -/
def Dm (M : MD) (n : Nat) : MD := { M with doomed := true, left := n }
/-- down -/
def Dd (M : MD) : MD := { M with doomed := true, left := 0, down := true }
theorem dm_begin {M : MD} (h : Live M) (n : Nat) : (Dm M (n + 1)).begin = (Dm M n, true) := by
  unfold MD.begin
  rw [if_neg (by simp [Dm, h.1]), if_pos (show (Dm M (n + 1)).doomed = true from rfl)]
  rfl
theorem dm_begin0 {M : MD} : (Dm M 0).begin = (Dd M, false) := by
  unfold MD.begin
  rw [if_pos (by simp [Dm])]
  rfl
theorem dd_begin {M : MD} : (Dd M).begin = (Dd M, false) := by
  unfold MD.begin
  rw [if_pos (by simp [Dd])]
  rfl
theorem dm_crash (M : MD) (n : Nat) (w : Wreck) : (Dm M n).crash w = M.crash w := rfl
theorem dd_crash (M : MD) (w : Wreck) : (Dd M).crash w = M.crash w := rfl
theorem dm_onFile {M : MD} (h : Live M) (n : Nat) (nm : Name) (X : MD → Nat → MD × Nat) (hX : ∀ f, X (Dm M n) f = (Dm (X M f).1 n, (X M f).2)) : (Dm M (n + 1)).onFile nm X = (Dm (M.onFile nm X).1 n, (M.onFile nm X).2) := by
  unfold MD.onFile
  rw [dm_begin h, begin_live h]
  have e : (Dm M (n + 1)).now = M.now := rfl
  rw [e]
  simp only [Bool.true_eq_false, if_false]
  cases nfind M.now nm with
  | none => rfl
  | some f => exact hX f
theorem no_onFile {M M' : MD} (h : M.begin = (M', false)) (nm : Name) (X : MD → Nat → MD × Nat) : M.onFile nm X = (M', 40) := by
  unfold MD.onFile
  rw [h]
  rfl
theorem no_act {M M' : MD} (h : M.begin = (M', false)) {a : Act} (ha : a.kind.toNat % 13 ≤ 9) : act M a = (M', 40) := by
  unfold act
  split
  · unfold MD.create; rw [h]; rfl
  · exact no_onFile h _ _
  · exact no_onFile h _ _
  · exact no_onFile h _ _
  · exact no_onFile h _ _
  · unfold MD.syncNames; rw [h]; rfl
  · unfold MD.names; rw [h]; rfl
  · rename_i hc; omega
  · rename_i hc; omega
  · rename_i hc; omega
  · exact no_onFile h _ _
theorem dm_act {M : MD} (h : Live M) (n : Nat) {a : Act} (ha : a.kind.toNat % 13 ≤ 9) : act (Dm M (n + 1)) a = (Dm (act M a).1 n, (act M a).2) := by
  have hb := dm_begin h n
  have hl := begin_live h
  unfold act
  split
  · unfold MD.create
    rw [hb, hl]
    have e : (Dm M (n + 1)).now = M.now := rfl
    rw [e]
    simp only [Bool.true_eq_false, if_false]
    split
    · rfl
    · split
      · rfl
      · rfl
  · exact dm_onFile h n _ _ fun f => rfl
  · exact dm_onFile h n _ _ fun f => rfl
  · refine dm_onFile h n _ _ fun f => ?_
    split <;> rfl
  · exact dm_onFile h n _ _ fun f => rfl
  · unfold MD.syncNames
    rw [hb, hl]
    rfl
  · unfold MD.names
    rw [hb, hl]
    rfl
  · rename_i hc; omega
  · rename_i hc; omega
  · rename_i hc; omega
  · refine dm_onFile h n _ _ fun f => ?_
    have e : (Dm M n).used = M.used := used_eq rfl rfl rfl
    simp only [e]
    show (if M.room < _ then _ else _) = _
    split <;> rfl
end Go.Proofs.Ytieeojipodefoaa.DiskL
