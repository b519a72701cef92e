import Derived.Test.YtpncnionnfomeaaDiskV
namespace Go.Proofs.Ytpncnionnfomeaa.DiskL
open Go Go.Proofs Go.Proofs.Ytpncnionnfomeaa.Aw Go.Proofs.Ytpncnionnfomeaa.Num Go.Proofs.Ytpncnionnfomeaa.DiskM Go.Proofs.Ytpncnionnfomeaa.DiskA Go.Proofs.Ytpncnionnfomeaa.DiskK Go.Proofs.Ytpncnionnfomeaa.DiskC Go.Proofs.Ytpncnionnfomeaa.Disk
set_option linter.unusedSimpArgs false
set_option linter.unusedVariables false
def Dm (M : MD) (n : Nat) : MD := { M with doomed := true, left := n }
def Dd (M : MD) : MD := { M with doomed := true, left := 0, down := true }
theorem dm_begin {M : MD} (h : Live M) (n : Nat) : (Dm M (n + 1)).begin = (Dm M n, true) := by
  unfold MD.begin
  rw [if_neg (by simp [Dm, h.1]), if_pos (show (Dm M (n + 1)).doomed = true from rfl)]
  rfl
theorem dm_begin0 {M : MD} : (Dm M 0).begin = (Dd M, false) := by
  unfold MD.begin
  rw [if_pos (by simp [Dm])]
  rfl
theorem dd_begin {M : MD} : (Dd M).begin = (Dd M, false) := by
  unfold MD.begin
  rw [if_pos (by simp [Dd])]
  rfl
theorem dm_crash (M : MD) (n : Nat) (w : Wreck) : (Dm M n).crash w = M.crash w := rfl
theorem dd_crash (M : MD) (w : Wreck) : (Dd M).crash w = M.crash w := rfl
theorem dm_onFile {M : MD} (h : Live M) (n : Nat) (nm : Name) (X : MD → Nat → MD × Nat) (hX : ∀ f, X (Dm M n) f = (Dm (X M f).1 n, (X M f).2)) : (Dm M (n + 1)).onFile nm X = (Dm (M.onFile nm X).1 n, (M.onFile nm X).2) := by
  unfold MD.onFile
  rw [dm_begin h, begin_live h]
  have e : (Dm M (n + 1)).now = M.now := rfl
  rw [e]
  simp only [Bool.true_eq_false, if_false]
  cases nfind M.now nm with
  | none => rfl
  | some f => exact hX f
theorem no_onFile {M M' : MD} (h : M.begin = (M', false)) (nm : Name) (X : MD → Nat → MD × Nat) : M.onFile nm X = (M', 40) := by
  unfold MD.onFile
  rw [h]
  rfl
end Go.Proofs.Ytpncnionnfomeaa.DiskL
