/-
  FRAMES, THE MATHEMATICS ALONE: bytes with their length and their sum; what bytes are as frames.
-/
import Derived.Test.YtpoghlfkokedpaaCrcB
import Derived.Test.YtpoghlfkokedpaaVaryM
namespace Go.Proofs.Ytpoghlfkokedpaa.FrameM
open Go Go.Proofs.Ytpoghlfkokedpaa.Aw Go.Proofs.Ytpoghlfkokedpaa.CrcM Go.Proofs.Ytpoghlfkokedpaa.CrcN Go.Proofs.Ytpoghlfkokedpaa.VaryM
set_option linter.unusedVariables false
set_option linter.unusedSimpArgs false

def crcW (x : List UInt8) : W := sum 0#32 x
theorem crc_W (x : List UInt8) : crc 0 x = n32 (crcW x) := rfl
/-- P3.1 -/
def sealF (x : List UInt8) : List UInt8 := x ++ le32 (crcW x)
theorem sealF_length (x : List UInt8) : (sealF x).length = x.length + 4 := by simp [sealF, le32]
def unsealF (b : List UInt8) : List UInt8 × Int :=
  if b.length < 4 then ([], 5) else if sealF (b.take (b.length - 4)) = b then (b.take (b.length - 4), 0) else ([], 6)
def frameF (x : List UInt8) : List UInt8 := sealF (be 4 x.length ++ x)
theorem frameF_length (x : List UInt8) : (frameF x).length = x.length + 8 := by simp [frameF, sealF_length, be_length]; omega
def putF (b x : List UInt8) : List UInt8 × Int := if 4096 < x.length then ([], 3) else (b ++ frameF x, 0)
def lenF (b : List UInt8) : Nat := beVal 0 (b.take 4)
def takeFr (b : List UInt8) : List UInt8 × List UInt8 × Int :=
  if b.length < 4 then ([], [], 5) else if 4096 < lenF b then ([], [], 6) else if b.length < lenF b + 8 then ([], [], 5)
  else if (unsealF (b.take (lenF b + 8))).2 ≠ 0 then ([], [], 6) else ((b.take (lenF b + 4)).drop 4, b.drop (lenF b + 8), 0)
/-- what a frame that is taken has: it is one, and what stands behind it -/
theorem takeFr_ok {b : List UInt8} (h : (takeFr b).2.2 = 0) : (takeFr b).1.length ≤ 4096 ∧ b = frameF (takeFr b).1 ++ (takeFr b).2.1 := by
  unfold takeFr at h ⊢
  split at h
  · simp at h
  · rename_i h4
    rw [if_neg h4]
    split at h
    · simp at h
    · rename_i h5
      rw [if_neg h5]
      split at h
      · simp at h
      · rename_i h6
        rw [if_neg h6]
        split at h
        · simp at h
        · rename_i h7
          rw [if_neg h7]
          simp only
          have h8 : sealF (b.take (lenF b + 4)) = b.take (lenF b + 8) := by
            have hl : (b.take (lenF b + 8)).length = lenF b + 8 := by rw [List.length_take]; omega
            simp only [ne_eq, Decidable.not_not] at h7
            unfold unsealF at h7
            rw [hl, if_neg (by omega), List.take_take, show min (lenF b + 8 - 4) (lenF b + 8) = lenF b + 4 by omega] at h7
            split at h7
            · assumption
            · simp at h7
          have hx : ((b.take (lenF b + 4)).drop 4).length = lenF b := by simp; omega
          refine ⟨by omega, ?_⟩
          have hbe : be 4 (lenF b) = b.take 4 := by
            have h1 := beVal_lt (b.take 4) 0
            have hl : (b.take 4).length = 4 := by rw [List.length_take]; omega
            have : ∀ l : List UInt8, l.length = 4 → be 4 (beVal 0 l) = l := by
              intro l hl
              match l, hl with
              | [p, q, r, s], _ =>
                have hp := p.toNat_lt; have hq := q.toNat_lt; have hr := r.toNat_lt; have hs := s.toNat_lt
                apply List.ext_getElem?
                intro j
                by_cases hj : j < 4
                · rw [be_get 4 _ j hj]
                  have hv : beVal 0 [p, q, r, s] = ((p.toNat * 256 + q.toNat) * 256 + r.toNat) * 256 + s.toNat := by simp [beVal]
                  rw [hv]
                  match j, hj with
                  | 0, _ => simp; first | done | (apply UInt8.toNat_inj.1; rw [UInt8.toNat_ofNat']; omega)
                  | 1, _ => simp <;> first | done | (apply UInt8.toNat_inj.1; rw [UInt8.toNat_ofNat']; omega)
                  | 2, _ => simp <;> first | done | (apply UInt8.toNat_inj.1; rw [UInt8.toNat_ofNat']; omega)
                  | 3, _ => simp <;> first | done | (apply UInt8.toNat_inj.1; rw [UInt8.toNat_ofNat']; omega)
                · rw [List.getElem?_eq_none (by rw [be_length]; omega), List.getElem?_eq_none (by simp; omega)]
            exact this _ hl
          unfold frameF
          rw [hx, hbe]
          have e : b.take 4 ++ (b.take (lenF b + 4)).drop 4 = b.take (lenF b + 4) := by
            have := List.take_append_drop 4 (b.take (lenF b + 4))
            rw [List.take_take, show min 4 (lenF b + 4) = 4 by omega] at this
            exact this
          rw [e, h8, List.take_append_drop]
theorem takeFr_rest {b : List UInt8} (h : (takeFr b).2.2 = 0) : (takeFr b).2.1.length + (takeFr b).1.length + 8 = b.length := by
  have := (takeFr_ok h).2
  have h2 := congrArg List.length this
  rw [List.length_append, frameF_length] at h2
  omega
/-- P3.2: what all frames have, and how many bytes these have -/
def allF (b : List UInt8) : List (List UInt8) × Nat :=
  if h : (takeFr b).2.2 = 0 then ((takeFr b).1 :: (allF (takeFr b).2.1).1, (takeFr b).1.length + 8 + (allF (takeFr b).2.1).2) else ([], 0)
termination_by b.length
decreasing_by all_goals (have := takeFr_rest h; omega)
theorem allF_ok {b : List UInt8} (h : (takeFr b).2.2 = 0) : allF b = ((takeFr b).1 :: (allF (takeFr b).2.1).1, (takeFr b).1.length + 8 + (allF (takeFr b).2.1).2) := by
  rw [allF, dif_pos h]
theorem allF_none {b : List UInt8} (h : ¬ (takeFr b).2.2 = 0) : allF b = ([], 0) := by rw [allF, dif_neg h]
theorem allF_le (b : List UInt8) : (allF b).2 ≤ b.length := by
  induction hn : b.length using Nat.strongRecOn generalizing b with
  | _ n ih =>
    by_cases h : (takeFr b).2.2 = 0
    · have h1 := takeFr_rest h
      have := ih _ (by omega) (takeFr b).2.1 rfl
      rw [allF_ok h]
      simp only
      omega
    · rw [allF_none h]; simp
theorem allF_len (b : List UInt8) : (allF b).1.length ≤ b.length := by
  induction hn : b.length using Nat.strongRecOn generalizing b with
  | _ n ih =>
    by_cases h : (takeFr b).2.2 = 0
    · have h1 := takeFr_rest h
      have := ih _ (by omega) (takeFr b).2.1 rfl
      rw [allF_ok h]
      simp only [List.length_cons]
      omega
    · rw [allF_none h]; simp
def onlyF (b : List UInt8) : List (List UInt8) × Int := if (allF b).2 < b.length then ([], (takeFr (b.drop (allF b).2)).2.2) else ((allF b).1, 0)
theorem takeFr_len (b : List UInt8) : (takeFr b).1.length ≤ b.length ∧ (takeFr b).2.1.length ≤ b.length := by
  unfold takeFr
  split
  · simp
  · split
    · simp
    · split
      · simp
      · split
        · simp
        · simp only [List.length_drop, List.length_take]; omega
theorem unsealF_len (b : List UInt8) : (unsealF b).1.length ≤ b.length := by
  unfold unsealF
  split
  · simp
  · split
    · simp only [List.length_take]; omega
    · simp
/-! lists of bytes as values -/
def bv (x : List UInt8) : V := .bytes x none
def unbv : V → List UInt8
  | .bytes x _ => x
  | _ => []
theorem unbv_map (l : List (List UInt8)) : (l.map bv).map unbv = l := by
  induction l with
  | nil => rfl
  | cons x l ih => rw [List.map_cons, List.map_cons, ih]; rfl
theorem bv_clean (l : List (List UInt8)) : ∀ v ∈ l.map bv, v.clean := by
  intro v hv; simp only [List.mem_map] at hv; obtain ⟨x, _, rfl⟩ := hv; simp only [bv, V.clean]
theorem getD_bv {l : List (List UInt8)} {k : Nat} (h : k < l.length) : (l.map bv).getD k .any = .bytes (l.getD k []) none := by
  simp [List.getD_eq_getElem?_getD, List.getElem?_eq_getElem h, bv]
end Go.Proofs.Ytpoghlfkokedpaa.FrameM
