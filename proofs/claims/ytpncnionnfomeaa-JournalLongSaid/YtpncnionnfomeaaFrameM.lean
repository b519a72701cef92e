import Derived.Test.YtpncnionnfomeaaCrcM
import Derived.Test.YtpncnionnfomeaaVaryM
namespace Go.Proofs.Ytpncnionnfomeaa.FrameM
open Go Go.Proofs.Ytpncnionnfomeaa.Aw Go.Proofs.Ytpncnionnfomeaa.CrcM Go.Proofs.Ytpncnionnfomeaa.CrcN Go.Proofs.Ytpncnionnfomeaa.VaryM
set_option linter.unusedVariables false
set_option linter.unusedSimpArgs false
def crcW (x : List UInt8) : W := sum 0#32 x
theorem crc_W (x : List UInt8) : crc 0 x = n32 (crcW x) := rfl
def sealF (x : List UInt8) : List UInt8 := x ++ le32 (crcW x)
theorem sealF_length (x : List UInt8) : (sealF x).length = x.length + 4 := by simp [sealF, le32]
def unsealF (b : List UInt8) : List UInt8 × Int :=
  if b.length < 4 then ([], 5) else if sealF (b.take (b.length - 4)) = b then (b.take (b.length - 4), 0) else ([], 6)
def frameF (x : List UInt8) : List UInt8 := sealF (be 4 x.length ++ x)
theorem frameF_length (x : List UInt8) : (frameF x).length = x.length + 8 := by simp [frameF, sealF_length, be_length]; omega
def putF (b x : List UInt8) : List UInt8 × Int := if 4096 < x.length then ([], 3) else (b ++ frameF x, 0)
def lenF (b : List UInt8) : Nat := beVal 0 (b.take 4)
def takeFr (b : List UInt8) : List UInt8 × List UInt8 × Int :=
  if b.length < 4 then ([], [], 5) else if 4096 < lenF b then ([], [], 6) else if b.length < lenF b + 8 then ([], [], 5)
  else if (unsealF (b.take (lenF b + 8))).2 ≠ 0 then ([], [], 6) else ((b.take (lenF b + 4)).drop 4, b.drop (lenF b + 8), 0)
theorem takeFr_ok {b : List UInt8} (h : (takeFr b).2.2 = 0) : (takeFr b).1.length ≤ 4096 ∧ b = frameF (takeFr b).1 ++ (takeFr b).2.1 := by
  unfold takeFr at h ⊢
  split at h
  · simp at h
  · rename_i h4
    rw [if_neg h4]
    split at h
    · simp at h
    · rename_i h5
      rw [if_neg h5]
      split at h
      · simp at h
      · rename_i h6
        rw [if_neg h6]
        split at h
        · simp at h
        · rename_i h7
          rw [if_neg h7]
          simp only
          have h8 : sealF (b.take (lenF b + 4)) = b.take (lenF b + 8) := by
            have hl : (b.take (lenF b + 8)).length = lenF b + 8 := by rw [List.length_take]; omega
            simp only [ne_eq, Decidable.not_not] at h7
            unfold unsealF at h7
            rw [hl, if_neg (by omega), List.take_take, show min (lenF b + 8 - 4) (lenF b + 8) = lenF b + 4 by omega] at h7
            split at h7
            · assumption
            · simp at h7
          have hx : ((b.take (lenF b + 4)).drop 4).length = lenF b := by simp; omega
          refine ⟨by omega, ?_⟩
          have hbe : be 4 (lenF b) = b.take 4 := by
            have h1 := beVal_lt (b.take 4) 0
            have hl : (b.take 4).length = 4 := by rw [List.length_take]; omega
            have : ∀ l : List UInt8, l.length = 4 → be 4 (beVal 0 l) = l := by
              intro l hl
              match l, hl with
              | [p, q, r, s], _ =>
                have hp := p.toNat_lt; have hq := q.toNat_lt; have hr := r.toNat_lt; have hs := s.toNat_lt
                apply List.ext_getElem?
                intro j
                by_cases hj : j < 4
                · rw [be_get 4 _ j hj]
                  have hv : beVal 0 [p, q, r, s] = ((p.toNat * 256 + q.toNat) * 256 + r.toNat) * 256 + s.toNat := by simp [beVal]
                  rw [hv]
                  match j, hj with
                  | 0, _ => simp; first | done | (apply UInt8.toNat_inj.1; rw [UInt8.toNat_ofNat']; omega)
                  | 1, _ => simp <;> first | done | (apply UInt8.toNat_inj.1; rw [UInt8.toNat_ofNat']; omega)
                  | 2, _ => simp <;> first | done | (apply UInt8.toNat_inj.1; rw [UInt8.toNat_ofNat']; omega)
                  | 3, _ => simp <;> first | done | (apply UInt8.toNat_inj.1; rw [UInt8.toNat_ofNat']; omega)
                · rw [List.getElem?_eq_none (by rw [be_length]; omega), List.getElem?_eq_none (by simp; omega)]
            exact this _ hl
          unfold frameF
          rw [hx, hbe]
          have e : b.take 4 ++ (b.take (lenF b + 4)).drop 4 = b.take (lenF b + 4) := by
            have := List.take_append_drop 4 (b.take (lenF b + 4))
            rw [List.take_take, show min 4 (lenF b + 4) = 4 by omega] at this
            exact this
          rw [e, h8, List.take_append_drop]
theorem takeFr_rest {b : List UInt8} (h : (takeFr b).2.2 = 0) : (takeFr b).2.1.length + (takeFr b).1.length + 8 = b.length := by
  have := (takeFr_ok h).2
  have h2 := congrArg List.length this
  rw [List.length_append, frameF_length] at h2
  omega
def allF (b : List UInt8) : List (List UInt8) × Nat :=
  if h : (takeFr b).2.2 = 0 then ((takeFr b).1 :: (allF (takeFr b).2.1).1, (takeFr b).1.length + 8 + (allF (takeFr b).2.1).2) else ([], 0)
termination_by b.length
decreasing_by all_goals (have := takeFr_rest h; omega)
theorem allF_ok {b : List UInt8} (h : (takeFr b).2.2 = 0) : allF b = ((takeFr b).1 :: (allF (takeFr b).2.1).1, (takeFr b).1.length + 8 + (allF (takeFr b).2.1).2) := by
  rw [allF, dif_pos h]
theorem allF_none {b : List UInt8} (h : ¬ (takeFr b).2.2 = 0) : allF b = ([], 0) := by rw [allF, dif_neg h]
theorem allF_le (b : List UInt8) : (allF b).2 ≤ b.length := by
  induction hn : b.length using Nat.strongRecOn generalizing b with
  | _ n ih =>
    by_cases h : (takeFr b).2.2 = 0
    · have h1 := takeFr_rest h
      have := ih _ (by omega) (takeFr b).2.1 rfl
      rw [allF_ok h]
      simp only
      omega
    · rw [allF_none h]; simp
theorem allF_len (b : List UInt8) : (allF b).1.length ≤ b.length := by
  induction hn : b.length using Nat.strongRecOn generalizing b with
  | _ n ih =>
    by_cases h : (takeFr b).2.2 = 0
    · have h1 := takeFr_rest h
      have := ih _ (by omega) (takeFr b).2.1 rfl
      rw [allF_ok h]
      simp only [List.length_cons]
      omega
    · rw [allF_none h]; simp
def onlyF (b : List UInt8) : List (List UInt8) × Int := if (allF b).2 < b.length then ([], (takeFr (b.drop (allF b).2)).2.2) else ((allF b).1, 0)
theorem takeFr_len (b : List UInt8) : (takeFr b).1.length ≤ b.length ∧ (takeFr b).2.1.length ≤ b.length := by
  unfold takeFr
  split
  · simp
  · split
    · simp
    · split
      · simp
      · split
        · simp
        · simp only [List.length_drop, List.length_take]; omega
theorem unsealF_len (b : List UInt8) : (unsealF b).1.length ≤ b.length := by
  unfold unsealF
  split
  · simp
  · split
    · simp only [List.length_take]; omega
    · simp
def bv (x : List UInt8) : V := .bytes x none
def unbv : V → List UInt8
  | .bytes x _ => x
  | _ => []
theorem unbv_map (l : List (List UInt8)) : (l.map bv).map unbv = l := by
  induction l with
  | nil => rfl
  | cons x l ih => rw [List.map_cons, List.map_cons, ih]; rfl
theorem bv_clean (l : List (List UInt8)) : ∀ v ∈ l.map bv, v.clean := by
  intro v hv; simp only [List.mem_map] at hv; obtain ⟨x, _, rfl⟩ := hv; simp only [bv, V.clean]
theorem getD_bv {l : List (List UInt8)} {k : Nat} (h : k < l.length) : (l.map bv).getD k .any = .bytes (l.getD k []) none := by
  simp [List.getD_eq_getElem?_getD, List.getElem?_eq_getElem h, bv]
end Go.Proofs.Ytpncnionnfomeaa.FrameM
namespace Go.Proofs.Ytpncnionnfomeaa.FrameM
open Go Go.Proofs.Ytpncnionnfomeaa.Aw Go.Proofs.Ytpncnionnfomeaa.CrcM Go.Proofs.Ytpncnionnfomeaa.CrcN Go.Proofs.Ytpncnionnfomeaa.VaryM
set_option linter.unusedVariables false
set_option linter.unusedSimpArgs false
theorem feed_seal (x : List UInt8) : feed 4294967295#32 (sealF x) = steps 32 4294967295#32 := by
  have e : crcW x = feed 4294967295#32 x ^^^ 4294967295#32 := by
    unfold crcW CrcM.sum; rw [BitVec.zero_xor]
  unfold sealF
  rw [feed_append, feed_le32, e, ← BitVec.xor_assoc, BitVec.xor_self, BitVec.zero_xor]
theorem seal_take (x : List UInt8) : (sealF x).take ((sealF x).length - 4) = x := by
  rw [sealF_length, show x.length + 4 - 4 = x.length by omega]
  unfold sealF
  rw [List.take_left]
theorem unseal_seal (x : List UInt8) : unsealF (sealF x) = (x, 0) := by
  unfold unsealF
  rw [seal_take, if_neg (by rw [sealF_length]; omega), if_pos rfl]
theorem unseal_turned {y : List UInt8} {f t : Nat} {c : List UInt8} (h : Seen (sealF y) f t 32 c true) : unsealF c = ([], 6) := by
  have hl := h.1
  rw [sealF_length] at hl
  unfold unsealF
  rw [if_neg (by omega), if_neg fun e => ?_]
  have h2 := seen_other h 4294967295#32
  rw [feed_seal, ← e, feed_seal] at h2
  exact h2 rfl
theorem lenF_frame {x r : List UInt8} (h : x.length ≤ 4096) : lenF (frameF x ++ r) = x.length := by
  unfold lenF frameF sealF
  rw [List.append_assoc, List.append_assoc, List.take_append_of_le_length (by rw [be_length]; omega), List.take_of_length_le (by rw [be_length]; omega), beVal_be]
  omega
theorem take_frame {x : List UInt8} (r : List UInt8) (h : x.length ≤ 4096) : takeFr (frameF x ++ r) = (x, r, 0) := by
  have hlf := lenF_frame (r := r) h
  have hl := frameF_length x
  unfold takeFr
  have hl2 : (frameF x ++ r).length = x.length + 8 + r.length := by rw [List.length_append, hl]
  have ht : (frameF x ++ r).take (x.length + 8) = frameF x := by rw [← hl, List.take_left]
  have hd : (frameF x ++ r).drop (x.length + 8) = r := by rw [← hl, List.drop_left]
  have hm : ((frameF x ++ r).take (x.length + 4)).drop 4 = x := by
    have e : frameF x ++ r = be 4 x.length ++ (x ++ (le32 (crcW (be 4 x.length ++ x)) ++ r)) := by
      unfold frameF sealF; simp
    have hb : (be 4 x.length).length = 4 := be_length _ _
    rw [e, List.drop_take, show x.length + 4 - 4 = x.length by omega]
    rw [List.drop_left' hb, List.take_left]
  rw [if_neg (by omega), hlf, if_neg (by omega), if_neg (by omega), ht, hd, hm]
  have hu : (unsealF (frameF x)).2 = 0 := by unfold frameF; rw [unseal_seal]
  rw [if_neg (by simp [hu])]
theorem take_turned {y : List UInt8} {f t : Nat} {c : List UInt8} (h : Seen (frameF y) f t 32 c true) (hf : 32 ≤ f) (hy : y.length ≤ 4096) : takeFr c = ([], [], 6) := by
  have hl := h.1
  have hfl := frameF_length y
  have h4 : c.take 4 = (frameF y).take 4 := by
    apply bits_ext (by simp; omega)
    intro j hj
    have hj32 : j < 32 := by simp at hj; omega
    have hb := h.2.1 j (by omega)
    have hno : ¬ (f ≤ j ∧ j < f + 32) := by omega
    rw [decide_eq_false hno, Bool.false_and, Bool.xor_false] at hb
    have hk : j / 8 < 4 := by omega
    unfold bitAt at hb ⊢
    simp only [List.getD_eq_getElem?_getD, List.getElem?_take, hk, if_true] at hb ⊢
    exact hb
  have hlf : lenF c = y.length := by
    have := lenF_frame (r := []) hy
    rw [List.append_nil] at this
    unfold lenF at this ⊢
    rw [h4, this]
  have hu : (unsealF c).2 = 6 := by unfold frameF at h; rw [unseal_turned h]
  unfold takeFr
  rw [if_neg (by omega), hlf, if_neg (by omega), if_neg (by omega), List.take_of_length_le (by omega), if_pos (by rw [hu]; simp)]
def framesF (l : List (List UInt8)) : List UInt8 := l.flatMap frameF
theorem framesF_cons (x : List UInt8) (l : List (List UInt8)) : framesF (x :: l) = frameF x ++ framesF l := List.flatMap_cons ..
theorem framesF_append (l m : List (List UInt8)) : framesF (l ++ m) = framesF l ++ framesF m := List.flatMap_append ..
theorem framesF_snoc (l : List (List UInt8)) (x : List UInt8) : framesF (l ++ [x]) = framesF l ++ frameF x := by
  rw [framesF_append]; unfold framesF; simp
theorem framesF_nil : framesF [] = [] := rfl
theorem all_frames (l : List (List UInt8)) (r : List UInt8) (h : ∀ x ∈ l, x.length ≤ 4096) : allF (framesF l ++ r) = (l ++ (allF r).1, (framesF l).length + (allF r).2) := by
  induction l with
  | nil => simp [framesF]
  | cons x l ih =>
    have hx := h x (List.mem_cons_self)
    have ht : takeFr (framesF (x :: l) ++ r) = (x, framesF l ++ r, 0) := by
      rw [framesF_cons, List.append_assoc, take_frame _ hx]
    rw [allF_ok (by rw [ht]), ht]
    simp only
    rw [ih fun y hy => h y (List.mem_cons_of_mem _ hy), framesF_cons]
    simp only [List.length_append, frameF_length, List.cons_append]
    congr 1
    omega
theorem all_nil : allF [] = ([], 0) := by
  refine allF_none ?_
  show ¬ (takeFr []).2.2 = 0
  unfold takeFr
  rw [if_pos (by simp)]
  simp
theorem all_frames' (l : List (List UInt8)) (h : ∀ x ∈ l, x.length ≤ 4096) : allF (framesF l) = (l, (framesF l).length) := by
  have := all_frames l [] h
  rw [all_nil, List.append_nil, List.append_nil] at this
  exact this
theorem all_spec (b : List UInt8) : (∀ x ∈ (allF b).1, x.length ≤ 4096) ∧ b.take (allF b).2 = framesF (allF b).1 ∧ (framesF (allF b).1).length = (allF b).2 := by
  induction hn : b.length using Nat.strongRecOn generalizing b with
  | _ n ih =>
    by_cases h : (takeFr b).2.2 = 0
    · have h1 := takeFr_rest h
      obtain ⟨hx, hb⟩ := takeFr_ok h
      obtain ⟨i1, i2, i3⟩ := ih _ (by omega) (takeFr b).2.1 rfl
      rw [allF_ok h]
      simp only
      refine ⟨?_, ?_, ?_⟩
      · intro y hy
        rcases List.mem_cons.1 hy with rfl | hy
        · exact hx
        · exact i1 y hy
      · have hfl := frameF_length (takeFr b).1
        rw [framesF_cons]
        generalize takeFr b = q at *
        subst hb
        rw [show q.1.length + 8 = (frameF q.1).length by omega, List.take_length_add_append, i2]
      · rw [framesF_cons, List.length_append, i3, frameF_length]
    · rw [allF_none h]
      exact ⟨by simp, by simp [framesF], by simp [framesF]⟩
theorem take_cut {x : List UInt8} {k : Nat} (h : x.length ≤ 4096) (hk : k < (frameF x).length) : takeFr ((frameF x).take k) = ([], [], 5) := by
  have hl := frameF_length x
  have hkl : ((frameF x).take k).length = k := by rw [List.length_take]; omega
  unfold takeFr
  rw [hkl]
  by_cases h4 : k < 4
  · rw [if_pos h4]
  · have hlf : lenF ((frameF x).take k) = x.length := by
      have := lenF_frame (r := []) h
      rw [List.append_nil] at this
      unfold lenF at this ⊢
      rw [List.take_take, show min 4 k = 4 by omega, this]
    rw [if_neg h4, hlf, if_neg (by omega), if_pos (by omega)]
theorem all_cut (l : List (List UInt8)) (k : Nat) (h : ∀ x ∈ l, x.length ≤ 4096) (hk : k ≤ (framesF l).length) :
    ∃ j, j ≤ l.length ∧ (allF ((framesF l).take k)).1 = l.take j ∧ (allF ((framesF l).take k)).2 ≤ k ∧
      ((allF ((framesF l).take k)).2 < k → (takeFr (((framesF l).take k).drop (allF ((framesF l).take k)).2)).2.2 = 5) := by
  induction l generalizing k with
  | nil =>
    have hk0 : k = 0 := by simpa [framesF] using hk
    subst hk0
    exact ⟨0, by simp, by simp [all_nil], by simp [all_nil], by simp [all_nil]⟩
  | cons x l ih =>
    have hx := h x (List.mem_cons_self)
    have hfl := frameF_length x
    rw [framesF_cons] at hk ⊢
    rw [List.length_append] at hk
    by_cases hc : k < (frameF x).length
    · have e : (frameF x ++ framesF l).take k = (frameF x).take k := List.take_append_of_le_length (by omega)
      have ht := take_cut hx hc
      rw [e, allF_none (by rw [ht]; simp)]
      refine ⟨0, by simp, by simp, by simp, fun _ => ?_⟩
      rw [List.drop_zero, ht]
    · obtain ⟨j, j1, j2, j3, j4⟩ := ih (k - (frameF x).length) (fun y hy => h y (List.mem_cons_of_mem _ hy)) (by omega)
      have e : (frameF x ++ framesF l).take k = frameF x ++ (framesF l).take (k - (frameF x).length) := by
        rw [List.take_append, List.take_of_length_le (by omega)]
      rw [e]
      have ht := take_frame ((framesF l).take (k - (frameF x).length)) hx
      rw [allF_ok (by rw [ht]), ht]
      simp only
      refine ⟨j + 1, by simp; omega, by rw [j2, List.take_succ_cons], by omega, fun hlt => ?_⟩
      rw [show x.length + 8 + (allF ((framesF l).take (k - (frameF x).length))).2 = (frameF x).length + (allF ((framesF l).take (k - (frameF x).length))).2 by omega, List.drop_length_add_append]
      exact j4 (by omega)
end Go.Proofs.Ytpncnionnfomeaa.FrameM
