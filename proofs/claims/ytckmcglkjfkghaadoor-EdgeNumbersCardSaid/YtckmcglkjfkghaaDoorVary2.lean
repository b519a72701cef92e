import Derived.Test.YtckmcglkjfkghaaDoorAwX
import Derived.Test.YtckmcglkjfkghaaDoorVary
namespace Go.Proofs.YtckmcglkjfkghaaDoor.Vary
open Go Go.Proofs Go.Proofs.YtckmcglkjfkghaaDoor.Aw Go.Proofs.YtckmcglkjfkghaaDoor.VaryM Go.Proofs.YtckmcglkjfkghaaDoor.Num
set_option linter.unusedSimpArgs false
set_option linter.unusedVariables false
theorem beVal_succ (b : List UInt8) (k : Nat) (h : k < b.length) : beVal 0 (b.take (k + 1)) = beVal 0 (b.take k) * 256 + (b.getD k 0).toNat := by
  have : b.take (k + 1) = b.take k ++ [b.getD k 0] := by
    rw [List.take_succ_eq_append_getElem h, List.getD_eq_getElem?_getD, List.getElem?_eq_getElem h]; rfl
  rw [this, beVal_append]; rfl
theorem beVal_take_lt (b : List UInt8) (k s : Nat) (h : k ≤ s) : beVal 0 (b.take k) < 256 ^ s := by
  have h1 := beVal_lt (b.take k) 0
  have h2 : 256 ^ (b.take k).length ≤ 256 ^ s := Nat.pow_le_pow_right (by omega) (by rw [List.length_take]; omega)
  omega
theorem getD_take (b : List UInt8) (k s : Nat) (h : k < s) : (b.take s).getD k 0 = b.getD k 0 := by
  rw [List.getD_eq_getElem?_getD, List.getD_eq_getElem?_getD, List.getElem?_take, if_pos h]
def unfixF (b : List UInt8) (size : Int) : Nat × List UInt8 × Int :=
  if 1 ≤ size ∧ size ≤ 8 then (if (b.length : Int) < size then (0, [], 5) else (beVal 0 (b.take size.toNat), b.drop size.toNat, 0)) else (0, [], 1)
def unfixM : FM
  | [.bytes b _, .int .i64 size] => some (b.length ≤ 549755813888, .tuple [.int .u64 (unfixF b size).1, .bytes (unfixF b size).2.1 none, .int .i64 (unfixF b size).2.2], [])
  | _ => none
theorem unfix_ok : FSound Tryd.prog 18 unfixM := by
  refine fsound tysOk G2ok mix Tryd.func18 rfl ?_
  intro args p r fr hm hp
  unfold unfixM at hm
  split at hm
  · rename_i b t size
    cases hm
    simp (maxSteps:=2000000) only[bitvec_to_nat,seval,↓tcd,Tryd.f18,roomyM,sizedM]
    refine awpIf_intro (fun h => ?_) (fun h => ?_)
    · have hs : 1 ≤ size ∧ size ≤ 8 := by simpa [sizedB] using h
      refine awpIf_intro (fun h => ?_) (fun h => ?_)
      · simp only [decide_eq_true_eq] at h
        rw [show unfixF b size = (0, [], 5) by unfold unfixF; rw [if_pos hs, if_pos h]]
        exact ⟨rfl, rfl, rfl⟩
      · simp only [decide_eq_false_iff_not] at h
        obtain ⟨s, rfl⟩ := Int.eq_ofNat_of_zero_le (show 0 ≤ size by omega)
        have hu : unfixF b s = (beVal 0 (b.take s), b.drop s, 0) := by unfold unfixF; rw [if_pos hs, if_neg h]; rfl
        have htl : (b.take s).length = s := by rw [List.length_take]; omega
        refine ⟨by omega, ?_⟩
        simp only [Int.toNat_natCast, htl]
        refine awpLoop_intro (α := {k : Nat // k ≤ s})
          (fun k => ⟨[.bytes b none, .int .i64 s, .any, .any, .any, .nils, .any, .int .u64 (beVal 0 (b.take k.1)), .any, .any, .any, .any, .any, .any, .any, .any, .any, .any, .any, .bytes (b.take s) none, .int .i64 s, .int .i64 k.1, .any, .any, .any, .any, .any, .any, .any, .any, .any, .any, .any, .any, .any, .any], [], []⟩) (fun k => s - k.1)
          ⟨0, by omega⟩ ?_ ?_
        · simp (maxSteps:=2000000) only[bitvec_to_nat,seval,↓tcd]
          simp [beVal]
        · rintro ⟨k, hk⟩
          simp (maxSteps:=2000000) only[bitvec_to_nat,seval,↓tcd,roomyM,sizedM]
          refine awpIf_intro (fun h' => ?_) (fun h' => ?_) <;> simp only [decide_eq_true_eq, decide_eq_false_iff_not] at h'
          · refine ⟨⟨by omega, by rw [htl]; omega⟩, ⟨k + 1, by omega⟩, ⟨?_, by rw [i64w (by omega) (by omega)]; simp⟩, by simp only; omega⟩
            have hb := beVal_take_lt b k 7 (by omega)
            have hc := (b.getD k 0).toNat_lt
            have e7 : (256 : Nat) ^ 7 = 72057594037927936 := by decide
            simp only [Int.toNat_natCast, getD_take b k s (by omega)]
            rw [u64w (by omega) (by omega), show ((8 : Int)) = ((8 : Nat) : Int) from rfl, shl64 _ _ (by omega), Nat.mod_eq_of_lt (by omega), beVal_succ b k (by omega), orK_comm, or64_add (by omega) (by omega)]
            omega
          · have hk : k = s := by omega
            subst hk
            simp only [Int.toNat_natCast, hu]
            exact ⟨by omega, by rw [List.length_drop]; omega, trivial, trivial, trivial⟩
    · have hs : ¬ (1 ≤ size ∧ size ≤ 8) := by simpa [sizedB] using h
      rw [show unfixF b size = (0, [], 1) by unfold unfixF; rw [if_neg hs]]
      exact ⟨rfl, rfl, rfl⟩
  · cases hm
theorem runfix_ok : FSound Tryd.prog 20 unfixM := by
  refine fsound tysOk G0ok mix Tryd.func20 rfl ?_
  intro args p r fr hm hp
  unfold unfixM at hm
  split at hm
  · rename_i b t size
    cases hm
    simp (maxSteps:=2000000) only[bitvec_to_nat,seval,↓tcd,Tryd.f20]
    refine awpIf_intro (fun h => ?_) (fun h => ?_)
    · simp only [decide_eq_true_eq] at h
      rw [show unfixF b size = (0, [], 1) by unfold unfixF; rw [if_neg (by omega)]]
      exact ⟨rfl, rfl, rfl⟩
    simp only [decide_eq_false_iff_not] at h
    refine awpIf_intro (fun h => ?_) (fun h => ?_)
    · simp only [decide_eq_true_eq] at h
      rw [show unfixF b size = (0, [], 1) by unfold unfixF; rw [if_neg (by omega)]]
      exact ⟨rfl, rfl, rfl⟩
    rename_i h1
    simp only [decide_eq_false_iff_not] at h
    have hs : 1 ≤ size ∧ size ≤ 8 := by omega
    refine awpIf_intro (fun h => ?_) (fun h => ?_)
    · simp only [decide_eq_true_eq] at h
      rw [show unfixF b size = (0, [], 5) by unfold unfixF; rw [if_pos hs, if_pos h]]
      exact ⟨rfl, rfl, rfl⟩
    simp only [decide_eq_false_iff_not] at h
    obtain ⟨s, rfl⟩ := Int.eq_ofNat_of_zero_le (show 0 ≤ size by omega)
    have hu : unfixF b s = (beVal 0 (b.take s), b.drop s, 0) := by unfold unfixF; rw [if_pos hs, if_neg h]; rfl
    refine awpLoop_intro (α := {k : Nat // k ≤ s})
      (fun k => ⟨[.bytes b none, .int .i64 s, .any, .any, .any, .nils, .any, .int .u64 (beVal 0 (b.take k.1)), .int .i64 k.1, .any, .any, .any, .any, .any, .any, .any, .any, .any, .any, .any, .any, .any, .any, .any, .any, .any, .any, .any, .any, .any, .any, .any, .any, .any, .any, .any, .any, .any], [], []⟩) (fun k => s - k.1)
      ⟨0, by omega⟩ ?_ ?_
    · simp (maxSteps:=2000000) only[bitvec_to_nat,seval,↓tcd]
      simp [beVal]
    · rintro ⟨k, hk⟩
      simp (maxSteps:=2000000) only[bitvec_to_nat,seval,↓tcd]
      refine awpIf_intro (fun h' => ?_) (fun h' => ?_) <;> simp only [decide_eq_true_eq, decide_eq_false_iff_not] at h'
      · refine ⟨by omega, ⟨k + 1, by omega⟩, ⟨?_, by rw [i64w (by omega) (by omega)]; simp⟩, by simp only; omega⟩
        have hb := beVal_take_lt b k 7 (by omega)
        have hc := (b.getD k 0).toNat_lt
        have e7 : (256 : Nat) ^ 7 = 72057594037927936 := by decide
        simp only [Int.toNat_natCast]
        rw [u64w (n := ((b.getD k 0).toNat : Int)) (by omega) (by omega), u64w (n := (beVal 0 (b.take k) : Int) * 256) (by omega) (by omega), u64w (by omega) (by omega), beVal_succ b k (by omega)]
        omega
      · have hk : k = s := by omega
        subst hk
        simp only [Int.toNat_natCast, hu]
        exact ⟨by omega, mb _ (by rw [List.length_drop]; omega), trivial, trivial, trivial⟩
  · cases hm
def someM : FM
  | [.bytes b _] => some (True, .bytes (b.take 200) none, [])
  | _ => none
end Go.Proofs.YtckmcglkjfkghaaDoor.Vary
