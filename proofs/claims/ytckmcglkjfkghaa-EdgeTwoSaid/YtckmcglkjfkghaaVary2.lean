import Derived.Test.YtckmcglkjfkghaaAwX
import Derived.Test.YtckmcglkjfkghaaVary
namespace Go.Proofs.Ytckmcglkjfkghaa.Vary
open Go Go.Proofs Go.Proofs.Ytckmcglkjfkghaa.Aw Go.Proofs.Ytckmcglkjfkghaa.VaryM Go.Proofs.Ytckmcglkjfkghaa.Num
set_option linter.unusedSimpArgs false
set_option linter.unusedVariables false
theorem beVal_succ (b : List UInt8) (k : Nat) (h : k < b.length) : beVal 0 (b.take (k + 1)) = beVal 0 (b.take k) * 256 + (b.getD k 0).toNat := by
  have : b.take (k + 1) = b.take k ++ [b.getD k 0] := by
    rw [List.take_succ_eq_append_getElem h, List.getD_eq_getElem?_getD, List.getElem?_eq_getElem h]; rfl
  rw [this, beVal_append]; rfl
theorem beVal_take_lt (b : List UInt8) (k s : Nat) (h : k ≤ s) : beVal 0 (b.take k) < 256 ^ s := by
  have h1 := beVal_lt (b.take k) 0
  have h2 : 256 ^ (b.take k).length ≤ 256 ^ s := Nat.pow_le_pow_right (by omega) (by rw [List.length_take]; omega)
  omega
theorem getD_take (b : List UInt8) (k s : Nat) (h : k < s) : (b.take s).getD k 0 = b.getD k 0 := by
  rw [List.getD_eq_getElem?_getD, List.getD_eq_getElem?_getD, List.getElem?_take, if_pos h]
def unfixF (b : List UInt8) (size : Int) : Nat × List UInt8 × Int :=
  if 1 ≤ size ∧ size ≤ 8 then (if (b.length : Int) < size then (0, [], 5) else (beVal 0 (b.take size.toNat), b.drop size.toNat, 0)) else (0, [], 1)
def unfixM : FM
  | [.bytes b _, .int .i64 size] => some (b.length ≤ 549755813888, .tuple [.int .u64 (unfixF b size).1, .bytes (unfixF b size).2.1 none, .int .i64 (unfixF b size).2.2], [])
  | _ => none
def someM : FM
  | [.bytes b _] => some (True, .bytes (b.take 200) none, [])
  | _ => none
end Go.Proofs.Ytckmcglkjfkghaa.Vary
