import Derived.Test.YtckmcglkjfkghaaDoorAw14
namespace Go.Proofs.YtckmcglkjfkghaaDoor.Num
open Go Go.Proofs.YtckmcglkjfkghaaDoor.Aw
set_option linter.unusedVariables false
set_option linter.unusedSimpArgs false
theorem i64w {n : Int} (h0 : -9223372036854775808 ≤ n) (h1 : n ≤ 9223372036854775807) : IntKind.i64.wrap n = n := IntWalk.i64_in _ ⟨h0, h1⟩
theorem u64w {n : Int} (h0 : 0 ≤ n) (h1 : n ≤ 18446744073709551615) : IntKind.u64.wrap n = n := IntWalk.u64_in _ ⟨h0, h1⟩
theorem u32w {n : Int} (h0 : 0 ≤ n) (h1 : n ≤ 4294967295) : IntKind.u32.wrap n = n := IntWalk.u32_in _ ⟨h0, h1⟩
theorem u8w {n : Int} (h0 : 0 ≤ n) (h1 : n ≤ 255) : IntKind.u8.wrap n = n := IntWalk.u8_in _ ⟨h0, h1⟩
theorem u8wrap (n : Int) : IntKind.u8.wrap n = n % 256 := by rw [IntKind.wrap_u8]
theorem u64wrap (n : Int) : IntKind.u64.wrap n = n % 18446744073709551616 := by rw [IntKind.wrap_u64]
theorem ofInt_toNat (w : Nat) (n : Nat) : (BitVec.ofInt w (n : Int)).toNat = n % 2 ^ w := by simp [BitVec.toNat_ofInt]
theorem or_add {a b s : Nat} (h : a < 2 ^ s) : a ||| (b * 2 ^ s) = a + b * 2 ^ s := by
  have := Nat.shiftLeft_add_eq_or_of_lt h b
  rw [Nat.shiftLeft_eq] at this
  rw [Nat.or_comm, ← this, Nat.add_comm]
theorem or128 : ∀ x : BitVec 8, (x ||| 128#8).toNat = x.toNat % 128 + 128 := by decide
theorem low7 (m : Nat) : orK .u8 (IntKind.u8.wrap (m : Int)) 128 = ((m % 128 + 128 : Nat) : Int) := by
  have h : BitVec.ofInt 8 128 = 128#8 := by decide
  have e : IntKind.u8.wrap (m : Int) = ((m % 256 : Nat) : Int) := by rw [u8wrap]; omega
  show IntKind.u8.wrap ↑(BitVec.ofInt 8 (IntKind.u8.wrap (m : Int)) ||| BitVec.ofInt 8 128).toNat = _
  rw [h, or128, e, ofInt_toNat, u8wrap]
  omega
theorem not64 (m : Nat) (h : m < 18446744073709551616) : notK .u64 (m : Int) = 18446744073709551615 - (m : Int) := by
  have h1 : BitVec.ofInt 64 IntKind.u64.max = BitVec.allOnes 64 := by decide
  have h2 : (BitVec.ofInt 64 IntKind.u64.max ^^^ BitVec.ofInt 64 (m : Int)).toNat = 18446744073709551615 - m := by
    rw [h1, BitVec.allOnes_xor, BitVec.toNat_not, ofInt_toNat]
    omega
  show IntKind.u64.wrap ↑(BitVec.ofInt 64 IntKind.u64.max ^^^ BitVec.ofInt 64 (m : Int)).toNat = _
  rw [h2, u64w] <;> omega
theorem noti64 (z : Int) (h0 : -9223372036854775808 ≤ z) (h1 : z ≤ 9223372036854775807) : notK .i64 z = -z - 1 := by
  have h2 : BitVec.ofInt 64 (-1) = BitVec.allOnes 64 := by decide
  show IntKind.i64.wrap ↑(BitVec.ofInt 64 (-1) ^^^ BitVec.ofInt 64 z).toNat = _
  rw [h2, BitVec.allOnes_xor, BitVec.toNat_not, BitVec.toNat_ofInt, IntKind.wrap_i64]
  omega
theorem orK_comm (k : IntKind) (a b : Int) : orK k a b = orK k b a := by unfold orK; rw [BitVec.or_comm]
theorem or64_add {a b s : Nat} (ha : a < 2 ^ s) (hb : a + b * 2 ^ s < 18446744073709551616) : orK .u64 (a : Int) ((b * 2 ^ s : Nat) : Int) = ((a + b * 2 ^ s : Nat) : Int) := by
  show IntKind.u64.wrap ↑(BitVec.ofInt 64 (a : Int) ||| BitVec.ofInt 64 ((b * 2 ^ s : Nat) : Int)).toNat = _
  rw [BitVec.toNat_or, ofInt_toNat, ofInt_toNat, Nat.mod_eq_of_lt (by omega), Nat.mod_eq_of_lt (by omega), or_add ha, u64w] <;> omega
theorem and1 (m : Nat) (h : m < 18446744073709551616) : andK .u64 (m : Int) 1 = ((m % 2 : Nat) : Int) := by
  have : (BitVec.ofInt 64 (m : Int) &&& BitVec.ofInt 64 1).toNat = m % 2 := by
    rw [BitVec.toNat_and, ofInt_toNat, show (1 : Int) = ((1 : Nat) : Int) from rfl, ofInt_toNat, show 1 % 2 ^ 64 = 1 from rfl, Nat.and_one_is_mod]
    omega
  show IntKind.u64.wrap ((BitVec.ofInt 64 (m : Int) &&& BitVec.ofInt 64 1).toNat : Int) = _
  rw [this, u64w (by omega) (by omega)]
theorem shl64 (a : Nat) (s : Nat) (hs : s ≤ 64) : shlK .u64 (a : Int) (s : Int) = ((a * 2 ^ s % 18446744073709551616 : Nat) : Int) := by
  show IntKind.u64.wrap ((a : Int) * 2 ^ (min ((s : Int)).toNat 64)) = _
  have e : (2 : Int) ^ s = ((2 ^ s : Nat) : Int) := by simp
  rw [u64wrap, Int.toNat_natCast, Nat.min_eq_left hs, e, ← Int.natCast_mul]
  generalize a * 2 ^ s = q
  omega
theorem shr64 (a : Nat) (s : Nat) (hs : s ≤ 64) : shrK .u64 (a : Int) (s : Int) = ((a / 2 ^ s : Nat) : Int) := by
  show (a : Int) / 2 ^ (min ((s : Int)).toNat 64) = _
  have e : (2 : Int) ^ s = ((2 ^ s : Nat) : Int) := by simp
  rw [Int.toNat_natCast, Nat.min_eq_left hs, e, ← Int.natCast_ediv]
theorem shr7 (m : Nat) : shrK .u64 (m : Int) 7 = ((m / 128 : Nat) : Int) := shr64 m 7 (by omega)
theorem shr1 (m : Nat) : shrK .u64 (m : Int) 1 = ((m / 2 : Nat) : Int) := shr64 m 1 (by omega)
theorem mb (n : Nat) (h : n ≤ 140737488355328) : n ≤ maxBytes := by unfold maxBytes; omega
theorem pow256 (k : Nat) : 2 ^ (8 * k) = 256 ^ k := by rw [Nat.pow_mul]
theorem shr8 (m k : Nat) (h : k ≤ 8) : shrK .u64 (m : Int) (8 * (k : Int)) = ((m / 256 ^ k : Nat) : Int) := by
  have := shr64 m (8 * k) (by omega)
  rw [pow256] at this
  rw [← this]
  congr 1
theorem u8nat (q : Nat) : IntKind.u8.wrap (q : Int) = ((q % 256 : Nat) : Int) := by rw [u8wrap]; omega
end Go.Proofs.YtckmcglkjfkghaaDoor.Num
