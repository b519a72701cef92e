/-
  SUMS OF BYTES: the numbers of the code are those of the mathematics.
-/
import Derived.Test.YtpoghlfkokedpaaNum
import Derived.Test.YtpoghlfkokedpaaCrcM
namespace Go.Proofs.Ytpoghlfkokedpaa.CrcN
open Go Go.Proofs.Ytpoghlfkokedpaa.Aw Go.Proofs.Ytpoghlfkokedpaa.Num Go.Proofs.Ytpoghlfkokedpaa.CrcM
set_option linter.unusedVariables false
set_option linter.unusedSimpArgs false

/-- a number of 32 bits as the code has it -/
def n32 (x : W) : Int := (x.toNat : Int)
theorem n32_bound (x : W) : 0 ≤ n32 x ∧ n32 x ≤ 4294967295 := by unfold n32; have := x.isLt; omega
theorem n32_of {n : Int} (h0 : 0 ≤ n) (h1 : n ≤ 4294967295) : n = n32 (BitVec.ofInt 32 n) := by
  unfold n32; rw [BitVec.toNat_ofInt]; omega
theorem ofInt_n32 (x : W) : BitVec.ofInt 32 (n32 x) = x := by
  apply BitVec.eq_of_toNat_eq
  unfold n32; rw [BitVec.toNat_ofInt]; have := x.isLt; omega
theorem n32_inj {x y : W} : n32 x = n32 y ↔ x = y := ⟨fun h => by rw [← ofInt_n32 x, h, ofInt_n32], fun h => by rw [h]⟩
theorem n32_eq (x y : W) : decide (n32 x = n32 y) = decide (x = y) := decide_eq_decide.2 n32_inj
theorem n32_P : (2197175160 : Int) = n32 P := by decide
theorem n32_ones : (4294967295 : Int) = n32 4294967295#32 := by decide
theorem n32_zero : (0 : Int) = n32 0#32 := by decide

theorem xor32 (x y : W) : xorK .u32 (n32 x) (n32 y) = n32 (x ^^^ y) := by
  have e : ∀ z : W, BitVec.ofInt 32 (n32 z) = z := ofInt_n32
  show IntKind.u32.wrap ((BitVec.ofInt 32 (n32 x) ^^^ BitVec.ofInt 32 (n32 y)).toNat : Int) = _
  rw [e, e]
  have := (x ^^^ y).isLt
  exact u32w (by omega) (by omega)
theorem odd32 (x : W) : decide ((n32 x).tmod 2 = 1) = x.getLsbD 0 := by
  have h : (n32 x).tmod 2 = ((x.toNat % 2 : Nat) : Int) := by unfold n32; rw [Int.tmod_eq_emod_of_nonneg (by omega)]; omega
  rw [h, BitVec.getLsbD, Nat.testBit_zero]
  congr 1
  apply propext
  omega
theorem div32 (x : W) (n : Nat) : IntKind.u32.wrap ((n32 x).tdiv ((2 ^ n : Nat) : Int)) = n32 (x >>> n) := by
  have h : (n32 x).tdiv ((2 ^ n : Nat) : Int) = ((x.toNat / 2 ^ n : Nat) : Int) := by unfold n32; rw [Int.tdiv_eq_ediv_of_nonneg (by omega)]; exact (Int.natCast_ediv _ _).symm
  have h2 : x.toNat / 2 ^ n ≤ x.toNat := Nat.div_le_self _ _
  have := x.isLt
  have e : n32 (x >>> n) = ((x.toNat / 2 ^ n : Nat) : Int) := by unfold n32; rw [BitVec.toNat_ushiftRight, Nat.shiftRight_eq_div_pow]
  rw [h, e]
  generalize x.toNat / 2 ^ n = q at h2 ⊢
  exact u32w (by omega) (by omega)
theorem half32 (x : W) : IntKind.u32.wrap ((n32 x).tdiv 2) = n32 (x >>> 1) := div32 x 1
theorem div32_256 (x : W) : IntKind.u32.wrap ((n32 x).tdiv 256) = n32 (x >>> 8) := div32 x 8
theorem and255 (x : W) : (x &&& 255#32).toNat = x.toNat % 256 := by
  rw [BitVec.toNat_and]
  exact Nat.and_two_pow_sub_one_eq_mod x.toNat 8
theorem mod32_256 (x : W) : (n32 x).tmod 256 = n32 (x &&& 255#32) := by
  unfold n32
  rw [Int.tmod_eq_emod_of_nonneg (by omega), and255]
  omega
theorem step_eq (x : W) : CrcM.step x = if x.getLsbD 0 then (x >>> 1) ^^^ P else x >>> 1 := by
  unfold CrcM.step; split <;> simp

/-- a byte of 32 bits -/
def w8 (b : UInt8) : W := BitVec.ofNat 32 b.toNat
theorem n32_w8 (b : UInt8) : ((b.toNat : Nat) : Int) = n32 (w8 b) := by
  unfold n32 w8; rw [BitVec.toNat_ofNat]; have := b.toNat_lt; omega
theorem wrap8 (b : UInt8) : IntKind.u32.wrap ((b.toNat : Nat) : Int) = n32 (w8 b) := by
  rw [← n32_w8]; have := b.toNat_lt; exact u32w (by omega) (by omega)
theorem w8_high (x : W) (b : UInt8) : (x ^^^ w8 b) >>> 8 = x >>> 8 := by
  apply BitVec.eq_of_getLsbD_eq
  intro i hi
  have : (w8 b).getLsbD (8 + i) = false := by
    unfold w8
    rw [BitVec.getLsbD_ofNat, Nat.testBit_lt_two_pow (Nat.lt_of_lt_of_le b.toNat_lt (Nat.pow_le_pow_right (by omega) (by omega : 8 ≤ 8 + i)))]
    simp
  simp [BitVec.getLsbD_ushiftRight, BitVec.getLsbD_xor, this]
/-- one byte, by the table -/
theorem byte_step (x : W) (b : UInt8) : steps 8 (x ^^^ w8 b) = steps 8 ((x ^^^ w8 b) &&& 255#32) ^^^ (x >>> 8) := by
  rw [steps8, w8_high]
/-- the place in the table -/
theorem byte_at (x : W) (b : UInt8) : xorK .u8 (IntKind.u8.wrap (n32 x)) ((b.toNat : Nat) : Int) = n32 ((x ^^^ w8 b) &&& 255#32) := by
  have e1 : IntKind.u8.wrap (n32 x) = ((x.toNat % 256 : Nat) : Int) := by rw [u8wrap]; unfold n32; omega
  show IntKind.u8.wrap ((BitVec.ofInt 8 (IntKind.u8.wrap (n32 x)) ^^^ BitVec.ofInt 8 ((b.toNat : Nat) : Int)).toNat : Int) = _
  have hb := b.toNat_lt
  rw [e1, BitVec.toNat_xor, ofInt_toNat, ofInt_toNat]
  unfold n32
  rw [and255, BitVec.toNat_xor]
  have e2 : (w8 b).toNat = b.toNat := by unfold w8; rw [BitVec.toNat_ofNat]; omega
  have e3 : (x.toNat ^^^ b.toNat) % 256 = (x.toNat % 256) ^^^ (b.toNat % 256) := Nat.xor_mod_two_pow (n := 8)
  rw [e2, e3, u8wrap, show (2 : Nat) ^ 8 = 256 from rfl, Nat.mod_mod]
  have : (x.toNat % 256) ^^^ (b.toNat % 256) < 256 := Nat.xor_lt_two_pow (n := 8) (Nat.mod_lt _ (by omega)) (Nat.mod_lt _ (by omega))
  omega

/-! ### the table -/
def ent (i : Nat) : Int := n32 (steps 8 (BitVec.ofNat 32 i))
def tbl : List V := (List.range 256).map fun i => .int .u32 (ent i)
theorem tbl_length : tbl.length = 256 := by simp [tbl]
theorem tbl_get {j : Nat} (h : j < 256) : tbl[j]? = some (.int .u32 (ent j)) := by simp [tbl, h]
theorem tbl_cell {z : Int} (h0 : 0 ≤ z) (h1 : z < 256) : cellV tbl z.toNat = some (.int .u32 (ent z.toNat)) := by
  unfold cellV; rw [tbl_get (by omega)]
theorem tbl_clean : ∀ v ∈ tbl, v.clean := by
  intro v hv; simp only [tbl, List.mem_map] at hv; obtain ⟨i, _, rfl⟩ := hv; simp only [V.clean]
theorem intsOf_map {α : Type} (k : IntKind) (f : α → Int) : ∀ l : List α, intsOf k (l.map fun i => .int k (f i)) = some (l.map f)
  | [] => rfl
  | a :: l => by simp only [List.map_cons, intsOf, if_true, intsOf_map k f l, Option.map_some]
theorem tbl_ints : intsOf .u32 tbl = some ((List.range 256).map ent) := intsOf_map _ _ _
/-- a table that is filled up to i -/
def part (i : Nat) : List V := (List.range i).map (fun i => .int .u32 (ent i)) ++ List.replicate (256 - i) (.int .u32 0)
theorem part_zero : part 0 = rep 256 (.int .u32 0) := rfl
theorem part_full : part 256 = tbl := by unfold part tbl; rw [Nat.sub_self, List.replicate_zero, List.append_nil]
theorem part_length {i : Nat} (h : i ≤ 256) : (part i).length = 256 := by simp [part]; omega
theorem part_set {i : Nat} (h : i < 256) : setSeg (part i) i [.int .u32 (ent i)] = part (i + 1) := by
  unfold setSeg part
  have e1 : ((List.range i).map (fun i => V.int .u32 (ent i)) ++ List.replicate (256 - i) (V.int .u32 0)).take i = (List.range i).map (fun i => V.int .u32 (ent i)) := by
    rw [List.take_append_of_le_length (by simp)]; exact List.take_of_length_le (by simp)
  have e2 : ((List.range i).map (fun i => V.int .u32 (ent i)) ++ List.replicate (256 - i) (V.int .u32 0)).drop (i + 1) = List.replicate (255 - i) (V.int .u32 0) := by
    rw [List.drop_append, List.drop_eq_nil_of_le (by simp), List.nil_append, List.drop_replicate]
    congr 1
    simp only [List.length_map, List.length_range]
    omega
  simp only [List.length_singleton, e1, e2, List.range_succ, List.map_append, List.map_singleton]
  congr 2
  omega
theorem part_take {i : Nat} (h : i ≤ 256) : (part i).take 256 = part i := List.take_of_length_le (by rw [part_length h]; omega)
theorem rep_drop (v : V) : (rep 256 v).drop 256 = [] := List.drop_eq_nil_of_le (by rw [rep_length]; omega)
theorem part_put {i : Nat} (h : i < 256) : (part i).take i ++ [.int .u32 (ent i)] ++ (part i).drop (i + 1) = part (i + 1) := part_set h
theorem set_all {cs new : List V} (h : cs.length = new.length) : setSeg cs 0 new = new := by
  unfold setSeg; rw [← h]; simp
theorem ent_eq {i : Nat} (h : i < 256) : n32 (steps 8 (BitVec.ofInt 32 (IntKind.u32.wrap (i : Int)))) = ent i := by
  rw [u32w (by omega) (by omega)]; unfold ent; rw [BitVec.ofInt_natCast]
theorem ent_n32 (x : W) (h : x.toNat < 256) : ent (n32 x).toNat = n32 (steps 8 x) := by
  unfold ent n32; simp
theorem feed_cons (s : W) (b : UInt8) (l : List UInt8) : feed s (b :: l) = feed (steps 8 (s ^^^ w8 b)) l := rfl
theorem feed_take (s : W) {l : List UInt8} {k : Nat} (h : k < l.length) : feed s (l.take (k + 1)) = steps 8 (feed s (l.take k) ^^^ w8 (l.getD k 0)) := by
  rw [List.take_succ_eq_append_getElem h, feed_append, feed_cons]
  simp [feed, List.getD_eq_getElem?_getD, List.getElem?_eq_getElem h]
theorem tbl_at (x : W) : tbl[(n32 (x &&& 255#32)).toNat]? = some (.int .u32 (n32 (steps 8 (x &&& 255#32)))) := by
  have h : (x &&& 255#32).toNat < 256 := by rw [and255]; omega
  have e : (n32 (x &&& 255#32)).toNat = (x &&& 255#32).toNat := by unfold n32; simp
  rw [e, tbl_get h]
  unfold ent
  simp
theorem tbl_getD {j : Nat} (h : j < 256) : tbl.getD j (.int .u32 0) = .int .u32 (ent j) := by
  rw [List.getD_eq_getElem?_getD, tbl_get h, Option.getD_some]
theorem tbl_atD (x : W) : tbl.getD (n32 (x &&& 255#32)).toNat (.int .u32 0) = .int .u32 (n32 (steps 8 (x &&& 255#32))) := by
  rw [List.getD_eq_getElem?_getD, tbl_at x, Option.getD_some]
theorem at_bound (x : W) : 0 ≤ n32 (x &&& 255#32) ∧ n32 (x &&& 255#32) < 256 := by
  have h : (x &&& 255#32).toNat < 256 := by rw [and255]; omega
  unfold n32; omega
theorem at_nat (x : W) : (n32 (x &&& 255#32)).toNat < 256 := by have := at_bound x; omega
theorem and255_lt (x : W) : (x &&& 255#32).toNat < 256 := by rw [and255]; omega
/-- the sum of bytes, gone on over more, as the code has it -/
def crc (s : Int) (l : List UInt8) : Int := n32 (sum (BitVec.ofInt 32 s) l)
theorem crc_bound (s : Int) (l : List UInt8) : 0 ≤ crc s l ∧ crc s l ≤ 4294967295 := n32_bound _
theorem crc_feed (s : W) (l : List UInt8) : xorK .u32 4294967295 (n32 (feed (4294967295#32 ^^^ s) l)) = crc (n32 s) l := by
  rw [n32_ones, xor32]; unfold crc sum; rw [ofInt_n32, BitVec.xor_comm (4294967295#32), BitVec.xor_comm s]

/-! ### the four bytes of a sum, the lowest first -/
def byteAt (x : W) (k : Nat) : UInt8 := UInt8.ofNat (x.toNat / 2 ^ (8 * k))
def le32 (x : W) : List UInt8 := [byteAt x 0, byteAt x 1, byteAt x 2, byteAt x 3]
theorem w8_bit (x : W) (k j : Nat) : (w8 (byteAt x k)).getLsbD j = (decide (j < 8) && x.getLsbD (8 * k + j)) := by
  unfold w8 byteAt
  rw [UInt8.toNat_ofNat', BitVec.getLsbD_ofNat, Nat.testBit_mod_two_pow, Nat.testBit_div_two_pow, BitVec.getLsbD]
  by_cases h : j < 8
  · simp [h, show j < 32 by omega, Nat.add_comm]
  · simp [h]
theorem word_append (l m : List Bool) : word (l ++ m) = word l ^^^ (word m <<< l.length) := by
  induction l with
  | nil => simp [word]
  | cons b l ih =>
    rw [List.cons_append, word, ih, word, List.length_cons, BitVec.shiftLeft_xor_distrib, BitVec.xor_assoc, ← BitVec.shiftLeft_add]
theorem le32_word (x : W) : word ((le32 x).flatMap bitsOf) = x := by
  have hb : ∀ c, (bitsOf c).length = 8 := fun c => by simp [bitsOf]
  have e : (le32 x).flatMap bitsOf = bitsOf (byteAt x 0) ++ (bitsOf (byteAt x 1) ++ (bitsOf (byteAt x 2) ++ (bitsOf (byteAt x 3) ++ []))) := rfl
  rw [e, word_append, word_append, word_append, word_append, hb, hb, hb, hb, word_bits, word_bits, word_bits, word_bits]
  apply BitVec.eq_of_getLsbD_eq
  intro i hi
  have h : ∀ k j, (BitVec.ofNat 32 (byteAt x k).toNat).getLsbD j = (decide (j < 8) && x.getLsbD (8 * k + j)) := w8_bit x
  simp only [BitVec.getLsbD_xor, BitVec.getLsbD_shiftLeft, h, word, BitVec.getLsbD_zero]
  by_cases h1 : i < 8
  · simp [h1]
  · by_cases h2 : i < 16
    · simp [h1, h2, hi, show i - 8 < 8 by omega, show 8 + (i - 8) = i by omega]
    · by_cases h3 : i < 24
      · simp [h1, h2, h3, hi, show ¬ i - 8 < 8 by omega, show i - 8 - 8 < 8 by omega, show i - 8 < 32 by omega, show 16 + (i - 8 - 8) = i by omega]
      · simp [h1, h2, h3, hi, show ¬ i - 8 < 8 by omega, show ¬ i - 8 - 8 < 8 by omega, show i - 8 < 32 by omega, show i - 8 - 8 < 32 by omega, show i - 8 - 8 - 8 < 8 by omega, show 24 + (i - 8 - 8 - 8) = i by omega]
theorem feed_le32 (s x : W) : feed s (le32 x) = steps 32 (s ^^^ x) := by
  have hl : ((le32 x).flatMap bitsOf).length = 32 := by simp [le32, bitsOf]
  rw [feed_bits, feedBits_word _ _ (by omega), hl, le32_word]
theorem crc_append (s : Int) (l m : List UInt8) : crc s (l ++ m) = crc (crc s l) m := by
  unfold crc; rw [sum_append, ofInt_n32]
theorem crc_rest (x : W) : crc (n32 x) (le32 x) = 1214729159 := by
  unfold crc sum
  rw [ofInt_n32, feed_le32, BitVec.xor_comm x, BitVec.xor_assoc, BitVec.xor_self]
  decide +kernel
theorem byte0 (x : W) : UInt8.ofNat (IntKind.u8.wrap (n32 x)).toNat = byteAt x 0 := by
  have e1 : IntKind.u8.wrap (n32 x) = ((x.toNat % 256 : Nat) : Int) := by rw [u8wrap]; unfold n32; omega
  unfold byteAt
  rw [e1, Int.toNat_natCast, Nat.mul_zero, Nat.pow_zero, Nat.div_one]
  apply UInt8.toNat_inj.1
  rw [UInt8.toNat_ofNat', UInt8.toNat_ofNat', Nat.mod_mod]
theorem bytek (x : W) (k : Nat) (hk : 8 * k ≤ 32) : UInt8.ofNat (IntKind.u8.wrap (shrK .u32 (n32 x) ((8 * k : Nat) : Int))).toNat = byteAt x k := by
  have e0 : shrK .u32 (n32 x) ((8 * k : Nat) : Int) = ((x.toNat / 2 ^ (8 * k) : Nat) : Int) := by
    show (n32 x) / 2 ^ (min ((8 * k : Nat) : Int).toNat 32) = _
    rw [Int.toNat_natCast, Nat.min_eq_left hk]
    unfold n32
    rw [Int.natCast_ediv]
    simp
  have e1 : IntKind.u8.wrap (((x.toNat / 2 ^ (8 * k) : Nat) : Int)) = ((x.toNat / 2 ^ (8 * k) % 256 : Nat) : Int) := by
    rw [u8wrap]
    generalize x.toNat / 2 ^ (8 * k) = q
    omega
  unfold byteAt
  rw [e0, e1, Int.toNat_natCast]
  apply UInt8.toNat_inj.1
  rw [UInt8.toNat_ofNat', UInt8.toNat_ofNat', Nat.mod_mod]
theorem byte1 (x : W) : UInt8.ofNat (IntKind.u8.wrap (shrK .u32 (n32 x) 8)).toNat = byteAt x 1 := bytek x 1 (by omega)
theorem byte2 (x : W) : UInt8.ofNat (IntKind.u8.wrap (shrK .u32 (n32 x) 16)).toNat = byteAt x 2 := bytek x 2 (by omega)
theorem byte3 (x : W) : UInt8.ofNat (IntKind.u8.wrap (shrK .u32 (n32 x) 24)).toNat = byteAt x 3 := bytek x 3 (by omega)
theorem u8wrap_in (n : Int) : 0 ≤ IntKind.u8.wrap n ∧ IntKind.u8.wrap n < 256 := by rw [u8wrap]; omega

theorem byteAt_shift (x : W) (k j : Nat) : byteAt (x >>> (8 * k)) j = byteAt x (k + j) := by
  unfold byteAt
  rw [BitVec.toNat_ushiftRight, Nat.shiftRight_eq_div_pow, Nat.div_div_eq_div_mul, ← Nat.pow_add, Nat.mul_add]
theorem rbyte0 (x : W) : UInt8.ofNat (IntKind.u8.wrap ((n32 x).tmod 256)).toNat = byteAt x 0 := by
  rw [← byte0 x]
  congr 2
  unfold n32
  rw [Int.tmod_eq_emod_of_nonneg (by omega), u8wrap, u8wrap]
  omega
theorem rbyte1 (x : W) : UInt8.ofNat (IntKind.u8.wrap ((IntKind.u32.wrap ((n32 x).tdiv 256)).tmod 256)).toNat = byteAt x 1 := by
  rw [div32_256, rbyte0]; exact byteAt_shift x 1 0
theorem rbyte2 (x : W) : UInt8.ofNat (IntKind.u8.wrap ((IntKind.u32.wrap ((n32 x).tdiv 65536)).tmod 256)).toNat = byteAt x 2 := by
  have := div32 x 16
  rw [show ((2 ^ 16 : Nat) : Int) = 65536 from rfl] at this
  rw [this, rbyte0]; exact byteAt_shift x 2 0
theorem rbyte3 (x : W) : UInt8.ofNat (IntKind.u8.wrap (IntKind.u32.wrap ((n32 x).tdiv 16777216))).toNat = byteAt x 3 := by
  have := div32 x 24
  rw [show ((2 ^ 24 : Nat) : Int) = 16777216 from rfl] at this
  rw [this, byte0]; exact byteAt_shift x 3 0
/-! ### bits that are turned -/
def xorL (x y : List UInt8) : List UInt8 := List.zipWith (· ^^^ ·) x y
theorem xorL_length {x y : List UInt8} (h : x.length = y.length) : (xorL x y).length = x.length := by simp [xorL, h]
theorem xorL_zero (x : List UInt8) : xorL x (List.replicate x.length 0) = x := by
  unfold xorL
  induction x with
  | nil => rfl
  | cons b x ih => rw [List.length_cons, List.replicate_succ, List.zipWith_cons_cons, ih]; simp
theorem crc_xor (x y : List UInt8) (h : x.length = y.length) : crc 0 (xorL x y) = xorK .u32 (xorK .u32 (crc 0 x) (crc 0 y)) (crc 0 (List.replicate x.length 0)) := by
  have e : ∀ l, crc 0 l = n32 (feed 4294967295#32 l ^^^ 4294967295#32) := fun l => rfl
  rw [e, e, e, e, xor32, xor32, n32_inj]
  have h1 : xorL x y = xorL (xorL x y) (List.replicate x.length 0) := by rw [← xorL_length h]; exact (xorL_zero _).symm
  have h2 : feed 4294967295#32 (xorL x y) = feed 4294967295#32 x ^^^ feed 4294967295#32 y ^^^ feed 4294967295#32 (List.replicate x.length 0) := by
    rw [h1]
    have e0 : (4294967295#32 : W) = (4294967295#32 ^^^ 4294967295#32) ^^^ 4294967295#32 := by decide
    conv => lhs; rw [e0]
    rw [show xorL (xorL x y) (List.replicate x.length 0) = List.zipWith (· ^^^ ·) (List.zipWith (· ^^^ ·) x y) (List.replicate x.length 0) from rfl, feed_xor _ _ _ _ (by simp [h]), feed_xor _ _ _ _ h]
  rw [h2]
  generalize feed 4294967295#32 x = p
  generalize feed 4294967295#32 y = q
  generalize feed 4294967295#32 (List.replicate x.length 0) = r
  generalize 4294967295#32 = o
  apply BitVec.eq_of_getLsbD_eq
  intro i hi
  simp only [BitVec.getLsbD_xor]
  cases p.getLsbD i <;> cases q.getLsbD i <;> cases r.getLsbD i <;> cases o.getLsbD i <;> rfl
/-- the first i bytes XORed, zeros behind them -/
def both (x y : List UInt8) (i : Nat) : List UInt8 := xorL (x.take i) (y.take i) ++ List.replicate (x.length - i) 0
theorem both_zero (x y : List UInt8) : both x y 0 = List.replicate x.length 0 := by simp [both, xorL]
theorem both_full {x y : List UInt8} (h : x.length = y.length) : both x y x.length = xorL x y := by
  unfold both; rw [Nat.sub_self, List.replicate_zero, List.append_nil, List.take_length, h, List.take_length]
theorem both_length {x y : List UInt8} {i : Nat} (h : x.length = y.length) (hi : i ≤ x.length) : (both x y i).length = x.length := by
  simp [both, xorL]; omega
theorem xor8b (b c : UInt8) : xorK .u8 ((b.toNat : Nat) : Int) ((c.toNat : Nat) : Int) = (((b ^^^ c).toNat : Nat) : Int) := by
  have hb := b.toNat_lt
  have hc := c.toNat_lt
  show IntKind.u8.wrap ((BitVec.ofInt 8 (b.toNat : Int) ^^^ BitVec.ofInt 8 (c.toNat : Int)).toNat : Int) = _
  have hx : b.toNat ^^^ c.toNat < 256 := Nat.xor_lt_two_pow (n := 8) hb hc
  rw [BitVec.toNat_xor, ofInt_toNat, ofInt_toNat, Nat.mod_eq_of_lt (by omega), Nat.mod_eq_of_lt (by omega), UInt8.toNat_xor]
  exact u8w (by omega) (by omega)
theorem both_set {x y : List UInt8} {i : Nat} (h : x.length = y.length) (hi : i < x.length) : (both x y i).set i (x.getD i 0 ^^^ y.getD i 0) = both x y (i + 1) := by
  have hl : (xorL (x.take i) (y.take i)).length = i := by simp [xorL]; omega
  have e1 : x.length - i = (x.length - (i + 1)) + 1 := by omega
  unfold both
  rw [List.set_append_right _ _ (by omega), hl, Nat.sub_self, e1, List.replicate_succ, List.set_cons_zero]
  have e2 : xorL (x.take (i + 1)) (y.take (i + 1)) = xorL (x.take i) (y.take i) ++ [x.getD i 0 ^^^ y.getD i 0] := by
    unfold xorL
    rw [List.take_succ_eq_append_getElem hi, List.take_succ_eq_append_getElem (by omega : i < y.length), List.zipWith_append (by simp; omega)]
    simp [List.getD_eq_getElem?_getD, List.getElem?_eq_getElem hi, List.getElem?_eq_getElem (by omega : i < y.length)]
  rw [e2]
  simp

/-! ### the table's numbers -/
theorem ent_xor (i k : Nat) : ent (i ^^^ k) = xorK .u32 (ent i) (ent k) := by
  unfold ent
  rw [xor32, ← steps_xor, ← BitVec.ofNat_xor]
theorem ent_inj {i k : Nat} (hi : i < 256) (hk : k < 256) : ent i = ent k ↔ i = k := by
  refine ⟨fun h => ?_, fun h => by rw [h]⟩
  unfold ent at h
  rw [n32_inj] at h
  have h1 : steps 8 (BitVec.ofNat 32 i ^^^ BitVec.ofNat 32 k) = 0#32 := by rw [steps_xor, h, BitVec.xor_self]
  have h2 := steps_eq_zero 8 h1
  have h3 : BitVec.ofNat 32 i = BitVec.ofNat 32 k := by
    have := congrArg (· ^^^ BitVec.ofNat 32 k) h2
    simpa [BitVec.xor_assoc] using this
  have h4 := congrArg BitVec.toNat h3
  simp only [BitVec.toNat_ofNat] at h4
  omega
theorem xor8 {i k : Nat} (hi : i < 256) (hk : k < 256) : xorK .u8 ((i : Nat) : Int) ((k : Nat) : Int) = ((i ^^^ k : Nat) : Int) := by
  show IntKind.u8.wrap ((BitVec.ofInt 8 (i : Int) ^^^ BitVec.ofInt 8 (k : Int)).toNat : Int) = _
  have hx : i ^^^ k < 256 := Nat.xor_lt_two_pow (n := 8) hi hk
  rw [BitVec.toNat_xor, ofInt_toNat, ofInt_toNat, Nat.mod_eq_of_lt (by omega), Nat.mod_eq_of_lt (by omega)]
  exact u8w (by omega) (by omega)
end Go.Proofs.Ytpoghlfkokedpaa.CrcN
