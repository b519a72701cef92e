/-
  SUMS OF BYTES: bits that are turned, side by side.
-/
import Derived.Test.YtpoghlfkokedpaaCrcN
namespace Go.Proofs.Ytpoghlfkokedpaa.CrcN
open Go Go.Proofs.Ytpoghlfkokedpaa.Aw Go.Proofs.Ytpoghlfkokedpaa.Num Go.Proofs.Ytpoghlfkokedpaa.CrcM
set_option linter.unusedVariables false
set_option linter.unusedSimpArgs false

/-- bit j of a row of bytes, of each byte the lowest first -/
def bitAt (l : List UInt8) (j : Nat) : Bool := (l.getD (j / 8) 0).toNat.testBit (j % 8)
theorem bits_length (l : List UInt8) : (l.flatMap bitsOf).length = 8 * l.length := by
  induction l with
  | nil => rfl
  | cons b l ih => rw [List.flatMap_cons, List.length_append, ih, List.length_cons]; simp [bitsOf]; omega
theorem bits_get (l : List UInt8) : ∀ j, j < 8 * l.length → (l.flatMap bitsOf)[j]? = some (bitAt l j) := by
  induction l with
  | nil => intro j hj; simp at hj
  | cons b l ih =>
    intro j hj
    rw [List.length_cons] at hj
    rw [List.flatMap_cons]
    have hb : (bitsOf b).length = 8 := by simp [bitsOf]
    by_cases h : j < 8
    · rw [List.getElem?_append_left (by omega)]
      unfold bitAt bitsOf
      rw [show j / 8 = 0 by omega, show j % 8 = j by omega]
      simp [h]
    · rw [List.getElem?_append_right (by omega), hb, ih (j - 8) (by omega)]
      unfold bitAt
      rw [show j / 8 = (j - 8) / 8 + 1 by omega, show (j - 8) % 8 = j % 8 by omega]
      simp

theorem byte_ext {a b : UInt8} (h : ∀ j, j < 8 → a.toNat.testBit j = b.toNat.testBit j) : a = b := by
  apply UInt8.toNat_inj.1
  apply Nat.eq_of_testBit_eq
  intro i
  by_cases hi : i < 8
  · exact h i hi
  · have h1 : 2 ^ 8 ≤ 2 ^ i := Nat.pow_le_pow_right (by omega) (by omega)
    rw [Nat.testBit_lt_two_pow (Nat.lt_of_lt_of_le a.toNat_lt h1), Nat.testBit_lt_two_pow (Nat.lt_of_lt_of_le b.toNat_lt h1)]

theorem bits_ext {a b : List UInt8} (hl : a.length = b.length) (h : ∀ j, j < 8 * a.length → bitAt a j = bitAt b j) : a = b := by
  apply List.ext_getElem hl
  intro i h1 h2
  apply byte_ext
  intro j hj
  have := h (8 * i + j) (by omega)
  unfold bitAt at this
  rw [show (8 * i + j) / 8 = i by omega, show (8 * i + j) % 8 = j by omega] at this
  simpa [List.getD_eq_getElem?_getD, List.getElem?_eq_getElem h1, List.getElem?_eq_getElem h2] using this

theorem bitAt_xor {a b : List UInt8} (hl : a.length = b.length) {j : Nat} (hj : j < 8 * a.length) : bitAt (xorL a b) j = (bitAt a j ^^ bitAt b j) := by
  have h1 : j / 8 < a.length := by omega
  have h2 : j / 8 < b.length := by omega
  unfold bitAt xorL
  simp only [List.getD_eq_getElem?_getD, List.getElem?_zipWith, List.getElem?_eq_getElem h1, List.getElem?_eq_getElem h2, Option.getD_some]
  rw [UInt8.toNat_xor, Nat.testBit_xor]

/-- bits of which some within 32 side by side were turned: another sum, wherever the sum begins -/
theorem feed_burst {a b : List UInt8} (hl : a.length = b.length) {f : Nat} {t : Nat → Bool} (h : ∀ j, j < 8 * a.length → bitAt a j = (bitAt b j ^^ (decide (f ≤ j ∧ j < f + 32) && t (j - f)))) (hex : ∃ j, j < 8 * a.length ∧ f ≤ j ∧ j < f + 32 ∧ t (j - f) = true) (s : W) :
    feed s a ≠ feed s b := by
  intro he
  obtain ⟨j0, hj0, hf0, hf1, ht0⟩ := hex
  have hx : feed 0#32 (xorL a b) = 0#32 := by
    have e0 : (0#32 : W) = s ^^^ s := by rw [BitVec.xor_self]
    rw [e0, show xorL a b = List.zipWith (· ^^^ ·) a b from rfl, feed_xor _ _ _ _ hl, he, BitVec.xor_self, BitVec.xor_self]
  rw [feed_bits] at hx
  have hxl : (xorL a b).length = a.length := xorL_length hl
  have hbits : ∀ j, j < 8 * a.length → ((xorL a b).flatMap bitsOf)[j]? = some (decide (f ≤ j ∧ j < f + 32) && t (j - f)) := fun j hj => by
    rw [bits_get _ j (by omega), bitAt_xor hl hj, h j hj]
    cases bitAt b j <;> simp
  have hlen := bits_length (xorL a b)
  rw [hxl] at hlen
  let m := min 32 (8 * a.length - f)
  have hfm : f < 8 * a.length := by omega
  have hsplit : (xorL a b).flatMap bitsOf = List.replicate f false ++ (List.range m).map t ++ List.replicate (8 * a.length - f - m) false := by
    apply List.ext_getElem?
    intro j
    by_cases hj : j < 8 * a.length
    · rw [hbits j hj]
      by_cases h1 : j < f
      · rw [List.append_assoc, List.getElem?_append_left (by simpa using h1), List.getElem?_replicate, if_pos h1]
        simp; omega
      · by_cases h2 : j < f + m
        · rw [List.getElem?_append_left (by simp; omega), List.getElem?_append_right (by simp; omega), List.length_replicate, List.getElem?_map, List.getElem?_range (by omega)]
          have : f ≤ j ∧ j < f + 32 := by omega
          simp [this]
        · rw [List.getElem?_append_right (by simp; omega), List.getElem?_replicate, if_pos (by simp; omega)]
          have : ¬ (f ≤ j ∧ j < f + 32) := by omega
          simp [this]
    · rw [List.getElem?_eq_none (by omega), List.getElem?_eq_none (by simp; omega)]
  rw [hsplit] at hx
  refine burst f _ _ (by simp; omega) ?_ hx
  rw [List.mem_map]
  exact ⟨j0 - f, by rw [List.mem_range]; omega, ht0⟩

/-- one bit is turned -/
def flip (l : List UInt8) (k : Nat) : List UInt8 := l.set (k / 8) (l.getD (k / 8) 0 ^^^ UInt8.ofNat (2 ^ (k % 8)))
theorem flip_length (l : List UInt8) (k : Nat) : (flip l k).length = l.length := by simp [flip]
theorem pow8 {k : Nat} (h : k < 8) : (UInt8.ofNat (2 ^ k)).toNat = 2 ^ k := by
  have h1 : 2 ^ k < 2 ^ 8 := Nat.pow_lt_pow_right (by omega) h
  rw [UInt8.toNat_ofNat']
  exact Nat.mod_eq_of_lt (by simpa using h1)
theorem bitAt_flip {l : List UInt8} {k j : Nat} (hk : k < 8 * l.length) (hj : j < 8 * l.length) : bitAt (flip l k) j = (bitAt l j ^^ decide (j = k)) := by
  have h1 : k / 8 < l.length := by omega
  unfold bitAt flip
  simp only [List.getD_eq_getElem?_getD, List.getElem?_set]
  by_cases h : k / 8 = j / 8
  · rw [if_pos h, if_pos h1, Option.getD_some, UInt8.toNat_xor, Nat.testBit_xor, pow8 (Nat.mod_lt _ (by omega)), Nat.testBit_two_pow, h]
    congr 1
    apply decide_eq_decide.2
    omega
  · rw [if_neg h]
    have : ¬ j = k := by omega
    simp [this]
/-- what holds where the first i of the bits from f on have been seen -/
def Seen (x : List UInt8) (f t i : Nat) (c : List UInt8) (turned : Bool) : Prop :=
  c.length = x.length ∧ (∀ j, j < 8 * x.length → bitAt c j = (bitAt x j ^^ (decide (f ≤ j ∧ j < f + i) && t.testBit (j - f)))) ∧
  (turned = true ↔ ∃ j, j < 8 * x.length ∧ f ≤ j ∧ j < f + i ∧ t.testBit (j - f) = true)
theorem seen_start (x : List UInt8) (f t : Nat) : Seen x f t 0 x false := by
  refine ⟨rfl, fun j hj => ?_, ⟨fun h => (by cases h), ?_⟩⟩
  · have : ¬ (f ≤ j ∧ j < f + 0) := by omega
    rw [decide_eq_false this, Bool.false_and, Bool.xor_false]
  · rintro ⟨j, _, _, _, _⟩; omega
theorem seen_skip {x : List UInt8} {f t i : Nat} {c : List UInt8} {tu : Bool} (h : Seen x f t i c tu) (hno : f + i < 8 * x.length → t.testBit i = false) : Seen x f t (i + 1) c tu := by
  obtain ⟨h1, h2, h3⟩ := h
  refine ⟨h1, fun j hj => ?_, h3.trans ⟨?_, ?_⟩⟩
  · rw [h2 j hj]
    by_cases hji : j = f + i
    · subst hji
      rw [show f + i - f = i by omega, hno hj]
      simp
    · have : (f ≤ j ∧ j < f + i) ↔ (f ≤ j ∧ j < f + (i + 1)) := by omega
      rw [decide_eq_decide.2 this]
  · rintro ⟨j, a, b, d, e⟩; exact ⟨j, a, b, by omega, e⟩
  · rintro ⟨j, a, b, d, e⟩
    refine ⟨j, a, b, ?_, e⟩
    rcases Nat.lt_or_ge j (f + i) with h | h
    · exact h
    · have hji : j = f + i := by omega
      subst hji
      rw [show f + i - f = i by omega, hno a] at e
      cases e
theorem seen_flip {x : List UInt8} {f t i : Nat} {c : List UInt8} {tu : Bool} (h : Seen x f t i c tu) (hk : f + i < 8 * x.length) (ht : t.testBit i = true) : Seen x f t (i + 1) (flip c (f + i)) true := by
  obtain ⟨h1, h2, h3⟩ := h
  refine ⟨by rw [flip_length, h1], fun j hj => ?_, ⟨fun _ => ⟨f + i, hk, by omega, by omega, by rw [show f + i - f = i by omega]; exact ht⟩, fun _ => rfl⟩⟩
  rw [bitAt_flip (by omega) (by omega), h2 j hj]
  by_cases hji : j = f + i
  · subst hji
    have e1 : ¬ (f ≤ f + i ∧ f + i < f + i) := by omega
    have e2 : f ≤ f + i ∧ f + i < f + (i + 1) := by omega
    rw [show f + i - f = i by omega, ht]
    simp [e1, e2]
  · have : (f ≤ j ∧ j < f + i) ↔ (f ≤ j ∧ j < f + (i + 1)) := by omega
    have e : decide (f ≤ j ∧ j < f + i) = decide (f ≤ j ∧ j < f + (i + 1)) := decide_eq_decide.2 this
    rw [e, decide_eq_false hji, Bool.xor_false]
theorem seen_same {x : List UInt8} {f t : Nat} {c : List UInt8} (h : Seen x f t 32 c false) : c = x := by
  obtain ⟨h1, h2, h3⟩ := h
  refine bits_ext h1 fun j hj => ?_
  rw [h2 j (by omega)]
  by_cases hin : f ≤ j ∧ j < f + 32
  · have : t.testBit (j - f) = false := by
      cases hb : t.testBit (j - f) with
      | false => rfl
      | true => exact absurd (h3.2 ⟨j, by omega, hin.1, hin.2, hb⟩) (by simp)
    rw [this]; simp
  · simp [hin]
theorem seen_other {x : List UInt8} {f t : Nat} {c : List UInt8} (h : Seen x f t 32 c true) (s : W) : feed s c ≠ feed s x := by
  obtain ⟨h1, h2, h3⟩ := h
  refine feed_burst h1 (f := f) (t := t.testBit) (fun j hj => h2 j (by omega)) ?_ s
  obtain ⟨j, a, b, d, e⟩ := h3.1 rfl
  exact ⟨j, by omega, b, d, e⟩
theorem seen_crc {x : List UInt8} {f t : Nat} {c : List UInt8} {tu : Bool} (h : Seen x f t 32 c tu) : (decide (crc 0 c = crc 0 x) == !tu) = true := by
  cases tu with
  | false => rw [seen_same h]; simp
  | true =>
    have hne := seen_other h 4294967295#32
    have : ¬ crc 0 c = crc 0 x := fun e => by
      have e' : n32 (feed 4294967295#32 c ^^^ 4294967295#32) = n32 (feed 4294967295#32 x ^^^ 4294967295#32) := e
      rw [n32_inj] at e'
      apply hne
      have := congrArg (· ^^^ 4294967295#32) e'
      simpa [BitVec.xor_assoc] using this
    simp [this]
theorem bit32 {t i : Nat} (ht : t < 4294967296) (hi : i ≤ 32) : decide (andK .u32 (shrK .u32 (t : Int) (i : Int)) 1 = 1) = t.testBit i := by
  have e0 : shrK .u32 (t : Int) (i : Int) = ((t / 2 ^ i : Nat) : Int) := by
    show (t : Int) / 2 ^ (min (i : Int).toNat 32) = _
    rw [Int.toNat_natCast, Nat.min_eq_left hi, Int.natCast_ediv]
    simp
  have hq : t / 2 ^ i ≤ t := Nat.div_le_self _ _
  rw [e0, Nat.testBit_eq_decide_div_mod_eq]
  generalize t / 2 ^ i = q at hq
  have e1 : (BitVec.ofInt 32 (q : Int) &&& BitVec.ofInt 32 1).toNat = q % 2 := by
    rw [BitVec.toNat_and, ofInt_toNat, show (1 : Int) = ((1 : Nat) : Int) from rfl, ofInt_toNat, show 1 % 2 ^ 32 = 1 from rfl, Nat.and_one_is_mod]
    omega
  have e2 : andK .u32 (q : Int) 1 = ((q % 2 : Nat) : Int) := by
    show IntKind.u32.wrap ((BitVec.ofInt 32 (q : Int) &&& BitVec.ofInt 32 1).toNat : Int) = _
    rw [e1]; exact u32w (by omega) (by omega)
  rw [e2]
  apply decide_eq_decide.2
  omega
/-- one bit after the other -/
def turnGo (t f : Nat) : Nat → List UInt8 × Bool → List UInt8 × Bool
  | 0, q => q
  | i + 1, q => if t.testBit i = true ∧ f + i < 8 * (turnGo t f i q).1.length then (flip (turnGo t f i q).1 (f + i), true) else turnGo t f i q
def turnF (x : List UInt8) (f t : Nat) : List UInt8 × Bool := turnGo t f 32 (x, false)
theorem turnGo_seen (x : List UInt8) (f t : Nat) : ∀ i, Seen x f t i (turnGo t f i (x, false)).1 (turnGo t f i (x, false)).2
  | 0 => seen_start x f t
  | i + 1 => by
    have ih := turnGo_seen x f t i
    have hl := ih.1
    unfold turnGo
    split
    · rename_i h
      exact seen_flip ih (by omega) h.1
    · rename_i h
      refine seen_skip ih fun hlt => ?_
      cases hb : t.testBit i with
      | false => rfl
      | true => exact absurd ⟨hb, by omega⟩ h
theorem turnF_seen (x : List UInt8) (f t : Nat) : Seen x f t 32 (turnF x f t).1 (turnF x f t).2 := turnGo_seen x f t 32
/-- the value that is stored -/
theorem flip_value (b : UInt8) (k : Nat) : xorK .u8 ((b.toNat : Nat) : Int) (shlK .u8 1 ((k % 8 : Nat) : Int)) = (((b ^^^ UInt8.ofNat (2 ^ (k % 8))).toNat : Nat) : Int) := by
  have hk : k % 8 < 8 := Nat.mod_lt _ (by omega)
  have e : shlK .u8 1 ((k % 8 : Nat) : Int) = (((UInt8.ofNat (2 ^ (k % 8))).toNat : Nat) : Int) := by
    show IntKind.u8.wrap (1 * 2 ^ (min ((k % 8 : Nat) : Int).toNat 8)) = _
    rw [Int.toNat_natCast, Nat.min_eq_left (by omega), pow8 hk, Int.one_mul]
    generalize hq : k % 8 = q at hk
    have h1 : 2 ^ q < 2 ^ 8 := Nat.pow_lt_pow_right (by omega) hk
    have e2 : (2 : Int) ^ q = ((2 ^ q : Nat) : Int) := by simp
    rw [e2]
    generalize (2 : Nat) ^ q = p at h1
    exact u8w (by omega) (by omega)
  rw [e, xor8b]
end Go.Proofs.Ytpoghlfkokedpaa.CrcN
