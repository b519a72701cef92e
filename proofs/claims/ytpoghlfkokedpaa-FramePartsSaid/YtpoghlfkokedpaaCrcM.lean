/-
  SUMS OF BYTES, THE MATHEMATICS ALONE: one bit's step is linear and one to one; a burst of at most 32 bits changes the state.
-/
namespace Go.Proofs.Ytpoghlfkokedpaa.CrcM
set_option linter.unusedVariables false
set_option linter.unusedSimpArgs false

abbrev W := BitVec 32
def P : W := 2197175160#32

/-- half of it, rounded down, XOR the constant, if it was odd -/
def step (x : W) : W := (x >>> 1) ^^^ (if x.getLsbD 0 then P else 0#32)

theorem step_zero : step 0#32 = 0#32 := by decide
theorem step_xor (x y : W) : step (x ^^^ y) = step x ^^^ step y := by
  unfold step
  rw [BitVec.ushiftRight_xor_distrib, BitVec.getLsbD_xor]
  cases x.getLsbD 0 <;> cases y.getLsbD 0 <;> simp
  · rw [BitVec.xor_assoc]
  · rw [BitVec.xor_assoc, BitVec.xor_assoc, BitVec.xor_comm P]
  · rw [BitVec.xor_assoc, BitVec.xor_comm P (y >>> 1 ^^^ P), BitVec.xor_assoc, BitVec.xor_self]; simp

theorem step_eq_zero {x : W} (h : step x = 0#32) : x = 0#32 := by
  have h31 : (step x).getLsbD 31 = false := by rw [h]; simp
  unfold step at h h31
  cases h0 : x.getLsbD 0 with
  | true =>
    exfalso
    rw [h0] at h31
    simp [BitVec.getLsbD_xor, BitVec.getLsbD_ushiftRight, P] at h31
  | false =>
    rw [h0] at h
    simp at h
    apply BitVec.eq_of_getLsbD_eq
    intro i hi
    cases i with
    | zero => rw [h0]; simp
    | succ i =>
      have := congrArg (fun z : W => z.getLsbD i) h
      simp [BitVec.getLsbD_ushiftRight] at this
      rw [Nat.add_comm, this]; simp

def steps : Nat → W → W
  | 0, x => x
  | n + 1, x => steps n (step x)
theorem steps_zero (n : Nat) : steps n 0#32 = 0#32 := by induction n with | zero => rfl | succ n ih => rw [steps, step_zero, ih]
theorem steps_xor (n : Nat) : ∀ x y, steps n (x ^^^ y) = steps n x ^^^ steps n y := by
  induction n with
  | zero => intro x y; rfl
  | succ n ih => intro x y; rw [steps, step_xor, ih]; rfl
theorem steps_eq_zero (n : Nat) : ∀ {x}, steps n x = 0#32 → x = 0#32 := by
  induction n with
  | zero => intro x h; exact h
  | succ n ih => intro x h; exact step_eq_zero (ih h)
theorem steps_add (m n : Nat) : ∀ x, steps (m + n) x = steps n (steps m x) := by
  induction m with
  | zero => intro x; simp [steps]
  | succ m ih => intro x; rw [Nat.add_right_comm, steps, ih]; rfl

/-- the state behind bytes -/
def feed : W → List UInt8 → W
  | s, [] => s
  | s, c :: l => feed (steps 8 (s ^^^ BitVec.ofNat 32 c.toNat)) l
def sum (init : W) (l : List UInt8) : W := feed (init ^^^ 4294967295#32) l ^^^ 4294967295#32
theorem feed_append (l m : List UInt8) : ∀ s, feed s (l ++ m) = feed (feed s l) m := by
  induction l with
  | nil => intro s; rfl
  | cons c l ih => intro s; exact ih _
theorem sum_append (init : W) (l m : List UInt8) : sum init (l ++ m) = sum (sum init l) m := by
  unfold sum
  rw [feed_append, BitVec.xor_assoc, BitVec.xor_self]; simp

/-! ### bursts: bits fed one at a time, the lowest of a byte first -/
def bit (b : Bool) : W := if b then 1#32 else 0#32
def feedBits : W → List Bool → W
  | s, [] => s
  | s, b :: l => feedBits (step (s ^^^ bit b)) l
def word : List Bool → W
  | [] => 0#32
  | b :: l => bit b ^^^ (word l <<< 1)

theorem step_shl (x : W) (h : x.getLsbD 31 = false) : step (x <<< 1) = x := by
  unfold step
  have h0 : (x <<< 1).getLsbD 0 = false := by simp
  rw [h0]
  apply BitVec.eq_of_getLsbD_eq
  intro i hi
  by_cases h' : i = 31
  · subst h'; rw [h]; simp [BitVec.getLsbD_ushiftRight]
  · simp [BitVec.getLsbD_ushiftRight, BitVec.getLsbD_shiftLeft]; omega

theorem word_high (l : List Bool) : ∀ j, l.length ≤ j → (word l).getLsbD j = false := by
  induction l with
  | nil => intro j _; simp [word]
  | cons b l ih =>
    intro j hj
    simp only [List.length_cons] at hj
    cases j with
    | zero => omega
    | succ j =>
      simp only [word, BitVec.getLsbD_xor, BitVec.getLsbD_shiftLeft, bit]
      rw [show (j + 1 - 1) = j by omega, ih j (by omega)]
      cases b <;> simp [BitVec.getLsbD_one]

/-- at most 32 bits, fed one at a time, are the word of them, XORed at once -/
theorem feedBits_word (l : List Bool) : ∀ s, l.length ≤ 32 → feedBits s l = steps l.length (s ^^^ word l) := by
  induction l with
  | nil => intro s _; simp [feedBits, word, steps]
  | cons b l ih =>
    intro s hl
    simp only [List.length_cons] at hl
    rw [feedBits, ih _ (by omega), List.length_cons, steps, word, ← BitVec.xor_assoc, step_xor (s ^^^ bit b), step_shl]
    exact word_high l 31 (by omega)

theorem word_zero (l : List Bool) (hl : l.length ≤ 32) (h : word l = 0#32) : ∀ b ∈ l, b = false := by
  induction l with
  | nil => intro b hb; cases hb
  | cons c l ih =>
    simp only [List.length_cons] at hl
    have hc : c = false := by
      have := congrArg (fun z : W => z.getLsbD 0) h
      simp [word, bit] at this
      cases c <;> simp_all
    subst hc
    have hw : word l = 0#32 := by
      have h1 : word l <<< 1 = 0#32 := by simpa [word, bit] using h
      have h2 := step_shl (word l) (word_high l 31 (by omega))
      rw [h1, step_zero] at h2
      exact h2.symm
    intro b hb
    rcases List.mem_cons.1 hb with rfl | hb
    · rfl
    · exact ih (by omega) hw b hb

theorem feedBits_zeros (n : Nat) : ∀ s, feedBits s (List.replicate n false) = steps n s := by
  induction n with
  | zero => intro s; rfl
  | succ n ih => intro s; rw [List.replicate_succ, feedBits, ih]; simp [bit, steps]
theorem feedBits_append (l m : List Bool) : ∀ s, feedBits s (l ++ m) = feedBits (feedBits s l) m := by
  induction l with
  | nil => intro s; rfl
  | cons b l ih => intro s; exact ih _

/-- bits of which only some within 32 are set, and at least one, leave a state that is not 0 -/
theorem burst (m n : Nat) (l : List Bool) (hl : l.length ≤ 32) (h : true ∈ l) : feedBits 0#32 (List.replicate m false ++ l ++ List.replicate n false) ≠ 0#32 := by
  intro he
  rw [feedBits_append, feedBits_append, feedBits_zeros, feedBits_zeros, steps_zero, feedBits_word l _ hl] at he
  have h1 := steps_eq_zero _ (steps_eq_zero _ he)
  simp at h1
  exact absurd (word_zero l hl h1 true h) (by simp)

/-! ### a byte at a time -/
theorem steps_shl (n : Nat) : ∀ (y : W), (∀ j, 32 - n ≤ j → y.getLsbD j = false) → steps n (y <<< n) = y := by
  induction n with
  | zero => intro y _; simp [steps]
  | succ n ih =>
    intro y hy
    have e : y <<< (n + 1) = (y <<< n) <<< 1 := by rw [BitVec.shiftLeft_add]
    rw [steps, e, step_shl]
    · exact ih y fun j hj => by
        by_cases h' : 32 - n ≤ j
        · exact hy j (by omega)
        · omega
    · rw [BitVec.getLsbD_shiftLeft]
      by_cases h' : 31 < n
      · simp [h']
      · simp; intro _ ; exact hy _ (by omega)

theorem steps8 (x : W) : steps 8 x = steps 8 (x &&& 255#32) ^^^ (x >>> 8) := by
  have e : x = (x &&& 255#32) ^^^ ((x >>> 8) <<< 8) := by
    apply BitVec.eq_of_getLsbD_eq
    intro i hi
    have h255 : (255#32).getLsbD i = decide (i < 8) := by
      rw [show (255#32) = BitVec.ofNat 32 (2 ^ 8 - 1) from rfl, BitVec.getLsbD_ofNat, Nat.testBit_two_pow_sub_one]; simp [hi]
    simp only [BitVec.getLsbD_xor, BitVec.getLsbD_and, BitVec.getLsbD_shiftLeft, BitVec.getLsbD_ushiftRight, h255]
    by_cases h8 : i < 8
    · simp [h8]
    · simp [h8, hi]
      rw [show 8 + (i - 8) = i by omega, BitVec.getLsbD_eq_getElem hi]
  have h8 : steps 8 ((x >>> 8) <<< 8) = x >>> 8 := steps_shl 8 _ fun j hj => by
    rw [BitVec.getLsbD_ushiftRight]; exact BitVec.getLsbD_of_ge _ _ (by omega)
  conv => lhs; rw [e]
  rw [steps_xor, h8]

def bitsOf (c : UInt8) : List Bool := (List.range 8).map fun i => c.toNat.testBit i
theorem word_bits (c : UInt8) : word (bitsOf c) = BitVec.ofNat 32 c.toNat := by
  have h : ∀ n, n < 256 → word ((List.range 8).map fun i => n.testBit i) = BitVec.ofNat 32 n := by decide +kernel
  exact h _ c.toNat_lt
theorem feed_bits (l : List UInt8) : ∀ s, feed s l = feedBits s (l.flatMap bitsOf) := by
  induction l with
  | nil => intro s; rfl
  | cons c l ih =>
    intro s
    rw [feed, ih, List.flatMap_cons, feedBits_append, feedBits_word (bitsOf c) s (by simp [bitsOf]), word_bits]
    rfl

/-- linear, over rows of one length -/
theorem feed_xor (l : List UInt8) : ∀ (m : List UInt8) (s t : W), l.length = m.length → feed (s ^^^ t) (List.zipWith (· ^^^ ·) l m) = feed s l ^^^ feed t m := by
  induction l with
  | nil => intro m s t h; cases m with | nil => rfl | cons _ _ => cases h
  | cons c l ih =>
    intro m s t h
    cases m with
    | nil => cases h
    | cons d m =>
      simp only [List.length_cons] at h
      rw [List.zipWith_cons_cons, feed, feed, feed, ← ih m _ _ (by omega)]
      congr 1
      rw [← steps_xor]
      congr 1
      have : BitVec.ofNat 32 (c ^^^ d).toNat = BitVec.ofNat 32 c.toNat ^^^ BitVec.ofNat 32 d.toNat := by
        rw [UInt8.toNat_xor, BitVec.ofNat_xor]
      rw [this]
      simp only [BitVec.xor_assoc]
      congr 1
      rw [← BitVec.xor_assoc, BitVec.xor_comm t, BitVec.xor_assoc]
end Go.Proofs.Ytpoghlfkokedpaa.CrcM
