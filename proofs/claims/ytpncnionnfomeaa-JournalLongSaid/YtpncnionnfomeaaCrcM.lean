import Derived.Test.YtpncnionnfomeaaNum
namespace Go.Proofs.Ytpncnionnfomeaa.CrcM
set_option linter.unusedVariables false
set_option linter.unusedSimpArgs false
abbrev W := BitVec 32
def P : W := 2197175160#32
def step (x : W) : W := (x >>> 1) ^^^ (if x.getLsbD 0 then P else 0#32)
theorem step_zero : step 0#32 = 0#32 := by decide
theorem step_xor (x y : W) : step (x ^^^ y) = step x ^^^ step y := by
  unfold step
  rw [BitVec.ushiftRight_xor_distrib, BitVec.getLsbD_xor]
  cases x.getLsbD 0 <;> cases y.getLsbD 0 <;> simp
  · rw [BitVec.xor_assoc]
  · rw [BitVec.xor_assoc, BitVec.xor_assoc, BitVec.xor_comm P]
  · rw [BitVec.xor_assoc, BitVec.xor_comm P (y >>> 1 ^^^ P), BitVec.xor_assoc, BitVec.xor_self]; simp
theorem step_eq_zero {x : W} (h : step x = 0#32) : x = 0#32 := by
  have h31 : (step x).getLsbD 31 = false := by rw [h]; simp
  unfold step at h h31
  cases h0 : x.getLsbD 0 with
  | true =>
    exfalso
    rw [h0] at h31
    simp [BitVec.getLsbD_xor, BitVec.getLsbD_ushiftRight, P] at h31
  | false =>
    rw [h0] at h
    simp at h
    apply BitVec.eq_of_getLsbD_eq
    intro i hi
    cases i with
    | zero => rw [h0]; simp
    | succ i =>
      have := congrArg (fun z : W => z.getLsbD i) h
      simp [BitVec.getLsbD_ushiftRight] at this
      rw [Nat.add_comm, this]; simp
def steps : Nat → W → W
  | 0, x => x
  | n + 1, x => steps n (step x)
theorem steps_zero (n : Nat) : steps n 0#32 = 0#32 := by induction n with | zero => rfl | succ n ih => rw [steps, step_zero, ih]
theorem steps_xor (n : Nat) : ∀ x y, steps n (x ^^^ y) = steps n x ^^^ steps n y := by
  induction n with
  | zero => intro x y; rfl
  | succ n ih => intro x y; rw [steps, step_xor, ih]; rfl
theorem steps_eq_zero (n : Nat) : ∀ {x}, steps n x = 0#32 → x = 0#32 := by
  induction n with
  | zero => intro x h; exact h
  | succ n ih => intro x h; exact step_eq_zero (ih h)
theorem steps_add (m n : Nat) : ∀ x, steps (m + n) x = steps n (steps m x) := by
  induction m with
  | zero => intro x; simp [steps]
  | succ m ih => intro x; rw [Nat.add_right_comm, steps, ih]; rfl
def feed : W → List UInt8 → W
  | s, [] => s
  | s, c :: l => feed (steps 8 (s ^^^ BitVec.ofNat 32 c.toNat)) l
def sum (init : W) (l : List UInt8) : W := feed (init ^^^ 4294967295#32) l ^^^ 4294967295#32
theorem feed_append (l m : List UInt8) : ∀ s, feed s (l ++ m) = feed (feed s l) m := by
  induction l with
  | nil => intro s; rfl
  | cons c l ih => intro s; exact ih _
theorem sum_append (init : W) (l m : List UInt8) : sum init (l ++ m) = sum (sum init l) m := by
  unfold sum
  rw [feed_append, BitVec.xor_assoc, BitVec.xor_self]; simp
def bit (b : Bool) : W := if b then 1#32 else 0#32
def feedBits : W → List Bool → W
  | s, [] => s
  | s, b :: l => feedBits (step (s ^^^ bit b)) l
def word : List Bool → W
  | [] => 0#32
  | b :: l => bit b ^^^ (word l <<< 1)
theorem step_shl (x : W) (h : x.getLsbD 31 = false) : step (x <<< 1) = x := by
  unfold step
  have h0 : (x <<< 1).getLsbD 0 = false := by simp
  rw [h0]
  apply BitVec.eq_of_getLsbD_eq
  intro i hi
  by_cases h' : i = 31
  · subst h'; rw [h]; simp [BitVec.getLsbD_ushiftRight]
  · simp [BitVec.getLsbD_ushiftRight, BitVec.getLsbD_shiftLeft]; omega
theorem word_high (l : List Bool) : ∀ j, l.length ≤ j → (word l).getLsbD j = false := by
  induction l with
  | nil => intro j _; simp [word]
  | cons b l ih =>
    intro j hj
    simp only [List.length_cons] at hj
    cases j with
    | zero => omega
    | succ j =>
      simp only [word, BitVec.getLsbD_xor, BitVec.getLsbD_shiftLeft, bit]
      rw [show (j + 1 - 1) = j by omega, ih j (by omega)]
      cases b <;> simp [BitVec.getLsbD_one]
theorem feedBits_word (l : List Bool) : ∀ s, l.length ≤ 32 → feedBits s l = steps l.length (s ^^^ word l) := by
  induction l with
  | nil => intro s _; simp [feedBits, word, steps]
  | cons b l ih =>
    intro s hl
    simp only [List.length_cons] at hl
    rw [feedBits, ih _ (by omega), List.length_cons, steps, word, ← BitVec.xor_assoc, step_xor (s ^^^ bit b), step_shl]
    exact word_high l 31 (by omega)
theorem word_zero (l : List Bool) (hl : l.length ≤ 32) (h : word l = 0#32) : ∀ b ∈ l, b = false := by
  induction l with
  | nil => intro b hb; cases hb
  | cons c l ih =>
    simp only [List.length_cons] at hl
    have hc : c = false := by
      have := congrArg (fun z : W => z.getLsbD 0) h
      simp [word, bit] at this
      cases c <;> simp_all
    subst hc
    have hw : word l = 0#32 := by
      have h1 : word l <<< 1 = 0#32 := by simpa [word, bit] using h
      have h2 := step_shl (word l) (word_high l 31 (by omega))
      rw [h1, step_zero] at h2
      exact h2.symm
    intro b hb
    rcases List.mem_cons.1 hb with rfl | hb
    · rfl
    · exact ih (by omega) hw b hb
theorem feedBits_zeros (n : Nat) : ∀ s, feedBits s (List.replicate n false) = steps n s := by
  induction n with
  | zero => intro s; rfl
  | succ n ih => intro s; rw [List.replicate_succ, feedBits, ih]; simp [bit, steps]
theorem feedBits_append (l m : List Bool) : ∀ s, feedBits s (l ++ m) = feedBits (feedBits s l) m := by
  induction l with
  | nil => intro s; rfl
  | cons b l ih => intro s; exact ih _
theorem burst (m n : Nat) (l : List Bool) (hl : l.length ≤ 32) (h : true ∈ l) : feedBits 0#32 (List.replicate m false ++ l ++ List.replicate n false) ≠ 0#32 := by
  intro he
  rw [feedBits_append, feedBits_append, feedBits_zeros, feedBits_zeros, steps_zero, feedBits_word l _ hl] at he
  have h1 := steps_eq_zero _ (steps_eq_zero _ he)
  simp at h1
  exact absurd (word_zero l hl h1 true h) (by simp)
theorem steps_shl (n : Nat) : ∀ (y : W), (∀ j, 32 - n ≤ j → y.getLsbD j = false) → steps n (y <<< n) = y := by
  induction n with
  | zero => intro y _; simp [steps]
  | succ n ih =>
    intro y hy
    have e : y <<< (n + 1) = (y <<< n) <<< 1 := by rw [BitVec.shiftLeft_add]
    rw [steps, e, step_shl]
    · exact ih y fun j hj => by
        by_cases h' : 32 - n ≤ j
        · exact hy j (by omega)
        · omega
    · rw [BitVec.getLsbD_shiftLeft]
      by_cases h' : 31 < n
      · simp [h']
      · simp; intro _ ; exact hy _ (by omega)
theorem steps8 (x : W) : steps 8 x = steps 8 (x &&& 255#32) ^^^ (x >>> 8) := by
  have e : x = (x &&& 255#32) ^^^ ((x >>> 8) <<< 8) := by
    apply BitVec.eq_of_getLsbD_eq
    intro i hi
    have h255 : (255#32).getLsbD i = decide (i < 8) := by
      rw [show (255#32) = BitVec.ofNat 32 (2 ^ 8 - 1) from rfl, BitVec.getLsbD_ofNat, Nat.testBit_two_pow_sub_one]; simp [hi]
    simp only [BitVec.getLsbD_xor, BitVec.getLsbD_and, BitVec.getLsbD_shiftLeft, BitVec.getLsbD_ushiftRight, h255]
    by_cases h8 : i < 8
    · simp [h8]
    · simp [h8, hi]
      rw [show 8 + (i - 8) = i by omega, BitVec.getLsbD_eq_getElem hi]
  have h8 : steps 8 ((x >>> 8) <<< 8) = x >>> 8 := steps_shl 8 _ fun j hj => by
    rw [BitVec.getLsbD_ushiftRight]; exact BitVec.getLsbD_of_ge _ _ (by omega)
  conv => lhs; rw [e]
  rw [steps_xor, h8]
def bitsOf (c : UInt8) : List Bool := (List.range 8).map fun i => c.toNat.testBit i
theorem word_bits (c : UInt8) : word (bitsOf c) = BitVec.ofNat 32 c.toNat := by
  have h : ∀ n, n < 256 → word ((List.range 8).map fun i => n.testBit i) = BitVec.ofNat 32 n := by decide +kernel
  exact h _ c.toNat_lt
theorem feed_bits (l : List UInt8) : ∀ s, feed s l = feedBits s (l.flatMap bitsOf) := by
  induction l with
  | nil => intro s; rfl
  | cons c l ih =>
    intro s
    rw [feed, ih, List.flatMap_cons, feedBits_append, feedBits_word (bitsOf c) s (by simp [bitsOf]), word_bits]
    rfl
theorem feed_xor (l : List UInt8) : ∀ (m : List UInt8) (s t : W), l.length = m.length → feed (s ^^^ t) (List.zipWith (· ^^^ ·) l m) = feed s l ^^^ feed t m := by
  induction l with
  | nil => intro m s t h; cases m with | nil => rfl | cons _ _ => cases h
  | cons c l ih =>
    intro m s t h
    cases m with
    | nil => cases h
    | cons d m =>
      simp only [List.length_cons] at h
      rw [List.zipWith_cons_cons, feed, feed, feed, ← ih m _ _ (by omega)]
      congr 1
      rw [← steps_xor]
      congr 1
      have : BitVec.ofNat 32 (c ^^^ d).toNat = BitVec.ofNat 32 c.toNat ^^^ BitVec.ofNat 32 d.toNat := by
        rw [UInt8.toNat_xor, BitVec.ofNat_xor]
      rw [this]
      simp only [BitVec.xor_assoc]
      congr 1
      rw [← BitVec.xor_assoc, BitVec.xor_comm t, BitVec.xor_assoc]
end Go.Proofs.Ytpncnionnfomeaa.CrcM
namespace Go.Proofs.Ytpncnionnfomeaa.CrcN
open Go Go.Proofs.Ytpncnionnfomeaa.Aw Go.Proofs.Ytpncnionnfomeaa.Num Go.Proofs.Ytpncnionnfomeaa.CrcM
set_option linter.unusedVariables false
set_option linter.unusedSimpArgs false
def n32 (x : W) : Int := (x.toNat : Int)
theorem n32_bound (x : W) : 0 ≤ n32 x ∧ n32 x ≤ 4294967295 := by unfold n32; have := x.isLt; omega
theorem n32_of {n : Int} (h0 : 0 ≤ n) (h1 : n ≤ 4294967295) : n = n32 (BitVec.ofInt 32 n) := by
  unfold n32; rw [BitVec.toNat_ofInt]; omega
theorem ofInt_n32 (x : W) : BitVec.ofInt 32 (n32 x) = x := by
  apply BitVec.eq_of_toNat_eq
  unfold n32; rw [BitVec.toNat_ofInt]; have := x.isLt; omega
theorem n32_inj {x y : W} : n32 x = n32 y ↔ x = y := ⟨fun h => by rw [← ofInt_n32 x, h, ofInt_n32], fun h => by rw [h]⟩
theorem n32_eq (x y : W) : decide (n32 x = n32 y) = decide (x = y) := decide_eq_decide.2 n32_inj
theorem n32_P : (2197175160 : Int) = n32 P := by decide
theorem n32_ones : (4294967295 : Int) = n32 4294967295#32 := by decide
theorem n32_zero : (0 : Int) = n32 0#32 := by decide
theorem xor32 (x y : W) : xorK .u32 (n32 x) (n32 y) = n32 (x ^^^ y) := by
  have e : ∀ z : W, BitVec.ofInt 32 (n32 z) = z := ofInt_n32
  show IntKind.u32.wrap ((BitVec.ofInt 32 (n32 x) ^^^ BitVec.ofInt 32 (n32 y)).toNat : Int) = _
  rw [e, e]
  have := (x ^^^ y).isLt
  exact u32w (by omega) (by omega)
theorem odd32 (x : W) : decide ((n32 x).tmod 2 = 1) = x.getLsbD 0 := by
  have h : (n32 x).tmod 2 = ((x.toNat % 2 : Nat) : Int) := by unfold n32; rw [Int.tmod_eq_emod_of_nonneg (by omega)]; omega
  rw [h, BitVec.getLsbD, Nat.testBit_zero]
  congr 1
  apply propext
  omega
theorem div32 (x : W) (n : Nat) : IntKind.u32.wrap ((n32 x).tdiv ((2 ^ n : Nat) : Int)) = n32 (x >>> n) := by
  have h : (n32 x).tdiv ((2 ^ n : Nat) : Int) = ((x.toNat / 2 ^ n : Nat) : Int) := by unfold n32; rw [Int.tdiv_eq_ediv_of_nonneg (by omega)]; exact (Int.natCast_ediv _ _).symm
  have h2 : x.toNat / 2 ^ n ≤ x.toNat := Nat.div_le_self _ _
  have := x.isLt
  have e : n32 (x >>> n) = ((x.toNat / 2 ^ n : Nat) : Int) := by unfold n32; rw [BitVec.toNat_ushiftRight, Nat.shiftRight_eq_div_pow]
  rw [h, e]
  generalize x.toNat / 2 ^ n = q at h2 ⊢
  exact u32w (by omega) (by omega)
theorem half32 (x : W) : IntKind.u32.wrap ((n32 x).tdiv 2) = n32 (x >>> 1) := div32 x 1
theorem div32_256 (x : W) : IntKind.u32.wrap ((n32 x).tdiv 256) = n32 (x >>> 8) := div32 x 8
theorem and255 (x : W) : (x &&& 255#32).toNat = x.toNat % 256 := by
  rw [BitVec.toNat_and]
  exact Nat.and_two_pow_sub_one_eq_mod x.toNat 8
theorem mod32_256 (x : W) : (n32 x).tmod 256 = n32 (x &&& 255#32) := by
  unfold n32
  rw [Int.tmod_eq_emod_of_nonneg (by omega), and255]
  omega
theorem step_eq (x : W) : CrcM.step x = if x.getLsbD 0 then (x >>> 1) ^^^ P else x >>> 1 := by
  unfold CrcM.step; split <;> simp
def w8 (b : UInt8) : W := BitVec.ofNat 32 b.toNat
theorem n32_w8 (b : UInt8) : ((b.toNat : Nat) : Int) = n32 (w8 b) := by
  unfold n32 w8; rw [BitVec.toNat_ofNat]; have := b.toNat_lt; omega
theorem wrap8 (b : UInt8) : IntKind.u32.wrap ((b.toNat : Nat) : Int) = n32 (w8 b) := by
  rw [← n32_w8]; have := b.toNat_lt; exact u32w (by omega) (by omega)
theorem w8_high (x : W) (b : UInt8) : (x ^^^ w8 b) >>> 8 = x >>> 8 := by
  apply BitVec.eq_of_getLsbD_eq
  intro i hi
  have : (w8 b).getLsbD (8 + i) = false := by
    unfold w8
    rw [BitVec.getLsbD_ofNat, Nat.testBit_lt_two_pow (Nat.lt_of_lt_of_le b.toNat_lt (Nat.pow_le_pow_right (by omega) (by omega : 8 ≤ 8 + i)))]
    simp
  simp [BitVec.getLsbD_ushiftRight, BitVec.getLsbD_xor, this]
theorem byte_step (x : W) (b : UInt8) : steps 8 (x ^^^ w8 b) = steps 8 ((x ^^^ w8 b) &&& 255#32) ^^^ (x >>> 8) := by
  rw [steps8, w8_high]
theorem byte_at (x : W) (b : UInt8) : xorK .u8 (IntKind.u8.wrap (n32 x)) ((b.toNat : Nat) : Int) = n32 ((x ^^^ w8 b) &&& 255#32) := by
  have e1 : IntKind.u8.wrap (n32 x) = ((x.toNat % 256 : Nat) : Int) := by rw [u8wrap]; unfold n32; omega
  show IntKind.u8.wrap ((BitVec.ofInt 8 (IntKind.u8.wrap (n32 x)) ^^^ BitVec.ofInt 8 ((b.toNat : Nat) : Int)).toNat : Int) = _
  have hb := b.toNat_lt
  rw [e1, BitVec.toNat_xor, ofInt_toNat, ofInt_toNat]
  unfold n32
  rw [and255, BitVec.toNat_xor]
  have e2 : (w8 b).toNat = b.toNat := by unfold w8; rw [BitVec.toNat_ofNat]; omega
  have e3 : (x.toNat ^^^ b.toNat) % 256 = (x.toNat % 256) ^^^ (b.toNat % 256) := Nat.xor_mod_two_pow (n := 8)
  rw [e2, e3, u8wrap, show (2 : Nat) ^ 8 = 256 from rfl, Nat.mod_mod]
  have : (x.toNat % 256) ^^^ (b.toNat % 256) < 256 := Nat.xor_lt_two_pow (n := 8) (Nat.mod_lt _ (by omega)) (Nat.mod_lt _ (by omega))
  omega
def ent (i : Nat) : Int := n32 (steps 8 (BitVec.ofNat 32 i))
def tbl : List V := (List.range 256).map fun i => .int .u32 (ent i)
theorem tbl_length : tbl.length = 256 := by simp [tbl]
theorem tbl_get {j : Nat} (h : j < 256) : tbl[j]? = some (.int .u32 (ent j)) := by simp [tbl, h]
theorem tbl_cell {z : Int} (h0 : 0 ≤ z) (h1 : z < 256) : cellV tbl z.toNat = some (.int .u32 (ent z.toNat)) := by
  unfold cellV; rw [tbl_get (by omega)]
theorem tbl_clean : ∀ v ∈ tbl, v.clean := by
  intro v hv; simp only [tbl, List.mem_map] at hv; obtain ⟨i, _, rfl⟩ := hv; simp only [V.clean]
theorem intsOf_map {α : Type} (k : IntKind) (f : α → Int) : ∀ l : List α, intsOf k (l.map fun i => .int k (f i)) = some (l.map f)
  | [] => rfl
  | a :: l => by simp only [List.map_cons, intsOf, if_true, intsOf_map k f l, Option.map_some]
theorem tbl_ints : intsOf .u32 tbl = some ((List.range 256).map ent) := intsOf_map _ _ _
def part (i : Nat) : List V := (List.range i).map (fun i => .int .u32 (ent i)) ++ List.replicate (256 - i) (.int .u32 0)
theorem part_zero : part 0 = rep 256 (.int .u32 0) := rfl
theorem part_full : part 256 = tbl := by unfold part tbl; rw [Nat.sub_self, List.replicate_zero, List.append_nil]
theorem part_length {i : Nat} (h : i ≤ 256) : (part i).length = 256 := by simp [part]; omega
theorem part_set {i : Nat} (h : i < 256) : setSeg (part i) i [.int .u32 (ent i)] = part (i + 1) := by
  unfold setSeg part
  have e1 : ((List.range i).map (fun i => V.int .u32 (ent i)) ++ List.replicate (256 - i) (V.int .u32 0)).take i = (List.range i).map (fun i => V.int .u32 (ent i)) := by
    rw [List.take_append_of_le_length (by simp)]; exact List.take_of_length_le (by simp)
  have e2 : ((List.range i).map (fun i => V.int .u32 (ent i)) ++ List.replicate (256 - i) (V.int .u32 0)).drop (i + 1) = List.replicate (255 - i) (V.int .u32 0) := by
    rw [List.drop_append, List.drop_eq_nil_of_le (by simp), List.nil_append, List.drop_replicate]
    congr 1
    simp only [List.length_map, List.length_range]
    omega
  simp only [List.length_singleton, e1, e2, List.range_succ, List.map_append, List.map_singleton]
  congr 2
  omega
theorem part_take {i : Nat} (h : i ≤ 256) : (part i).take 256 = part i := List.take_of_length_le (by rw [part_length h]; omega)
theorem rep_drop (v : V) : (rep 256 v).drop 256 = [] := List.drop_eq_nil_of_le (by rw [rep_length]; omega)
theorem part_put {i : Nat} (h : i < 256) : (part i).take i ++ [.int .u32 (ent i)] ++ (part i).drop (i + 1) = part (i + 1) := part_set h
theorem set_all {cs new : List V} (h : cs.length = new.length) : setSeg cs 0 new = new := by
  unfold setSeg; rw [← h]; simp
theorem ent_eq {i : Nat} (h : i < 256) : n32 (steps 8 (BitVec.ofInt 32 (IntKind.u32.wrap (i : Int)))) = ent i := by
  rw [u32w (by omega) (by omega)]; unfold ent; rw [BitVec.ofInt_natCast]
theorem ent_n32 (x : W) (h : x.toNat < 256) : ent (n32 x).toNat = n32 (steps 8 x) := by
  unfold ent n32; simp
theorem feed_cons (s : W) (b : UInt8) (l : List UInt8) : feed s (b :: l) = feed (steps 8 (s ^^^ w8 b)) l := rfl
theorem feed_take (s : W) {l : List UInt8} {k : Nat} (h : k < l.length) : feed s (l.take (k + 1)) = steps 8 (feed s (l.take k) ^^^ w8 (l.getD k 0)) := by
  rw [List.take_succ_eq_append_getElem h, feed_append, feed_cons]
  simp [feed, List.getD_eq_getElem?_getD, List.getElem?_eq_getElem h]
theorem tbl_at (x : W) : tbl[(n32 (x &&& 255#32)).toNat]? = some (.int .u32 (n32 (steps 8 (x &&& 255#32)))) := by
  have h : (x &&& 255#32).toNat < 256 := by rw [and255]; omega
  have e : (n32 (x &&& 255#32)).toNat = (x &&& 255#32).toNat := by unfold n32; simp
  rw [e, tbl_get h]
  unfold ent
  simp
theorem tbl_getD {j : Nat} (h : j < 256) : tbl.getD j (.int .u32 0) = .int .u32 (ent j) := by
  rw [List.getD_eq_getElem?_getD, tbl_get h, Option.getD_some]
theorem tbl_atD (x : W) : tbl.getD (n32 (x &&& 255#32)).toNat (.int .u32 0) = .int .u32 (n32 (steps 8 (x &&& 255#32))) := by
  rw [List.getD_eq_getElem?_getD, tbl_at x, Option.getD_some]
theorem at_bound (x : W) : 0 ≤ n32 (x &&& 255#32) ∧ n32 (x &&& 255#32) < 256 := by
  have h : (x &&& 255#32).toNat < 256 := by rw [and255]; omega
  unfold n32; omega
theorem at_nat (x : W) : (n32 (x &&& 255#32)).toNat < 256 := by have := at_bound x; omega
theorem and255_lt (x : W) : (x &&& 255#32).toNat < 256 := by rw [and255]; omega
def crc (s : Int) (l : List UInt8) : Int := n32 (sum (BitVec.ofInt 32 s) l)
theorem crc_bound (s : Int) (l : List UInt8) : 0 ≤ crc s l ∧ crc s l ≤ 4294967295 := n32_bound _
theorem crc_feed (s : W) (l : List UInt8) : xorK .u32 4294967295 (n32 (feed (4294967295#32 ^^^ s) l)) = crc (n32 s) l := by
  rw [n32_ones, xor32]; unfold crc sum; rw [ofInt_n32, BitVec.xor_comm (4294967295#32), BitVec.xor_comm s]
def byteAt (x : W) (k : Nat) : UInt8 := UInt8.ofNat (x.toNat / 2 ^ (8 * k))
def le32 (x : W) : List UInt8 := [byteAt x 0, byteAt x 1, byteAt x 2, byteAt x 3]
theorem w8_bit (x : W) (k j : Nat) : (w8 (byteAt x k)).getLsbD j = (decide (j < 8) && x.getLsbD (8 * k + j)) := by
  unfold w8 byteAt
  rw [UInt8.toNat_ofNat', BitVec.getLsbD_ofNat, Nat.testBit_mod_two_pow, Nat.testBit_div_two_pow, BitVec.getLsbD]
  by_cases h : j < 8
  · simp [h, show j < 32 by omega, Nat.add_comm]
  · simp [h]
theorem word_append (l m : List Bool) : word (l ++ m) = word l ^^^ (word m <<< l.length) := by
  induction l with
  | nil => simp [word]
  | cons b l ih =>
    rw [List.cons_append, word, ih, word, List.length_cons, BitVec.shiftLeft_xor_distrib, BitVec.xor_assoc, ← BitVec.shiftLeft_add]
theorem le32_word (x : W) : word ((le32 x).flatMap bitsOf) = x := by
  have hb : ∀ c, (bitsOf c).length = 8 := fun c => by simp [bitsOf]
  have e : (le32 x).flatMap bitsOf = bitsOf (byteAt x 0) ++ (bitsOf (byteAt x 1) ++ (bitsOf (byteAt x 2) ++ (bitsOf (byteAt x 3) ++ []))) := rfl
  rw [e, word_append, word_append, word_append, word_append, hb, hb, hb, hb, word_bits, word_bits, word_bits, word_bits]
  apply BitVec.eq_of_getLsbD_eq
  intro i hi
  have h : ∀ k j, (BitVec.ofNat 32 (byteAt x k).toNat).getLsbD j = (decide (j < 8) && x.getLsbD (8 * k + j)) := w8_bit x
  simp only [BitVec.getLsbD_xor, BitVec.getLsbD_shiftLeft, h, word, BitVec.getLsbD_zero]
  by_cases h1 : i < 8
  · simp [h1]
  · by_cases h2 : i < 16
    · simp [h1, h2, hi, show i - 8 < 8 by omega, show 8 + (i - 8) = i by omega]
    · by_cases h3 : i < 24
      · simp [h1, h2, h3, hi, show ¬ i - 8 < 8 by omega, show i - 8 - 8 < 8 by omega, show i - 8 < 32 by omega, show 16 + (i - 8 - 8) = i by omega]
      · simp [h1, h2, h3, hi, show ¬ i - 8 < 8 by omega, show ¬ i - 8 - 8 < 8 by omega, show i - 8 < 32 by omega, show i - 8 - 8 < 32 by omega, show i - 8 - 8 - 8 < 8 by omega, show 24 + (i - 8 - 8 - 8) = i by omega]
theorem feed_le32 (s x : W) : feed s (le32 x) = steps 32 (s ^^^ x) := by
  have hl : ((le32 x).flatMap bitsOf).length = 32 := by simp [le32, bitsOf]
  rw [feed_bits, feedBits_word _ _ (by omega), hl, le32_word]
theorem crc_append (s : Int) (l m : List UInt8) : crc s (l ++ m) = crc (crc s l) m := by
  unfold crc; rw [sum_append, ofInt_n32]
theorem crc_rest (x : W) : crc (n32 x) (le32 x) = 1214729159 := by
  unfold crc sum
  rw [ofInt_n32, feed_le32, BitVec.xor_comm x, BitVec.xor_assoc, BitVec.xor_self]
  decide +kernel
theorem byte0 (x : W) : UInt8.ofNat (IntKind.u8.wrap (n32 x)).toNat = byteAt x 0 := by
  have e1 : IntKind.u8.wrap (n32 x) = ((x.toNat % 256 : Nat) : Int) := by rw [u8wrap]; unfold n32; omega
  unfold byteAt
  rw [e1, Int.toNat_natCast, Nat.mul_zero, Nat.pow_zero, Nat.div_one]
  apply UInt8.toNat_inj.1
  rw [UInt8.toNat_ofNat', UInt8.toNat_ofNat', Nat.mod_mod]
theorem bytek (x : W) (k : Nat) (hk : 8 * k ≤ 32) : UInt8.ofNat (IntKind.u8.wrap (shrK .u32 (n32 x) ((8 * k : Nat) : Int))).toNat = byteAt x k := by
  have e0 : shrK .u32 (n32 x) ((8 * k : Nat) : Int) = ((x.toNat / 2 ^ (8 * k) : Nat) : Int) := by
    show (n32 x) / 2 ^ (min ((8 * k : Nat) : Int).toNat 32) = _
    rw [Int.toNat_natCast, Nat.min_eq_left hk]
    unfold n32
    rw [Int.natCast_ediv]
    simp
  have e1 : IntKind.u8.wrap (((x.toNat / 2 ^ (8 * k) : Nat) : Int)) = ((x.toNat / 2 ^ (8 * k) % 256 : Nat) : Int) := by
    rw [u8wrap]
    generalize x.toNat / 2 ^ (8 * k) = q
    omega
  unfold byteAt
  rw [e0, e1, Int.toNat_natCast]
  apply UInt8.toNat_inj.1
  rw [UInt8.toNat_ofNat', UInt8.toNat_ofNat', Nat.mod_mod]
theorem byte1 (x : W) : UInt8.ofNat (IntKind.u8.wrap (shrK .u32 (n32 x) 8)).toNat = byteAt x 1 := bytek x 1 (by omega)
theorem byte2 (x : W) : UInt8.ofNat (IntKind.u8.wrap (shrK .u32 (n32 x) 16)).toNat = byteAt x 2 := bytek x 2 (by omega)
theorem byte3 (x : W) : UInt8.ofNat (IntKind.u8.wrap (shrK .u32 (n32 x) 24)).toNat = byteAt x 3 := bytek x 3 (by omega)
theorem u8wrap_in (n : Int) : 0 ≤ IntKind.u8.wrap n ∧ IntKind.u8.wrap n < 256 := by rw [u8wrap]; omega
theorem byteAt_shift (x : W) (k j : Nat) : byteAt (x >>> (8 * k)) j = byteAt x (k + j) := by
  unfold byteAt
  rw [BitVec.toNat_ushiftRight, Nat.shiftRight_eq_div_pow, Nat.div_div_eq_div_mul, ← Nat.pow_add, Nat.mul_add]
theorem rbyte0 (x : W) : UInt8.ofNat (IntKind.u8.wrap ((n32 x).tmod 256)).toNat = byteAt x 0 := by
  rw [← byte0 x]
  congr 2
  unfold n32
  rw [Int.tmod_eq_emod_of_nonneg (by omega), u8wrap, u8wrap]
  omega
theorem rbyte1 (x : W) : UInt8.ofNat (IntKind.u8.wrap ((IntKind.u32.wrap ((n32 x).tdiv 256)).tmod 256)).toNat = byteAt x 1 := by
  rw [div32_256, rbyte0]; exact byteAt_shift x 1 0
theorem rbyte2 (x : W) : UInt8.ofNat (IntKind.u8.wrap ((IntKind.u32.wrap ((n32 x).tdiv 65536)).tmod 256)).toNat = byteAt x 2 := by
  have := div32 x 16
  rw [show ((2 ^ 16 : Nat) : Int) = 65536 from rfl] at this
  rw [this, rbyte0]; exact byteAt_shift x 2 0
theorem rbyte3 (x : W) : UInt8.ofNat (IntKind.u8.wrap (IntKind.u32.wrap ((n32 x).tdiv 16777216))).toNat = byteAt x 3 := by
  have := div32 x 24
  rw [show ((2 ^ 24 : Nat) : Int) = 16777216 from rfl] at this
  rw [this, byte0]; exact byteAt_shift x 3 0
def xorL (x y : List UInt8) : List UInt8 := List.zipWith (· ^^^ ·) x y
theorem xorL_length {x y : List UInt8} (h : x.length = y.length) : (xorL x y).length = x.length := by simp [xorL, h]
theorem xorL_zero (x : List UInt8) : xorL x (List.replicate x.length 0) = x := by
  unfold xorL
  induction x with
  | nil => rfl
  | cons b x ih => rw [List.length_cons, List.replicate_succ, List.zipWith_cons_cons, ih]; simp
theorem crc_xor (x y : List UInt8) (h : x.length = y.length) : crc 0 (xorL x y) = xorK .u32 (xorK .u32 (crc 0 x) (crc 0 y)) (crc 0 (List.replicate x.length 0)) := by
  have e : ∀ l, crc 0 l = n32 (feed 4294967295#32 l ^^^ 4294967295#32) := fun l => rfl
  rw [e, e, e, e, xor32, xor32, n32_inj]
  have h1 : xorL x y = xorL (xorL x y) (List.replicate x.length 0) := by rw [← xorL_length h]; exact (xorL_zero _).symm
  have h2 : feed 4294967295#32 (xorL x y) = feed 4294967295#32 x ^^^ feed 4294967295#32 y ^^^ feed 4294967295#32 (List.replicate x.length 0) := by
    rw [h1]
    have e0 : (4294967295#32 : W) = (4294967295#32 ^^^ 4294967295#32) ^^^ 4294967295#32 := by decide
    conv => lhs; rw [e0]
    rw [show xorL (xorL x y) (List.replicate x.length 0) = List.zipWith (· ^^^ ·) (List.zipWith (· ^^^ ·) x y) (List.replicate x.length 0) from rfl, feed_xor _ _ _ _ (by simp [h]), feed_xor _ _ _ _ h]
  rw [h2]
  generalize feed 4294967295#32 x = p
  generalize feed 4294967295#32 y = q
  generalize feed 4294967295#32 (List.replicate x.length 0) = r
  generalize 4294967295#32 = o
  apply BitVec.eq_of_getLsbD_eq
  intro i hi
  simp only [BitVec.getLsbD_xor]
  cases p.getLsbD i <;> cases q.getLsbD i <;> cases r.getLsbD i <;> cases o.getLsbD i <;> rfl
def both (x y : List UInt8) (i : Nat) : List UInt8 := xorL (x.take i) (y.take i) ++ List.replicate (x.length - i) 0
theorem both_zero (x y : List UInt8) : both x y 0 = List.replicate x.length 0 := by simp [both, xorL]
theorem both_full {x y : List UInt8} (h : x.length = y.length) : both x y x.length = xorL x y := by
  unfold both; rw [Nat.sub_self, List.replicate_zero, List.append_nil, List.take_length, h, List.take_length]
theorem both_length {x y : List UInt8} {i : Nat} (h : x.length = y.length) (hi : i ≤ x.length) : (both x y i).length = x.length := by
  simp [both, xorL]; omega
theorem xor8b (b c : UInt8) : xorK .u8 ((b.toNat : Nat) : Int) ((c.toNat : Nat) : Int) = (((b ^^^ c).toNat : Nat) : Int) := by
  have hb := b.toNat_lt
  have hc := c.toNat_lt
  show IntKind.u8.wrap ((BitVec.ofInt 8 (b.toNat : Int) ^^^ BitVec.ofInt 8 (c.toNat : Int)).toNat : Int) = _
  have hx : b.toNat ^^^ c.toNat < 256 := Nat.xor_lt_two_pow (n := 8) hb hc
  rw [BitVec.toNat_xor, ofInt_toNat, ofInt_toNat, Nat.mod_eq_of_lt (by omega), Nat.mod_eq_of_lt (by omega), UInt8.toNat_xor]
  exact u8w (by omega) (by omega)
theorem both_set {x y : List UInt8} {i : Nat} (h : x.length = y.length) (hi : i < x.length) : (both x y i).set i (x.getD i 0 ^^^ y.getD i 0) = both x y (i + 1) := by
  have hl : (xorL (x.take i) (y.take i)).length = i := by simp [xorL]; omega
  have e1 : x.length - i = (x.length - (i + 1)) + 1 := by omega
  unfold both
  rw [List.set_append_right _ _ (by omega), hl, Nat.sub_self, e1, List.replicate_succ, List.set_cons_zero]
  have e2 : xorL (x.take (i + 1)) (y.take (i + 1)) = xorL (x.take i) (y.take i) ++ [x.getD i 0 ^^^ y.getD i 0] := by
    unfold xorL
    rw [List.take_succ_eq_append_getElem hi, List.take_succ_eq_append_getElem (by omega : i < y.length), List.zipWith_append (by simp; omega)]
    simp [List.getD_eq_getElem?_getD, List.getElem?_eq_getElem hi, List.getElem?_eq_getElem (by omega : i < y.length)]
  rw [e2]
  simp
theorem ent_xor (i k : Nat) : ent (i ^^^ k) = xorK .u32 (ent i) (ent k) := by
  unfold ent
  rw [xor32, ← steps_xor, ← BitVec.ofNat_xor]
theorem ent_inj {i k : Nat} (hi : i < 256) (hk : k < 256) : ent i = ent k ↔ i = k := by
  refine ⟨fun h => ?_, fun h => by rw [h]⟩
  unfold ent at h
  rw [n32_inj] at h
  have h1 : steps 8 (BitVec.ofNat 32 i ^^^ BitVec.ofNat 32 k) = 0#32 := by rw [steps_xor, h, BitVec.xor_self]
  have h2 := steps_eq_zero 8 h1
  have h3 : BitVec.ofNat 32 i = BitVec.ofNat 32 k := by
    have := congrArg (· ^^^ BitVec.ofNat 32 k) h2
    simpa [BitVec.xor_assoc] using this
  have h4 := congrArg BitVec.toNat h3
  simp only [BitVec.toNat_ofNat] at h4
  omega
theorem xor8 {i k : Nat} (hi : i < 256) (hk : k < 256) : xorK .u8 ((i : Nat) : Int) ((k : Nat) : Int) = ((i ^^^ k : Nat) : Int) := by
  show IntKind.u8.wrap ((BitVec.ofInt 8 (i : Int) ^^^ BitVec.ofInt 8 (k : Int)).toNat : Int) = _
  have hx : i ^^^ k < 256 := Nat.xor_lt_two_pow (n := 8) hi hk
  rw [BitVec.toNat_xor, ofInt_toNat, ofInt_toNat, Nat.mod_eq_of_lt (by omega), Nat.mod_eq_of_lt (by omega)]
  exact u8w (by omega) (by omega)
end Go.Proofs.Ytpncnionnfomeaa.CrcN
namespace Go.Proofs.Ytpncnionnfomeaa.CrcN
open Go Go.Proofs.Ytpncnionnfomeaa.Aw Go.Proofs.Ytpncnionnfomeaa.Num Go.Proofs.Ytpncnionnfomeaa.CrcM
set_option linter.unusedVariables false
set_option linter.unusedSimpArgs false
def bitAt (l : List UInt8) (j : Nat) : Bool := (l.getD (j / 8) 0).toNat.testBit (j % 8)
theorem bits_length (l : List UInt8) : (l.flatMap bitsOf).length = 8 * l.length := by
  induction l with
  | nil => rfl
  | cons b l ih => rw [List.flatMap_cons, List.length_append, ih, List.length_cons]; simp [bitsOf]; omega
theorem bits_get (l : List UInt8) : ∀ j, j < 8 * l.length → (l.flatMap bitsOf)[j]? = some (bitAt l j) := by
  induction l with
  | nil => intro j hj; simp at hj
  | cons b l ih =>
    intro j hj
    rw [List.length_cons] at hj
    rw [List.flatMap_cons]
    have hb : (bitsOf b).length = 8 := by simp [bitsOf]
    by_cases h : j < 8
    · rw [List.getElem?_append_left (by omega)]
      unfold bitAt bitsOf
      rw [show j / 8 = 0 by omega, show j % 8 = j by omega]
      simp [h]
    · rw [List.getElem?_append_right (by omega), hb, ih (j - 8) (by omega)]
      unfold bitAt
      rw [show j / 8 = (j - 8) / 8 + 1 by omega, show (j - 8) % 8 = j % 8 by omega]
      simp
theorem byte_ext {a b : UInt8} (h : ∀ j, j < 8 → a.toNat.testBit j = b.toNat.testBit j) : a = b := by
  apply UInt8.toNat_inj.1
  apply Nat.eq_of_testBit_eq
  intro i
  by_cases hi : i < 8
  · exact h i hi
  · have h1 : 2 ^ 8 ≤ 2 ^ i := Nat.pow_le_pow_right (by omega) (by omega)
    rw [Nat.testBit_lt_two_pow (Nat.lt_of_lt_of_le a.toNat_lt h1), Nat.testBit_lt_two_pow (Nat.lt_of_lt_of_le b.toNat_lt h1)]
theorem bits_ext {a b : List UInt8} (hl : a.length = b.length) (h : ∀ j, j < 8 * a.length → bitAt a j = bitAt b j) : a = b := by
  apply List.ext_getElem hl
  intro i h1 h2
  apply byte_ext
  intro j hj
  have := h (8 * i + j) (by omega)
  unfold bitAt at this
  rw [show (8 * i + j) / 8 = i by omega, show (8 * i + j) % 8 = j by omega] at this
  simpa [List.getD_eq_getElem?_getD, List.getElem?_eq_getElem h1, List.getElem?_eq_getElem h2] using this
theorem bitAt_xor {a b : List UInt8} (hl : a.length = b.length) {j : Nat} (hj : j < 8 * a.length) : bitAt (xorL a b) j = (bitAt a j ^^ bitAt b j) := by
  have h1 : j / 8 < a.length := by omega
  have h2 : j / 8 < b.length := by omega
  unfold bitAt xorL
  simp only [List.getD_eq_getElem?_getD, List.getElem?_zipWith, List.getElem?_eq_getElem h1, List.getElem?_eq_getElem h2, Option.getD_some]
  rw [UInt8.toNat_xor, Nat.testBit_xor]
theorem feed_burst {a b : List UInt8} (hl : a.length = b.length) {f : Nat} {t : Nat → Bool} (h : ∀ j, j < 8 * a.length → bitAt a j = (bitAt b j ^^ (decide (f ≤ j ∧ j < f + 32) && t (j - f)))) (hex : ∃ j, j < 8 * a.length ∧ f ≤ j ∧ j < f + 32 ∧ t (j - f) = true) (s : W) :
    feed s a ≠ feed s b := by
  intro he
  obtain ⟨j0, hj0, hf0, hf1, ht0⟩ := hex
  have hx : feed 0#32 (xorL a b) = 0#32 := by
    have e0 : (0#32 : W) = s ^^^ s := by rw [BitVec.xor_self]
    rw [e0, show xorL a b = List.zipWith (· ^^^ ·) a b from rfl, feed_xor _ _ _ _ hl, he, BitVec.xor_self, BitVec.xor_self]
  rw [feed_bits] at hx
  have hxl : (xorL a b).length = a.length := xorL_length hl
  have hbits : ∀ j, j < 8 * a.length → ((xorL a b).flatMap bitsOf)[j]? = some (decide (f ≤ j ∧ j < f + 32) && t (j - f)) := fun j hj => by
    rw [bits_get _ j (by omega), bitAt_xor hl hj, h j hj]
    cases bitAt b j <;> simp
  have hlen := bits_length (xorL a b)
  rw [hxl] at hlen
  let m := min 32 (8 * a.length - f)
  have hfm : f < 8 * a.length := by omega
  have hsplit : (xorL a b).flatMap bitsOf = List.replicate f false ++ (List.range m).map t ++ List.replicate (8 * a.length - f - m) false := by
    apply List.ext_getElem?
    intro j
    by_cases hj : j < 8 * a.length
    · rw [hbits j hj]
      by_cases h1 : j < f
      · rw [List.append_assoc, List.getElem?_append_left (by simpa using h1), List.getElem?_replicate, if_pos h1]
        simp; omega
      · by_cases h2 : j < f + m
        · rw [List.getElem?_append_left (by simp; omega), List.getElem?_append_right (by simp; omega), List.length_replicate, List.getElem?_map, List.getElem?_range (by omega)]
          have : f ≤ j ∧ j < f + 32 := by omega
          simp [this]
        · rw [List.getElem?_append_right (by simp; omega), List.getElem?_replicate, if_pos (by simp; omega)]
          have : ¬ (f ≤ j ∧ j < f + 32) := by omega
          simp [this]
    · rw [List.getElem?_eq_none (by omega), List.getElem?_eq_none (by simp; omega)]
  rw [hsplit] at hx
  refine burst f _ _ (by simp; omega) ?_ hx
  rw [List.mem_map]
  exact ⟨j0 - f, by rw [List.mem_range]; omega, ht0⟩
def flip (l : List UInt8) (k : Nat) : List UInt8 := l.set (k / 8) (l.getD (k / 8) 0 ^^^ UInt8.ofNat (2 ^ (k % 8)))
theorem flip_length (l : List UInt8) (k : Nat) : (flip l k).length = l.length := by simp [flip]
theorem pow8 {k : Nat} (h : k < 8) : (UInt8.ofNat (2 ^ k)).toNat = 2 ^ k := by
  have h1 : 2 ^ k < 2 ^ 8 := Nat.pow_lt_pow_right (by omega) h
  rw [UInt8.toNat_ofNat']
  exact Nat.mod_eq_of_lt (by simpa using h1)
theorem bitAt_flip {l : List UInt8} {k j : Nat} (hk : k < 8 * l.length) (hj : j < 8 * l.length) : bitAt (flip l k) j = (bitAt l j ^^ decide (j = k)) := by
  have h1 : k / 8 < l.length := by omega
  unfold bitAt flip
  simp only [List.getD_eq_getElem?_getD, List.getElem?_set]
  by_cases h : k / 8 = j / 8
  · rw [if_pos h, if_pos h1, Option.getD_some, UInt8.toNat_xor, Nat.testBit_xor, pow8 (Nat.mod_lt _ (by omega)), Nat.testBit_two_pow, h]
    congr 1
    apply decide_eq_decide.2
    omega
  · rw [if_neg h]
    have : ¬ j = k := by omega
    simp [this]
def Seen (x : List UInt8) (f t i : Nat) (c : List UInt8) (turned : Bool) : Prop :=
  c.length = x.length ∧ (∀ j, j < 8 * x.length → bitAt c j = (bitAt x j ^^ (decide (f ≤ j ∧ j < f + i) && t.testBit (j - f)))) ∧
  (turned = true ↔ ∃ j, j < 8 * x.length ∧ f ≤ j ∧ j < f + i ∧ t.testBit (j - f) = true)
theorem seen_start (x : List UInt8) (f t : Nat) : Seen x f t 0 x false := by
  refine ⟨rfl, fun j hj => ?_, ⟨fun h => (by cases h), ?_⟩⟩
  · have : ¬ (f ≤ j ∧ j < f + 0) := by omega
    rw [decide_eq_false this, Bool.false_and, Bool.xor_false]
  · rintro ⟨j, _, _, _, _⟩; omega
theorem seen_skip {x : List UInt8} {f t i : Nat} {c : List UInt8} {tu : Bool} (h : Seen x f t i c tu) (hno : f + i < 8 * x.length → t.testBit i = false) : Seen x f t (i + 1) c tu := by
  obtain ⟨h1, h2, h3⟩ := h
  refine ⟨h1, fun j hj => ?_, h3.trans ⟨?_, ?_⟩⟩
  · rw [h2 j hj]
    by_cases hji : j = f + i
    · subst hji
      rw [show f + i - f = i by omega, hno hj]
      simp
    · have : (f ≤ j ∧ j < f + i) ↔ (f ≤ j ∧ j < f + (i + 1)) := by omega
      rw [decide_eq_decide.2 this]
  · rintro ⟨j, a, b, d, e⟩; exact ⟨j, a, b, by omega, e⟩
  · rintro ⟨j, a, b, d, e⟩
    refine ⟨j, a, b, ?_, e⟩
    rcases Nat.lt_or_ge j (f + i) with h | h
    · exact h
    · have hji : j = f + i := by omega
      subst hji
      rw [show f + i - f = i by omega, hno a] at e
      cases e
theorem seen_flip {x : List UInt8} {f t i : Nat} {c : List UInt8} {tu : Bool} (h : Seen x f t i c tu) (hk : f + i < 8 * x.length) (ht : t.testBit i = true) : Seen x f t (i + 1) (flip c (f + i)) true := by
  obtain ⟨h1, h2, h3⟩ := h
  refine ⟨by rw [flip_length, h1], fun j hj => ?_, ⟨fun _ => ⟨f + i, hk, by omega, by omega, by rw [show f + i - f = i by omega]; exact ht⟩, fun _ => rfl⟩⟩
  rw [bitAt_flip (by omega) (by omega), h2 j hj]
  by_cases hji : j = f + i
  · subst hji
    have e1 : ¬ (f ≤ f + i ∧ f + i < f + i) := by omega
    have e2 : f ≤ f + i ∧ f + i < f + (i + 1) := by omega
    rw [show f + i - f = i by omega, ht]
    simp [e1, e2]
  · have : (f ≤ j ∧ j < f + i) ↔ (f ≤ j ∧ j < f + (i + 1)) := by omega
    have e : decide (f ≤ j ∧ j < f + i) = decide (f ≤ j ∧ j < f + (i + 1)) := decide_eq_decide.2 this
    rw [e, decide_eq_false hji, Bool.xor_false]
theorem seen_same {x : List UInt8} {f t : Nat} {c : List UInt8} (h : Seen x f t 32 c false) : c = x := by
  obtain ⟨h1, h2, h3⟩ := h
  refine bits_ext h1 fun j hj => ?_
  rw [h2 j (by omega)]
  by_cases hin : f ≤ j ∧ j < f + 32
  · have : t.testBit (j - f) = false := by
      cases hb : t.testBit (j - f) with
      | false => rfl
      | true => exact absurd (h3.2 ⟨j, by omega, hin.1, hin.2, hb⟩) (by simp)
    rw [this]; simp
  · simp [hin]
theorem seen_other {x : List UInt8} {f t : Nat} {c : List UInt8} (h : Seen x f t 32 c true) (s : W) : feed s c ≠ feed s x := by
  obtain ⟨h1, h2, h3⟩ := h
  refine feed_burst h1 (f := f) (t := t.testBit) (fun j hj => h2 j (by omega)) ?_ s
  obtain ⟨j, a, b, d, e⟩ := h3.1 rfl
  exact ⟨j, by omega, b, d, e⟩
theorem seen_crc {x : List UInt8} {f t : Nat} {c : List UInt8} {tu : Bool} (h : Seen x f t 32 c tu) : (decide (crc 0 c = crc 0 x) == !tu) = true := by
  cases tu with
  | false => rw [seen_same h]; simp
  | true =>
    have hne := seen_other h 4294967295#32
    have : ¬ crc 0 c = crc 0 x := fun e => by
      have e' : n32 (feed 4294967295#32 c ^^^ 4294967295#32) = n32 (feed 4294967295#32 x ^^^ 4294967295#32) := e
      rw [n32_inj] at e'
      apply hne
      have := congrArg (· ^^^ 4294967295#32) e'
      simpa [BitVec.xor_assoc] using this
    simp [this]
theorem bit32 {t i : Nat} (ht : t < 4294967296) (hi : i ≤ 32) : decide (andK .u32 (shrK .u32 (t : Int) (i : Int)) 1 = 1) = t.testBit i := by
  have e0 : shrK .u32 (t : Int) (i : Int) = ((t / 2 ^ i : Nat) : Int) := by
    show (t : Int) / 2 ^ (min (i : Int).toNat 32) = _
    rw [Int.toNat_natCast, Nat.min_eq_left hi, Int.natCast_ediv]
    simp
  have hq : t / 2 ^ i ≤ t := Nat.div_le_self _ _
  rw [e0, Nat.testBit_eq_decide_div_mod_eq]
  generalize t / 2 ^ i = q at hq
  have e1 : (BitVec.ofInt 32 (q : Int) &&& BitVec.ofInt 32 1).toNat = q % 2 := by
    rw [BitVec.toNat_and, ofInt_toNat, show (1 : Int) = ((1 : Nat) : Int) from rfl, ofInt_toNat, show 1 % 2 ^ 32 = 1 from rfl, Nat.and_one_is_mod]
    omega
  have e2 : andK .u32 (q : Int) 1 = ((q % 2 : Nat) : Int) := by
    show IntKind.u32.wrap ((BitVec.ofInt 32 (q : Int) &&& BitVec.ofInt 32 1).toNat : Int) = _
    rw [e1]; exact u32w (by omega) (by omega)
  rw [e2]
  apply decide_eq_decide.2
  omega
def turnGo (t f : Nat) : Nat → List UInt8 × Bool → List UInt8 × Bool
  | 0, q => q
  | i + 1, q => if t.testBit i = true ∧ f + i < 8 * (turnGo t f i q).1.length then (flip (turnGo t f i q).1 (f + i), true) else turnGo t f i q
def turnF (x : List UInt8) (f t : Nat) : List UInt8 × Bool := turnGo t f 32 (x, false)
theorem turnGo_seen (x : List UInt8) (f t : Nat) : ∀ i, Seen x f t i (turnGo t f i (x, false)).1 (turnGo t f i (x, false)).2
  | 0 => seen_start x f t
  | i + 1 => by
    have ih := turnGo_seen x f t i
    have hl := ih.1
    unfold turnGo
    split
    · rename_i h
      exact seen_flip ih (by omega) h.1
    · rename_i h
      refine seen_skip ih fun hlt => ?_
      cases hb : t.testBit i with
      | false => rfl
      | true => exact absurd ⟨hb, by omega⟩ h
theorem turnF_seen (x : List UInt8) (f t : Nat) : Seen x f t 32 (turnF x f t).1 (turnF x f t).2 := turnGo_seen x f t 32
theorem flip_value (b : UInt8) (k : Nat) : xorK .u8 ((b.toNat : Nat) : Int) (shlK .u8 1 ((k % 8 : Nat) : Int)) = (((b ^^^ UInt8.ofNat (2 ^ (k % 8))).toNat : Nat) : Int) := by
  have hk : k % 8 < 8 := Nat.mod_lt _ (by omega)
  have e : shlK .u8 1 ((k % 8 : Nat) : Int) = (((UInt8.ofNat (2 ^ (k % 8))).toNat : Nat) : Int) := by
    show IntKind.u8.wrap (1 * 2 ^ (min ((k % 8 : Nat) : Int).toNat 8)) = _
    rw [Int.toNat_natCast, Nat.min_eq_left (by omega), pow8 hk, Int.one_mul]
    generalize hq : k % 8 = q at hk
    have h1 : 2 ^ q < 2 ^ 8 := Nat.pow_lt_pow_right (by omega) hk
    have e2 : (2 : Int) ^ q = ((2 ^ q : Nat) : Int) := by simp
    rw [e2]
    generalize (2 : Nat) ^ q = p at h1
    exact u8w (by omega) (by omega)
  rw [e, xor8b]
end Go.Proofs.Ytpncnionnfomeaa.CrcN
