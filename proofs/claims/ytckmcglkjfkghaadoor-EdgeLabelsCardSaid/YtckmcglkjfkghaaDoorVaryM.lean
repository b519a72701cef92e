import Derived.Test.YtckmcglkjfkghaaDoorAw13
namespace Go.Proofs.YtckmcglkjfkghaaDoor.VaryM
open Go
set_option linter.unusedVariables false
set_option linter.unusedSimpArgs false
def leb (n : Nat) : List UInt8 := if h : n < 128 then [UInt8.ofNat n] else UInt8.ofNat (n % 128 + 128) :: leb (n / 128)
termination_by n
decreasing_by omega
theorem leb_small {n : Nat} (h : n < 128) : leb n = [UInt8.ofNat n] := by rw [leb, dif_pos h]
theorem leb_big {n : Nat} (h : 128 ≤ n) : leb n = UInt8.ofNat (n % 128 + 128) :: leb (n / 128) := by rw [leb, dif_neg (by omega)]
theorem leb_pos (n : Nat) : 1 ≤ (leb n).length := by
  rw [leb]; split <;> simp
def takeGo : Nat → Nat → Nat → List UInt8 → Nat × List UInt8 × Int
  | 0, _, _, _ => (0, [], 6)
  | _ + 1, _, _, [] => (0, [], 5)
  | k + 1, worth, acc, c :: l => if c.toNat < 128 then (if (c.toNat = 0 ∧ k < 9) ∨ (k = 0 ∧ 1 < c.toNat) then (0, [], 6) else (acc + c.toNat * worth, l, 0)) else takeGo k (worth * 128) (acc + (c.toNat - 128) * worth) l
def takeF (b : List UInt8) : Nat × List UInt8 × Int := takeGo 10 1 0 b
theorem takeGo_cases (k worth acc : Nat) (l : List UInt8) : (takeGo k worth acc l).2.2 = 0 ∨ ((takeGo k worth acc l).2.2 = 5 ∨ (takeGo k worth acc l).2.2 = 6) ∧ (takeGo k worth acc l).1 = 0 ∧ (takeGo k worth acc l).2.1 = [] := by
  induction k generalizing worth acc l with
  | zero => right; simp [takeGo]
  | succ k ih =>
    cases l with
    | nil => right; simp [takeGo]
    | cons c l =>
      simp only [takeGo]
      split
      · split
        · right; simp
        · left; rfl
      · exact ih _ _ _
theorem takeF_cases (b : List UInt8) : (takeF b).2.2 = 0 ∨ ((takeF b).2.2 = 5 ∨ (takeF b).2.2 = 6) ∧ (takeF b).1 = 0 ∧ (takeF b).2.1 = [] := takeGo_cases _ _ _ _
theorem takeGo_len (k worth acc : Nat) (l : List UInt8) : (takeGo k worth acc l).2.1.length ≤ l.length := by
  induction k generalizing worth acc l with
  | zero => simp [takeGo]
  | succ k ih =>
    cases l with
    | nil => simp [takeGo]
    | cons c l =>
      simp only [takeGo]
      split
      · split <;> simp
      · have := ih (worth * 128) (acc + (c.toNat - 128) * worth) l
        simp; omega
theorem takeF_len (b : List UInt8) : (takeF b).2.1.length ≤ b.length := takeGo_len _ _ _ _
theorem takeGo_bound (k worth acc : Nat) (l : List UInt8) (hk : k ≤ 10) (hw : worth * 128 ^ k = 128 ^ 10) (ha : acc < worth) : (takeGo k worth acc l).1 < 2 ^ 64 := by
  induction k generalizing worth acc l with
  | zero => simp [takeGo]
  | succ k ih =>
    cases l with
    | nil => simp [takeGo]
    | cons c l =>
      have hc := c.toNat_lt
      simp only [takeGo]
      split
      · rename_i h1
        split
        · simp
        · rename_i h2
          simp only
          by_cases hk0 : k = 0
          · subst hk0
            have hw' : worth = 128 ^ 9 := by simp at hw; omega
            have : c.toNat ≤ 1 := by omega
            have h3 : c.toNat * worth ≤ 1 * worth := Nat.mul_le_mul_right _ this
            subst hw'
            omega
          · have h3 : c.toNat * worth ≤ 127 * worth := Nat.mul_le_mul_right _ (by omega)
            have h4 : worth * 128 ≤ 128 ^ 9 := by
              have h5 : worth * 128 ^ (k + 1) = worth * 128 * 128 ^ k := by rw [Nat.pow_succ, Nat.mul_comm (128 ^ k), Nat.mul_assoc]
              rw [h5] at hw
              have h6 : 128 ^ 1 ≤ 128 ^ k := Nat.pow_le_pow_right (by omega) (by omega)
              have h7 : worth * 128 * 128 ^ 1 ≤ worth * 128 * 128 ^ k := Nat.mul_le_mul_left _ h6
              rw [hw] at h7
              omega
            omega
      · refine ih _ _ _ (by omega) ?_ ?_
        · rw [← hw, Nat.pow_succ, Nat.mul_comm (128 ^ k), Nat.mul_assoc]
        · have h3 : (c.toNat - 128) * worth ≤ 127 * worth := Nat.mul_le_mul_right _ (by omega)
          omega
theorem takeF_bound (b : List UInt8) : (takeF b).1 < 2 ^ 64 := takeGo_bound 10 1 0 b (by omega) (by simp) (by omega)
theorem takeGo_leb (k : Nat) : ∀ (n worth acc : Nat) (rest : List UInt8), n < 2 * 128 ^ k → (k < 9 → 0 < n) → takeGo (k + 1) worth acc (leb n ++ rest) = (acc + n * worth, rest, 0) := by
  induction k with
  | zero =>
    intro n worth acc rest hn hp
    have h1 : n = 1 := by have := hp (by omega); simp at hn; omega
    subst h1
    rw [leb_small (by omega)]
    simp [takeGo]
  | succ k ih =>
    intro n worth acc rest hn hp
    by_cases hs : n < 128
    · rw [leb_small hs]
      have hc : (UInt8.ofNat n).toNat = n := by rw [UInt8.toNat_ofNat']; omega
      simp only [List.cons_append, List.nil_append, takeGo, hc, hs, if_true]
      rw [if_neg]
      rintro (⟨h0, h1⟩ | ⟨h0, _⟩)
      · have := hp h1; omega
      · omega
    · rw [leb_big (by omega)]
      have hc : (UInt8.ofNat (n % 128 + 128)).toNat = n % 128 + 128 := by rw [UInt8.toNat_ofNat']; omega
      have hlt : n / 128 < 2 * 128 ^ k := by rw [Nat.pow_succ] at hn; omega
      rw [List.cons_append, takeGo, if_neg (by rw [hc]; omega), hc, ih (n / 128) (worth * 128) _ rest hlt (fun _ => by omega)]
      have e1 : n % 128 + 128 - 128 = n % 128 := by omega
      rw [e1, Nat.add_assoc, Nat.mul_comm worth 128, ← Nat.mul_assoc, ← Nat.add_mul]
      have e2 : n % 128 + n / 128 * 128 = n := by omega
      rw [e2]
theorem takeF_leb (n : Nat) (rest : List UInt8) (h : n < 18446744073709551616) : takeF (leb n ++ rest) = (n, rest, 0) := by
  have := takeGo_leb 9 n 1 0 rest (by simpa using h) (by omega)
  simpa [takeF] using this
theorem takeGo_back (k : Nat) : ∀ (worth acc : Nat) (l : List UInt8), k ≤ 10 → (takeGo k worth acc l).2.2 = 0 → ∃ n, (takeGo k worth acc l).1 = acc + n * worth ∧ leb n ++ (takeGo k worth acc l).2.1 = l ∧ (k < 10 → 0 < n) := by
  induction k with
  | zero => intro worth acc l _ h; simp [takeGo] at h
  | succ k ih =>
    intro worth acc l hk h
    cases l with
    | nil => simp [takeGo] at h
    | cons c l =>
      simp only [takeGo] at h ⊢
      by_cases h1 : c.toNat < 128
      · simp only [h1, if_true] at h ⊢
        by_cases h2 : (c.toNat = 0 ∧ k < 9) ∨ (k = 0 ∧ 1 < c.toNat)
        · rw [if_pos h2] at h; simp at h
        · rw [if_neg h2]
          refine ⟨c.toNat, rfl, ?_, fun hk => by omega⟩
          rw [leb_small h1]
          simp
      · simp only [h1, if_false] at h ⊢
        obtain ⟨n, h3, h4, h5⟩ := ih _ _ _ (by omega) h
        have hc := c.toNat_lt
        have hn := h5 (by omega)
        refine ⟨c.toNat - 128 + n * 128, ?_, ?_, fun _ => by omega⟩
        · rw [h3, Nat.add_mul, Nat.mul_assoc, Nat.mul_comm 128 worth, Nat.add_assoc]
        · rw [leb_big (by omega)]
          have e1 : (c.toNat - 128 + n * 128) % 128 + 128 = c.toNat := by omega
          have e2 : (c.toNat - 128 + n * 128) / 128 = n := by omega
          rw [e1, e2, List.cons_append, h4]
          simp
theorem takeF_back (b : List UInt8) (h : (takeF b).2.2 = 0) : leb (takeF b).1 ++ (takeF b).2.1 = b := by
  obtain ⟨n, h1, h2, _⟩ := takeGo_back 10 1 0 b (by omega) h
  simp only [Nat.mul_one, Nat.zero_add] at h1
  have h1' : (takeF b).1 = n := h1
  rw [h1']
  exact h2
theorem takeGo_cut (k : Nat) : ∀ (n worth acc j : Nat), n < 2 * 128 ^ k → j < (leb n).length → takeGo (k + 1) worth acc ((leb n).take j) = (0, [], 5) := by
  induction k with
  | zero =>
    intro n worth acc j hn hj
    rw [leb_small (by simp at hn; omega)] at hj ⊢
    have : j = 0 := by simpa using hj
    subst this
    simp [takeGo]
  | succ k ih =>
    intro n worth acc j hn hj
    cases j with
    | zero => simp [takeGo]
    | succ j =>
      by_cases hs : n < 128
      · rw [leb_small hs] at hj; simp at hj
      · rw [leb_big (by omega)] at hj ⊢
        have hc : (UInt8.ofNat (n % 128 + 128)).toNat = n % 128 + 128 := by rw [UInt8.toNat_ofNat']; omega
        have hlt : n / 128 < 2 * 128 ^ k := by rw [Nat.pow_succ] at hn; omega
        rw [List.take_succ_cons, takeGo, if_neg (by rw [hc]; omega)]
        exact ih _ _ _ j hlt (by simpa using hj)
theorem takeF_cut (n j : Nat) (h : n < 18446744073709551616) (hj : j < (leb n).length) : takeF ((leb n).take j) = (0, [], 5) := takeGo_cut 9 n 1 0 j (by simpa using h) hj
theorem leb_len_le (k : Nat) : ∀ n, n < 128 ^ (k + 1) → (leb n).length ≤ k + 1 := by
  induction k with
  | zero => intro n h; rw [leb_small (by simpa using h)]; simp
  | succ k ih =>
    intro n h
    by_cases hs : n < 128
    · rw [leb_small hs]; simp
    · rw [leb_big (by omega)]
      have := ih (n / 128) (by rw [Nat.pow_succ] at h; omega)
      simp; omega
theorem leb_len10 (n : Nat) (h : n < 18446744073709551616) : (leb n).length ≤ 10 := leb_len_le 9 n (by omega)
theorem leb_len_mono : ∀ (a b : Nat), a ≤ b → (leb a).length ≤ (leb b).length := by
  intro a
  induction a using Nat.strongRecOn with
  | _ a ih =>
    intro b hab
    by_cases ha : a < 128
    · rw [leb_small ha]; exact leb_pos b
    · rw [leb_big (n := a) (by omega), leb_big (n := b) (by omega)]
      have := ih (a / 128) (by omega) (b / 128) (by omega)
      simp; exact this
def zigF (n : Int) : Int := if n < 0 then -2 * n - 1 else 2 * n
def zagF (n : Int) : Int := if n % 2 = 1 then -(n / 2) - 1 else n / 2
theorem zag_zig (n : Int) : zagF (zigF n) = n := by unfold zagF zigF; split <;> split <;> omega
theorem zig_zag (n : Int) (h : 0 ≤ n) : zigF (zagF n) = n := by unfold zagF zigF; split <;> split <;> omega
def be : Nat → Nat → List UInt8
  | 0, _ => []
  | k + 1, n => UInt8.ofNat (n / 256 ^ k % 256) :: be k n
theorem be_length (k n : Nat) : (be k n).length = k := by induction k with | zero => rfl | succ k ih => simp [be, ih]
theorem be_get (k n : Nat) : ∀ j, j < k → (be k n)[j]? = some (UInt8.ofNat (n / 256 ^ (k - 1 - j) % 256)) := by
  induction k with
  | zero => intro j h; omega
  | succ k ih =>
    intro j h
    cases j with
    | zero => simp [be]
    | succ j =>
      simp only [be, List.getElem?_cons_succ]
      rw [ih j (by omega)]
      congr 5
      omega
theorem be_take (k n j : Nat) (h : j < k) : (be k n).take (j + 1) = (be k n).take j ++ [UInt8.ofNat (n / 256 ^ (k - 1 - j) % 256)] := by
  rw [List.take_add_one, be_get k n j h]
  rfl
def beVal : Nat → List UInt8 → Nat
  | acc, [] => acc
  | acc, c :: l => beVal (acc * 256 + c.toNat) l
theorem beVal_append (l m : List UInt8) : ∀ acc, beVal acc (l ++ m) = beVal (beVal acc l) m := by
  induction l with
  | nil => intro acc; rfl
  | cons c l ih => intro acc; simp only [List.cons_append, beVal, ih]
theorem be_mod (k n : Nat) : be k n = be k (n % 256 ^ k) := by
  have key : ∀ j, j ≤ k → be j n = be j (n % 256 ^ k) := by
    intro j
    induction j with
    | zero => intro _; rfl
    | succ j ih =>
      intro hj
      simp only [be]
      rw [ih (by omega)]
      have e : 256 ^ k = 256 ^ j * 256 * 256 ^ (k - (j + 1)) := by
        rw [← Nat.pow_succ, ← Nat.pow_add]; congr 1; omega
      have : n / 256 ^ j % 256 = n % 256 ^ k / 256 ^ j % 256 := by
        rw [e, Nat.mul_assoc, Nat.mod_mul_right_div_self, Nat.mod_mul_right_mod]
      rw [this]
  exact key k (Nat.le_refl _)
theorem beVal_be (k n : Nat) : ∀ acc, beVal acc (be k n) = acc * 256 ^ k + n % 256 ^ k := by
  induction k with
  | zero => intro acc; simp [be, beVal, Nat.mod_one]
  | succ k ih =>
    intro acc
    have hc : (UInt8.ofNat (n / 256 ^ k % 256)).toNat = n / 256 ^ k % 256 := by rw [UInt8.toNat_ofNat']; omega
    simp only [be, beVal, ih, hc]
    have e : n % 256 ^ (k + 1) = n % 256 ^ k + 256 ^ k * (n / 256 ^ k % 256) := by rw [Nat.pow_succ, Nat.mod_mul]
    rw [e, Nat.add_mul, Nat.mul_assoc, Nat.pow_succ, Nat.mul_comm 256 (256 ^ k), Nat.mul_comm (256 ^ k) (n / 256 ^ k % 256)]
    omega
theorem beVal_lt (l : List UInt8) : ∀ acc, beVal acc l < (acc + 1) * 256 ^ l.length := by
  induction l with
  | nil => intro acc; simp [beVal]
  | cons c l ih =>
    intro acc
    have hc := c.toNat_lt
    have := ih (acc * 256 + c.toNat)
    have h2 : (acc * 256 + c.toNat + 1) * 256 ^ l.length ≤ ((acc + 1) * 256) * 256 ^ l.length := Nat.mul_le_mul_right _ (by omega)
    simp only [beVal, List.length_cons, Nat.pow_succ]
    rw [Nat.mul_assoc] at h2
    rw [Nat.mul_comm (256 ^ l.length) 256]
    omega
theorem ofNat_lt {x y : Nat} (hx : x < 256) (hy : y < 256) : (UInt8.ofNat (x % 256) < UInt8.ofNat (y % 256)) ↔ x < y := by
  rw [UInt8.lt_iff_toNat_lt, UInt8.toNat_ofNat', UInt8.toNat_ofNat']; omega
theorem ofNat_eq {x y : Nat} (hx : x < 256) (hy : y < 256) : (UInt8.ofNat (x % 256) = UInt8.ofNat (y % 256)) ↔ x = y := by
  rw [← UInt8.toNat_inj, UInt8.toNat_ofNat', UInt8.toNat_ofNat']; omega
theorem be_less (k : Nat) : ∀ a b, a < 256 ^ k → b < 256 ^ k → (Op.bytesLess (be k a) (be k b) = decide (a < b)) := by
  induction k with
  | zero => intro a b ha hb; simp at ha hb; subst ha hb; rfl
  | succ k ih =>
    intro a b ha hb
    have hp : 0 < 256 ^ k := Nat.pow_pos (by omega)
    rw [Nat.pow_succ] at ha hb
    have ha1 : a / 256 ^ k < 256 := by rw [Nat.div_lt_iff_lt_mul hp, Nat.mul_comm]; exact ha
    have hb1 : b / 256 ^ k < 256 := by rw [Nat.div_lt_iff_lt_mul hp, Nat.mul_comm]; exact hb
    have ea := Nat.div_add_mod a (256 ^ k)
    have eb := Nat.div_add_mod b (256 ^ k)
    have la := Nat.mod_lt a hp
    have lb := Nat.mod_lt b hp
    simp only [be, Op.bytesLess]
    rw [be_mod k a, be_mod k b, ih (a % 256 ^ k) (b % 256 ^ k) la lb]
    have hlt : (UInt8.ofNat (a / 256 ^ k % 256) < UInt8.ofNat (b / 256 ^ k % 256)) ↔ a / 256 ^ k < b / 256 ^ k := ofNat_lt ha1 hb1
    have heq : (UInt8.ofNat (a / 256 ^ k % 256) = UInt8.ofNat (b / 256 ^ k % 256)) ↔ a / 256 ^ k = b / 256 ^ k := ofNat_eq ha1 hb1
    rw [Bool.eq_iff_iff]
    simp only [Bool.or_eq_true, decide_eq_true_eq, Bool.and_eq_true, beq_iff_eq, hlt, heq]
    generalize hqa : a / 256 ^ k = qa at *
    generalize hqb : b / 256 ^ k = qb at *
    generalize hm : 256 ^ k = m at *
    constructor
    · rintro (h | ⟨h1, h2⟩)
      · have : m * (qa + 1) ≤ m * qb := Nat.mul_le_mul_left _ h
        rw [Nat.mul_add] at this
        omega
      · subst h1; omega
    · intro h
      rcases Nat.lt_trichotomy qa qb with h1 | h1 | h1
      · exact .inl h1
      · subst h1; exact .inr ⟨rfl, by omega⟩
      · exfalso
        have : m * (qb + 1) ≤ m * qa := Nat.mul_le_mul_left _ h1
        rw [Nat.mul_add] at this
        omega
end Go.Proofs.YtckmcglkjfkghaaDoor.VaryM
