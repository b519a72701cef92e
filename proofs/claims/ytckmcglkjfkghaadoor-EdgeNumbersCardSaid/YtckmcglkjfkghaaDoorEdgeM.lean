import Derived.Test.YtckmcglkjfkghaaDoorVaryM
import Derived.Test.YtckmcglkjfkghaaDoorLineM
namespace Go.Proofs.YtckmcglkjfkghaaDoor.EdgeM
open Go Go.Proofs.YtckmcglkjfkghaaDoor.Aw Go.Proofs.YtckmcglkjfkghaaDoor.VaryM Go.Proofs.YtckmcglkjfkghaaDoor.LineM
set_option linter.unusedVariables false
set_option linter.unusedSimpArgs false
def plainF (b : List UInt8) : Option (List UInt8) := if 1 ≤ b.length ∧ b.length ≤ 32 then some b else none
def isD (c : UInt8) : Bool := decide (48 ≤ c.toNat ∧ c.toNat ≤ 57)
def goN : Nat → List UInt8 → Option Nat
  | n, [] => some n
  | n, c :: l => if isD c = true then goN (10 * n + (c.toNat - 48)) l else none
def headOk (b : List UInt8) : Bool := decide (1 ≤ b.length ∧ b.length ≤ 10 ∧ ¬ (1 < b.length ∧ b.getD 0 0 = 48))
def numF (b : List UInt8) : Option Nat := if headOk b = true then (goN 0 b).bind fun n => if n < 4294967296 then some n else none else none
def labelF (b : List UInt8) (num : Bool) : Option (List UInt8) := if num = true then (numF b).map (be 4) else plainF b
def decF (n : Nat) : List UInt8 := if h : n < 10 then [UInt8.ofNat (48 + n)] else decF (n / 10) ++ [UInt8.ofNat (48 + n % 10)]
termination_by n
decreasing_by omega
def textF (l : List UInt8) (num : Bool) : Option (List UInt8) := if num = true then (if l.length = 4 then some (decF (beVal 0 l)) else none) else plainF l
theorem decF_small {n : Nat} (h : n < 10) : decF n = [UInt8.ofNat (48 + n)] := by rw [decF, dif_pos h]
theorem decF_big {n : Nat} (h : 10 ≤ n) : decF n = decF (n / 10) ++ [UInt8.ofNat (48 + n % 10)] := by rw [decF, dif_neg (by omega)]
theorem goN_app : ∀ (l : List UInt8) (n : Nat) (c : UInt8), goN n (l ++ [c]) = (goN n l).bind fun m => if isD c = true then some (10 * m + (c.toNat - 48)) else none
  | [], n, c => by simp [goN]
  | d :: l, n, c => by
    simp only [List.cons_append, goN]
    split
    · exact goN_app l _ c
    · rfl
theorem dig_ofNat {k : Nat} (h : k < 10) : isD (UInt8.ofNat (48 + k)) = true ∧ (UInt8.ofNat (48 + k)).toNat = 48 + k := by
  have e : (UInt8.ofNat (48 + k)).toNat = 48 + k := by rw [UInt8.toNat_ofNat']; omega
  exact ⟨by unfold isD; rw [e]; exact decide_eq_true (by omega), e⟩
theorem goN_dec : ∀ n, goN 0 (decF n) = some n := by
  intro n
  induction n using Nat.strongRecOn with
  | _ n ih =>
    by_cases h : n < 10
    · rw [decF_small h]
      obtain ⟨e1, e2⟩ := dig_ofNat h
      simp only [goN, e1, e2, if_true]
      congr 1; omega
    · rw [decF_big (by omega), goN_app, ih (n / 10) (by omega)]
      obtain ⟨e1, e2⟩ := dig_ofNat (show n % 10 < 10 by omega)
      simp only [Option.bind_some, e1, e2, if_true]
      congr 1; omega
theorem decF_pos (n : Nat) : 1 ≤ (decF n).length := by
  rw [decF]; split <;> simp
theorem decF_len (k : Nat) : ∀ n, n < 10 ^ (k + 1) → (decF n).length ≤ k + 1 := by
  induction k with
  | zero => intro n h; rw [decF_small (by simpa using h)]; simp
  | succ k ih =>
    intro n h
    by_cases hs : n < 10
    · rw [decF_small hs]; simp
    · rw [decF_big (by omega)]
      have := ih (n / 10) (by rw [Nat.pow_succ] at h; omega)
      simp; exact this
theorem decF_head : ∀ n, 1 ≤ n → (decF n).getD 0 0 ≠ 48 := by
  intro n
  induction n using Nat.strongRecOn with
  | _ n ih =>
    intro h1
    by_cases h : n < 10
    · rw [decF_small h]
      intro e
      have := congrArg UInt8.toNat (show UInt8.ofNat (48 + n) = 48 from e)
      rw [(dig_ofNat h).2] at this
      have h48 : (48 : UInt8).toNat = 48 := rfl
      omega
    · rw [decF_big (by omega), List.getD_eq_getElem?_getD, List.getElem?_append_left (by have := decF_pos (n / 10); omega), ← List.getD_eq_getElem?_getD]
      exact ih (n / 10) (by omega) (by omega)
theorem decF_long {n : Nat} (h : 1 < (decF n).length) : 10 ≤ n := by
  rcases Nat.lt_or_ge n 10 with h1 | h1
  · rw [decF_small h1] at h; simp at h
  · exact h1
theorem headOk_dec {n : Nat} (h : n < 4294967296) : headOk (decF n) = true := by
  have h1 := decF_pos n
  have h2 := decF_len 9 n (by omega)
  refine decide_eq_true ⟨h1, h2, fun ⟨h3, h4⟩ => decF_head n ?_ h4⟩
  have := decF_long h3
  omega
theorem numF_dec {n : Nat} (h : n < 4294967296) : numF (decF n) = some n := by
  unfold numF
  rw [if_pos (headOk_dec h), goN_dec]
  simp [h]
theorem goN_back (l : List UInt8) : ∀ (n : Nat), l ≠ [] → ¬ (1 < l.length ∧ l.getD 0 0 = 48) → goN 0 l = some n → decF n = l := by
  induction h : l.length generalizing l with
  | zero => intro n hne; exact absurd (List.length_eq_zero_iff.1 h) hne
  | succ k ih =>
    intro n hne hh hg
    obtain ⟨m, c, rfl⟩ : ∃ m c, l = m ++ [c] := ⟨l.dropLast, l.getLast hne, (List.dropLast_concat_getLast hne).symm⟩
    rw [goN_app] at hg
    simp only [List.length_append, List.length_cons, List.length_nil] at h
    by_cases hm : m = []
    · subst hm
      simp only [goN, Option.bind_some] at hg
      by_cases hd : isD c = true
      · rw [if_pos hd] at hg
        simp only [Nat.mul_zero, Nat.zero_add, Option.some.injEq] at hg
        have hd' : 48 ≤ c.toNat ∧ c.toNat ≤ 57 := of_decide_eq_true hd
        rw [decF_small (by omega)]
        have : 48 + n = c.toNat := by omega
        rw [this]
        simp
      · rw [if_neg hd] at hg; cases hg
    · have hm0 := List.length_pos_iff.2 hm
      have hhead : m.getD 0 0 ≠ 48 := by
        intro e
        apply hh
        refine ⟨by simp; omega, ?_⟩
        rw [List.getD_eq_getElem?_getD, List.getElem?_append_left hm0, ← List.getD_eq_getElem?_getD]
        exact e
      cases hgm : goN 0 m with
      | none => rw [hgm] at hg; cases hg
      | some x =>
        rw [hgm] at hg
        simp only [Option.bind_some] at hg
        by_cases hd : isD c = true
        · rw [if_pos hd] at hg
          simp only [Option.some.injEq] at hg
          have hd' : 48 ≤ c.toNat ∧ c.toNat ≤ 57 := of_decide_eq_true hd
          have hx := ih m (by omega) x hm (fun h => hhead h.2) hgm
          have hx1 : 1 ≤ x := by
            rcases Nat.eq_zero_or_pos x with h0 | h0
            · subst h0
              rw [decF_small (by omega)] at hx
              rw [← hx] at hhead
              exact absurd rfl hhead
            · exact h0
          rw [decF_big (by omega)]
          have e1 : n / 10 = x := by omega
          have e2 : 48 + n % 10 = c.toNat := by omega
          rw [e1, e2, hx]
          simp
        · rw [if_neg hd] at hg; cases hg
theorem numF_back {b : List UInt8} {n : Nat} (h : numF b = some n) : decF n = b ∧ n < 4294967296 := by
  unfold numF at h
  split at h
  · rename_i hh
    obtain ⟨h1, h2, h3⟩ := of_decide_eq_true hh
    cases hg : goN 0 b with
    | none => rw [hg] at h; cases h
    | some m =>
      rw [hg] at h
      simp only [Option.bind_some] at h
      by_cases hm : m < 4294967296
      · rw [if_pos hm] at h
        cases h
        exact ⟨goN_back b n (fun e => by rw [e] at h1; simp at h1) h3 hg, hm⟩
      · rw [if_neg hm] at h; cases h
  · cases h
theorem beVal_be4 {n : Nat} (h : n < 4294967296) : beVal 0 (be 4 n) = n := by
  rw [beVal_be]; simp; omega
theorem be4_beVal : ∀ {l : List UInt8}, l.length = 4 → be 4 (beVal 0 l) = l
  | [a, b, c, d], _ => by
    have ha := a.toNat_lt; have hb := b.toNat_lt; have hc := c.toNat_lt; have hd := d.toNat_lt
    have e1 : beVal 0 [a, b, c, d] = ((a.toNat * 256 + b.toNat) * 256 + c.toNat) * 256 + d.toNat := by simp [beVal]
    rw [e1]
    have k : ∀ (x : UInt8) (m : Nat), m % 256 = x.toNat → UInt8.ofNat (m % 256) = x := fun x m h => by rw [h]; simp
    simp only [be]
    rw [k a _ (by omega), k b _ (by omega), k c _ (by omega), k d _ (by omega)]
theorem beVal4_lt {l : List UInt8} (h : l.length = 4) : beVal 0 l < 4294967296 := by
  have := beVal_lt l 0
  rw [h] at this
  omega
theorem text_label {b x : List UInt8} {num : Bool} (h : labelF b num = some x) : textF x num = some b := by
  unfold labelF at h
  unfold textF
  split at h
  · rename_i hn
    rw [if_pos hn]
    cases hb : numF b with
    | none => rw [hb] at h; cases h
    | some n =>
      rw [hb] at h
      simp only [Option.map_some, Option.some.injEq] at h
      subst h
      obtain ⟨h1, h2⟩ := numF_back hb
      rw [if_pos (be_length 4 n), beVal_be4 h2, h1]
  · rename_i hn
    rw [if_neg hn]
    unfold plainF at h ⊢
    split at h
    · cases h; rw [if_pos (by assumption)]
    · cases h
theorem label_text {b x : List UInt8} {num : Bool} (h : textF b num = some x) : labelF x num = some b := by
  unfold textF at h
  unfold labelF
  split at h
  · rename_i hn
    rw [if_pos hn]
    split at h
    · rename_i hl
      simp only [Option.some.injEq] at h
      subst h
      rw [numF_dec (beVal4_lt hl), Option.map_some, be4_beVal hl]
    · cases h
  · rename_i hn
    rw [if_neg hn]
    unfold plainF at h ⊢
    split at h
    · cases h; rw [if_pos (by assumption)]
    · cases h
theorem numF_lt {b : List UInt8} {n : Nat} (h : numF b = some n) : n < 4294967296 := (numF_back h).2
theorem labelF_len {b x : List UInt8} {num : Bool} (h : labelF b num = some x) : x.length ≤ 32 ∧ 1 ≤ x.length := by
  unfold labelF at h
  split at h
  · cases hb : numF b with
    | none => rw [hb] at h; cases h
    | some n =>
      rw [hb] at h
      simp only [Option.map_some, Option.some.injEq] at h
      subst h
      rw [be_length]; omega
  · unfold plainF at h
    split at h
    · rename_i hl; cases h; exact ⟨hl.2, hl.1⟩
    · cases h
theorem textF_len {b x : List UInt8} {num : Bool} (h : textF b num = some x) : x.length ≤ 32 ∧ 1 ≤ x.length := by
  unfold textF at h
  split at h
  · split at h
    · rename_i hl
      simp only [Option.some.injEq] at h
      subst h
      have h1 := decF_len 9 _ (show beVal 0 b < 10 ^ (9 + 1) by have := beVal4_lt hl; omega)
      exact ⟨by omega, decF_pos _⟩
    · cases h
  · unfold plainF at h
    split at h
    · rename_i hl; cases h; exact ⟨hl.2, hl.1⟩
    · cases h
theorem label_dec {n : Nat} (h : n < 4294967296) : labelF (decF n) true = some (be 4 n) := by
  unfold labelF
  rw [if_pos rfl, numF_dec h]
  rfl
structure It where
  two : Bool
  a : List UInt8
  b : List UInt8
  code : Int
  pos : Int
  deriving DecidableEq
def itv (x : It) : V := .agg [.bool x.two, .bytes x.a none, .bytes x.b none, .int .i64 x.code, .int .i64 x.pos]
def parseF (p : Nat) (b : List UInt8) (num : Bool) : It := match wordsF p b with
  | [x, y] => match labelF x.2 num with
    | none => ⟨false, [], [], 81, x.1⟩
    | some s => match labelF y.2 num with
      | none => ⟨false, [], [], 81, y.1⟩
      | some t => ⟨true, s, t, 0, 0⟩
  | _ => ⟨false, [], [], 80, p⟩
theorem words_in (p : Nat) (b : List UInt8) : ∀ y ∈ wordsF p b, p ≤ y.1 ∧ y.1 + y.2.length ≤ p + b.length := by
  intro y hy
  rw [wordsF_shift] at hy
  obtain ⟨z, hz, rfl⟩ := List.mem_map.1 hy
  have h := laid_mem (words_laid (x := b) (a := 0) (w := b) (by omega) (by simp)) z (by simp [hz])
  simp only
  omega
theorem parse_two {p : Nat} {b : List UInt8} {x y : Ln} (h : wordsF p b = [x, y]) (num : Bool) : parseF p b num = match labelF x.2 num with
    | none => ⟨false, [], [], 81, x.1⟩
    | some s => match labelF y.2 num with
      | none => ⟨false, [], [], 81, y.1⟩
      | some t => ⟨true, s, t, 0, 0⟩ := by unfold parseF; rw [h]
theorem parse_other {p : Nat} {b : List UInt8} (h : ¬ ∃ x y, wordsF p b = [x, y]) (num : Bool) : parseF p b num = ⟨false, [], [], 80, p⟩ := by
  unfold parseF
  split
  · rename_i x y hw; exact absurd ⟨x, y, hw⟩ h
  · rfl
theorem words_blanks : ∀ (g r : List UInt8) (p : Nat), (∀ c ∈ g, isBl c = true) → wordsF p (g ++ r) = wordsF (p + g.length) r
  | [], r, p, _ => rfl
  | c :: g, r, p, h => by
    rw [List.cons_append, wordsF_blank p (h c (by simp)), words_blanks g r (p + 1) (fun d hd => h d (by simp [hd])), List.length_cons, Nat.add_assoc, Nat.add_comm 1]
theorem words_one {x r : List UInt8} (p : Nat) (hx : x ≠ []) (hn : ∀ c ∈ x, isBl c = false) (hr : ∀ c l, r = c :: l → isBl c = true) : wordsF p (x ++ r) = (p, x) :: wordsF (p + x.length) r := by
  have h1 : (x ++ r).takeWhile (fun c => !isBl c) = x := by
    rw [List.takeWhile_append_of_pos (by intro c hc; simp [hn c hc])]
    cases r with
    | nil => simp
    | cons c l => rw [List.takeWhile_cons, if_neg (by simp [hr c l rfl]), List.append_nil]
  have h2 : wordN (x ++ r) = x.length := by unfold wordN; rw [h1]
  have h3 := List.length_pos_iff.2 hx
  rw [wordsF_word p (by omega), h2]
  simp
theorem words_none (p : Nat) (g : List UInt8) (h : ∀ c ∈ g, isBl c = true) : wordsF p g = [] := by
  have := words_blanks g [] p h
  rw [List.append_nil] at this
  rw [this]; rfl
theorem two_words (p : Nat) {g1 x g y g2 : List UInt8} (h1 : ∀ c ∈ g1, isBl c = true) (hx : x ≠ []) (hxn : ∀ c ∈ x, isBl c = false) (hg : ∀ c ∈ g, isBl c = true) (hg0 : g ≠ []) (hy : y ≠ []) (hyn : ∀ c ∈ y, isBl c = false) (h2 : ∀ c ∈ g2, isBl c = true) :
    ∃ q r, wordsF p (g1 ++ x ++ g ++ y ++ g2) = [(q, x), (r, y)] := by
  have e : g1 ++ x ++ g ++ y ++ g2 = g1 ++ (x ++ (g ++ (y ++ g2))) := by simp
  refine ⟨p + g1.length, p + g1.length + x.length + g.length, ?_⟩
  rw [e, words_blanks g1 _ p h1, words_one _ hx hxn (fun c l h => ?_), words_blanks g _ _ hg, words_one _ hy hyn (fun c l h => h2 c (by rw [h]; simp)), words_none _ g2 h2]
  cases g with
  | nil => exact absurd rfl hg0
  | cons d g =>
    simp only [List.cons_append, List.cons.injEq] at h
    rw [← h.1]
    exact hg d (by simp)
theorem parse_words {p : Nat} {g1 x g y g2 : List UInt8} {s t : List UInt8} (num : Bool) (h1 : ∀ c ∈ g1, isBl c = true) (hx : x ≠ []) (hxn : ∀ c ∈ x, isBl c = false) (hg : ∀ c ∈ g, isBl c = true) (hg0 : g ≠ []) (hy : y ≠ []) (hyn : ∀ c ∈ y, isBl c = false) (h2 : ∀ c ∈ g2, isBl c = true)
    (hs : labelF x num = some s) (ht : labelF y num = some t) : parseF p (g1 ++ x ++ g ++ y ++ g2) num = ⟨true, s, t, 0, 0⟩ := by
  obtain ⟨q, r, h⟩ := two_words p h1 hx hxn hg hg0 hy hyn h2
  rw [parse_two h]
  simp only [hs, ht]
theorem plain_label {x : List UInt8} (h1 : 1 ≤ x.length) (h2 : x.length ≤ 32) : labelF x false = some x := by
  unfold labelF plainF
  rw [if_neg (by simp), if_pos ⟨h1, h2⟩]
theorem dec_digits (n : Nat) : ∀ c ∈ decF n, isD c = true := by
  induction n using Nat.strongRecOn with
  | _ n ih =>
    intro c hc
    by_cases h : n < 10
    · rw [decF_small h, List.mem_singleton] at hc
      rw [hc]; exact (dig_ofNat h).1
    · rw [decF_big (by omega), List.mem_append, List.mem_singleton] at hc
      rcases hc with hc | hc
      · exact ih (n / 10) (by omega) c hc
      · rw [hc]; exact (dig_ofNat (by omega)).1
theorem dig_word {c : UInt8} (h : isD c = true) : isBl c = false := by
  have h' : 48 ≤ c.toNat ∧ c.toNat ≤ 57 := of_decide_eq_true h
  unfold isBl
  have a : (c == 32) = false := by
    simp only [beq_eq_false_iff_ne, ne_eq]
    intro e; rw [e] at h'; exact absurd h'.1 (by decide)
  have b : (c == 9) = false := by
    simp only [beq_eq_false_iff_ne, ne_eq]
    intro e; rw [e] at h'; exact absurd h'.1 (by decide)
  rw [a, b]; rfl
theorem itv_clean (x : It) : (itv x).clean := by simp [itv, V.clean]
end Go.Proofs.YtckmcglkjfkghaaDoor.EdgeM
