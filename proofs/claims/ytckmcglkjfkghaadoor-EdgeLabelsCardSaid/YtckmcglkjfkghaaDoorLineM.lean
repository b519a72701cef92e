import Derived.Test.YtckmcglkjfkghaaDoorAwX
namespace Go.Proofs.YtckmcglkjfkghaaDoor.LineM
open Go Go.Proofs.YtckmcglkjfkghaaDoor.Aw
set_option linter.unusedSimpArgs false
set_option linter.unusedVariables false
abbrev Ln := Nat × List UInt8
def lv (x : Ln) : V := .agg [.int .i64 (x.1 : Int), .bytes x.2 none]
def unlv : V → Ln
  | .agg [.int _ n, .bytes b _] => (n.toNat, b)
  | _ => (0, [])
theorem unlv_lv (x : Ln) : unlv (lv x) = x := rfl
theorem unlv_map (l : List Ln) : (l.map lv).map unlv = l := by
  rw [List.map_map]
  conv => rhs; rw [← List.map_id l]
  exact List.map_congr_left fun x _ => rfl
theorem lv_clean (l : List Ln) : ∀ v ∈ l.map lv, v.clean := by
  intro v hv
  simp only [List.mem_map] at hv
  obtain ⟨y, _, rfl⟩ := hv
  simp [lv, V.clean]
theorem lv_under (l : List Ln) (n m : Nat) : ∀ v ∈ l.map lv, v.under n m := by
  intro v hv
  simp only [List.mem_map] at hv
  obtain ⟨y, _, rfl⟩ := hv
  simp [lv, V.under]
theorem getD_lv {l : List Ln} {i : Nat} (h : i < l.length) : (l.map lv).getD i .any = lv (l.getD i (0, [])) := by
  simp [List.getD_eq_getElem?_getD, List.getElem?_eq_getElem h]
def trim (l : List UInt8) : List UInt8 := if l.getLast? = some 13 then l.dropLast else l
theorem trim_le (l : List UInt8) : (trim l).length ≤ l.length := by
  unfold trim; split <;> simp <;> omega
theorem trim_snoc (l : List UInt8) : trim (l ++ [13]) = l := by simp [trim]
theorem trim_other (l : List UInt8) {c : UInt8} (h : c ≠ 13) : trim (l ++ [c]) = l ++ [c] := by simp [trim, h]
theorem trim_nil : trim [] = [] := rfl
def goL (s : Nat) (cur : List UInt8) : List UInt8 → List Ln
  | [] => if cur = [] then [] else [(s, trim cur)]
  | c :: r => if c = 10 then (s, trim cur) :: goL (s + cur.length + 1) [] r else goL s (cur ++ [c]) r
def linesF (s : Nat) (b : List UInt8) : List Ln := goL s [] b
theorem goL_eq (s : Nat) (cur : List UInt8) (c : UInt8) (r : List UInt8) : goL s cur (c :: r) = if c = 10 then (s, trim cur) :: goL (s + cur.length + 1) [] r else goL s (cur ++ [c]) r := (rfl)
theorem tw_take {α : Type} (p : α → Bool) : ∀ b : List α, b.take (b.takeWhile p).length = b.takeWhile p
  | [] => rfl
  | c :: b => by
    rw [List.takeWhile_cons]
    split
    · simp [tw_take p b]
    · rfl
theorem tw_drop {α : Type} (p : α → Bool) : ∀ b : List α, b.drop (b.takeWhile p).length = b.dropWhile p
  | [] => rfl
  | c :: b => by
    rw [List.takeWhile_cons, List.dropWhile_cons]
    split
    · rename_i h; simp [tw_drop p b]
    · rfl
theorem trim_split (l : List UInt8) : ∃ q, l = trim l ++ q ∧ (trim l).length + q.length = l.length ∧ ∀ c ∈ q, c = 13 := by
  unfold trim
  split
  · rename_i h
    obtain ⟨z, hz⟩ : ∃ z, l = z ++ [13] := by
      rw [List.getLast?_eq_some_iff] at h
      exact h
    subst hz
    exact ⟨[13], by simp, by simp, by simp⟩
  · exact ⟨[], by simp, by simp, by simp⟩
theorem goL_end (s : Nat) : ∀ (w cur : List UInt8), 10 ∉ w → goL s cur w = if cur ++ w = [] then [] else [(s, trim (cur ++ w))]
  | [], cur, _ => by simp [goL]
  | c :: w, cur, h => by
    simp only [List.mem_cons, not_or] at h
    rw [goL_eq, if_neg (fun e => h.1 e.symm), goL_end s w (cur ++ [c]) h.2]
    simp
theorem goL_ten (s : Nat) (r : List UInt8) : ∀ (w cur : List UInt8), 10 ∉ w → goL s cur (w ++ 10 :: r) = (s, trim (cur ++ w)) :: goL (s + (cur ++ w).length + 1) [] r
  | [], cur, _ => by simp [goL]
  | c :: w, cur, h => by
    simp only [List.mem_cons, not_or] at h
    simp only [List.cons_append]
    rw [goL_eq, if_neg (fun e => h.1 e.symm), goL_ten s r w (cur ++ [c]) h.2]
    simp
theorem goL_app (y : List UInt8) : ∀ (x cur : List UInt8) (s : Nat), goL s cur (x ++ 10 :: y) = goL s cur (x ++ [10]) ++ goL (s + cur.length + x.length + 1) [] y
  | [], cur, s => by simp [goL]
  | c :: x, cur, s => by
    simp only [List.cons_append]
    rw [goL_eq, goL_eq]
    split
    · rw [goL_app y x [] _]
      simp only [List.length_cons, List.length_nil, List.cons_append, Nat.add_zero]
      rw [show s + cur.length + 1 + x.length + 1 = s + cur.length + (x.length + 1) + 1 by omega]
    · rw [goL_app y x (cur ++ [c]) s]
      simp only [List.length_append, List.length_cons, List.length_nil]
      rw [show s + (cur.length + (0 + 1)) + x.length + 1 = s + cur.length + (x.length + 1) + 1 by omega]
theorem goL_shift (d : Nat) : ∀ (y cur : List UInt8) (s : Nat), goL (s + d) cur y = (goL s cur y).map fun z => (z.1 + d, z.2)
  | [], cur, s => by unfold goL; split <;> rfl
  | c :: y, cur, s => by
    unfold goL
    split
    · rw [show s + d + cur.length + 1 = (s + cur.length + 1) + d by omega, goL_shift d y [] _]; rfl
    · exact goL_shift d y _ s
theorem goL_len : ∀ (y cur : List UInt8) (s : Nat), (goL s cur y).length ≤ y.length + (if cur = [] then 0 else 1)
  | [], cur, s => by unfold goL; split <;> simp
  | c :: y, cur, s => by
    unfold goL
    split
    · have := goL_len y [] (s + cur.length + 1)
      simp only [List.length_cons, if_true] at *
      omega
    · have := goL_len y (cur ++ [c]) s
      simp only [List.length_cons] at *
      simp at this
      split <;> omega
theorem linesF_len (s : Nat) (b : List UInt8) : (linesF s b).length ≤ b.length := by
  have := goL_len b [] s
  simpa [linesF] using this
theorem linesF_nil (s : Nat) : linesF s [] = [] := rfl
def lineN (b : List UInt8) : Nat := (b.takeWhile (· != 10)).length
theorem lineN_le (b : List UInt8) : lineN b ≤ b.length := (List.takeWhile_sublist _).length_le
theorem take_lineN (b : List UInt8) : b.take (lineN b) = b.takeWhile (· != 10) := tw_take _ b
theorem no_ten (b : List UInt8) : 10 ∉ b.takeWhile (· != 10) := by
  induction b with
  | nil => simp
  | cons c b ih =>
    rw [List.takeWhile_cons]
    split
    · rename_i h
      simp only [bne_iff_ne, ne_eq] at h
      simp only [List.mem_cons, not_or]
      exact ⟨fun e => h e.symm, ih⟩
    · simp
theorem split_line {b : List UInt8} (h : lineN b < b.length) : b = b.takeWhile (· != 10) ++ 10 :: b.drop (lineN b + 1) := by
  have h1 := List.takeWhile_append_dropWhile (p := (· != 10)) (l := b)
  have h2 : b.drop (lineN b) = b.dropWhile (· != 10) := tw_drop _ b
  have h3 : b.dropWhile (· != 10) ≠ [] := by
    intro e
    have := congrArg List.length h1
    rw [e] at this
    simp only [List.append_nil] at this
    have : lineN b = b.length := this
    omega
  obtain ⟨c, r, hc⟩ := List.exists_cons_of_ne_nil h3
  have h4 : c = 10 := by
    have := List.head_dropWhile_not (p := (· != (10 : UInt8))) (l := b) h3
    simp only [hc, List.head_cons] at this
    simpa using this
  have h5 : b.drop (lineN b + 1) = r := by
    have := congrArg (List.drop 1) (h2.trans hc)
    simpa [List.drop_drop] using this
  rw [h5]
  rw [hc, h4] at h1
  exact h1.symm
def firstF (b : List UInt8) : List UInt8 × Nat := if lineN b < b.length then (trim (b.take (lineN b)), lineN b + 1) else (trim b, b.length)
theorem firstF_le (b : List UInt8) : (firstF b).2 ≤ b.length := by
  unfold firstF; split <;> simp <;> omega
theorem firstF_pos {b : List UInt8} (h : b ≠ []) : 0 < (firstF b).2 := by
  unfold firstF; split
  · simp
  · exact List.length_pos_iff.2 h
theorem firstF_len (b : List UInt8) : (firstF b).1.length ≤ b.length := by
  unfold firstF; split
  · have := trim_le (b.take (lineN b)); simp at this; simp only; omega
  · exact trim_le b
theorem linesF_first {b : List UInt8} (h : b ≠ []) (s : Nat) : linesF s b = (s, (firstF b).1) :: linesF (s + (firstF b).2) (b.drop (firstF b).2) := by
  unfold linesF firstF
  by_cases hl : lineN b < b.length
  · rw [if_pos hl]
    simp only
    conv => lhs; rw [split_line hl]
    rw [goL_ten s _ _ [] (no_ten b), List.nil_append, take_lineN]
    rfl
  · rw [if_neg hl]
    simp only
    have e : b.takeWhile (· != 10) = b := by
      rw [← take_lineN]
      exact List.take_of_length_le (by omega)
    have hn : 10 ∉ b := by have := no_ten b; rwa [e] at this
    rw [goL_end s b [] hn, List.nil_append, if_neg h, List.drop_length]
    rfl
def isBl (c : UInt8) : Bool := c == 32 || c == 9
def goW (p : Nat) (cur : Option Ln) : List UInt8 → List Ln
  | [] => cur.toList
  | c :: r => if isBl c = true then cur.toList ++ goW (p + 1) none r else goW (p + 1) (some (match cur with | none => (p, [c]) | some (a, w) => (a, w ++ [c]))) r
def wordsF (p : Nat) (b : List UInt8) : List Ln := goW p none b
def wordN (b : List UInt8) : Nat := (b.takeWhile fun c => !isBl c).length
theorem wordN_le (b : List UInt8) : wordN b ≤ b.length := (List.takeWhile_sublist _).length_le
theorem goW_go : ∀ (w r : List UInt8) (p a : Nat) (v : List UInt8), (∀ c ∈ w, isBl c = false) → goW p (some (a, v)) (w ++ r) = goW (p + w.length) (some (a, v ++ w)) r
  | [], r, p, a, v, _ => by simp
  | c :: w, r, p, a, v, h => by
    have hc := h c (by simp)
    simp only [List.cons_append]
    rw [goW, if_neg (by simp [hc]), goW_go w r (p + 1) a (v ++ [c]) fun d hd => h d (by simp [hd])]
    simp only [List.length_cons, List.append_assoc, List.cons_append, List.nil_append]
    congr 1
    omega
theorem goW_stop (p : Nat) (x : Ln) : ∀ (r : List UInt8), (∀ c l, r = c :: l → isBl c = true) → goW p (some x) r = x :: goW p none r
  | [], _ => rfl
  | c :: r, h => by
    have hc := h c r rfl
    rw [goW, if_pos hc, goW, if_pos hc]
    rfl
theorem takeW_not (b : List UInt8) : ∀ c ∈ b.takeWhile fun c => !isBl c, isBl c = false := by
  intro c hc
  induction b with
  | nil => cases hc
  | cons d b ih =>
    rw [List.takeWhile_cons] at hc
    split at hc
    · rename_i h
      rcases List.mem_cons.1 hc with rfl | hc
      · simpa using h
      · exact ih hc
    · cases hc
theorem split_word (b : List UInt8) : b = (b.takeWhile fun c => !isBl c) ++ b.drop (wordN b) ∧ b.take (wordN b) = b.takeWhile (fun c => !isBl c) ∧ ∀ c l, b.drop (wordN b) = c :: l → isBl c = true := by
  have h1 := List.takeWhile_append_dropWhile (p := fun c => !isBl c) (l := b)
  have h2 : b.drop (wordN b) = b.dropWhile fun c => !isBl c := tw_drop _ b
  have h3 : b.take (wordN b) = b.takeWhile fun c => !isBl c := tw_take _ b
  refine ⟨by rw [h2]; exact h1.symm, h3, fun c l e => ?_⟩
  rw [h2] at e
  have h4 : (b.dropWhile fun c => !isBl c) ≠ [] := by rw [e]; simp
  have := List.head_dropWhile_not (p := fun c => !isBl c) (l := b) h4
  simp only [e, List.head_cons] at this
  simpa using this
theorem wordsF_blank (p : Nat) {c : UInt8} (h : isBl c = true) (r : List UInt8) : wordsF p (c :: r) = wordsF (p + 1) r := by
  unfold wordsF
  rw [goW, if_pos h]
  rfl
theorem wordsF_word (p : Nat) {b : List UInt8} (h : 0 < wordN b) : wordsF p b = (p, b.take (wordN b)) :: wordsF (p + wordN b) (b.drop (wordN b)) := by
  obtain ⟨h1, h2, h3⟩ := split_word b
  unfold wordsF
  obtain ⟨c, w, hw⟩ : ∃ c w, (b.takeWhile fun c => !isBl c) = c :: w := by
    cases hb : b.takeWhile fun c => !isBl c with
    | nil => unfold wordN at h; rw [hb] at h; simp at h
    | cons c w => exact ⟨c, w, rfl⟩
  have hn := takeW_not b
  rw [hw] at hn
  have hl : wordN b = w.length + 1 := by unfold wordN; rw [hw]; rfl
  conv => lhs; rw [h1, hw]
  simp only [List.cons_append]
  rw [goW, if_neg (by simp [hn c (by simp)]), goW_go w _ (p + 1) p [c] fun d hd => hn d (by simp [hd]), goW_stop _ _ _ h3, h2, hw, hl]
  simp only [List.cons_append, List.nil_append]
  congr 2
  omega
theorem wordN_zero {c : UInt8} {r : List UInt8} (h : wordN (c :: r) = 0) : isBl c = true := by
  unfold wordN at h
  rw [List.takeWhile_cons] at h
  split at h
  · simp at h
  · rename_i h2; simpa using h2
theorem goW_len : ∀ (y : List UInt8) (cur : Option Ln) (p : Nat), (goW p cur y).length ≤ y.length + cur.toList.length
  | [], cur, p => by simp [goW]
  | c :: y, cur, p => by
    unfold goW
    split
    · have := goW_len y none (p + 1)
      simp only [List.length_append, List.length_cons, Option.toList_none, List.length_nil] at *
      omega
    · have := goW_len y (some (match cur with | none => (p, [c]) | some (a, w) => (a, w ++ [c]))) (p + 1)
      simp only [List.length_cons, Option.toList_some, List.length_nil] at *
      omega
theorem wordsF_len (p : Nat) (b : List UInt8) : (wordsF p b).length ≤ b.length := by
  have := goW_len b none p
  simpa [wordsF] using this
theorem goW_ne : ∀ (y : List UInt8) (cur : Option Ln) (p : Nat), (∀ x ∈ cur.toList, x.2 ≠ []) → ∀ x ∈ goW p cur y, x.2 ≠ []
  | [], cur, p, h, x, hx => h x hx
  | c :: y, cur, p, h, x, hx => by
    unfold goW at hx
    split at hx
    · rcases List.mem_append.1 hx with hx | hx
      · exact h x hx
      · exact goW_ne y none (p + 1) (by simp) x hx
    · refine goW_ne y _ (p + 1) (fun z hz => ?_) x hx
      simp only [Option.toList_some, List.mem_singleton] at hz
      subst hz
      cases cur with
      | none => simp
      | some q => simp
def bareF (b : List UInt8) : Bool := match wordsF 0 b with
  | [] => true
  | x :: _ => x.2.getD 0 0 == 35
theorem goW_shift (d : Nat) : ∀ (y : List UInt8) (cur : Option Ln) (p : Nat), goW (p + d) (cur.map fun z => (z.1 + d, z.2)) y = (goW p cur y).map fun z => (z.1 + d, z.2)
  | [], cur, p => by cases cur <;> rfl
  | c :: y, cur, p => by
    unfold goW
    split
    · rw [show p + d + 1 = p + 1 + d by omega]
      have := goW_shift d y none (p + 1)
      simp only [Option.map_none] at this
      rw [this, List.map_append]
      cases cur <;> rfl
    · rw [show p + d + 1 = p + 1 + d by omega]
      have := goW_shift d y (some (match cur with | none => (p, [c]) | some (a, w) => (a, w ++ [c]))) (p + 1)
      rw [← this]
      congr 1
      cases cur <;> rfl
theorem wordsF_shift (p : Nat) (b : List UInt8) : wordsF p b = (wordsF 0 b).map fun z => (z.1 + p, z.2) := by
  have := goW_shift p b none 0
  simpa [wordsF] using this
theorem bareF_at (p : Nat) (b : List UInt8) : bareF b = match wordsF p b with | [] => true | x :: _ => x.2.getD 0 0 == 35 := by
  unfold bareF
  rw [wordsF_shift p b]
  cases wordsF 0 b <;> rfl
theorem bareF_blanks : ∀ (a b : List UInt8), (∀ c ∈ a, isBl c = true) → bareF (a ++ b) = bareF b
  | [], b, _ => rfl
  | c :: a, b, h => by
    rw [← bareF_blanks a b fun d hd => h d (by simp [hd])]
    rw [List.cons_append, bareF_at 1 (a ++ b)]
    unfold bareF
    rw [wordsF_blank 0 (h c (by simp))]
theorem bareF_head {c : UInt8} (hc : isBl c = false) (r : List UInt8) : bareF (c :: r) = (c == 35) := by
  have h0 : 0 < wordN (c :: r) := by unfold wordN; rw [List.takeWhile_cons, if_pos (by simp [hc])]; simp
  unfold bareF
  rw [wordsF_word 0 h0]
  simp only
  obtain ⟨k, hk⟩ : ∃ k, wordN (c :: r) = k + 1 := ⟨_, (Nat.succ_pred_eq_of_pos h0).symm⟩
  rw [hk]
  rfl
def Laid (ok : UInt8 → Bool) (x : List UInt8) (e : Nat) : Nat → List Ln → Prop
  | p, [] => p = e
  | p, y :: l => p ≤ y.1 ∧ y.1 + y.2.length ≤ e ∧ (x.take (y.1 + y.2.length)).drop y.1 = y.2 ∧ (∀ j, p ≤ j → j < y.1 → ok (x.getD j 0) = true) ∧ Laid ok x e (y.1 + y.2.length) l
def lineEnd (c : UInt8) : Bool := c == 10 || c == 13
theorem sub_of {x : List UInt8} {s : Nat} {w r : List UInt8} (h : x.drop s = w ++ r) : (x.take (s + w.length)).drop s = w := by
  rw [List.drop_take]
  rw [h]
  simp
theorem at_of {x : List UInt8} {s j : Nat} {y : List UInt8} (h : x.drop s = y) (hj : s ≤ j) : x.getD j 0 = y.getD (j - s) 0 := by
  subst h
  rw [List.getD_eq_getElem?_getD, List.getD_eq_getElem?_getD, List.getElem?_drop, show s + (j - s) = j by omega]
theorem laid_lines (x : List UInt8) : ∀ (r cur : List UInt8) (s p : Nat), x.drop s = cur ++ r → s + (cur ++ r).length = x.length → p ≤ s → (∀ j, p ≤ j → j < s → lineEnd (x.getD j 0) = true) →
    Laid lineEnd x x.length p (goL s cur r ++ [(x.length, [])])
  | [], cur, s, p, hx, hl, hp, hok => by
    simp only [List.append_nil] at hx hl
    unfold goL
    split
    · rename_i h
      subst h
      simp only [List.length_nil, Nat.add_zero] at hl
      subst hl
      exact ⟨hp, by simp, by simp, hok, by simp [Laid]⟩
    · obtain ⟨q, hq, hcl, hq13⟩ := trim_split cur
      generalize trim cur = tc at *
      subst hq
      refine ⟨hp, by simp only; simp only [List.length_append] at hl; omega, sub_of (r := q) hx, hok, ?_⟩
      refine ⟨by simp only; omega, by simp, by simp, fun j h1 h2 => ?_, by simp [Laid]⟩
      simp only at h1 h2
      have : x.getD j 0 = q.getD (j - (s + tc.length)) 0 := by
        rw [at_of hx (by omega)]
        simp only [List.getD_eq_getElem?_getD]
        rw [List.getElem?_append_right (by omega)]
        congr 2
        omega
      rw [this]
      have hlt : j - (s + tc.length) < q.length := by simp only [List.length_append] at hl; omega
      rw [List.getD_eq_getElem?_getD, List.getElem?_eq_getElem hlt]
      simp only [Option.getD_some]
      rw [hq13 _ (List.getElem_mem hlt)]
      rfl
  | c :: r, cur, s, p, hx, hl, hp, hok => by
    unfold goL
    split
    · rename_i h
      subst h
      obtain ⟨q, hq, hcl, hq13⟩ := trim_split cur
      generalize trim cur = tc at *
      simp only [List.length_append, List.length_cons] at hl
      simp only [List.cons_append]
      refine ⟨hp, by simp only; omega, sub_of (r := q ++ 10 :: r) (by rw [hx, ← List.append_assoc, ← hq]), hok, ?_⟩
      have hx2 : x.drop (s + cur.length + 1) = r := by
        have := congrArg (List.drop (cur.length + 1)) hx
        rw [List.drop_drop] at this
        rw [show s + cur.length + 1 = s + (cur.length + 1) by omega, this, ← List.drop_drop]
        simp
      refine laid_lines x r [] (s + cur.length + 1) _ (by simpa using hx2) (by simp; omega) (by simp only; omega) fun j h1 h2 => ?_
      simp only at h1
      by_cases hj : j = s + cur.length
      · have : x.getD j 0 = 10 := by
          rw [at_of hx (by omega), hj]
          simp [List.getD_eq_getElem?_getD]
        rw [this]; rfl
      · have : x.getD j 0 = q.getD (j - (s + tc.length)) 0 := by
          rw [at_of hx (by omega)]
          simp only [List.getD_eq_getElem?_getD]
          rw [List.getElem?_append_left (by omega)]
          conv => lhs; rw [hq]
          rw [List.getElem?_append_right (by omega)]
          congr 2
          omega
        rw [this]
        have hlt : j - (s + tc.length) < q.length := by omega
        rw [List.getD_eq_getElem?_getD, List.getElem?_eq_getElem hlt]
        simp only [Option.getD_some]
        rw [hq13 _ (List.getElem_mem hlt)]
        rfl
    · refine laid_lines x r (cur ++ [c]) s p (by simpa using hx) (by simpa using hl) hp hok
theorem lines_laid (x : List UInt8) : Laid lineEnd x x.length 0 (linesF 0 x ++ [(x.length, [])]) :=
  laid_lines x x [] 0 0 (by simp) (by simp) (Nat.le_refl _) fun j h1 h2 => by omega
theorem laid_words (x : List UInt8) (e : Nat) (he : e ≤ x.length) : ∀ (r : List UInt8) (cur : Option Ln) (q p : Nat), (x.take e).drop q = r → q + r.length = e → 
    (match cur with | none => p ≤ q ∧ ∀ j, p ≤ j → j < q → isBl (x.getD j 0) = true | some y => p ≤ y.1 ∧ y.1 + y.2.length = q ∧ (x.take q).drop y.1 = y.2 ∧ ∀ j, p ≤ j → j < y.1 → isBl (x.getD j 0) = true) →
    Laid isBl x e p (goW q cur r ++ [(e, [])])
  | [], none, q, p, hx, hl, ⟨hp, hok⟩ => by
    simp only [List.length_nil, Nat.add_zero] at hl
    subst hl
    exact ⟨hp, by simp, by simp, hok, by simp [Laid]⟩
  | [], some y, q, p, hx, hl, ⟨hp, hy, hs, hok⟩ => by
    simp only [List.length_nil, Nat.add_zero] at hl
    subst hl
    show Laid isBl x q p [y, (q, [])]
    exact ⟨hp, by omega, by rw [hy]; exact hs, hok, by simp only; omega, by simp, by simp, fun j h1 h2 => by simp only at h2; omega, by simp [Laid]⟩
  | c :: r, cur, q, p, hx, hl, hc => by
    simp only [List.length_cons] at hl
    have hx2 : (x.take e).drop (q + 1) = r := by
      have := congrArg (List.drop 1) hx
      rw [List.drop_drop] at this
      simpa using this
    have hg : x.getD q 0 = c := by
      have := congrArg (fun l => l[0]?) hx
      simp only [List.getElem?_drop, Nat.add_zero] at this
      rw [List.getElem?_take_of_lt (by omega)] at this
      rw [List.getD_eq_getElem?_getD, this]
      rfl
    unfold goW
    split
    · rename_i hb
      cases cur with
      | none =>
        refine laid_words x e he r none (q + 1) p hx2 (by omega) ⟨by omega, fun j h1 h2 => ?_⟩
        by_cases hj : j = q
        · rw [hj, hg]; exact hb
        · exact hc.2 j h1 (by omega)
      | some y =>
        obtain ⟨hp, hy, hs, hok⟩ := hc
        show Laid isBl x e p (y :: (goW (q + 1) none r ++ [(e, [])]))
        refine ⟨hp, by omega, by rw [hy]; exact hs, hok, ?_⟩
        rw [hy]
        refine laid_words x e he r none (q + 1) q hx2 (by omega) ⟨by omega, fun j h1 h2 => ?_⟩
        have hj : j = q := by omega
        rw [hj, hg]; exact hb
    · rename_i hb
      have hst : x.take (q + 1) = x.take q ++ [c] := by
        rw [List.take_succ_eq_append_getElem (by omega)]
        congr 2
        rw [List.getD_eq_getElem?_getD, List.getElem?_eq_getElem (by omega)] at hg
        exact hg
      have hql : (x.take q).length = q := by rw [List.length_take]; omega
      cases cur with
      | none =>
        refine laid_words x e he r (some (q, [c])) (q + 1) p hx2 (by omega) ⟨hc.1, by simp, ?_, hc.2⟩
        simp only
        rw [hst, List.drop_append, hql]
        simp [hql]
      | some y =>
        obtain ⟨hp, hy, hs, hok⟩ := hc
        refine laid_words x e he r (some (y.1, y.2 ++ [c])) (q + 1) p hx2 (by omega) ⟨hp, by simp; omega, ?_, hok⟩
        simp only
        rw [hst, List.drop_append, hs, hql, show y.1 - q = 0 by omega]
        rfl
theorem words_laid {x : List UInt8} {a : Nat} {w : List UInt8} (h : a + w.length ≤ x.length) (hs : (x.take (a + w.length)).drop a = w) : Laid isBl x (a + w.length) a (wordsF a w ++ [(a + w.length, [])]) :=
  laid_words x _ h w none a a hs rfl ⟨Nat.le_refl _, fun j h1 h2 => by omega⟩
theorem laid_mem {ok : UInt8 → Bool} {x : List UInt8} {e : Nat} : ∀ {l : List Ln} {p : Nat}, Laid ok x e p l → ∀ y ∈ l, y.1 + y.2.length ≤ e
  | z :: l, p, ⟨_, h2, _, _, h5⟩, y, hy => by
    rcases List.mem_cons.1 hy with rfl | hy
    · exact h2
    · exact laid_mem h5 y hy
theorem lines_le (x : List UInt8) : ∀ y ∈ linesF 0 x, y.1 + y.2.length ≤ x.length := fun y hy => laid_mem (lines_laid x) y (by simp [hy])
def shiftL (d : Nat) (l : List Ln) : List Ln := l.map fun z => (z.1 + d, z.2)
theorem lines_two (a y : List UInt8) : linesF 0 (a ++ [10] ++ y) = linesF 0 (a ++ [10]) ++ shiftL (a.length + 1) (linesF 0 y) := by
  unfold linesF shiftL
  have h := goL_app y a [] 0
  have h2 := goL_shift (a.length + 1) y [] 0
  rw [List.append_assoc, List.singleton_append, h, ← h2]
  simp
theorem lines_some (a : List UInt8) : linesF 0 (a ++ [10]) ≠ [] := by
  intro e
  have hne : a ++ [10] ≠ [] := by simp
  rw [linesF_first hne] at e
  cases e
def inWord (b : List UInt8) (i : Nat) : Bool := decide (0 < i) && !isBl (b.getD (i - 1) 0)
def Mid (a : Nat) (b : List UInt8) (i : Nat) (ls : List Ln) : Prop :=
  (inWord b i = true → ∃ ws x, ls = ws ++ [x] ∧ ws ++ goW (a + i) (some x) (b.drop i) = wordsF a b) ∧ (inWord b i = false → ls ++ goW (a + i) none (b.drop i) = wordsF a b)
theorem mid_zero (a : Nat) (b : List UInt8) : Mid a b 0 [] := ⟨fun h => by simp [inWord] at h, fun _ => by simp [wordsF]⟩
theorem inWord_succ {b : List UInt8} {i : Nat} (h : i < b.length) : inWord b (i + 1) = !isBl b[i] := by
  unfold inWord
  simp [List.getD_eq_getElem?_getD, List.getElem?_eq_getElem h]
theorem mid_blank {a : Nat} {b : List UInt8} {i : Nat} {ls : List Ln} (hm : Mid a b i ls) (h : i < b.length) (hb : isBl b[i] = true) : Mid a b (i + 1) ls := by
  have hd : b.drop i = b[i] :: b.drop (i + 1) := (List.getElem_cons_drop h).symm
  refine ⟨fun hi => (by rw [inWord_succ h, hb] at hi; cases hi), fun _ => ?_⟩
  cases hw : inWord b i with
  | true =>
    obtain ⟨ws, x, rfl, he⟩ := hm.1 hw
    rw [hd, goW, if_pos hb] at he
    rw [← he, Nat.add_assoc]
    simp
  | false =>
    have he := hm.2 hw
    rw [hd, goW, if_pos hb] at he
    rw [← he, Nat.add_assoc]
    simp
theorem mid_new {a : Nat} {b : List UInt8} {i : Nat} {ls : List Ln} (hm : Mid a b i ls) (h : i < b.length) (hb : isBl b[i] = false) (hw : inWord b i = false) : Mid a b (i + 1) (ls ++ [(a + i, [b[i]])]) := by
  have hd : b.drop i = b[i] :: b.drop (i + 1) := (List.getElem_cons_drop h).symm
  refine ⟨fun _ => ⟨ls, _, rfl, ?_⟩, fun hi => by rw [inWord_succ h, hb] at hi; cases hi⟩
  have he := hm.2 hw
  rw [hd, goW, if_neg (by simp [hb])] at he
  rw [← he, Nat.add_assoc]
theorem mid_more {a : Nat} {b : List UInt8} {i : Nat} {ws : List Ln} {x : Ln} (hm : Mid a b i (ws ++ [x])) (h : i < b.length) (hb : isBl b[i] = false) (hw : inWord b i = true) : Mid a b (i + 1) (ws ++ [(x.1, x.2 ++ [b[i]])]) := by
  have hd : b.drop i = b[i] :: b.drop (i + 1) := (List.getElem_cons_drop h).symm
  refine ⟨fun _ => ⟨ws, _, rfl, ?_⟩, fun hi => by rw [inWord_succ h, hb] at hi; cases hi⟩
  obtain ⟨ws', x', e, he⟩ := hm.1 hw
  obtain ⟨rfl, e2⟩ := List.append_inj' e rfl
  cases e2
  rw [hd, goW, if_neg (by simp [hb])] at he
  rw [← he, Nat.add_assoc]
theorem mid_end {a : Nat} {b : List UInt8} {ls : List Ln} (hm : Mid a b b.length ls) : ls = wordsF a b := by
  cases hw : inWord b b.length with
  | true =>
    obtain ⟨ws, x, rfl, he⟩ := hm.1 hw
    rw [List.drop_length, goW] at he
    exact he
  | false =>
    have he := hm.2 hw
    rw [List.drop_length, goW] at he
    simpa using he
theorem mid_some {a : Nat} {b : List UInt8} {i : Nat} {ls : List Ln} (hm : Mid a b i ls) (hw : inWord b i = true) : ls ≠ [] := by
  obtain ⟨ws, x, rfl, _⟩ := hm.1 hw
  simp
end Go.Proofs.YtckmcglkjfkghaaDoor.LineM
