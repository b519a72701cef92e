import Derived.Test.YtckmcglkjfkghaaDoorAwE
namespace Go.Proofs.YtckmcglkjfkghaaDoor.Aw
open Go Go.RowKit
set_option linter.unusedVariables false
set_option linter.unusedSimpArgs false
def tailOne (ops : Array Oper) (k i : Nat) : Bool :=
  match ops[i]? with
  | some o => (o.after.all fun e => !Region.binds .any e || decide (e.on < i)) && (match o.guard with | none => true | some (j, _) => decide (j < i)) &&
      (decide (i < k) || (o.guard.isNone && (List.range i).all fun j => o.after.any fun e => Region.binds .any e && e.on == j))
  | none => false
def tailOk (ops : Array Oper) (k : Nat) : Bool := decide (k ≤ ops.size) && (List.range ops.size).all (tailOne ops k)
structure TailF (ops : Array Oper) (k : Nat) : Prop where
  le : k ≤ ops.size
  back : ∀ (i : Nat) (o : Oper), ops[i]? = some o → ∀ e ∈ o.after, Region.binds .any e = true → e.on < i
  guard : ∀ (i : Nat) (o : Oper) (j : Nat) (w : Bool), ops[i]? = some o → o.guard = some (j, w) → j < i
  wait : ∀ (i : Nat) (o : Oper), k ≤ i → ops[i]? = some o → o.guard = none ∧ ∀ j, j < i → ∃ e ∈ o.after, Region.binds .any e = true ∧ e.on = j
theorem tailOk_spec {ops : Array Oper} {k : Nat} (h : tailOk ops k = true) : TailF ops k := by
  unfold tailOk at h
  simp only [Bool.and_eq_true, decide_eq_true_eq, List.all_eq_true, List.mem_range] at h
  obtain ⟨h1, h2⟩ := h
  have one : ∀ (i : Nat) (o : Oper), ops[i]? = some o → ((∀ e ∈ o.after, Region.binds .any e = true → e.on < i) ∧ (∀ j w, o.guard = some (j, w) → j < i)) ∧ (k ≤ i → o.guard = none ∧ ∀ j, j < i → ∃ e ∈ o.after, Region.binds .any e = true ∧ e.on = j) := by
    intro i o ho
    have hil : i < ops.size := (Array.getElem?_eq_some_iff.1 ho).1
    have := h2 i hil
    unfold tailOne at this
    rw [ho] at this
    simp only [Bool.and_eq_true, Bool.or_eq_true, decide_eq_true_eq] at this
    obtain ⟨⟨h3, h4⟩, h5⟩ := this
    refine ⟨⟨fun e he hb => ?_, fun j w hg => ?_⟩, fun hk => ?_⟩
    · have := (Array.all_eq_true_iff_forall_mem.1 h3) e he
      simpa [hb] using this
    · rw [hg] at h4; simpa using h4
    · rcases h5 with h5 | ⟨h5, h6⟩
      · omega
      · refine ⟨by simpa using h5, fun j hj => ?_⟩
        have := List.all_eq_true.1 h6 j (List.mem_range.2 hj)
        rw [Array.any_eq_true'] at this
        obtain ⟨e, he, hb⟩ := this
        simp only [Bool.and_eq_true, beq_iff_eq] at hb
        exact ⟨e, he, hb.1, hb.2⟩
  exact ⟨h1, fun i o ho => (one i o ho).1.1, fun i o j w ho hg => (one i o ho).1.2 j w hg, fun i o hk ho => (one i o ho).2 hk⟩
section
variable {P : Program} {F : Fence} {n : Nat} {ops : Array Oper} {k : Nat}
theorem wpIn_swap {o : Oper} {a : Act} {w : World} {K K' : Act → World → Prop} {Q Q' : Exit → Act → World → Prop} (hK : ∀ a w, K a w → K' a w) (hQ : ∀ c a w, Q (.panic c) a w → Q' (.panic c) a w) (hL : LetsOut Q → LetsOut Q')
    (hh : o.wpIn F n P a w K Q) : o.wpIn F n P a w K' Q' := by
  refine ⟨hh.1, ?_⟩
  have hh := hh.2
  generalize (o.semAt F.round a.eval).run P w = r at *
  cases r with
  | ok x w' =>
    cases x <;> simp only [Oper.uponIn] at hh ⊢ <;>
      first
        | exact hK _ _ hh
        | exact ⟨hh.1, CallsIn.mono hh.2 (fun e w'' he => by cases e <;> first | exact hK _ _ he | exact hQ _ _ _ he | exact hL he)⟩
        | exact ⟨hh.1, RowsIn.mono hh.2 (fun _ _ he => hK _ _ he)⟩
        | exact ⟨hh.1, RoundIn.mono hh.2 (fun e w'' he => by cases e <;> first | exact hK _ _ he | exact hQ _ _ _ he | exact hL he)⟩
  | halt x w' => cases x <;> simp only [Oper.uponIn] at hh ⊢ <;> first | exact hQ _ _ _ hh | exact hh
theorem tail_run (hT : TailF ops k) {Q : Exit → Act → World → Prop} : ∀ (d m : Nat) (l : Array Bool) (a : Act) (w : World), m + d = ops.size → k ≤ m → l.size = ops.size → (∀ i, i < m → l.getD i false = true) → (∀ i, m ≤ i → l.getD i false = false) →
    wpListIn F n P ops Q (ops.toList.drop m) a w → wpAnyIn F n P .any ops Q d l a w
  | 0, m, l, a, w, hd, hk, hs, h1, h2, h => by
    have hm : m = ops.size := by omega
    rw [hm, ← Array.length_toList, List.drop_length] at h
    refine ⟨?_, h⟩
    unfold Region.ready
    rw [List.filter_eq_nil_iff]
    intro i hi
    have hil : i < ops.size := List.mem_range.1 hi
    have := h1 i (by omega)
    have : l.getD i true = true := by
      simp only [Array.getD_eq_getD_getElem?, Array.getElem?_eq_getElem (show i < l.size by omega), Option.getD_some] at this ⊢
      exact this
    simp [this]
  | d + 1, m, l, a, w, hd, hk, hs, h1, h2, h => by
    have hml : m < ops.size := by omega
    have hom : ops[m]? = some ops[m] := Array.getElem?_eq_getElem hml
    obtain ⟨hg, hw⟩ := hT.wait m _ hk hom
    have hrm : m ∈ Region.ready .any ops l := by
      rw [mem_ready]
      refine ⟨?_, _, hom, fun e he hb => h1 _ (hT.back m _ hom e he hb)⟩
      have := h2 m (Nat.le_refl _)
      simp only [Array.getD_eq_getD_getElem?, Array.getElem?_eq_getElem (show m < l.size by omega), Option.getD_some] at this ⊢
      exact this
    refine ⟨fun hr => (by rw [hr] at hrm; cases hrm), fun i hi => ?_⟩
    have him : i = m := by
      obtain ⟨hli, o, ho, ha⟩ := mem_ready.1 hi
      have hil : i < ops.size := (Array.getElem?_eq_some_iff.1 ho).1
      rcases Nat.lt_trichotomy i m with hlt | rfl | hgt
      · have := h1 i hlt
        simp only [Array.getD_eq_getD_getElem?, Array.getElem?_eq_getElem (show i < l.size by omega), Option.getD_some] at this hli
        rw [this] at hli; cases hli
      · rfl
      · obtain ⟨e, he, hb, heo⟩ := (hT.wait i o (by omega) ho).2 m hgt
        have := ha e he hb
        rw [heo, h2 m (Nat.le_refl _)] at this
        cases this
    subst him
    have hdrop : ops.toList.drop i = ops[i] :: ops.toList.drop (i + 1) := by
      rw [List.drop_eq_getElem_cons (by simpa using hml)]; simp
    rw [hdrop] at h
    unfold wpListIn at h
    unfold wpOpIn
    rw [hom]
    simp only
    have hwn : Region.wanted ops[i] (yielded ops a.tmps) = true := by simp [Region.wanted, hg]
    rw [if_pos hwn] at h ⊢
    refine wpIn_swap (fun a' w' h' => ?_) (fun _ _ _ h => h) (fun h => h) h
    refine tail_run hT d (i + 1) _ a' w' (by omega) (by omega) (by simpa using hs) (fun j hj => ?_) (fun j hj => ?_) h'
    · by_cases e : j = i
      · subst e; simp [show j < l.size by omega]
      · have := h1 j (by omega)
        simpa [Array.getElem?_setIfInBounds_ne (Ne.symm e)] using this
    · have := h2 j (by omega)
      simpa [Array.getElem?_setIfInBounds_ne (show i ≠ j by omega)] using this
theorem any_tail (hT : TailF ops k) {Q Q' : Exit → Act → World → Prop} (hN : ∀ a w, Q' .normal a w → wpListIn F n P ops Q (ops.toList.drop k) a w) (hQ : ∀ c a w, Q' (.panic c) a w → Q (.panic c) a w) (hL : LetsOut Q' → LetsOut Q) :
    ∀ (fuel : Nat) (lb l : Array Bool) (a : Act) (w : World), lb.size = k → l.size = ops.size → (∀ i, i < k → l.getD i false = lb.getD i false) → (∀ i, k ≤ i → l.getD i false = false) → k = fuel + (lb.toList.filter id).length →
      wpAnyIn F n P .any (ops.toList.take k).toArray Q' fuel lb a w → wpAnyIn F n P .any ops Q (fuel + (ops.size - k)) l a w := by
  have hle := hT.le
  have hbody : ∀ i, i < k → (ops.toList.take k).toArray[i]? = ops[i]? := fun i hi => by
    rw [List.getElem?_toArray, List.getElem?_take_of_lt hi, Array.getElem?_toList]
  intro fuel
  induction fuel with
  | zero =>
    intro lb l a w hb hs h1 h2 hc h
    have hall : ∀ i, i < k → lb.getD i false = true := by
      intro i hi
      have hx : ∀ x ∈ lb.toList, x = true := by
        have h3 : (lb.toList.filter id).length = lb.toList.length := by simp only [Array.length_toList]; omega
        intro x hx
        simpa using List.length_filter_eq_length_iff.1 h3 x hx
      simp only [Array.getD_eq_getD_getElem?, Array.getElem?_eq_getElem (show i < lb.size by omega), Option.getD_some]
      exact hx _ (by simp)
    rw [Nat.zero_add]
    exact tail_run hT _ k l a w (by omega) (Nat.le_refl _) hs (fun i hi => by rw [h1 i hi]; exact hall i hi) h2 (hN a w h.2)
  | succ fuel ih =>
    intro lb l a w hb hs h1 h2 hc h
    obtain ⟨_, h⟩ := h
    have hex : ∃ i, i < k ∧ lb.getD i false = false ∧ ∀ j, j < i → lb.getD j false = true := by
      have hex0 : ∃ i, i < k ∧ lb.getD i false = false := by
        refine Classical.byContradiction fun hn => ?_
        have hall : ∀ i, i < k → lb.getD i false = true := fun i hi => by
          cases hx : lb.getD i false with
          | true => rfl
          | false => exact absurd ⟨i, hi, hx⟩ hn
        have : (lb.toList.filter id).length = lb.toList.length := by
          rw [List.length_filter_eq_length_iff]
          intro x hx
          obtain ⟨i, hi, rfl⟩ := List.getElem_of_mem hx
          have := hall i (by simpa [hb] using hi)
          simp only [Array.length_toList] at hi
          simp only [Array.getD_eq_getD_getElem?, Array.getElem?_eq_getElem hi, Option.getD_some] at this
          simpa using this
        simp only [Array.length_toList] at this
        omega
      obtain ⟨i, hi⟩ := hex0
      induction i using Nat.strongRecOn with
      | ind i ihi =>
        by_cases hj : ∃ j, j < i ∧ lb.getD j false = false
        · obtain ⟨j, hj, hf⟩ := hj
          exact ihi j hj ⟨by omega, hf⟩
        · refine ⟨i, hi.1, hi.2, fun j hj' => ?_⟩
          cases hx : lb.getD j false with
          | true => rfl
          | false => exact absurd ⟨j, hj', hx⟩ hj
    obtain ⟨i0, hi0, hf0, hb0⟩ := hex
    rw [show fuel + 1 + (ops.size - k) = (fuel + (ops.size - k)) + 1 by omega]
    have getT : ∀ i, i < ops.size → (l.getD i true = false ↔ l.getD i false = false) := fun i hi => by
      simp only [Array.getD_eq_getD_getElem?, Array.getElem?_eq_getElem (show i < l.size by omega), Option.getD_some]
    have getTb : ∀ i, i < k → (lb.getD i true = false ↔ lb.getD i false = false) := fun i hi => by
      simp only [Array.getD_eq_getD_getElem?, Array.getElem?_eq_getElem (show i < lb.size by omega), Option.getD_some]
    refine ⟨fun hr => ?_, fun i hi => ?_⟩
    · exfalso
      have : i0 ∈ Region.ready .any ops l := by
        rw [mem_ready]
        have ho : ops[i0]? = some (ops[i0]'(by omega)) := Array.getElem?_eq_getElem (by omega)
        refine ⟨(getT i0 (by omega)).2 (by rw [h1 i0 hi0]; exact hf0), _, ho, fun e he hbe => ?_⟩
        have := hT.back i0 _ ho e he hbe
        rw [h1 _ (by omega)]
        exact hb0 _ this
      rw [hr] at this
      cases this
    · obtain ⟨hli, o, ho, ha⟩ := mem_ready.1 hi
      have hil : i < ops.size := (Array.getElem?_eq_some_iff.1 ho).1
      have hik : i < k := by
        rcases Nat.lt_or_ge i k with h | h
        · exact h
        · obtain ⟨e, he, hbe, heo⟩ := (hT.wait i o h ho).2 i0 (by omega)
          have := ha e he hbe
          rw [heo, h1 i0 hi0, hf0] at this
          cases this
      have hlb : lb.getD i false = false := by rw [← h1 i hik]; exact (getT i hil).1 hli
      have hmb : i ∈ Region.ready .any (ops.toList.take k).toArray lb := by
        rw [mem_ready]
        refine ⟨(getTb i hik).2 hlb, o, by rw [hbody i hik]; exact ho, fun e he hbe => ?_⟩
        have := hT.back i o ho e he hbe
        rw [← h1 _ (by omega)]
        exact ha e he hbe
      have hop := h i hmb
      unfold wpOpIn at hop ⊢
      rw [hbody i hik] at hop
      rw [ho] at hop ⊢
      simp only at hop ⊢
      have hwant : Region.wanted o (yielded (ops.toList.take k).toArray a.tmps) = Region.wanted o (yielded ops a.tmps) := by
        unfold Region.wanted
        cases hg : o.guard with
        | none => rfl
        | some jw =>
          obtain ⟨j, wt⟩ := jw
          have hj := hT.guard i o j wt ho hg
          simp only
          have : yielded (ops.toList.take k).toArray a.tmps j = yielded ops a.tmps j := by
            unfold yielded
            rw [hbody j (by omega)]
          rw [this]
      rw [hwant] at hop
      have next : ∀ a' w', wpAnyIn F n P .any (ops.toList.take k).toArray Q' fuel (lb.setIfInBounds i true) a' w' → wpAnyIn F n P .any ops Q (fuel + (ops.size - k)) (l.setIfInBounds i true) a' w' := by
        intro a' w' h'
        refine ih (lb.setIfInBounds i true) (l.setIfInBounds i true) a' w' (by simpa using hb) (by simpa using hs) (fun j hj => ?_) (fun j hj => ?_) ?_ h'
        · by_cases e : j = i
          · subst e; simp [show j < l.size by omega, show j < lb.size by omega]
          · have := h1 j hj
            simpa [Array.getElem?_setIfInBounds_ne (Ne.symm e)] using this
        · have := h2 j hj
          simpa [Array.getElem?_setIfInBounds_ne (show i ≠ j by omega)] using this
        · have hill : i < lb.size := by omega
          have h3 : ((lb.setIfInBounds i true).toList.filter id).length = (lb.toList.filter id).length + 1 := by
            rw [Array.toList_setIfInBounds]
            have hill' : i < lb.toList.length := by simpa using hill
            have hget : lb.toList[i] = false := by
              simp only [Array.getElem_toList]
              simpa [Array.getD_eq_getD_getElem?, Array.getElem?_eq_getElem hill] using hlb
            rw [List.set_eq_take_append_cons_drop, if_pos hill']
            conv => rhs; rw [← List.take_append_drop i lb.toList, List.drop_eq_getElem_cons hill', hget]
            simp [List.filter_append, List.filter_cons]
            omega
          omega
      split
      · rename_i hw
        rw [if_pos hw] at hop
        exact wpIn_swap next hQ hL hop
      · rename_i hw
        rw [if_neg hw] at hop
        exact ⟨hop.1, next _ _ hop.2⟩
end
end Go.Proofs.YtckmcglkjfkghaaDoor.Aw
