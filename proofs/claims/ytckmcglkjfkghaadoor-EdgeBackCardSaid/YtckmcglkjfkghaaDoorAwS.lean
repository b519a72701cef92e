import Derived.Test.YtckmcglkjfkghaaDoorAw15
namespace Go.Proofs.YtckmcglkjfkghaaDoor.Aw
open Go Go.RowKit
set_option linter.unusedVariables false
set_option linter.unusedSimpArgs false
abbrev LL := List (List V)
abbrev TT := List (Nat × TypeId)
structure Step (S R : Nat → Prop) (L : LL) (T : TT) (S' R' : Nat → Prop) (L' : LL) (T' : TT) : Prop where
  len : L.length ≤ L'.length
  keep : ∀ i, i < L.length → ¬ S i → L'[i]? = L[i]?
  own : ∀ i, S' i → S i ∨ L.length ≤ i
  tlen : T.length ≤ T'.length
  tkeep : ∀ k, k < T.length → ¬ R k → T'[k]? = T[k]?
  town : ∀ k, R' k → R k ∨ T.length ≤ k
section
variable {S R S' R' S2 R2 : Nat → Prop} {L L' L2 : LL} {T T' T2 : TT}
theorem Step.refl (S R : Nat → Prop) (L : LL) (T : TT) : Step S R L T S R L T := ⟨Nat.le_refl _, fun _ _ _ => rfl, fun _ h => .inl h, Nat.le_refl _, fun _ _ _ => rfl, fun _ h => .inl h⟩
theorem Step.trans (h : Step S R L T S' R' L' T') (g : Step S' R' L' T' S2 R2 L2 T2) : Step S R L T S2 R2 L2 T2 := by
  refine ⟨Nat.le_trans h.len g.len, fun i hi hs => ?_, fun i hs => ?_, Nat.le_trans h.tlen g.tlen, fun k hk hr => ?_, fun k hr => ?_⟩
  · rw [g.keep i (by have := h.len; omega) (fun h' => (h.own i h').elim hs fun h2 => by omega), h.keep i hi hs]
  · rcases g.own i hs with h1 | h1
    · exact h.own i h1
    · exact .inr (Nat.le_trans h.len h1)
  · rw [g.tkeep k (by have := h.tlen; omega) (fun h' => (h.town k h').elim hr fun h2 => by omega), h.tkeep k hk hr]
  · rcases g.town k hr with h1 | h1
    · exact h.town k h1
    · exact .inr (Nat.le_trans h.tlen h1)
theorem Step.set (h : Step S R L T S' R' L' T') {o : Nat} (ho : S o ∨ L.length ≤ o) (x : List V) : Step S R L T S' R' (L'.set o x) T' := by
  refine ⟨by rw [List.length_set]; exact h.len, fun i hi hs => ?_, h.own, h.tlen, h.tkeep, h.town⟩
  have hne : o ≠ i := fun e => by
    subst e
    rcases ho with h | h
    · exact hs h
    · omega
  rw [List.getElem?_set_ne hne]
  exact h.keep i hi hs
theorem Step.app (h : Step S R L T S' R' L' T') (X : LL) : Step S R L T S' R' (L' ++ X) T' := by
  refine ⟨by rw [List.length_append]; have := h.len; omega, fun i hi hs => ?_, h.own, h.tlen, h.tkeep, h.town⟩
  rw [List.getElem?_append_left (by have := h.len; omega)]
  exact h.keep i hi hs
theorem Step.via {S0 R0 S0' R0' : Nat → Prop} (h : Step S R L T S' R' L' T') (g : Step S0 R0 L' T' S0' R0' L2 T2) (hS : ∀ i, S0 i → S i ∨ L.length ≤ i) (hR : ∀ k, R0 k → R k ∨ T.length ≤ k) : Step S R L T S' R' L2 T2 := by
  refine ⟨Nat.le_trans h.len g.len, fun i hi hs => ?_, h.own, Nat.le_trans h.tlen g.tlen, fun k hk hr => ?_, h.town⟩
  · rw [g.keep i (by have := h.len; omega) (fun h' => (hS i h').elim hs fun h2 => by omega), h.keep i hi hs]
  · rw [g.tkeep k (by have := h.tlen; omega) (fun h' => (hR k h').elim hr fun h2 => by omega), h.tkeep k hk hr]
theorem Step.less (h : Step S R L T S' R' L' T') (hS : ∀ i, S2 i → S' i ∨ L.length ≤ i) (hR : ∀ k, R2 k → R' k ∨ T.length ≤ k) : Step S R L T S2 R2 L' T' :=
  ⟨h.len, h.keep, fun i hi => (hS i hi).elim (h.own i) .inr, h.tlen, h.tkeep, fun k hk => (hR k hk).elim (h.town k) .inr⟩
theorem Step.tset (h : Step S R L T S' R' L' T') {k : Nat} (hk : R k ∨ T.length ≤ k) (x : Nat × TypeId) : Step S R L T S' R' L' (T'.set k x) := by
  refine ⟨h.len, h.keep, h.own, by rw [List.length_set]; exact h.tlen, fun i hi hs => ?_, h.town⟩
  have hne : k ≠ i := fun e => by
    subst e
    rcases hk with h | h
    · exact hs h
    · omega
  rw [List.getElem?_set_ne hne]
  exact h.tkeep i hi hs
theorem Step.tapp (h : Step S R L T S' R' L' T') (X : TT) : Step S R L T S' R' L' (T' ++ X) := by
  refine ⟨h.len, h.keep, h.own, by rw [List.length_append]; have := h.tlen; omega, fun i hi hs => ?_, h.town⟩
  rw [List.getElem?_append_left (by have := h.tlen; omega)]
  exact h.tkeep i hi hs
end
theorem at_app {l : LL} {o : Nat} (h : o < l.length) (X : LL) : (l ++ X)[o]? = l[o]? := List.getElem?_append_left h
theorem at_new {l : LL} {o : Nat} (h : o = l.length) (x : List V) : (l ++ [x])[o]? = some x := by subst h; simp
theorem at_set {l : LL} {o : Nat} (h : o < l.length) (x : List V) : (l.set o x)[o]? = some x := List.getElem?_set_self h
theorem at_other {l : LL} {o i : Nat} (h : o ≠ i) (x : List V) : (l.set o x)[i]? = l[i]? := List.getElem?_set_ne h
theorem set_app {l : LL} {o : Nat} (h : o < l.length) (x : List V) (X : LL) : (l ++ X).set o x = l.set o x ++ X := List.set_append_left _ _ h
theorem set_new {l : LL} {o : Nat} (h : o = l.length) (x y : List V) : (l ++ [y]).set o x = l ++ [x] := by subst h; rw [List.set_append_right _ _ (Nat.le_refl _)]; simp
theorem set_set (l : LL) (o : Nat) (x y : List V) : (l.set o x).set o y = l.set o y := List.set_set ..
theorem lt_at {l : LL} {o : Nat} {x : List V} (h : l[o]? = some x) : o < l.length := (List.getElem?_eq_some_iff.1 h).1
theorem tat_app {l : TT} {o : Nat} (h : o < l.length) (X : TT) : (l ++ X)[o]? = l[o]? := List.getElem?_append_left h
theorem tat_new {l : TT} {o : Nat} (h : o = l.length) (x : Nat × TypeId) : (l ++ [x])[o]? = some x := by subst h; simp
theorem tlt_at {l : TT} {o : Nat} {x : Nat × TypeId} (h : l[o]? = some x) : o < l.length := (List.getElem?_eq_some_iff.1 h).1
theorem lt_app {l : LL} {o : Nat} (h : o < l.length) (X : LL) : (o < (l ++ X).length) = True := eq_true (by rw [List.length_append]; omega)
theorem lt_new {l : LL} {o : Nat} (h : o = l.length) (x : List V) : (o < (l ++ [x]).length) = True := eq_true (by subst h; simp)
theorem lt_set {l : LL} {o i : Nat} (x : List V) : (o < (l.set i x).length) = (o < l.length) := by rw [List.length_set]
theorem len_set {l : LL} {i : Nat} (x : List V) : (l.set i x).length = l.length := List.length_set
theorem tlen_set {l : TT} {i : Nat} (x : Nat × TypeId) : (l.set i x).length = l.length := List.length_set
theorem lt_ne {l : LL} {o : Nat} (h : o < l.length) : (o = l.length) = False := eq_false (by omega)
theorem lt_ne' {l : LL} {o : Nat} (h : o < l.length) : (l.length = o) = False := eq_false (by omega)
theorem ia_any : (V.any).isAgg = false := (rfl)
theorem ia_undef : (V.undef).isAgg = false := (rfl)
theorem ia_int (x0 : IntKind) (x1 : Int) : (V.int x0 x1).isAgg = false := (rfl)
theorem ia_bool (x0 : Bool) : (V.bool x0).isAgg = false := (rfl)
theorem ia_may (x0 : Prop) (x1 : Prop) : (V.may x0 x1).isAgg = false := (rfl)
theorem ia_str (x0 : List UInt8) : (V.str x0).isAgg = false := (rfl)
theorem ia_raw (x0 : Value) : (V.raw x0).isAgg = false := (rfl)
theorem ia_nils : (V.nils).isAgg = false := (rfl)
theorem ia_zero : (V.zero).isAgg = false := (rfl)
theorem ia_bytes (x0 : List UInt8) (x1 : Option Nat) : (V.bytes x0 x1).isAgg = false := (rfl)
theorem ia_list (x0 : Nat) (x1 : List V) (x2 : Option Nat) : (V.list x0 x1 x2).isAgg = false := (rfl)
theorem ia_tuple (x0 : List V) : (V.tuple x0).isAgg = false := (rfl)
theorem ia_box (x0 : Nat) (x1 : Nat) : (V.box x0 x1).isAgg = false := (rfl)
theorem ia_mrow (x0 : TypeId) (x1 : Nat) (x2 : Nat) (x3 : Nat) : (V.mrow x0 x1 x2 x3).isAgg = false := (rfl)
theorem ia_ref (x0 : V) : (V.ref x0).isAgg = false := (rfl)
theorem ia_fn (x0 : Fn) (x1 : List V) (x2 : List V) : (V.fn x0 x1 x2).isAgg = false := (rfl)
theorem ia_vrow (x0 : TypeId) (x1 : Nat) (x2 : Nat) (x3 : Nat) : (V.vrow x0 x1 x2 x3).isAgg = false := (rfl)
theorem ia_mref (x0 : Nat) : (V.mref x0).isAgg = false := (rfl)
theorem ia_iter (x0 : Nat) : (V.iter x0).isAgg = false := (rfl)
theorem ia_agg (l : List V) : (V.agg l).isAgg = true := (rfl)
theorem empty_data : ByteArray.empty.data.toList = [] := (rfl)
theorem St.le_self (st : St) : St.le st st := by
  refine ⟨(leL_self _).symm ▸ trivial, ?_, List.take_length, .inl ⟨rfl, rfl⟩⟩
  generalize st.L = l
  induction l with
  | nil => trivial
  | cons x l ih => exact ⟨(leL_self _).symm ▸ trivial, ih⟩
theorem ret_of {S R S' R' : Nat → Prop} {L L1 : LL} {T T1 : TT} {v0 : V} {Φ : V → LL → TT → Prop} (h : Step S R L T S' R' L1 T1) (g : Φ v0 L1 T1) :
    ∃ v r L' T', v0 = v ∧ (L.length ≤ L'.length ∧ T.length ≤ T'.length) ∧ St.le ⟨[v], L1, T1⟩ ⟨[r], L', T'⟩ ∧ Φ r L' T' :=
  ⟨v0, v0, L1, T1, rfl, ⟨h.len, h.tlen⟩, St.le_self _, g⟩
theorem ret_le {S R S' R' : Nat → Prop} {L L1 : LL} {T T1 : TT} {v0 r : V} {Φ : V → LL → TT → Prop} (h : Step S R L T S' R' L1 T1) (g : Φ r L1 T1) (hv : V.le v0 r) :
    ∃ v r L' T', v0 = v ∧ (L.length ≤ L'.length ∧ T.length ≤ T'.length) ∧ St.le ⟨[v], L1, T1⟩ ⟨[r], L', T'⟩ ∧ Φ r L' T' :=
  ⟨v0, r, L1, T1, rfl, ⟨h.len, h.tlen⟩, ⟨⟨hv, trivial⟩, (St.le_self ⟨[], L1, T1⟩).2.1, (St.le_self ⟨[], L1, T1⟩).2.2.1, .inl ⟨rfl, rfl⟩⟩, g⟩
theorem mfind_none {l : List (MKey × Nat × V)} {k : MKey} : mfind l k = none ↔ k ∉ l.map (·.1) := by
  induction l with
  | nil => simp [mfind]
  | cons e r ih =>
    unfold mfind
    by_cases he : e.1 = k
    · simp [he]
    · simp only [he, decide_false, cond_false, ih, List.map_cons, List.mem_cons, not_or]
      exact ⟨fun h => ⟨fun e' => he e'.symm, h⟩, fun h => h.2⟩
theorem mset_keys' (l : List (MKey × Nat × V)) (k : MKey) (v : V) : (mset l k v).map (·.1) = l.map (·.1) := by
  induction l with
  | nil => rfl
  | cons e r ih =>
    unfold mset
    cases decide (e.1 = k)
    · simp [ih]
    · simp
theorem mfind_set {l : List (MKey × Nat × V)} {k : MKey} {v : V} (h : (mfind l k).isSome) (k' : MKey) : mfind (mset l k v) k' = if k' = k then some v else mfind l k' := by
  induction l with
  | nil => cases h
  | cons e r ih =>
    unfold mset
    by_cases he : e.1 = k
    · simp only [he, decide_true, cond_true, mfind]
      by_cases hk : k = k'
      · simp [hk]
      · simp only [hk, decide_false, cond_false]
        rw [if_neg (fun h => hk h.symm)]
    · have h' : (mfind r k).isSome := by simpa [mfind, he] using h
      simp only [he, decide_false, cond_false, mfind]
      by_cases hk : e.1 = k'
      · simp only [hk, decide_true, cond_true]
        rw [if_neg (fun h => he (by rw [hk, h]))]
      · simp only [hk, decide_false, cond_false]
        exact ih h'
theorem mfind_app {l : List (MKey × Nat × V)} {k : MKey} {c : Nat} {v : V} (h : mfind l k = none) (k' : MKey) : mfind (l ++ [(k, c, v)]) k' = if k' = k then some v else mfind l k' := by
  induction l with
  | nil =>
    simp only [List.nil_append, mfind]
    by_cases hk : k = k'
    · simp [hk]
    · simp only [hk, decide_false, cond_false]
      rw [if_neg (fun h => hk h.symm)]
  | cons e r ih =>
    have he : e.1 ≠ k := fun e1 => by simp [mfind, e1] at h
    have h' : mfind r k = none := by simpa [mfind, he] using h
    simp only [List.cons_append, mfind]
    by_cases hk : e.1 = k'
    · simp only [hk, decide_true, cond_true]
      rw [if_neg (fun h => he (by rw [hk, h]))]
    · simp only [hk, decide_false, cond_false]
      exact ih h'
theorem mfind_put (ck : Nat) (l : List (MKey × Nat × V)) (k : MKey) (v : V) (k' : MKey) : mfind (mput ck l k v) k' = if k' = k then some v else mfind l k' := by
  unfold mput
  cases h : mfind l k with
  | none => simp only [Option.isSome_none, cond_false]; exact mfind_app h k'
  | some x => simp only [Option.isSome_some, cond_true]; exact mfind_set (by rw [h]; rfl) k'
theorem mput_nodup {ck : Nat} {l : List (MKey × Nat × V)} {k : MKey} {v : V} (hn : (l.map (·.1)).Nodup) : ((mput ck l k v).map (·.1)).Nodup := by
  unfold mput
  cases h : mfind l k with
  | none =>
    simp only [Option.isSome_none, cond_false, List.map_append, List.map_cons, List.map_nil]
    refine List.nodup_append.2 ⟨hn, by simp, fun a ha b hb e => ?_⟩
    simp only [List.mem_singleton] at hb
    subst hb e
    exact mfind_none.1 h ha
  | some x => simp only [Option.isSome_some, cond_true, mset_keys']; exact hn
theorem mput_keys {ck : Nat} {l : List (MKey × Nat × V)} {k : MKey} {v : V} {x : MKey} (h : x ∈ (mput ck l k v).map (·.1)) : x = k ∨ x ∈ l.map (·.1) := by
  unfold mput at h
  cases hf : mfind l k with
  | none =>
    rw [hf] at h
    simp only [Option.isSome_none, cond_false, List.map_append, List.map_cons, List.map_nil, List.mem_append, List.mem_singleton] at h
    exact h.symm
  | some y =>
    rw [hf] at h
    simp only [Option.isSome_some, cond_true, mset_keys'] at h
    exact .inr h
theorem mfind_del {l : List (MKey × Nat × V)} (hn : (l.map (·.1)).Nodup) (k k' : MKey) : mfind (mdel l k) k' = if k' = k then none else mfind l k' := by
  induction l with
  | nil => simp [mdel, mfind]
  | cons e r ih =>
    simp only [List.map_cons, List.nodup_cons] at hn
    unfold mdel
    by_cases he : e.1 = k
    · simp only [he, decide_true, cond_true]
      have hr : mfind r k = none := mfind_none.2 (by rw [← he]; exact hn.1)
      by_cases hk : k' = k
      · simp [hk, hr]
      · rw [if_neg hk]
        simp only [mfind, he]
        rw [show decide (k = k') = false by simpa using fun h => hk h.symm, cond_false]
    · simp only [he, decide_false, cond_false, mfind]
      by_cases hk : e.1 = k'
      · simp only [hk, decide_true, cond_true]
        rw [if_neg (fun h => he (by rw [hk, h]))]
      · simp only [hk, decide_false, cond_false]
        exact ih hn.2
end Go.Proofs.YtckmcglkjfkghaaDoor.Aw
