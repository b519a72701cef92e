import Derived.Test.YtckmcglkjfkghaaDoorAw6
import Derived.Laws.MakeOwn
namespace Go.Proofs.YtckmcglkjfkghaaDoor.Aw
open Go Go.RowKit
set_option linter.unusedVariables false
set_option linter.unusedSimpArgs false
def V.storable : V → Bool
  | .agg _ => true
  | v => v.one
theorem Rel.stored {K : Kw} {x : V} {u : Value} (h : Rel K x u) (hx : x.storable = true) :
    u.cells.size = x.cells.length ∧ ∀ j (h : j < x.cells.length) (h' : j < u.cells.size), Rel K x.cells[j] u.cells[j] ∧ u.cells[j].oneCell' = true := by
  by_cases hagg : ∃ l, x = .agg l
  · obtain ⟨l, rfl⟩ := hagg
    cases h with
    | agg l vs hl ho hj => exact ⟨hl, fun j h h' => ⟨hj j h, ho j h'⟩⟩
  · have h1 : x.one = true := by cases x <;> first | exact hx | exact absurd ⟨_, rfl⟩ hagg
    obtain ⟨ho, hc, hu⟩ := h.one h1
    rw [hc, hu]
    refine ⟨rfl, fun j hj hj' => ?_⟩
    have : j = 0 := by simpa using hj
    subst this
    exact ⟨h, ho⟩
def setSeg (cs : List V) (off : Nat) (new : List V) : List V := cs.take off ++ new ++ cs.drop (off + new.length)
def fillV (place : Nat → Option (Nat × Nat)) (cells : List V) : List (Nat × V) → Option (List V)
  | [] => some cells
  | (i, v) :: rest =>
    match place i with
    | none => none
    | some (off, size) => if v.storable = true ∧ v.cells.length = size ∧ off + size ≤ cells.length then fillV place (setSeg cells off v.cells) rest else none
theorem foldl_seg (off : Nat) : ∀ (vs : List Value) (k : Nat) (cs : Array Value), off + k + vs.length ≤ cs.size →
    ((vs.zipIdx k).foldl (fun cs p => cs.setIfInBounds (off + p.2) p.1) cs).toList = cs.toList.take (off + k) ++ vs ++ cs.toList.drop (off + k + vs.length)
  | [], k, cs, _ => by simp
  | v :: vs, k, cs, h => by
    simp only [List.length_cons] at h
    simp only [List.zipIdx_cons, List.foldl_cons]
    rw [foldl_seg off vs (k + 1) _ (by simp; omega)]
    simp only [Array.toList_setIfInBounds]
    have e1 : (cs.toList.set (off + k) v).take (off + (k + 1)) = cs.toList.take (off + k) ++ [v] := by
      rw [show off + (k + 1) = (off + k) + 1 by omega, List.take_succ_eq_append_getElem (by simp; omega), List.take_set]
      rw [List.set_eq_of_length_le (by simp; omega)]
      simp
    rw [e1, List.drop_set_of_lt (by omega)]
    simp only [List.length_cons, List.append_assoc, List.singleton_append, List.cons_append, List.nil_append]
    rw [show off + (k + 1) + vs.length = off + k + (vs.length + 1) by omega]
def RelL (K : Kw) (cs : List V) (us : List Value) : Prop := us.length = cs.length ∧ ∀ j (h : j < cs.length) (h' : j < us.length), Rel K cs[j] us[j] ∧ us[j].oneCell' = true
theorem RelL.seg {K : Kw} {cs new : List V} {us vs : List Value} {off : Nat} (h : RelL K cs us) (g : RelL K new vs) (hfit : off + new.length ≤ cs.length) :
    RelL K (setSeg cs off new) (us.take off ++ vs ++ us.drop (off + vs.length)) := by
  obtain ⟨h1, h2⟩ := h
  obtain ⟨g1, g2⟩ := g
  refine ⟨by simp [setSeg]; omega, fun j hj hj' => ?_⟩
  simp only [setSeg, List.length_append, List.length_take, List.length_drop] at hj
  simp only [setSeg, List.getElem_append, List.length_append, List.length_take, h1, g1, List.getElem_take, List.getElem_drop, Nat.min_eq_left (show off ≤ cs.length by omega)]
  by_cases c1 : j < off
  · simp only [c1, show j < off + new.length by omega, dite_true]
    exact h2 j (by omega) (by omega)
  · by_cases c2 : j < off + new.length
    · simp only [c1, c2, dite_true, dite_false]
      exact g2 (j - off) (by omega) (by omega)
    · simp only [c2, dite_false]
      exact h2 _ (by omega) (by omega)
theorem Rel.storedL {K : Kw} {x : V} {u : Value} (h : Rel K x u) (hx : x.storable = true) : RelL K x.cells u.cells.toList := by
  obtain ⟨h1, h2⟩ := h.stored hx
  exact ⟨by simpa using h1, fun j hj hj' => by simpa using h2 j hj (by simpa using hj')⟩
theorem fill_sound {K : Kw} {place : Nat → Option (Nat × Nat)} : ∀ (parts : List (Nat × V)) (us : List (Nat × Value)) (cells out : List V) (cs : Array Value), fillV place cells parts = some out → RelL K cells cs.toList →
    parts.map (·.1) = us.map (·.1) → (∀ j (h : j < parts.length) (h' : j < us.length), Rel K parts[j].2 us[j].2) → ∃ cs', Instr.fill place cs us = some cs' ∧ RelL K out cs'.toList
  | [], us, cells, out, cs, h, hr, he, _ => by
    have : us = [] := by cases us with | nil => rfl | cons _ _ => simp at he
    subst this
    simp only [fillV, Option.some.injEq] at h
    subst h
    exact ⟨cs, rfl, hr⟩
  | (i, v) :: rest, us, cells, out, cs, h, hr, he, hp => by
    cases us with
    | nil => simp at he
    | cons p us =>
      obtain ⟨i', u⟩ := p
      simp only [List.map_cons, List.cons.injEq] at he
      obtain ⟨rfl, he⟩ := he
      have h0 := hp 0 (by simp) (by simp)
      simp only [List.getElem_cons_zero] at h0
      unfold fillV at h
      unfold Instr.fill
      split at h
      · cases h
      · rename_i off size hpl
        simp only [Option.ite_none_right_eq_some] at h
        obtain ⟨⟨hst, hsz, hfit⟩, h⟩ := h
        have hL := h0.storedL hst
        have hus : u.cells.size = size := by have := hL.1; simp at this; omega
        have hcs : cs.size = cells.length := by have := hr.1; simpa using this
        simp only [hpl, hus, ne_eq, not_true_eq_false, false_or, gt_iff_lt, show ¬ cs.size < off + size by omega, if_false]
        have hfold : (u.cells.zipIdx.foldl (fun cs x => cs.setIfInBounds (off + x.2) x.1) cs).toList = cs.toList.take off ++ u.cells.toList ++ cs.toList.drop (off + u.cells.toList.length) := by
          have := foldl_seg off u.cells.toList 0 cs (by simp; omega)
          simp only [Nat.add_zero] at this
          rw [← this, ← Array.foldl_toList]
          simp
        refine fill_sound rest us _ out _ h ?_ he fun j hj hj' => by have := hp (j + 1) (by simp; omega) (by simp; omega); exact this
        rw [hfold]
        exact hr.seg hL (by omega)
def placeV (τ : Tys) (fs : List (Nat × TypeId)) (i : Nat) : Option (Nat × Nat) := match fs[i]? with | some (off, t) => some (off, sizeV τ t) | none => none
def cellsV (v : Value) : List V := (V.ofV v).cells
def zeroOk (i : TyI) : Bool := i.zero.cells.all (·.oneCell') && (i.zero.cells.size == i.size) && ((V.ofV i.zero).cells.length == i.size) && (V.ofV i.zero).storable
theorem zeroOk_rel {i : TyI} (h : zeroOk i = true) (K : Kw) : RelL K (V.ofV i.zero).cells i.zero.cells.toList ∧ i.zero.cells.size = i.size ∧ (V.ofV i.zero).cells.length = i.size := by
  simp only [zeroOk, Bool.and_eq_true, beq_iff_eq] at h
  obtain ⟨⟨⟨h1, h2⟩, h3⟩, h4⟩ := h
  exact ⟨(ofV_rel K i.zero).storedL h4, h2, h3⟩
def evBuild (τ : Tys) (t : TypeId) (parts : List (Nat × V)) : Option (Prop × V) :=
  match τ t with
  | some i =>
    if zeroOk i = true ∧ i.zero.oneCell' = false then
      match i.kind with
      | .struct fs => if fs.all (fun f => (τ f.2).isSome) then (fillV (placeV τ fs) (V.ofV i.zero).cells parts).map fun cs => (True, .agg cs) else none
      | .array _ e => if (τ e).isSome then (fillV (fun j => some (j * sizeV τ e, sizeV τ e)) (V.ofV i.zero).cells parts).map fun cs => (True, .agg cs) else none
      | _ => none
    else none
  | none => none
theorem relL_agg {K : Kw} {cs : List V} {us : Array Value} (h : RelL K cs us.toList) : Rel K (.agg cs) (.agg us) := by
  obtain ⟨h1, h2⟩ := h
  have h1' : us.size = cs.length := by simpa using h1
  exact .agg cs us h1' (fun j hj => by have := (h2 j (by omega) (by simpa using hj)).2; rw [Array.getElem_toList] at this; exact this) fun j hj => by have := (h2 j hj (by simp; omega)).1; rw [Array.getElem_toList] at this; exact this
theorem mapM_places {P : Program} {τ : Tys} (hτ : TyOk P τ) {w : World} : ∀ (fl : List Field), (fl.all fun f => (τ f.type).isSome) = true →
    (fl.mapM fun f => do pure (f.offset, ← sizeOf f.type) : Sem (List (Nat × Nat))).run P w = .ok (fl.map fun f => (f.offset, sizeV τ f.type)) w
  | [], _ => rfl
  | f :: fl, h => by
    simp only [List.all_cons, Bool.and_eq_true] at h
    obtain ⟨i, hi⟩ := Option.isSome_iff_exists.1 h.1
    have ih := mapM_places hτ (w := w) fl h.2
    have hs : sizeV τ f.type = i.size := by simp [sizeV, hi]
    rw [List.mapM_cons]
    simp only [Sem.run_bind, hτ.run_sizeOf hi, Result.andThen_ok, Sem.run_pure, ih, List.map_cons, hs]
theorem build_sound {P : Program} {τ : Tys} {K : Kw} (hτ : TyOk P τ) {t : TypeId} {parts : List (Nat × V)} {us : Array (Nat × Value)} {p : Prop} {v : V} (h : evBuild τ t parts = some (p, v))
    (he : parts.map (·.1) = us.toList.map (·.1)) (hp : ∀ j (h : j < parts.length) (h' : j < us.toList.length), Rel K parts[j].2 us.toList[j].2) :
    ∃ u, (Instr.build t us).run P K.w = .ok u K.w ∧ Rel K v u := by
  unfold evBuild at h
  split at h
  · rename_i i hi
    simp only [Option.ite_none_right_eq_some] at h
    obtain ⟨⟨hz, hagg⟩, h⟩ := h
    obtain ⟨hzr, _, _⟩ := zeroOk_rel hz K
    split at h
    · rename_i fs hk
      obtain ⟨fl, hu, hfl⟩ := hτ.struct hi hk
      subst hfl
      simp only [Option.ite_none_right_eq_some, Option.map_eq_some_iff, Prod.mk.injEq] at h
      obtain ⟨hall, cs, hcs, _, rfl⟩ := h
      have hall' : (fl.toList.all fun f => (τ f.type).isSome) = true := by simpa [List.all_map] using hall
      have hpl : (fl.mapM fun f => do pure (f.offset, ← sizeOf f.type) : Sem (Array (Nat × Nat))).run P K.w = .ok (fl.map fun f => (f.offset, sizeV τ f.type)) K.w := by
        have hm := mapM_places (P := P) hτ (w := K.w) fl.toList hall'
        rw [Array.mapM_eq_mapM_toList]
        simp only [Sem.run_map, hm, Result.andThen_ok]
        congr 1
        apply Array.ext'
        simp
      have hplace : ((fl.map fun f => (f.offset, sizeV τ f.type))[·]?) = placeV τ (fl.toList.map fun f => (f.offset, f.type)) := by
        funext j
        simp only [placeV, List.getElem?_map, Array.getElem?_toList, Array.getElem?_map]
        cases fl[j]? <;> rfl
      obtain ⟨cs', hfill, hr⟩ := fill_sound parts us.toList _ cs i.zero.cells hcs hzr he hp
      rw [← hplace] at hfill
      exact ⟨.agg cs', by simp only [Instr.build, Sem.run_bind, hτ.run_zero hi, Result.andThen_ok, run_underlying hu, hpl, hfill, Sem.run_pure], relL_agg hr⟩
    · rename_i n e hk
      have hu := hτ.array hi hk
      simp only [Option.ite_none_right_eq_some, Option.map_eq_some_iff, Prod.mk.injEq] at h
      obtain ⟨he', cs, hcs, _, rfl⟩ := h
      obtain ⟨ie, hie⟩ := Option.isSome_iff_exists.1 he'
      have hs : sizeV τ e = ie.size := by simp [sizeV, hie]
      obtain ⟨cs', hfill, hr⟩ := fill_sound parts us.toList _ cs i.zero.cells hcs hzr he hp
      rw [hs] at hfill
      exact ⟨.agg cs', by simp [Instr.build, hτ.run_zero hi, run_underlying hu, hτ.run_sizeOf hie, hfill], relL_agg hr⟩
    · cases h
  · cases h
end Go.Proofs.YtckmcglkjfkghaaDoor.Aw
