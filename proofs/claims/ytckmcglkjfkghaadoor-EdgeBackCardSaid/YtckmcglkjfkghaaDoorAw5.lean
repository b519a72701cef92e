import Derived.Test.YtckmcglkjfkghaaDoorAw4
import Derived.Test.YtckmcglkjfkghaaDoorAwT
import Derived.Maps.RangeRun
namespace Go.Proofs.YtckmcglkjfkghaaDoor.Aw
open Go Go.RowKit
set_option linter.unusedVariables false
set_option linter.unusedSimpArgs false
def ownB : Value → Option Nat
  | .slice (some a) _ c => if c = 0 then none else some a.block
  | _ => none
theorem ownB_pos {a : Addr} {n c : Nat} (h : 0 < c) : ownB (.slice (some a) n c) = some a.block := by
  have : ¬ c = 0 := by omega
  simp [ownB, this]
theorem ownB_zero {A : Option Addr} : ownB (.slice A 0 0) = none := by cases A <;> rfl
def TokAt (P : Program) (B : Nat) (K : Kw) (v : Value) (n : Nat) (e : TypeId) : Prop :=
  ((∃ A, v = .slice A 0 0) ∧ (n = 0 ∨ maxLen < n)) ∨ ∃ g cap cur i, v = .slice (some ⟨g, 0, none⟩) n cap ∧ 0 < cap ∧ B ≤ g ∧ K.w.heap[g]? = some (.cells cur e (0, 0)) ∧ P.info? e = some i ∧ n ≤ cap ∧ cap ≤ maxLen ∧
    (0 < i.size ∧ cap * i.size ≤ cur.size) ∧ ∀ o, n * i.size ≤ o → ¬ K.prot g o
structure Mem (P : Program) (B : World) (p0 : Bs) (K : Kw) (L : List (List V)) (T : List (Nat × TypeId)) : Prop where
  below : Below B.heap.size B K.w
  old : ∀ b o, b < B.heap.size → (K.prot b o ↔ p0.p b o)
  there : ∀ b o, K.prot b o → b < K.w.heap.size
  boxes : BoxesOk K L
  boxGe : ∀ b, some b ∈ K.boxes → B.heap.size ≤ b
  boxFree : ∀ (o b : Nat) cs, K.boxes[o]? = some (some b) → L[o]? = some cs → cs ≠ [] → ∀ o', ¬ K.prot b o'
  boxNd : ∀ (o o' b : Nat), K.boxes[o]? = some (some b) → K.boxes[o']? = some (some b) → o = o'
  toks : K.toks.map (·.2) = T
  tokAt : ∀ (k : Nat) v n e, K.toks[k]? = some (v, n, e) → TokAt P B.heap.size K v n e
  tokNe : ∀ (k k' : Nat) t t' b, K.toks[k]? = some t → K.toks[k']? = some t' → ownB t.1 = some b → ownB t'.1 = some b → k = k'
  tokBox : ∀ (k : Nat) t b, K.toks[k]? = some t → ownB t.1 = some b → some b ∉ K.boxes
  keeps : Keeps p0.nb p0.nt p0.k0 K
  tabs : Tabs P B
section
variable {P : Program} {τ : Tys} {B : World} {p0 : Bs} {K : Kw} {L : List (List V)} {T : List (Nat × TypeId)}
theorem shape_of_heap {w w' : World} {b : Nat} (h : w'.heap[b]? = w.heap[b]?) : w'.shp b = w.shp b := by unfold World.shp; rw [h]
theorem shape_lt {w : World} {b : Nat} {s : Option TypeId × Nat} (h : w.shp b = some s) : b < w.heap.size := by
  unfold World.shp at h
  split at h <;> first | (rename_i h1; exact (Array.getElem?_eq_some_iff.1 h1).1) | cases h
theorem shape_cells {w : World} {b : Nat} {c : Array Value} {e : TypeId} {f : Nat × Nat} (h : w.heap[b]? = some (.cells c e f)) : w.shp b = some (some e, c.size) := by unfold World.shp; rw [h]
theorem alloc_old (w : World) (o : Obj) (i : Nat) (h : i < w.heap.size) : (w.alloc o).heap[i]? = w.heap[i]? := by
  show (w.heap.push o)[i]? = _
  rw [Array.getElem?_push, if_neg (by omega)]
theorem shape_setRow {w : World} {g : Nat} {cur new : Array Value} {ty : TypeId} {f : Nat × Nat} (hh : w.heap[g]? = some (.cells cur ty f)) (hs : new.size = cur.size) (b : Nat) (s : Option TypeId × Nat) (h : w.shp b = some s) : (w.setRow g new).shp b = some s := by
  by_cases e : b = g
  · subst e
    rw [shape_cells (setRow_heap w b cur new ty f hh), hs, ← shape_cells hh]
    exact h
  · exact (shape_of_heap (setRow_other w g b _ e)).trans h
theorem shape_alloc (w : World) (o : Obj) (b : Nat) (s : Option TypeId × Nat) (h : w.shp b = some s) : (w.alloc o).shp b = some s :=
  (shape_of_heap (alloc_old w o b (shape_lt h))).trans h
theorem shape_drew (w : World) (o : Obj) (b : Nat) (s : Option TypeId × Nat) (h : w.shp b = some s) : (w.drew.alloc o).shp b = some s :=
  (shape_of_heap (alloc_old w.drew o b (shape_lt h))).trans h
theorem alloc_new (w : World) (o : Obj) : (w.alloc o).heap[w.heap.size]? = some o := by
  show (w.heap.push o)[w.heap.size]? = _
  simp
theorem cell_lt {w : World} {b o : Nat} {u : Value} (h : w.cell? ⟨b, o, none⟩ = some u) : b < w.heap.size := block_lt_of_cell h
theorem Ext.grow {w' : World} {q : Nat → Nat → Prop} (ht : ∀ b o, K.prot b o → b < K.w.heap.size) (hb : ∀ k, k < K.w.heap.size → w'.heap[k]? = K.w.heap[k]?) :
    Ext K { K with w := w', prot := fun b o => K.prot b o ∨ q b o } :=
  ⟨fun b o h => ⟨.inl h, World.cell?_of_block (w := K.w) (hb b (ht b o h))⟩, fun _ _ h => h, fun _ u m _ h => ⟨u, m, h, Nat.le_refl _, fun _ => rfl⟩, fun b s hs => (shape_of_heap (hb b (shape_lt hs))).trans hs⟩
theorem BoxesOk.keep0 {K' : Kw} (h : BoxesOk K L) (he : Ext0 K K') (hb : K'.boxes = K.boxes) (hw : ∀ b, some b ∈ K.boxes → K'.w.heap[b]? = K.w.heap[b]?) : BoxesOk K' L := by
  refine ⟨by rw [hb]; exact h.1, fun o cs ho => ?_⟩
  rcases h.2 o cs ho with ⟨hbo, hc⟩ | ⟨b, cur, ty, hbo, hh, hs, r⟩ | ⟨b, hbo, hm⟩
  · exact .inl ⟨by rw [hb]; exact hbo, hc⟩
  · exact .inr (.inl ⟨b, cur, ty, by rw [hb]; exact hbo, by rw [hw b (List.mem_of_getElem? hbo)]; exact hh, hs, fun j hj => ⟨(r j hj).1.ext0 he, (r j hj).2⟩⟩)
  · exact .inr (.inr ⟨b, by rw [hb]; exact hbo, hm.keep0 he (hw b (List.mem_of_getElem? hbo))⟩)
theorem BoxesOk.keep {K' : Kw} (h : BoxesOk K L) (he : Ext K K') (hb : K'.boxes = K.boxes) (hw : ∀ b, some b ∈ K.boxes → K'.w.heap[b]? = K.w.heap[b]?) : BoxesOk K' L := h.keep0 he.to0 hb hw
theorem BoxesOk.lt (h : BoxesOk K L) {b : Nat} (hb : some b ∈ K.boxes) : b < K.w.heap.size := by
  obtain ⟨o, ho⟩ := List.mem_iff_getElem?.1 hb
  have hlt : o < L.length := by rw [← h.1]; exact (List.getElem?_eq_some_iff.1 ho).1
  rcases h.2 o L[o] (List.getElem?_eq_getElem hlt) with ⟨hb', _⟩ | ⟨b', cur, ty, hb', hh, _⟩ | ⟨b', hb', hm⟩
  · rw [ho] at hb'; cases hb'
  · rw [ho] at hb'
    cases hb'
    exact (Array.getElem?_eq_some_iff.1 hh).1
  · rw [ho] at hb'
    cases hb'
    exact hm.lt
theorem Mem.tokLt (h : Mem P B p0 K L T) {k : Nat} {t : Value × Nat × TypeId} {b : Nat} (hk : K.toks[k]? = some t) (hb : ownB t.1 = some b) : b < K.w.heap.size := by
  obtain ⟨v, n, e⟩ := t
  rcases h.tokAt k v n e hk with ⟨⟨A, rfl⟩, _⟩ | ⟨g, cap, cur, i, rfl, hc0, _, hh, _⟩
  · rw [ownB_zero] at hb; cases hb
  rw [ownB_pos hc0] at hb
  simp at hb
  subst hb
  exact (Array.getElem?_eq_some_iff.1 hh).1
theorem Mem.grow (h : Mem P B p0 K L T) {w' : World} {q : Nat → Nat → Prop} (hb : Below K.w.heap.size K.w w') (hq : ∀ b o, q b o → K.w.heap.size ≤ b ∧ b < w'.heap.size) :
    Ext K { K with w := w', prot := fun b o => K.prot b o ∨ q b o } ∧ Mem P B p0 { K with w := w', prot := fun b o => K.prot b o ∨ q b o } L T := by
  have he := Ext.grow (q := q) h.there hb.block
  have hsz := h.below.size
  refine ⟨he, ⟨h.below.trans (hb.mono hsz), fun b o hbo => ?_, fun b o hp => ?_, h.boxes.keep he rfl fun b hbm => hb.block b (h.boxes.lt hbm), h.boxGe, fun oi b cs hob hcs hne o hp => ?_, h.boxNd, h.toks,
    fun k v n e hk => ?_, h.tokNe, h.tokBox, h.keeps.step he, h.tabs⟩⟩
  · rw [← h.old b o hbo]
    exact ⟨fun hp => hp.resolve_right fun hq' => by have := (hq b o hq').1; omega, .inl⟩
  · rcases hp with hp | hp
    · have := h.there b o hp; have := hb.size; show b < w'.heap.size; omega
    · exact (hq b o hp).2
  · rcases hp with hp | hp
    · exact h.boxFree oi b cs hob hcs hne o hp
    · have := (hq b o hp).1; have := h.boxes.lt (List.mem_of_getElem? hob); omega
  · rcases h.tokAt k v n e hk with hnil | ⟨g, cap, cur, i, rfl, hc0, hg, hh, hi, hn, hc, hs, hp⟩
    · exact .inl hnil
    have hgl : g < K.w.heap.size := (Array.getElem?_eq_some_iff.1 hh).1
    refine .inr ⟨g, cap, cur, i, rfl, hc0, hg, by rw [← hh]; exact hb.block g hgl, hi, hn, hc, hs, fun o ho hpo => ?_⟩
    rcases hpo with hpo | hpo
    · exact hp o ho hpo
    · have := (hq g o hpo).1; omega
theorem Mem.addGhost (h : Mem P B p0 K L T) (X : List V) : Ext K { K with boxes := K.boxes ++ [none] } ∧ Mem P B p0 { K with boxes := K.boxes ++ [none] } (L ++ [X]) T := by
  have hold : ∀ (o b : Nat), (K.boxes ++ [none])[o]? = some (some b) → K.boxes[o]? = some (some b) := fun o b ho => by
    by_cases hlt : o < K.boxes.length
    · rwa [List.getElem?_append_left hlt] at ho
    · rw [List.getElem?_append_right (by omega)] at ho
      have := (List.getElem?_eq_some_iff.1 ho).1
      have e0 : o - K.boxes.length = 0 := by simpa using this
      rw [e0] at ho; simp at ho
  have hmem : ∀ b, some b ∈ K.boxes ++ [none] → some b ∈ K.boxes := fun b hb => by simpa using hb
  have he : Ext K { K with boxes := K.boxes ++ [none] } := ⟨fun b o hp => ⟨hp, rfl⟩, fun o b' ho => by
    show (K.boxes ++ [none])[o]? = some (some b')
    rw [List.getElem?_append_left (List.getElem?_eq_some_iff.1 ho).1]; exact ho, fun _ u m _ hk => ⟨u, m, hk, Nat.le_refl _, fun _ => rfl⟩, fun _ _ h => h⟩
  refine ⟨he, ⟨h.below, h.old, h.there, ⟨by simp [h.boxes.1], fun o cs ho => ?_⟩, fun b hb => h.boxGe b (hmem b hb), fun o b cs ho hc hne => h.boxFree o b cs (hold o b ho) (by
    have h1 := (List.getElem?_eq_some_iff.1 (hold o b ho)).1
    rwa [List.getElem?_append_left (by rw [← h.boxes.1]; exact h1)] at hc) hne, fun o o' b ho ho' => h.boxNd o o' b (hold o b ho) (hold o' b ho'), h.toks, h.tokAt, h.tokNe, fun k t b hk hb hm => h.tokBox k t b hk hb (hmem b hm), h.keeps.step he, h.tabs⟩⟩
  by_cases hlt : o < L.length
  · rw [List.getElem?_append_left hlt] at ho
    rcases h.boxes.2 o cs ho with ⟨hb, hc⟩ | ⟨b', cur', ty', hb', hh', hs', r⟩ | ⟨b', hb', hm⟩
    · left
      refine ⟨?_, hc⟩
      show (K.boxes ++ [none])[o]? = some none
      rw [List.getElem?_append_left (by rw [h.boxes.1]; exact hlt)]; exact hb
    · exact .inr (.inl ⟨b', cur', ty', he.boxes o b' hb', hh', hs', fun j hj => ⟨(r j hj).1.ext he, (r j hj).2⟩⟩)
    · exact .inr (.inr ⟨b', he.boxes o b' hb', hm.keep he rfl⟩)
  · have ho' := (List.getElem?_eq_some_iff.1 ho).1
    have e : o = L.length := by simp at ho'; omega
    subst e
    simp at ho
    subst ho
    left
    refine ⟨?_, trivial⟩
    show (K.boxes ++ [none])[L.length]? = some none
    rw [← h.boxes.1]; simp
theorem Mem.addHole (h : Mem P B p0 K L T) : Ext K { K with boxes := K.boxes ++ [none] } ∧ Mem P B p0 { K with boxes := K.boxes ++ [none] } (L ++ [[]]) T := h.addGhost []
theorem Mem.ghosts : ∀ (G : List (List V)) {K : Kw} {L : List (List V)}, Mem P B p0 K L T → ∃ K', K'.w = K.w ∧ Ext K K' ∧ Mem P B p0 K' (L ++ G) T
  | [], K, L, h => ⟨K, rfl, Ext.refl K, by rw [List.append_nil]; exact h⟩
  | X :: G, K, L, h => by
    obtain ⟨e1, m1⟩ := h.addGhost X
    obtain ⟨K2, w2, e2, m2⟩ := Mem.ghosts G m1
    exact ⟨K2, w2, e1.trans e2, by rw [List.append_assoc] at m2; exact m2⟩
theorem Mem.setGhost (h : Mem P B p0 K L T) {o : Nat} (hn : K.boxes[o]? = some none) (X : List V) : Mem P B p0 K (L.set o X) T := by
  refine ⟨h.below, h.old, h.there, ⟨by rw [List.length_set]; exact h.boxes.1, fun o' cs ho => ?_⟩, h.boxGe, fun o' b cs ho hc hne => ?_, h.boxNd, h.toks, h.tokAt, h.tokNe, h.tokBox, h.keeps, h.tabs⟩
  · by_cases e : o = o'
    · subst e; exact .inl ⟨hn, trivial⟩
    · rw [List.getElem?_set_ne e] at ho; exact h.boxes.2 o' cs ho
  · by_cases e : o = o'
    · subst e; rw [hn] at ho; cases ho
    · rw [List.getElem?_set_ne e] at hc; exact h.boxFree o' b cs ho hc hne
theorem Mem.fillHoleG (h : Mem P B p0 K L T) {o b : Nat} {cs : List V} (hn : K.boxes[o]? = some none) (hB : B.heap.size ≤ b)
    (hobj : (∃ (cur : Array Value) (ty : TypeId), K.w.heap[b]? = some (.cells cur ty (0, 0)) ∧ ∃ h : cs.length ≤ cur.size, ∀ j (hj : j < cs.length), Rel K cs[j] (cur[j]'(by omega)) ∧ (cur[j]'(by omega)).oneCell' = true) ∨ MapAt K b cs) (hp : ∀ o, ¬ K.prot b o) (hnb : some b ∉ K.boxes)
    (hnt : ∀ (k : Nat) t, K.toks[k]? = some t → ownB t.1 ≠ some b) :
    Ext K { K with boxes := K.boxes.set o (some b) } ∧ Mem P B p0 { K with boxes := K.boxes.set o (some b) } (L.set o cs) T := by
  have hol : o < K.boxes.length := (List.getElem?_eq_some_iff.1 hn).1
  have hget : ∀ o', (K.boxes.set o (some b))[o']? = if o = o' then some (some b) else K.boxes[o']? := fun o' => by
    rw [List.getElem?_set]
    by_cases e : o = o'
    · subst e; simp [hol]
    · simp [e]
  have he : Ext K { K with boxes := K.boxes.set o (some b) } := ⟨fun b o hp => ⟨hp, rfl⟩, fun o' b' ho => by
    show (K.boxes.set o (some b))[o']? = some (some b')
    rw [hget]
    by_cases e : o = o'
    · subst e; rw [hn] at ho; cases ho
    · rw [if_neg e]; exact ho, fun _ u m _ hk => ⟨u, m, hk, Nat.le_refl _, fun _ => rfl⟩, fun _ _ h => h⟩
  have hmem : ∀ b', some b' ∈ K.boxes.set o (some b) → b' = b ∨ some b' ∈ K.boxes := fun b' hb' => by
    rcases List.mem_or_eq_of_mem_set hb' with h1 | h1
    · exact .inr h1
    · cases h1; exact .inl rfl
  refine ⟨he, ⟨h.below, h.old, h.there, ⟨by simp [h.boxes.1], fun o' cs' ho' => ?_⟩, fun b' hb' => ?_, fun o' b' cs' ho' hc' hne o2 hpo => ?_, fun o1 o2 b' h1 h2 => ?_, h.toks, h.tokAt, h.tokNe, fun k t b' hk hb' hm => ?_, h.keeps.step he, h.tabs⟩⟩
  · have hol' : o < L.length := by rw [← h.boxes.1]; exact hol
    by_cases e : o = o'
    · subst e
      rw [List.getElem?_set_self hol'] at ho'
      cases ho'
      rcases hobj with ⟨cur, ty, hh, hs, hr⟩ | hm
      · exact .inr (.inl ⟨b, cur, ty, by show (K.boxes.set o (some b))[o]? = _; rw [hget, if_pos rfl], hh, hs, fun j hj => ⟨(hr j hj).1.ext he, (hr j hj).2⟩⟩)
      · exact .inr (.inr ⟨b, by show (K.boxes.set o (some b))[o]? = _; rw [hget, if_pos rfl], hm.keep he rfl⟩)
    · rw [List.getElem?_set_ne e] at ho'
      rcases h.boxes.2 o' cs' ho' with ⟨hb', hc⟩ | ⟨b', cur', ty', hb', hh', hs', r⟩ | ⟨b', hb', hm⟩
      · exact .inl ⟨by show (K.boxes.set o (some b))[o']? = _; rw [hget, if_neg e]; exact hb', hc⟩
      · exact .inr (.inl ⟨b', cur', ty', he.boxes o' b' hb', hh', hs', fun j hj => ⟨(r j hj).1.ext he, (r j hj).2⟩⟩)
      · exact .inr (.inr ⟨b', he.boxes o' b' hb', hm.keep he rfl⟩)
  · rcases hmem b' hb' with rfl | hb'
    · exact hB
    · exact h.boxGe b' hb'
  · have h1' : (K.boxes.set o (some b))[o']? = some (some b') := ho'
    rw [hget] at h1'
    by_cases e : o = o'
    · rw [if_pos e] at h1'
      cases h1'
      exact hp o2 hpo
    · rw [if_neg e] at h1'
      rw [List.getElem?_set_ne e] at hc'
      exact h.boxFree o' b' cs' h1' hc' hne o2 hpo
  · have h1' : (K.boxes.set o (some b))[o1]? = some (some b') := h1
    have h2' : (K.boxes.set o (some b))[o2]? = some (some b') := h2
    rw [hget] at h1' h2'
    by_cases e1 : o = o1 <;> by_cases e2 : o = o2
    · omega
    · rw [if_pos e1] at h1'; rw [if_neg e2] at h2'
      cases h1'
      exact absurd (List.mem_of_getElem? h2') hnb
    · rw [if_neg e1] at h1'; rw [if_pos e2] at h2'
      cases h2'
      exact absurd (List.mem_of_getElem? h1') hnb
    · rw [if_neg e1] at h1'; rw [if_neg e2] at h2'
      exact h.boxNd o1 o2 b' h1' h2'
  · rcases hmem b' hm with rfl | hm
    · exact hnt k t hk hb'
    · exact h.tokBox k t b' hk hb' hm
theorem Mem.fillHole (h : Mem P B p0 K L T) {o b : Nat} {cs : List V} {cur : Array Value} {ty : TypeId} (hn : K.boxes[o]? = some none) (hB : B.heap.size ≤ b) (hh : K.w.heap[b]? = some (.cells cur ty (0, 0)))
    (hs : cs.length ≤ cur.size) (hr : ∀ j (hj : j < cs.length), Rel K cs[j] (cur[j]'(by omega)) ∧ (cur[j]'(by omega)).oneCell' = true) (hp : ∀ o, ¬ K.prot b o) (hnb : some b ∉ K.boxes)
    (hnt : ∀ (k : Nat) t, K.toks[k]? = some t → ownB t.1 ≠ some b) :
    Ext K { K with boxes := K.boxes.set o (some b) } ∧ Mem P B p0 { K with boxes := K.boxes.set o (some b) } (L.set o cs) T := h.fillHoleG hn hB (.inl ⟨cur, ty, hh, hs, hr⟩) hp hnb hnt
theorem Mem.addBoxG (h : Mem P B p0 K L T) {b : Nat} {cs : List V} (hB : B.heap.size ≤ b)
    (hobj : (∃ (cur : Array Value) (ty : TypeId), K.w.heap[b]? = some (.cells cur ty (0, 0)) ∧ ∃ h : cs.length ≤ cur.size, ∀ j (hj : j < cs.length), Rel K cs[j] (cur[j]'(by omega)) ∧ (cur[j]'(by omega)).oneCell' = true) ∨ MapAt K b cs) (hp : ∀ o, ¬ K.prot b o) (hnb : some b ∉ K.boxes)
    (hnt : ∀ (k : Nat) t, K.toks[k]? = some t → ownB t.1 ≠ some b) :
    Ext K { K with boxes := K.boxes ++ [some b] } ∧ Mem P B p0 { K with boxes := K.boxes ++ [some b] } (L ++ [cs]) T := by
  obtain ⟨he1, hm1⟩ := h.addHole
  have hlen := h.boxes.1
  obtain ⟨he2, hm2⟩ := hm1.fillHoleG (o := L.length) (b := b) (cs := cs) (by show (K.boxes ++ [none])[L.length]? = _; rw [← hlen]; simp) hB (by
    rcases hobj with ⟨cur, ty, hh, hs, hr⟩ | hm
    · exact .inl ⟨cur, ty, hh, hs, fun j hj => ⟨(hr j hj).1.ext he1, (hr j hj).2⟩⟩
    · exact .inr (hm.keep he1 rfl)) hp (by simpa using hnb) hnt
  have e1 : (K.boxes ++ [none]).set L.length (some b) = K.boxes ++ [some b] := by rw [← hlen, List.set_append_right _ _ (Nat.le_refl _)]; simp
  have e2 : (L ++ [[]]).set L.length cs = L ++ [cs] := by rw [List.set_append_right _ _ (Nat.le_refl _)]; simp
  simp only [e1, e2] at he2 hm2
  exact ⟨he1.trans he2, hm2⟩
theorem Mem.addBox (h : Mem P B p0 K L T) {b : Nat} {cs : List V} {cur : Array Value} {ty : TypeId} (hB : B.heap.size ≤ b) (hh : K.w.heap[b]? = some (.cells cur ty (0, 0)))
    (hs : cs.length ≤ cur.size) (hr : ∀ j (hj : j < cs.length), Rel K cs[j] (cur[j]'(by omega)) ∧ (cur[j]'(by omega)).oneCell' = true) (hp : ∀ o, ¬ K.prot b o) (hnb : some b ∉ K.boxes)
    (hnt : ∀ (k : Nat) t, K.toks[k]? = some t → ownB t.1 ≠ some b) :
    Ext K { K with boxes := K.boxes ++ [some b] } ∧ Mem P B p0 { K with boxes := K.boxes ++ [some b] } (L ++ [cs]) T := h.addBoxG hB (.inl ⟨cur, ty, hh, hs, hr⟩) hp hnb hnt
theorem Mem.other (h : Mem P B p0 K L T) {w' : World} {g : Nat} (hB : B.heap.size ≤ g) (hoth : ∀ k, k ≠ g → w'.heap[k]? = K.w.heap[k]?) (hsz : w'.heap.size = K.w.heap.size) (hos : w'.os = K.w.os) (hta : w'.tape = K.w.tape) (hou : w'.output = K.w.output)
    (hcell : ∀ o, K.prot g o → w'.cell? ⟨g, o, none⟩ = K.w.cell? ⟨g, o, none⟩) (hshp : ∀ s, K.w.shp g = some s → w'.shp g = some s) (hnb : some g ∉ K.boxes) (hnt : ∀ (k : Nat) t, K.toks[k]? = some t → ownB t.1 ≠ some g) :
    Ext K { K with w := w' } ∧ Mem P B p0 { K with w := w' } L T := by
  have he : Ext K { K with w := w' } := ⟨fun b' o' hpb => ⟨hpb, by
    by_cases e : b' = g
    · subst e; exact hcell o' hpb
    · exact World.cell?_of_block (w := K.w) (hoth b' e)⟩, fun _ _ h => h, fun _ u m _ hk => ⟨u, m, hk, Nat.le_refl _, fun _ => rfl⟩, fun b' s hs => (by
      by_cases e : b' = g
      · subst e; exact hshp s hs
      · exact (shape_of_heap (hoth b' e)).trans hs)⟩
  refine ⟨he, ⟨h.below.trans ⟨hos, hta, hou, by show K.w.heap.size ≤ w'.heap.size; omega, fun k hk => hoth k (by omega)⟩, h.old, fun b o hpb => by show b < w'.heap.size; have := h.there b o hpb; omega,
    h.boxes.keep he rfl fun b hb => hoth b fun e => hnb (e ▸ hb), h.boxGe, h.boxFree, h.boxNd, h.toks, fun k v n e hk => ?_, h.tokNe, h.tokBox, h.keeps.step he, h.tabs⟩⟩
  rcases h.tokAt k v n e hk with hnil | ⟨g1, cap, cur1, i, rfl, hc0, hg, hh1, hi, hn, hc, hs, hpr⟩
  · exact .inl hnil
  have hne : g1 ≠ g := fun e2 => hnt k _ hk (by rw [ownB_pos hc0, e2])
  exact .inr ⟨g1, cap, cur1, i, rfl, hc0, hg, by show w'.heap[g1]? = _; rw [hoth g1 hne]; exact hh1, hi, hn, hc, hs, hpr⟩
def deadN : Nat := 18446744073709551616
theorem Mem.killTok (h : Mem P B p0 K L T) {k : Nat} {v : Value} {n : Nat} {e : TypeId} (hk : K.toks[k]? = some (v, n, e)) (hn : n ≤ maxLen) :
    Ext K { K with toks := K.toks.set k (.slice none 0 0, deadN, e) } ∧ Mem P B p0 { K with toks := K.toks.set k (.slice none 0 0, deadN, e) } L (T.set k (deadN, e)) := by
  have hkl : k < K.toks.length := (List.getElem?_eq_some_iff.1 hk).1
  have hdead : maxLen < deadN := by simp [maxLen, deadN]
  have hget : ∀ k', (K.toks.set k (Value.slice none 0 0, deadN, e))[k']? = if k = k' then some (Value.slice none 0 0, deadN, e) else K.toks[k']? := fun k' => by
    rw [List.getElem?_set]
    by_cases hkk : k = k'
    · subst hkk; simp [hkl]
    · simp [hkk]
  have he : Ext K { K with toks := K.toks.set k (.slice none 0 0, deadN, e) } := ⟨fun b o hp => ⟨hp, rfl⟩, fun _ _ h => h, fun k' u m e' hk' => by
    show ∃ u' m', (K.toks.set k (Value.slice none 0 0, deadN, e))[k']? = some (u', m', e') ∧ _
    rw [hget]
    by_cases e1 : k = k'
    · subst e1
      rw [hk] at hk'
      cases hk'
      exact ⟨_, _, by rw [if_pos rfl], by omega, fun e2 => by omega⟩
    · exact ⟨u, m, by rw [if_neg e1]; exact hk', Nat.le_refl _, fun _ => rfl⟩, fun _ _ h => h⟩
  have hcase : ∀ {k' : Nat} {t}, (K.toks.set k (Value.slice none 0 0, deadN, e))[k']? = some t → ownB t.1 ≠ none → K.toks[k']? = some t := fun {k' t} hk' hb => by
    rw [hget] at hk'
    by_cases e1 : k = k'
    · rw [if_pos e1] at hk'; cases hk'; exact absurd rfl hb
    · rwa [if_neg e1] at hk'
  refine ⟨he, ⟨h.below, h.old, h.there, h.boxes.keep he rfl fun _ _ => rfl, h.boxGe, h.boxFree, h.boxNd, by simp [List.map_set, h.toks], fun k' u n' e' hk' => ?_, fun k1 k2 t1 t2 b h1 h2 hb1 hb2 => ?_, fun k' t b hk' hb => ?_, h.keeps.step he, h.tabs⟩⟩
  · have hk2 : (K.toks.set k (Value.slice none 0 0, deadN, e))[k']? = some (u, n', e') := hk'
    rw [hget] at hk2
    by_cases e1 : k = k'
    · rw [if_pos e1] at hk2; cases hk2; exact .inl ⟨⟨_, rfl⟩, .inr hdead⟩
    · rw [if_neg e1] at hk2; exact h.tokAt k' u n' e' hk2
  · exact h.tokNe k1 k2 t1 t2 b (hcase h1 (by rw [hb1]; simp)) (hcase h2 (by rw [hb2]; simp)) hb1 hb2
  · exact h.tokBox k' t b (hcase hk' (by rw [hb]; simp)) hb
theorem Mem.addTok (h : Mem P B p0 K L T) {v : Value} {n : Nat} {e : TypeId} (ht : TokAt P B.heap.size K v n e) (hnb : ∀ b, ownB v = some b → some b ∉ K.boxes)
    (hnt : ∀ (k : Nat) t b, K.toks[k]? = some t → ownB t.1 = some b → ownB v ≠ some b) :
    Ext K { K with toks := K.toks ++ [(v, n, e)] } ∧ Mem P B p0 { K with toks := K.toks ++ [(v, n, e)] } L (T ++ [(n, e)]) := by
  have hleft : ∀ {k : Nat} {t}, K.toks[k]? = some t → (K.toks ++ [(v, n, e)])[k]? = some t := fun {k t} hk => by
    rw [List.getElem?_append_left (List.getElem?_eq_some_iff.1 hk).1]; exact hk
  have hcase : ∀ {k : Nat} {t}, (K.toks ++ [(v, n, e)])[k]? = some t → K.toks[k]? = some t ∨ (k = K.toks.length ∧ t = (v, n, e)) := fun {k t} hk => by
    by_cases hlt : k < K.toks.length
    · rw [List.getElem?_append_left hlt] at hk; exact .inl hk
    · have h1 := (List.getElem?_eq_some_iff.1 hk).1
      have e1 : k = K.toks.length := by simp at h1; omega
      subst e1
      simp at hk
      exact .inr ⟨rfl, hk.symm⟩
  have he : Ext K { K with toks := K.toks ++ [(v, n, e)] } := ⟨fun b o hp => ⟨hp, rfl⟩, fun o b' ho => ho, fun k u m _ hk => ⟨u, m, hleft hk, Nat.le_refl _, fun _ => rfl⟩, fun _ _ h => h⟩
  refine ⟨he, ⟨h.below, h.old, h.there, h.boxes.keep he rfl fun _ _ => rfl, h.boxGe, h.boxFree, h.boxNd, by simp [h.toks], fun k v' n' e' hk => ?_, fun k k' t t' b hk hk' hb hb' => ?_, fun k t b hk hb => ?_, h.keeps.step he, h.tabs⟩⟩
  · rcases hcase hk with hk | ⟨_, e1⟩
    · exact h.tokAt k v' n' e' hk
    · cases e1; exact ht
  · rcases hcase hk with hk | ⟨rfl, rfl⟩ <;> rcases hcase hk' with hk' | ⟨rfl, rfl⟩
    · exact h.tokNe k k' t t' b hk hk' hb hb'
    · exact absurd hb' (hnt k t b hk hb)
    · exact absurd hb (hnt k' t' b hk' hb')
    · rfl
  · rcases hcase hk with hk | ⟨rfl, rfl⟩
    · exact h.tokBox k t b hk hb
    · exact hnb b hb
theorem Mem.setTok (h : Mem P B p0 K L T) {k : Nat} {v v' : Value} {n m : Nat} {e : TypeId} {w' : World} {g' c' : Nat} {cur' : Array Value} {i : TypeInfo}
    (hk : K.toks[k]? = some (v, n, e)) (hv' : v' = .slice (some ⟨g', 0, none⟩) m c') (hc0' : 0 < c') (hnm : n ≤ m) (hne : n = m → v' = v)
    (hb : ∀ b, b < K.w.heap.size → ownB v ≠ some b → w'.heap[b]? = K.w.heap[b]?) (hcell : ∀ g o, ownB v = some g → K.prot g o → w'.cell? ⟨g, o, none⟩ = K.w.cell? ⟨g, o, none⟩)
    (hsz : K.w.heap.size ≤ w'.heap.size) (hos : w'.os = K.w.os) (hta : w'.tape = K.w.tape) (hou : w'.output = K.w.output)
    (hg' : ownB v = some g' ∨ (K.w.heap.size ≤ g' ∧ g' < w'.heap.size)) (hh' : w'.heap[g']? = some (.cells cur' e (0, 0))) (hi : P.info? e = some i) (hmc : m ≤ c') (hcm : c' ≤ maxLen) (hcs : 0 < i.size ∧ c' * i.size ≤ cur'.size)
    (hsh : ∀ b s, K.w.shp b = some s → w'.shp b = some s) :
    Ext K { K with w := w', prot := fun b o => K.prot b o ∨ (b = g' ∧ o < m * i.size), toks := K.toks.set k (v', m, e) } ∧
    Mem P B p0 { K with w := w', prot := fun b o => K.prot b o ∨ (b = g' ∧ o < m * i.size), toks := K.toks.set k (v', m, e) } L (T.set k (m, e)) := by
  have hkl : k < K.toks.length := (List.getElem?_eq_some_iff.1 hk).1
  have hgB : ∀ g, ownB v = some g → B.heap.size ≤ g ∧ g < K.w.heap.size ∧ some g ∉ K.boxes ∧ ∀ o, n * i.size ≤ o → ¬ K.prot g o := by
    intro g hg
    refine ⟨?_, h.tokLt hk hg, h.tokBox k _ g hk hg, ?_⟩
    all_goals
      rcases h.tokAt k v n e hk with ⟨⟨A, rfl⟩, _⟩ | ⟨g0, cap, cur, i0, rfl, hc0, hBg, hh, hi0, hn, hc, hs, hp⟩
      · rw [ownB_zero] at hg; cases hg
      rw [ownB_pos hc0] at hg
      simp at hg
      subst hg
      rw [hi] at hi0
      cases hi0
      assumption
  have hget : ∀ k', (K.toks.set k (v', m, e))[k']? = if k = k' then some (v', m, e) else K.toks[k']? := fun k' => by
    rw [List.getElem?_set]
    by_cases hkk : k = k'
    · subst hkk; simp [hkl]
    · simp [hkk]
  have hne' : ∀ b, some b ∈ K.boxes → b ≠ g' := fun b hbm e1 => by
    subst e1
    rcases hg' with e2 | ⟨e2, _⟩
    · exact (hgB _ e2).2.2.1 hbm
    · have := h.boxes.lt hbm; omega
  have hB' : B.heap.size ≤ g' := by
    rcases hg' with e2 | ⟨e2, _⟩
    · exact (hgB _ e2).1
    · have := h.below.size; omega
  have hown' : ownB v' = some g' := by rw [hv', ownB_pos hc0']
  have he : Ext K { K with w := w', prot := fun b o => K.prot b o ∨ (b = g' ∧ o < m * i.size), toks := K.toks.set k (v', m, e) } := by
    refine ⟨fun b o hpb => ⟨.inl hpb, ?_⟩, fun _ _ hb => hb, fun k' u n' e' hk' => ?_, hsh⟩
    · by_cases e1 : ownB v = some b
      · exact hcell b o e1 hpb
      · exact World.cell?_of_block (w := K.w) (hb b (h.there b o hpb) e1)
    · by_cases e1 : k = k'
      · subst e1
        rw [hk] at hk'
        cases hk'
        exact ⟨v', m, by rw [hget]; simp, hnm, hne⟩
      · exact ⟨u, n', by rw [hget, if_neg e1]; exact hk', Nat.le_refl _, fun _ => rfl⟩
  have hown : ∀ (k' : Nat) t, k ≠ k' → K.toks[k']? = some t → ownB t.1 ≠ some g' := fun k' t hkk hk' hb' => by
    rcases hg' with e2 | ⟨e2, _⟩
    · exact hkk (h.tokNe k k' _ t g' hk hk' e2 hb')
    · have := h.tokLt hk' hb'; omega
  refine ⟨he, ⟨h.below.trans ⟨hos, hta, hou, hsz, fun b hbB => hb b (by have := h.below.size; omega) fun e1 => by have := (hgB b e1).1; omega⟩, fun b o hbB => ?_, fun b o hp => ?_, h.boxes.keep he rfl fun b hbm => hb b (h.boxes.lt hbm) fun e1 => (hgB b e1).2.2.1 hbm,
    h.boxGe, fun oi b cs hob hcs hne o hp => ?_, h.boxNd, ?_, fun k' u n' e' hk' => ?_, fun k1 k2 t1 t2 b h1 h2 hb1 hb2 => ?_, fun k' t b hk' hb' hbm => ?_, h.keeps.step he, h.tabs⟩⟩
  · rw [← h.old b o hbB]
    refine ⟨fun hp => hp.resolve_right fun ⟨e1, _⟩ => ?_, .inl⟩
    subst e1
    omega
  · show b < w'.heap.size
    rcases hp with hp | ⟨rfl, _⟩
    · have := h.there b o hp; omega
    · exact (Array.getElem?_eq_some_iff.1 hh').1
  · rcases hp with hp | ⟨rfl, _⟩
    · exact h.boxFree oi b cs hob hcs hne o hp
    · exact hne' b (List.mem_of_getElem? hob) rfl
  · show (K.toks.set k (v', m, e)).map (·.2) = T.set k (m, e)
    rw [List.map_set, h.toks]
  · rw [hget] at hk'
    by_cases e1 : k = k'
    · rw [if_pos e1] at hk'
      cases hk'
      refine .inr ⟨g', c', cur', i, hv', hc0', hB', hh', hi, hmc, hcm, hcs, fun o ho hpo => ?_⟩
      rcases hpo with hpo | ⟨_, hpo⟩
      · rcases hg' with e2 | ⟨e2, _⟩
        · exact (hgB _ e2).2.2.2 o (Nat.le_trans (Nat.mul_le_mul_right _ hnm) ho) hpo
        · have := h.there g' o hpo; omega
      · omega
    · rw [if_neg e1] at hk'
      rcases h.tokAt k' u n' e' hk' with hnil | ⟨g1, cap1, cur1, i1, rfl, hc01, hB1, hh1, hi1, hn1, hc1, hs1, hp1⟩
      · exact .inl hnil
      have hne1 : ownB v ≠ some g1 := fun e2 => e1 (h.tokNe k k' _ _ g1 hk hk' e2 (ownB_pos hc01))
      refine .inr ⟨g1, cap1, cur1, i1, rfl, hc01, hB1, by rw [← hh1]; exact hb g1 (Array.getElem?_eq_some_iff.1 hh1).1 hne1, hi1, hn1, hc1, hs1, fun o ho hpo => ?_⟩
      rcases hpo with hpo | ⟨e2, _⟩
      · exact hp1 o ho hpo
      · exact hown k' _ e1 hk' (by rw [ownB_pos hc01, e2])
  · rw [hget] at h1 h2
    by_cases e1 : k = k1 <;> by_cases e2 : k = k2
    · rw [← e1, ← e2]
    · rw [if_pos e1] at h1; rw [if_neg e2] at h2
      cases h1
      rw [hown'] at hb1
      exact absurd (hb2.trans hb1.symm) (hown k2 t2 e2 h2)
    · rw [if_neg e1] at h1; rw [if_pos e2] at h2
      cases h2
      rw [hown'] at hb2
      exact absurd (hb1.trans hb2.symm) (hown k1 t1 e1 h1)
    · rw [if_neg e1] at h1; rw [if_neg e2] at h2
      exact h.tokNe k1 k2 t1 t2 b h1 h2 hb1 hb2
  · rw [hget] at hk'
    by_cases e1 : k = k'
    · rw [if_pos e1] at hk'
      cases hk'
      rw [hown'] at hb'
      cases hb'
      exact hne' _ hbm rfl
    · rw [if_neg e1] at hk'
      exact h.tokBox k' t b hk' hb' hbm
theorem Mem.setBox (h : Mem P B p0 K L T) {o b off : Nat} {cs new : List V} {vs : List Value} {cur : Array Value} {ty : TypeId} (ho : L[o]? = some cs) (hb : K.boxes[o]? = some (some b))
    (hh : K.w.heap[b]? = some (.cells cur ty (0, 0))) (hl : vs.length = new.length) (hfit : off + new.length ≤ cs.length)
    (hr : ∀ j (hj : j < new.length), Rel K new[j] (vs[j]'(by omega)) ∧ (vs[j]'(by omega)).oneCell' = true) :
    let w' := K.w.setRow b (cur.toList.take off ++ vs ++ cur.toList.drop (off + vs.length)).toArray
    Ext K { K with w := w' } ∧ Mem P B p0 { K with w := w' } (L.set o (cs.take off ++ new ++ cs.drop (off + new.length))) T := by
  intro w'
  have hbm : some b ∈ K.boxes := List.mem_of_getElem? hb
  have hBb := h.boxGe b hbm
  have hoth : ∀ k, k ≠ b → w'.heap[k]? = K.w.heap[k]? := fun k hk => setRow_other K.w b k _ hk
  have hsame : w'.heap[b]? = some (.cells (cur.toList.take off ++ vs ++ cur.toList.drop (off + vs.length)).toArray ty (0, 0)) := setRow_heap K.w b cur _ ty (0, 0) hh
  have hsz : w'.heap.size = K.w.heap.size := size_setRow K.w b _
  have hbk : ∀ o', K.prot b o' → w'.heap[b]? = K.w.heap[b]? := fun o' hp => by
    by_cases hc : cs = []
    · subst hc
      have hn : new = [] := List.eq_nil_of_length_eq_zero (by rw [List.length_nil] at hfit; omega)
      have hv : vs = [] := List.eq_nil_of_length_eq_zero (by rw [hl, hn]; rfl)
      rw [hsame, hh, hv]
      simp
    · exact absurd hp (h.boxFree o b cs hb ho hc o')
  have he : Ext K { K with w := w' } := ⟨fun b' o' hp => ⟨hp, World.cell?_of_block (w := K.w) (by
    by_cases e : b' = b
    · subst e; exact hbk o' hp
    · exact hoth b' e)⟩, fun _ _ h => h, fun _ u m _ hk => ⟨u, m, hk, Nat.le_refl _, fun _ => rfl⟩, fun b' s hs => (by
    by_cases e : b' = b
    · subst e
      have h1 := shape_cells hsame
      rw [shape_cells hh] at hs
      rw [show w'.shp b' = _ from h1, ← hs]
      have : off + vs.length ≤ cur.size := by obtain ⟨_, _, hh0, hs0, _⟩ := box_cells (off := off) h.boxes ho hb (shape_cells hh); rw [hh] at hh0; cases hh0; omega
      simp
      omega
    · exact (shape_of_heap (hoth b' e)).trans hs)⟩
  obtain ⟨cur0, ty0, hh0, hs0, hr0⟩ := box_cells (off := off) h.boxes ho hb (shape_cells hh)
  rw [hh] at hh0
  cases hh0
  refine ⟨he, ⟨h.below.trans ⟨rfl, rfl, rfl, by show K.w.heap.size ≤ w'.heap.size; omega, fun k hk => hoth k (by omega)⟩, h.old, fun b o hp => by show b < w'.heap.size; have := h.there b o hp; omega, ⟨by simp [h.boxes.1], fun o' cs' ho' => ?_⟩, h.boxGe, fun o' b' cs' hb' hc' hne o2 hpo => ?_, h.boxNd, h.toks,
    fun k v n e hk => ?_, h.tokNe, h.tokBox, h.keeps.step he, h.tabs⟩⟩
  · have hol : o < L.length := (List.getElem?_eq_some_iff.1 ho).1
    by_cases e1 : o = o'
    · subst e1
      rw [List.getElem?_set_self hol] at ho'
      cases ho'
      refine .inr (.inl ⟨b, _, ty, hb, hsame, by simp; omega, fun j hj => ?_⟩)
      simp only [List.length_append, List.length_take, List.length_drop] at hj
      simp only [List.getElem_toArray, List.getElem_append, List.length_append, List.length_take, Array.length_toList, hl, List.getElem_take, List.getElem_drop, Array.getElem_toList, Nat.min_eq_left (show off ≤ cs.length by omega), Nat.min_eq_left (show off ≤ cur.size by omega)]
      by_cases c1 : j < off
      · simp only [c1, show j < off + new.length by omega, dite_true]
        exact ⟨(hr0 j (by omega)).1.ext he, (hr0 j (by omega)).2⟩
      · by_cases c2 : j < off + new.length
        · simp only [c1, c2, dite_true, dite_false]
          exact ⟨(hr (j - off) (by omega)).1.ext he, (hr (j - off) (by omega)).2⟩
        · simp only [c2, dite_false]
          exact ⟨(hr0 _ (by omega)).1.ext he, (hr0 _ (by omega)).2⟩
    · rw [List.getElem?_set_ne e1] at ho'
      rcases h.boxes.2 o' cs' ho' with ⟨hb', hc'⟩ | ⟨b', cur', ty', hb', hh', hs', r⟩ | ⟨b', hb', hm⟩
      · exact .inl ⟨hb', hc'⟩
      · have hne : b' ≠ b := fun e2 => by
          subst e2
          exact e1 (h.boxNd o o' b' hb hb')
        exact .inr (.inl ⟨b', cur', ty', hb', by show w'.heap[b']? = _; rw [hoth b' hne]; exact hh', hs', fun j hj => ⟨(r j hj).1.ext he, (r j hj).2⟩⟩)
      · have hne : b' ≠ b := fun e2 => by
          subst e2
          exact e1 (h.boxNd o o' b' hb hb')
        exact .inr (.inr ⟨b', hb', hm.keep he (hoth b' hne)⟩)
  · by_cases e1 : o = o'
    · subst e1
      have e2 : b' = b := by rw [hb] at hb'; cases hb'; rfl
      subst e2
      by_cases hc : cs = []
      · subst hc
        have hn : new = [] := List.eq_nil_of_length_eq_zero (by rw [List.length_nil] at hfit; omega)
        rw [List.getElem?_set_self (List.getElem?_eq_some_iff.1 ho).1, hn] at hc'
        simp at hc'
        exact hne hc'
      · exact h.boxFree o b' cs hb ho hc o2 hpo
    · rw [List.getElem?_set_ne e1] at hc'
      exact h.boxFree o' b' cs' hb' hc' hne o2 hpo
  · rcases h.tokAt k v n e hk with hnil | ⟨g, cap, cur1, i, rfl, hc0, hg, hh1, hi, hn, hc, hs, hp⟩
    · exact .inl hnil
    have hne : g ≠ b := fun e2 => h.tokBox k _ g hk (ownB_pos hc0) (e2 ▸ hbm)
    exact .inr ⟨g, cap, cur1, i, rfl, hc0, hg, by show w'.heap[g]? = _; rw [hoth g hne]; exact hh1, hi, hn, hc, hs, hp⟩
theorem Mem.setBoxTo (h : Mem P B p0 K L T) {o b : Nat} {cs cs' : List V} {cur new : Array Value} {ty : TypeId} (ho : L[o]? = some cs) (hb : K.boxes[o]? = some (some b))
    (hh : K.w.heap[b]? = some (.cells cur ty (0, 0))) (hcs : cs ≠ []) (hsz : new.size = cur.size)
    (hl : cs'.length ≤ new.size) (hr : ∀ K' : Kw, Ext K K' → ∀ j (hj : j < cs'.length), Rel K' cs'[j] (new[j]'(by omega)) ∧ (new[j]'(by omega)).oneCell' = true) :
    Ext K { K with w := K.w.setRow b new } ∧ Mem P B p0 { K with w := K.w.setRow b new } (L.set o cs') T := by
  have hbm : some b ∈ K.boxes := List.mem_of_getElem? hb
  have hBb := h.boxGe b hbm
  have hoth : ∀ k, k ≠ b → (K.w.setRow b new).heap[k]? = K.w.heap[k]? := fun k hk => setRow_other K.w b k _ hk
  have hsame : (K.w.setRow b new).heap[b]? = some (.cells new ty (0, 0)) := setRow_heap K.w b cur _ ty (0, 0) hh
  have hsz' : (K.w.setRow b new).heap.size = K.w.heap.size := size_setRow K.w b _
  have he : Ext K { K with w := K.w.setRow b new } := ⟨fun b' o' hp => ⟨hp, World.cell?_of_block (w := K.w) (by
    by_cases e : b' = b
    · subst e; exact absurd hp (h.boxFree o b' cs hb ho hcs o')
    · exact hoth b' e)⟩, fun _ _ h => h, fun _ u m _ hk => ⟨u, m, hk, Nat.le_refl _, fun _ => rfl⟩, fun b' s hs => shape_setRow hh hsz b' s hs⟩
  replace hr := hr _ he
  refine ⟨he, ⟨h.below.trans ⟨rfl, rfl, rfl, by show K.w.heap.size ≤ (K.w.setRow b new).heap.size; omega, fun k hk => hoth k (by omega)⟩, h.old, fun b o hp => by show b < (K.w.setRow _ new).heap.size; have := h.there b o hp; omega, ⟨by simp [h.boxes.1], fun o' cs2 ho' => ?_⟩, h.boxGe, fun o' b' cs2 hb' hc' hne o2 hpo => ?_, h.boxNd, h.toks,
    fun k v n e hk => ?_, h.tokNe, h.tokBox, h.keeps.step he, h.tabs⟩⟩
  · have hol : o < L.length := (List.getElem?_eq_some_iff.1 ho).1
    by_cases e1 : o = o'
    · subst e1
      rw [List.getElem?_set_self hol] at ho'
      cases ho'
      exact .inr (.inl ⟨b, _, ty, hb, hsame, hl, hr⟩)
    · rw [List.getElem?_set_ne e1] at ho'
      rcases h.boxes.2 o' cs2 ho' with ⟨hb', hc'⟩ | ⟨b', cur', ty', hb', hh', hs', r⟩ | ⟨b', hb', hm⟩
      · exact .inl ⟨hb', hc'⟩
      · have hne : b' ≠ b := fun e2 => by
          subst e2
          exact e1 (h.boxNd o o' b' hb hb')
        exact .inr (.inl ⟨b', cur', ty', hb', by show (K.w.setRow b new).heap[b']? = _; rw [hoth b' hne]; exact hh', hs', fun j hj => ⟨(r j hj).1.ext he, (r j hj).2⟩⟩)
      · have hne : b' ≠ b := fun e2 => by
          subst e2
          exact e1 (h.boxNd o o' b' hb hb')
        exact .inr (.inr ⟨b', hb', hm.keep he (hoth b' hne)⟩)
  · by_cases e1 : o = o'
    · subst e1
      have e2 : b' = b := by rw [hb] at hb'; cases hb'; rfl
      subst e2
      exact h.boxFree o b' cs hb ho hcs o2 hpo
    · rw [List.getElem?_set_ne e1] at hc'
      exact h.boxFree o' b' cs2 hb' hc' hne o2 hpo
  · rcases h.tokAt k v n e hk with hnil | ⟨g, cap, cur1, i, rfl, hc0, hg, hh1, hi, hn, hc, hs, hp⟩
    · exact .inl hnil
    have hne : g ≠ b := fun e2 => h.tokBox k _ g hk (ownB_pos hc0) (e2 ▸ hbm)
    exact .inr ⟨g, cap, cur1, i, rfl, hc0, hg, by show (K.w.setRow b new).heap[g]? = _; rw [hoth g hne]; exact hh1, hi, hn, hc, hs, hp⟩
theorem MapAt.noCell {K : Kw} {b : Nat} {cs : List V} (h : MapAt K b cs) (o : Nat) : K.w.cell? ⟨b, o, none⟩ = none := by
  unfold World.cell?
  rcases h with ⟨es, ck, h1, h2⟩ | ⟨m, s, sn, la, h1, h2⟩ | ⟨r, h1, h2⟩ <;> simp [h1]
theorem Mem.setObj (h : Mem P B p0 K L T) {o b : Nat} {cs cs' : List V} {obj : Obj} (ho : L[o]? = some cs) (hb : K.boxes[o]? = some (some b)) (hm : MapAt K b cs) (hne0 : cs ≠ [])
    (hsh : ∀ s, K.w.shp b = some s → ∃ r, s = (none, 1) ∧ obj = .loop r) (hm' : ∀ K' : Kw, Ext K K' → K'.w.heap[b]? = some obj → MapAt K' b cs') :
    let w' := ChangeMaps.setBlock K.w b obj
    Ext K { K with w := w' } ∧ Mem P B p0 { K with w := w' } (L.set o cs') T := by
  intro w'
  have hbm : some b ∈ K.boxes := List.mem_of_getElem? hb
  have hBb := h.boxGe b hbm
  have hlt := hm.lt
  have hoth : ∀ k, k ≠ b → w'.heap[k]? = K.w.heap[k]? := fun k hk => by simp [w', ChangeMaps.setBlock, Ne.symm hk]
  have hsame : w'.heap[b]? = some obj := by simp [w', ChangeMaps.setBlock, hlt]
  have hsz : w'.heap.size = K.w.heap.size := by simp [w', ChangeMaps.setBlock]
  have hnew0 : ∀ K' : Kw, K'.w = w' → Ext K K' → MapAt K' b cs' := fun K' e he => hm' K' he (by rw [e]; exact hsame)
  have he : Ext K { K with w := w' } := by
    refine ⟨fun b' o' hp => ⟨hp, ?_⟩, fun _ _ h => h, fun _ u m _ hk => ⟨u, m, hk, Nat.le_refl _, fun _ => rfl⟩, fun b' s hs => ?_⟩
    · by_cases e : b' = b
      · subst e
        exact absurd hp (h.boxFree o b' cs hb ho hne0 o')
      · exact World.cell?_of_block (w := K.w) (hoth b' e)
    · by_cases e : b' = b
      · subst e
        obtain ⟨r, rfl, rfl⟩ := hsh s hs
        unfold World.shp
        rw [show ({ K with w := w' } : Kw).w.heap[b']? = _ from hsame]
      · exact (shape_of_heap (hoth b' e)).trans hs
  have hnew := hnew0 { K with w := w' } rfl he
  refine ⟨he, ⟨h.below.trans ⟨rfl, rfl, rfl, by show K.w.heap.size ≤ w'.heap.size; omega, fun k hk => hoth k (by omega)⟩, h.old, fun b o hp => by show b < w'.heap.size; have := h.there b o hp; omega, ⟨by simp [h.boxes.1], fun o' cs2 ho' => ?_⟩, h.boxGe, fun o' b' cs2 hb' hc' hne o2 hpo => ?_, h.boxNd, h.toks,
    fun k v n e hk => ?_, h.tokNe, h.tokBox, h.keeps.step he, h.tabs⟩⟩
  · have hol : o < L.length := (List.getElem?_eq_some_iff.1 ho).1
    by_cases e1 : o = o'
    · subst e1
      rw [List.getElem?_set_self hol] at ho'
      cases ho'
      exact .inr (.inr ⟨b, hb, hnew⟩)
    · rw [List.getElem?_set_ne e1] at ho'
      rcases h.boxes.2 o' cs2 ho' with ⟨hb', hc'⟩ | ⟨b', cur', ty', hb', hh', hs', r⟩ | ⟨b', hb', hm2⟩
      · exact .inl ⟨hb', hc'⟩
      · have hne : b' ≠ b := fun e2 => by
          subst e2
          exact e1 (h.boxNd o o' b' hb hb')
        exact .inr (.inl ⟨b', cur', ty', hb', by show w'.heap[b']? = _; rw [hoth b' hne]; exact hh', hs', fun j hj => ⟨(r j hj).1.ext he, (r j hj).2⟩⟩)
      · have hne : b' ≠ b := fun e2 => by
          subst e2
          exact e1 (h.boxNd o o' b' hb hb')
        exact .inr (.inr ⟨b', hb', hm2.keep he (hoth b' hne)⟩)
  · by_cases e1 : o = o'
    · subst e1
      have e2 : b' = b := by rw [hb] at hb'; cases hb'; rfl
      subst e2
      exact h.boxFree o b' cs hb ho hne0 o2 hpo
    · rw [List.getElem?_set_ne e1] at hc'
      exact h.boxFree o' b' cs2 hb' hc' hne o2 hpo
  · rcases h.tokAt k v n e hk with hnil | ⟨g, cap, cur1, i, rfl, hc0, hg, hh1, hi, hn, hc, hs, hp⟩
    · exact .inl hnil
    have hne : g ≠ b := fun e2 => h.tokBox k _ g hk (ownB_pos hc0) (e2 ▸ hbm)
    exact .inr ⟨g, cap, cur1, i, rfl, hc0, hg, by show w'.heap[g]? = _; rw [hoth g hne]; exact hh1, hi, hn, hc, hs, hp⟩
theorem Mem.setMap (h : Mem P B p0 K L T) {o b : Nat} {cs cs' : List V} {obj : Obj} (ho : L[o]? = some cs) (hb : K.boxes[o]? = some (some b)) (hm : MapAt K b cs) (hne0 : cs ≠ [])
    (hnl : cs ≠ [.any] ∧ ∀ r, cs ≠ [.loopc r]) (hm' : ∀ K' : Kw, Ext K K' → K'.w.heap[b]? = some obj → MapAt K' b cs') :
    let w' := ChangeMaps.setBlock K.w b obj
    Ext K { K with w := w' } ∧ Mem P B p0 { K with w := w' } (L.set o cs') T :=
  h.setObj ho hb hm hne0 (fun s hs => by
    unfold World.shp at hs
    rcases hm with ⟨es, ck, h1, h2⟩ | ⟨m, s, sn, la, h1, h2⟩ | ⟨r, h1, (h2 | h2) | h2⟩
    · rw [h1] at hs; cases hs
    · rw [h1] at hs; cases hs
    · exact absurd h2 hne0
    · exact absurd h2 hnl.1
    · exact absurd h2 (hnl.2 r)) hm'
theorem Mem.shut (h : Mem P B p0 K L T) {b : Nat} (hs : K.w.shp b = some (none, 0)) (hB : B.heap.size ≤ b) (h0 : p0.k0.w.shp b = none) :
    Ext0 K { K with w := ChangeMaps.setBlock K.w b (.deferred none) } ∧ Mem P B p0 { K with w := ChangeMaps.setBlock K.w b (.deferred none) } L T := by
  have hh : K.w.heap[b]? = some (.deferred (some [])) := by
    unfold World.shp at hs
    split at hs <;> first | (rename_i h1; exact h1) | (simp at hs; done) | cases hs
  have hlt : b < K.w.heap.size := (Array.getElem?_eq_some_iff.1 hh).1
  have hoth : ∀ k, k ≠ b → (ChangeMaps.setBlock K.w b (.deferred none)).heap[k]? = K.w.heap[k]? := fun k hk => by simp [ChangeMaps.setBlock, Ne.symm hk]
  have hsz : (ChangeMaps.setBlock K.w b (.deferred none)).heap.size = K.w.heap.size := by simp [ChangeMaps.setBlock]
  have hsame : (ChangeMaps.setBlock K.w b (.deferred none)).heap[b]? = some (.deferred none) := by simp [ChangeMaps.setBlock, hlt]
  have hcell : ∀ b' o, (ChangeMaps.setBlock K.w b (.deferred none)).cell? ⟨b', o, none⟩ = K.w.cell? ⟨b', o, none⟩ := fun b' o => by
    by_cases e : b' = b
    · subst e; unfold World.cell?; simp [hsame, hh]
    · exact World.cell?_of_block (w := K.w) (hoth b' e)
  have hshp : ∀ b' s, b' ≠ b → K.w.shp b' = some s → (ChangeMaps.setBlock K.w b (.deferred none)).shp b' = some s := fun b' s e hs => (shape_of_heap (hoth b' e)).trans hs
  have he : Ext0 K { K with w := ChangeMaps.setBlock K.w b (.deferred none) } := ⟨fun b' o hp => ⟨hp, hcell b' o⟩, fun _ _ h => h, fun _ u m _ hk => ⟨u, m, hk, Nat.le_refl _, fun _ => rfl⟩, fun b' e n hs' => hshp b' _ (fun e => by subst e; rw [hs] at hs'; cases hs') hs'⟩
  have hnb : some b ∉ K.boxes := fun hb => by
    obtain ⟨o, ho⟩ := List.mem_iff_getElem?.1 hb
    have hlt : o < L.length := by rw [← h.boxes.1]; exact (List.getElem?_eq_some_iff.1 ho).1
    rcases h.boxes.2 o L[o] (List.getElem?_eq_getElem hlt) with ⟨hb', _⟩ | ⟨b', cur, ty, hb', hh', _⟩ | ⟨b', hb', hm⟩
    · rw [ho] at hb'; cases hb'
    · rw [ho] at hb'; cases hb'; rw [hh] at hh'; cases hh'
    · rw [ho] at hb'
      cases hb'
      rcases hm with ⟨es, ck, h1, h2⟩ | ⟨m, s, sn, la, h1, h2⟩ | ⟨r, h1, h2⟩ <;> (rw [hh] at h1; cases h1)
  refine ⟨he, ⟨h.below.trans ⟨rfl, rfl, rfl, by show K.w.heap.size ≤ (ChangeMaps.setBlock K.w b (.deferred none)).heap.size; omega, fun k hk => hoth k (by omega)⟩, h.old, fun b' o hp => by show b' < (ChangeMaps.setBlock K.w b (.deferred none)).heap.size; have := h.there b' o hp; omega,
    h.boxes.keep0 he rfl (fun b' hb' => hoth b' fun e => hnb (e ▸ hb')), h.boxGe, h.boxFree, h.boxNd, h.toks, fun k v n e hk => ?_, h.tokNe, h.tokBox, ?_, h.tabs⟩⟩
  · rcases h.tokAt k v n e hk with hnil | ⟨g, cap, cur1, i, rfl, hc0, hg, hh1, hi, hn, hc, hs, hp⟩
    · exact .inl hnil
    have hne : g ≠ b := fun e2 => by subst e2; rw [hh] at hh1; cases hh1
    exact .inr ⟨g, cap, cur1, i, rfl, hc0, hg, by show (ChangeMaps.setBlock K.w b (.deferred none)).heap[g]? = _; rw [hoth g hne]; exact hh1, hi, hn, hc, hs, hp⟩
  · obtain ⟨k0, k1, k2, k3⟩ := h.keeps
    refine ⟨fun b' s hs' => hshp b' s (fun e => by subst e; rw [h0] at hs'; cases hs') (k0 b' s hs'), fun b' o hp => ?_, k2, k3⟩
    obtain ⟨p1, c1⟩ := k1 b' o hp
    exact ⟨p1, (hcell b' o).trans c1⟩
theorem Mem.drew (h : Mem P B p0 K L T) : Ext K { K with w := K.w.drew } ∧ Mem P B p0 { K with w := K.w.drew } L T := by
  have he : Ext K { K with w := K.w.drew } := ⟨fun b o hp => ⟨hp, rfl⟩, fun _ _ h => h, fun _ u m _ h => ⟨u, m, h, Nat.le_refl _, fun _ => rfl⟩, fun _ _ h => h⟩
  exact ⟨he, ⟨h.below.drew, h.old, h.there, h.boxes.keep he rfl fun _ _ => rfl, h.boxGe, h.boxFree, h.boxNd, h.toks, h.tokAt, h.tokNe, h.tokBox, h.keeps.step he, h.tabs⟩⟩
theorem Mem.freeze (h : Mem P B p0 K L T) {o b : Nat} {cs : List V} (ho : L[o]? = some cs) (hb : K.boxes[o]? = some (some b)) :
    Ext K { K with prot := fun b' o' => K.prot b' o' ∨ (b' = b ∧ o' < cs.length) } ∧ Mem P B p0 { K with prot := fun b' o' => K.prot b' o' ∨ (b' = b ∧ o' < cs.length) } (L.set o []) T := by
  have hbm : some b ∈ K.boxes := List.mem_of_getElem? hb
  have he : Ext K { K with prot := fun b' o' => K.prot b' o' ∨ (b' = b ∧ o' < cs.length) } := ⟨fun b' o' hp => ⟨.inl hp, rfl⟩, fun _ _ h => h, fun _ u m _ hk => ⟨u, m, hk, Nat.le_refl _, fun _ => rfl⟩, fun _ _ h => h⟩
  have hol : o < L.length := (List.getElem?_eq_some_iff.1 ho).1
  refine ⟨he, ⟨h.below, fun b' o' hlt => ?_, fun b' o' hp => ?_, ⟨by simp [h.boxes.1], fun o' cs' ho' => ?_⟩, h.boxGe, fun o' b' cs' hb' hc' hne o2 hpo => ?_, h.boxNd, h.toks, fun k v n e hk => ?_, h.tokNe, h.tokBox, h.keeps.step he, h.tabs⟩⟩
  · rw [← h.old b' o' hlt]
    refine ⟨fun hp => hp.resolve_right fun ⟨e1, _⟩ => ?_, .inl⟩
    have := h.boxGe b hbm
    omega
  · rcases hp with hp | ⟨rfl, _⟩
    · exact h.there b' o' hp
    · exact h.boxes.lt hbm
  · by_cases e1 : o = o'
    · subst e1
      rw [List.getElem?_set_self hol] at ho'
      cases ho'
      rcases h.boxes.2 o cs ho with ⟨hb', _⟩ | ⟨b', cur', ty', hb', hh', hs', r⟩ | ⟨b', hb', hm⟩
      · rw [hb] at hb'; cases hb'
      · exact .inr (.inl ⟨b', cur', ty', hb', hh', by simp, fun j hj => absurd hj (by simp)⟩)
      · exact .inr (.inr ⟨b', hb', (hm.keep he rfl).gone⟩)
    · rw [List.getElem?_set_ne e1] at ho'
      rcases h.boxes.2 o' cs' ho' with ⟨hb', hc'⟩ | ⟨b', cur', ty', hb', hh', hs', r⟩ | ⟨b', hb', hm⟩
      · exact .inl ⟨hb', hc'⟩
      · exact .inr (.inl ⟨b', cur', ty', hb', hh', hs', fun j hj => ⟨(r j hj).1.ext he, (r j hj).2⟩⟩)
      · exact .inr (.inr ⟨b', hb', hm.keep he rfl⟩)
  · by_cases e1 : o = o'
    · subst e1
      rw [List.getElem?_set_self hol] at hc'
      cases hc'
      exact hne rfl
    · rw [List.getElem?_set_ne e1] at hc'
      rcases hpo with hpo | ⟨rfl, _⟩
      · exact h.boxFree o' b' cs' hb' hc' hne o2 hpo
      · exact e1 (h.boxNd o o' b' hb hb')
  · rcases h.tokAt k v n e hk with hnil | ⟨g, cap, cur1, i, rfl, hc0, hg, hh1, hi, hn, hc, hs, hp⟩
    · exact .inl hnil
    refine .inr ⟨g, cap, cur1, i, rfl, hc0, hg, hh1, hi, hn, hc, hs, fun o1 ho1 hpo => ?_⟩
    rcases hpo with hpo | ⟨rfl, _⟩
    · exact hp o1 ho1 hpo
    · exact h.tokBox k _ g hk (ownB_pos hc0) hbm
theorem Mem.rebase (h : Mem P B p0 K L T) {p1 : Bs} (hp : p1.p = p0.p) (hk : Keeps p1.nb p1.nt p1.k0 K) : Mem P B p1 K L T :=
  ⟨h.below, by rw [hp]; exact h.old, h.there, h.boxes, h.boxGe, h.boxFree, h.boxNd, h.toks, h.tokAt, h.tokNe, h.tokBox, hk, h.tabs⟩
theorem Mem.tabsK (h : Mem P B p0 K L T) : Tabs P K.w := h.tabs.below h.below
end
end Go.Proofs.YtckmcglkjfkghaaDoor.Aw
