import Derived.Test.YtpncnionnfomeaaDiskC
namespace Go.Proofs.Ytpncnionnfomeaa.DiskD
open Go Go.Proofs.Ytpncnionnfomeaa.Aw Go.Proofs.Ytpncnionnfomeaa.DiskM Go.Proofs.Ytpncnionnfomeaa.DiskA Go.Proofs.Ytpncnionnfomeaa.DiskC
set_option linter.unusedVariables false
set_option linter.unusedSimpArgs false
theorem set_nodup {α : Type} {g : α → List Nat} : ∀ (l : List α) (f : Nat) (x : α), (l.flatMap g).Nodup → (g x).Nodup → (∀ i ∈ g x, i ∉ l.flatMap g) → ((l.set f x).flatMap g).Nodup ∧ ∀ i ∈ (l.set f x).flatMap g, i ∈ g x ∨ i ∈ l.flatMap g
  | [], f, x, _, _, _ => by simp
  | a :: r, 0, x, h, hx, hd => by
    simp only [List.flatMap_cons, List.nodup_append] at h
    simp only [List.set_cons_zero, List.flatMap_cons, List.nodup_append, List.mem_append]
    refine ⟨⟨hx, h.2.1, fun i hi j hj e => ?_⟩, fun i hi => hi.imp id .inr⟩
    subst e
    exact hd i hi (by simp only [List.flatMap_cons, List.mem_append]; exact .inr hj)
  | a :: r, f + 1, x, h, hx, hd => by
    simp only [List.flatMap_cons, List.nodup_append] at h
    have hd' : ∀ i ∈ g x, i ∉ r.flatMap g := fun i hi hr => hd i hi (by simp only [List.flatMap_cons, List.mem_append]; exact .inr hr)
    obtain ⟨ih1, ih2⟩ := set_nodup r f x h.2.1 hx hd'
    simp only [List.set_cons_succ, List.flatMap_cons, List.nodup_append, List.mem_append]
    refine ⟨⟨h.1, ih1, fun i hi j hj e => ?_⟩, fun i hi => ?_⟩
    · subst e
      rcases ih2 i hj with hj | hj
      · exact hd i hj (by simp only [List.flatMap_cons, List.mem_append]; exact .inl hi)
      · exact h.2.2 i hi i hj rfl
    · rcases hi with hi | hi
      · exact .inr (.inl hi)
      · exact (ih2 i hi).imp id .inr
structure FilesAt (u8 : TypeId) (n : Nat) (S : Nat → Prop) (L : LL) (fs : List Fl) (files : List (List UInt8 × Nat)) : Prop where
  len : fs.length = files.length
  file : ∀ (f : Nat) (x : Fl) (y : List UInt8 × Nat), fs[f]? = some x → files[f]? = some y → FileAt u8 L x y
  own : ∀ i ∈ fs.flatMap cellsOf, n ≤ i ∧ ¬ S i
  nodup : (fs.flatMap cellsOf).Nodup
variable {u8 : TypeId} {n : Nat} {S : Nat → Prop} {L L' : LL} {fs : List Fl} {files : List (List UInt8 × Nat)}
theorem FileAt.lt {x : Fl} {y : List UInt8 × Nat} (h : FileAt u8 L x y) : ∀ i ∈ cellsOf x, i < L.length := by
  obtain ⟨h1, h2⟩ := h
  intro i hi
  simp only [cellsOf, List.mem_cons, Option.mem_toList] at hi
  rcases hi with rfl | hi
  · exact lt_at h1
  · unfold RowAt at h2
    split at h2
    · rename_i ho; simp [ho] at hi
    · rename_i ob ho
      obtain ⟨cs, h3, _⟩ := h2
      rw [ho] at hi
      cases hi
      exact lt_at h3
theorem FileAt.same {x : Fl} {y : List UInt8 × Nat} (h : FileAt u8 L x y) (hk : ∀ i ∈ cellsOf x, L'[i]? = L[i]?) : FileAt u8 L' x y := by
  obtain ⟨h1, h2⟩ := h
  refine ⟨by rw [hk x.1 (by simp [cellsOf])]; exact h1, ?_⟩
  unfold RowAt at h2 ⊢
  split
  · rename_i ho; rw [ho] at h2; exact h2
  · rename_i ob ho
    rw [ho] at h2
    rw [hk ob (by simp [cellsOf, ho])]
    exact h2
theorem FilesAt.lt (h : FilesAt u8 n S L fs files) : ∀ i ∈ fs.flatMap cellsOf, i < L.length := by
  intro i hi
  obtain ⟨x, hx, hi⟩ := List.mem_flatMap.1 hi
  obtain ⟨f, hf⟩ := List.mem_iff_getElem?.1 hx
  have hlt : f < files.length := by rw [← h.len]; exact (List.getElem?_eq_some_iff.1 hf).1
  exact FileAt.lt (h.file f x _ hf (List.getElem?_eq_getElem hlt)) i hi
theorem FilesAt.same (h : FilesAt u8 n S L fs files) (hk : ∀ i ∈ fs.flatMap cellsOf, L'[i]? = L[i]?) : FilesAt u8 n S L' fs files :=
  ⟨h.len, fun f x y hx hy => FileAt.same (h.file f x y hx hy) fun i hi => hk i (List.mem_flatMap.2 ⟨x, List.mem_of_getElem? hx, hi⟩), h.own, h.nodup⟩
theorem FilesAt.step (h : FilesAt u8 n S L fs files) {T T' : TT} {S0 R0 S1 R1 : Nat → Prop} (g : Step S0 R0 L T S1 R1 L' T') (hS : ∀ i, S0 i → S i ∨ i < n) : FilesAt u8 n S L' fs files :=
  h.same fun i hi => g.keep i (h.lt i hi) fun hs => (hS i hs).elim (h.own i hi).2 fun hl => by have := (h.own i hi).1; omega
theorem FilesAt.less (h : FilesAt u8 n S L fs files) {S' : Nat → Prop} (hS : ∀ i, S' i → S i ∨ L.length ≤ i) : FilesAt u8 n S' L fs files :=
  ⟨h.len, h.file, fun i hi => ⟨(h.own i hi).1, fun hs => (hS i hs).elim (h.own i hi).2 fun hl => by have := h.lt i hi; omega⟩, h.nodup⟩
theorem FilesAt.put (h : FilesAt u8 n S L fs files) {f : Nat} {x : Fl} {y : List UInt8 × Nat} (hy : files[f]? = some y) (hx : FileAt u8 L x y) (hn : (cellsOf x).Nodup) (hf : ∀ i ∈ cellsOf x, n ≤ i ∧ ¬ S i) (hd : ∀ i ∈ cellsOf x, i ∉ fs.flatMap cellsOf) : FilesAt u8 n S L (fs.set f x) files := by
  obtain ⟨k1, k2⟩ := set_nodup fs f x h.nodup hn hd
  refine ⟨by rw [List.length_set]; exact h.len, fun f' x' y' hx' hy' => ?_, fun i hi => (k2 i hi).elim (hf i) (h.own i), k1⟩
  by_cases e : f = f'
  · subst e
    rw [hy] at hy'; cases hy'
    have hlt : f < fs.length := by rw [h.len]; exact (List.getElem?_eq_some_iff.1 hy).1
    rw [List.getElem?_set_self hlt] at hx'
    cases hx'
    exact hx
  · rw [List.getElem?_set_ne e] at hx'
    exact h.file f' x' y' hx' hy'
def gh (u8 : TypeId) : List (List UInt8 × Nat) → Nat → LL × List Fl
  | [], _ => ([], [])
  | y :: r, n => ([.vrow u8 1 (n + 1) y.1.length, .int .i64 (y.2 : Int)] :: (y.1.map byteV ++ [.any]) :: (gh u8 r (n + 2)).1, (n, some (n + 1)) :: (gh u8 r (n + 2)).2)
theorem gh_ok : ∀ (files : List (List UInt8 × Nat)) (L : LL), FilesAt u8 L.length (fun _ => False) (L ++ (gh u8 files L.length).1) (gh u8 files L.length).2 files
  | [], L => ⟨rfl, fun f x y hx => by simp [gh] at hx, fun i hi => by simp [gh] at hi, by simp [gh]⟩
  | y :: r, L => by
    have hl : (L ++ [[V.vrow u8 1 (L.length + 1) y.1.length, V.int .i64 (y.2 : Int)], y.1.map byteV ++ [.any]]).length = L.length + 2 := by simp
    have ih := gh_ok r (L ++ [[V.vrow u8 1 (L.length + 1) y.1.length, V.int .i64 (y.2 : Int)], y.1.map byteV ++ [.any]])
    rw [hl, List.append_assoc] at ih
    obtain ⟨i1, i2, i3, i4⟩ := ih
    refine ⟨by simp [gh, i1], fun f x y' hx hy => ?_, fun i hi => ?_, ?_⟩
    · cases f with
      | zero =>
        simp only [gh, List.getElem?_cons_zero, Option.some.injEq] at hx hy
        subst hx hy
        refine ⟨?_, y.1.map byteV ++ [.any], ?_, by simp, by simp⟩
        · simp [gh, bytesV]
        · simp [gh]
      | succ f =>
        simp only [gh, List.getElem?_cons_succ] at hx hy
        exact i2 f x y' hx hy
    · simp only [gh, List.flatMap_cons, List.mem_append, cellsOf, Option.toList_some, List.mem_cons, List.not_mem_nil, or_false] at hi
      rcases hi with (rfl | rfl) | hi
      · exact ⟨Nat.le_refl _, fun h => h⟩
      · exact ⟨by omega, fun h => h⟩
      · have := (i3 i hi).1; exact ⟨by omega, fun h => h⟩
    · simp only [gh, List.flatMap_cons, List.nodup_append]
      refine ⟨by simp [cellsOf], i4, fun i hi j hj e => ?_⟩
      subst e
      have := (i3 i hj).1
      simp only [cellsOf, Option.toList_some, List.mem_cons, List.not_mem_nil, or_false] at hi
      rcases hi with rfl | rfl <;> omega
def NFn (fs : List Fl) (l : List (MKey × Nat × V)) (φ : Name → Option Nat) : Prop := (l.map (·.1)).Nodup ∧ (∀ k ∈ l.map (·.1), ∃ n, k = .str n) ∧ ∀ n, mfind l (.str n) = (φ n).map (locV fs)
theorem NFn.names {l : List (MKey × Nat × V)} {φ : Name → Option Nat} {m : Names} (h : NFn fs l φ) (e : ∀ n, φ n = nfind m n) : NMap fs l m := ⟨h.1, h.2.1, fun n => by rw [h.2.2, e]⟩
theorem NFn.nil (fs : List Fl) : NFn fs [] fun _ => none := ⟨by simp, by simp, fun n => rfl⟩
theorem locV_set {f f' : Nat} {x : Fl} (h : f ≠ f') : locV (fs.set f x) f' = locV fs f' := by
  unfold locV
  rw [List.getD_eq_getElem?_getD, List.getD_eq_getElem?_getD, List.getElem?_set_ne h]
theorem locV_put {f : Nat} {x : Fl} (h : f < fs.length) : locV (fs.set f x) f = .box x.1 0 := by
  unfold locV
  rw [List.getD_eq_getElem?_getD, List.getElem?_set_self h]
  rfl
theorem NFn.put {l : List (MKey × Nat × V)} {φ : Name → Option Nat} (h : NFn fs l φ) (ck : Nat) (n : Name) {f : Nat} {x : Fl} (hlt : f < fs.length) (hf : ∀ n', φ n' ≠ some f) : NFn (fs.set f x) (mput ck l (.str n) (.box x.1 0)) fun n' => if n' = n then some f else φ n' := by
  obtain ⟨h1, h2, h3⟩ := h
  refine ⟨mput_nodup h1, fun k hk => ?_, fun n' => ?_⟩
  · rcases mput_keys hk with rfl | hk
    · exact ⟨n, rfl⟩
    · exact h2 k hk
  · rw [mfind_put, h3]
    by_cases e : n' = n
    · simp [e, locV_put hlt]
    · rw [if_neg (fun e' => e (by cases e'; rfl))]
      simp only [if_neg e]
      cases hp : φ n' with
      | none => rfl
      | some f' => simp [locV_set (fun e' => hf n' (by rw [hp, e']) : f ≠ f')]
theorem chgV_set {f : Nat} {x : Fl} {c : Chg} (h : made c ≠ some f) : chgV (fs.set f x) c = chgV fs c := by
  unfold chgV madeV
  by_cases hc : c.frm = []
  · rw [if_pos hc, if_pos hc, locV_set (fun e => h (by simp [made, hc, e]))]
  · rw [if_neg hc, if_neg hc]
theorem mstamp_mem {l : List (MKey × Nat × V)} (hn : (l.map (·.2.1)).Nodup) {e : MKey × Nat × V} (h : e ∈ l) : mstamp l e.2.1 = some e := by
  induction l with
  | nil => cases h
  | cons x r ih =>
    simp only [List.map_cons, List.nodup_cons] at hn
    unfold mstamp
    rcases List.mem_cons.1 h with rfl | h
    · simp
    · have hne : x.2.1 ≠ e.2.1 := fun e' => hn.1 (by rw [e']; exact List.mem_map.2 ⟨e, h, rfl⟩)
      have : (x.2.1 == e.2.1) = false := by simpa using hne
      rw [this]
      exact ih hn.2 h
theorem mfind_mem {l : List (MKey × Nat × V)} (hn : (l.map (·.1)).Nodup) {e : MKey × Nat × V} (h : e ∈ l) : mfind l e.1 = some e.2.2 := by
  induction l with
  | nil => cases h
  | cons x r ih =>
    simp only [List.map_cons, List.nodup_cons] at hn
    unfold mfind
    rcases List.mem_cons.1 h with rfl | h
    · simp
    · have hne : x.1 ≠ e.1 := fun e' => hn.1 (by rw [e']; exact List.mem_map.2 ⟨e, h, rfl⟩)
      rw [decide_eq_false hne, ih hn.2 h]
      rfl
theorem mem_of_mfind {l : List (MKey × Nat × V)} {k : MKey} {v : V} (h : mfind l k = some v) : ∃ e ∈ l, e.1 = k ∧ e.2.2 = v := by
  induction l with
  | nil => cases h
  | cons x r ih =>
    unfold mfind at h
    by_cases he : x.1 = k
    · rw [decide_eq_true he] at h; cases h; exact ⟨x, by simp, he, rfl⟩
    · rw [decide_eq_false he] at h; obtain ⟨e, h1, h2⟩ := ih h; exact ⟨e, List.mem_cons_of_mem _ h1, h2⟩
theorem key_inj {l : List (MKey × Nat × V)} (hn : (l.map (·.1)).Nodup) {e e' : MKey × Nat × V} (h : e ∈ l) (h' : e' ∈ l) (he : e.1 = e'.1) : e = e' := by
  induction l with
  | nil => cases h
  | cons x r ih =>
    simp only [List.map_cons, List.nodup_cons] at hn
    rcases List.mem_cons.1 h with g | g <;> rcases List.mem_cons.1 h' with g' | g'
    · rw [g, g']
    · subst g; exact absurd (List.mem_map.2 ⟨e', g', he.symm⟩) hn.1
    · subst g'; exact absurd (List.mem_map.2 ⟨e, g, he⟩) hn.1
    · exact ih hn.2 g g'
theorem stamp_inj {l : List (MKey × Nat × V)} (hn : (l.map (·.2.1)).Nodup) {e e' : MKey × Nat × V} (h : e ∈ l) (h' : e' ∈ l) (he : e.2.1 = e'.2.1) : e = e' := by
  induction l with
  | nil => cases h
  | cons x r ih =>
    simp only [List.map_cons, List.nodup_cons] at hn
    rcases List.mem_cons.1 h with g | g <;> rcases List.mem_cons.1 h' with g' | g'
    · rw [g, g']
    · subst g; exact absurd (List.mem_map.2 ⟨e', g', he.symm⟩) hn.1
    · subst g'; exact absurd (List.mem_map.2 ⟨e, g, he⟩) hn.1
    · exact ih hn.2 g g'
def seenN (m : Names) (l : List (MKey × Nat × V)) (seen : List Nat) (n : Name) : Option Nat := open Classical in if ∃ e ∈ l, e.1 = .str n ∧ e.2.1 ∈ seen then nfind m n else none
theorem seenN_nil (m : Names) (l : List (MKey × Nat × V)) : seenN m l [] = fun _ => none := by funext n; simp [seenN]
theorem seenN_all {fs : List Fl} {m : Names} {l : List (MKey × Nat × V)} {seen : List Nat} (h : NMap fs l m) (hs : ∀ e ∈ l, e.2.1 ∈ seen) (n : Name) : seenN m l seen n = nfind m n := by
  unfold seenN
  split
  · rfl
  · rename_i hc
    cases hf : nfind m n with
    | none => rfl
    | some f =>
      have h3 := h.2.2 n
      rw [hf] at h3
      obtain ⟨e, h1, h2, _⟩ := mem_of_mfind h3
      exact absurd ⟨e, h1, h2, hs e h1⟩ hc
theorem seenN_put {m : Names} {l : List (MKey × Nat × V)} {seen : List Nat} (hst : (l.map (·.2.1)).Nodup) (hk : (l.map (·.1)).Nodup) {e : MKey × Nat × V} (he : e ∈ l) {n : Name} (hn : e.1 = .str n) {f : Nat} (hf : nfind m n = some f) :
    seenN m l (seen ++ [e.2.1]) = fun n' => if n' = n then some f else seenN m l seen n' := by
  funext n'
  unfold seenN
  by_cases e0 : n' = n
  · subst e0
    rw [if_pos ⟨e, he, hn, by simp⟩, if_pos rfl, hf]
  · rw [if_neg e0]
    have : (∃ e' ∈ l, e'.1 = MKey.str n' ∧ e'.2.1 ∈ seen ++ [e.2.1]) ↔ ∃ e' ∈ l, e'.1 = MKey.str n' ∧ e'.2.1 ∈ seen := by
      constructor
      · rintro ⟨e', h1, h2, h3⟩
        refine ⟨e', h1, h2, ?_⟩
        rcases List.mem_append.1 h3 with h3 | h3
        · exact h3
        · have := stamp_inj hst h1 he (by simpa using h3)
          subst this
          rw [hn] at h2
          cases h2
          exact absurd rfl e0
      · rintro ⟨e', h1, h2, h3⟩
        exact ⟨e', h1, h2, List.mem_append_left _ h3⟩
    simp only [this]
theorem seenN_other {m : Names} {l : List (MKey × Nat × V)} {seen : List Nat} (hm : (m.map (·.2)).Nodup) (hst : (l.map (·.2.1)).Nodup) {e : MKey × Nat × V} (he : e ∈ l) (hs : e.2.1 ∉ seen) (hk : (l.map (·.1)).Nodup) {n : Name} (hn : e.1 = .str n) {f : Nat} (hf : nfind m n = some f) (n' : Name) : seenN m l seen n' ≠ some f := by
  unfold seenN
  split
  · rename_i hc
    obtain ⟨e', h1, h2, h3⟩ := hc
    intro h
    have : n' = n := by
      have m1 := nfind_mem h
      have m2 := nfind_mem hf
      have : ∀ (l : Names), (l.map (·.2)).Nodup → (n', f) ∈ l → (n, f) ∈ l → n' = n := by
        intro l
        induction l with
        | nil => intro _ h; cases h
        | cons x r ih =>
          intro hn h h'
          simp only [List.map_cons, List.nodup_cons] at hn
          rcases List.mem_cons.1 h with g | g <;> rcases List.mem_cons.1 h' with g' | g'
          · rw [← g] at g'; cases g'; rfl
          · subst g; exact absurd (List.mem_map.2 ⟨_, g', rfl⟩) hn.1
          · subst g'; exact absurd (List.mem_map.2 ⟨_, g, rfl⟩) hn.1
          · exact ih hn.2 g g'
      exact this m hm m1 m2
    subst this
    have := key_inj hk h1 he (by rw [h2, hn])
    subst this
    exact hs h3
  · exact fun h => by cases h
theorem row_keep {ob : Option Nat} {b : List UInt8} (h : RowAt L ob b) (hk : ∀ i, i < L.length → L'[i]? = L[i]?) : RowAt L' ob b := by
  unfold RowAt at h ⊢
  split at h
  · exact h
  · obtain ⟨cs, h1, h2⟩ := h
    exact ⟨cs, by rw [hk _ (lt_at h1)]; exact h1, h2⟩
theorem FilesAt.new (h : FilesAt u8 n S L fs files) (hk : ∀ i, i < L.length → L'[i]? = L[i]?) {f : Nat} {x : Fl} {y : List UInt8 × Nat} (hy : files[f]? = some y) (hx : L'[x.1]? = some [bytesV u8 x.2 y.1, .int .i64 (y.2 : Int)]) (hr : RowAt L' x.2 y.1)
    (hge : ∀ i ∈ cellsOf x, L.length ≤ i) (hnd : (cellsOf x).Nodup) (hn : n ≤ L.length) (hS : ∀ i, S i → i < L.length) : FilesAt u8 n S L' (fs.set f x) files :=
  (h.same fun i hi => hk i (h.lt i hi)).put hy ⟨hx, hr⟩ hnd (fun i hi => ⟨Nat.le_trans hn (hge i hi), fun hs => by have := hS i hs; have := hge i hi; omega⟩) fun i hi hm => by have := h.lt i hm; have := hge i hi; omega
theorem file_some {M : MD} {f : Nat} (h : f < M.files.length) : M.files[f]? = some (M.file f) := by
  unfold MD.file
  rw [List.getD_eq_getElem?_getD, List.getElem?_eq_getElem h]; rfl
theorem once_at {M : MD} (ok : M.Ok) {pre cs : List Chg} {c : Chg} (h : M.chs = pre ++ c :: cs) {f : Nat} (hc : made c = some f) : f < M.files.length ∧ (∀ n, nfind M.kept n ≠ some f) ∧ ∀ c' ∈ pre, made c' ≠ some f := by
  have h1 := ok.once
  unfold reach at h1
  rw [h, List.filterMap_append, List.filterMap_cons, hc] at h1
  simp only [List.nodup_append, List.nodup_cons, List.mem_append, List.mem_cons] at h1
  refine ⟨ok.lt f (List.mem_append_right _ (List.mem_filterMap.2 ⟨c, by rw [h]; simp, hc⟩)), fun n hn => ?_, fun c' hc' hm => ?_⟩
  · exact h1.2.2 f (List.mem_map.2 ⟨_, nfind_mem hn, rfl⟩) f (.inr (.inl rfl)) rfl
  · exact h1.2.1.2.2 f (List.mem_filterMap.2 ⟨c', hc', hm⟩) f (.inl rfl) rfl
theorem kept_once {M : MD} (ok : M.Ok) : (M.kept.map (·.2)).Nodup := by
  have h1 := ok.once
  unfold reach at h1
  exact (List.nodup_append.1 h1).1
theorem filter_le {α : Type} {p q : α → Bool} : ∀ {l : List α}, (∀ x ∈ l, q x = true → p x = true) → (l.filter q).length ≤ (l.filter p).length
  | [], _ => Nat.le_refl _
  | a :: r, h => by
    have ih := filter_le (l := r) (p := p) (q := q) fun x hx => h x (List.mem_cons_of_mem _ hx)
    rw [List.filter_cons, List.filter_cons]
    cases hq : q a with
    | true => rw [h a (by simp) hq]; simpa using ih
    | false =>
      cases hp : p a with
      | true => simp; omega
      | false => simpa using ih
theorem filter_lt {α : Type} {p q : α → Bool} : ∀ {l : List α}, (∀ x ∈ l, q x = true → p x = true) → ∀ {e : α}, e ∈ l → p e = true → q e = false → (l.filter q).length < (l.filter p).length
  | [], _, e, he, _, _ => by cases he
  | a :: r, h, e, he, hp, hq => by
    have hr := fun x hx => h x (List.mem_cons_of_mem a hx)
    rw [List.filter_cons, List.filter_cons]
    rcases List.mem_cons.1 he with rfl | he
    · rw [hp, hq]
      have := filter_le (l := r) (p := p) (q := q) hr
      simp; omega
    · have ih := filter_lt (l := r) hr he hp hq
      cases hq' : q a with
      | true => rw [h a (by simp) hq']; simpa using ih
      | false =>
        cases hp' : p a with
        | true => simp; omega
        | false => simpa using ih
theorem seen_lt {l : List (MKey × Nat × V)} {seen : List Nat} {e : MKey × Nat × V} (he : e ∈ l) (hs : e.2.1 ∉ seen) : (l.filter fun e' => !(seen ++ [e.2.1]).contains e'.2.1).length < (l.filter fun e' => !seen.contains e'.2.1).length := by
  refine filter_lt (fun x hx h => ?_) he (by simpa using hs) (by simp)
  simp only [Bool.not_eq_true', List.contains_eq_mem, List.mem_append, decide_eq_false_iff_not, not_or] at h ⊢
  exact h.1
end Go.Proofs.Ytpncnionnfomeaa.DiskD
