import Derived.Test.YtpncnionnfomeaaAwX
import Derived.Test.YtpncnionnfomeaaPlaceG
import Derived.Test.YtpncnionnfomeaaPlaceE
namespace Go.Proofs.Ytpncnionnfomeaa.Place
open Go Go.Proofs Go.Proofs.Ytpncnionnfomeaa.Aw Go.Proofs.Ytpncnionnfomeaa.Num Go.Proofs.Ytpncnionnfomeaa.DiskM Go.Proofs.Ytpncnionnfomeaa.DiskA Go.Proofs.Ytpncnionnfomeaa.DiskK Go.Proofs.Ytpncnionnfomeaa.DiskC Go.Proofs.Ytpncnionnfomeaa.Disk Go.Proofs.Ytpncnionnfomeaa.DiskL
set_option linter.unusedSimpArgs false
set_option linter.unusedVariables false
theorem ok_onFile {M : MD} (ok : M.Ok) (n : Name) (X : MD → Nat → MD × Nat) (hX : ∀ f, nfind M.now n = some f → (X M.begin.1 f).1.Ok) : (M.onFile n X).1.Ok := by
  rcases onFile_cases M n X with e | e | ⟨f, _, hf, e⟩ <;> rw [e]
  · exact ok.begin
  · exact ok.begin
  · exact hX f hf
theorem sz_onFile {k j : Nat} {M : MD} (h : Sz k M) (n : Name) (X : MD → Nat → MD × Nat) (hX : ∀ f, nfind M.now n = some f → Sz (k + j) (X M.begin.1 f).1) : Sz (k + j) (M.onFile n X).1 := by
  rcases onFile_cases M n X with e | e | ⟨f, _, hf, e⟩ <;> rw [e]
  · exact h.begin.mono (Nat.le_add_right _ _)
  · exact h.begin.mono (Nat.le_add_right _ _)
  · exact hX f hf
theorem ok_does0 {M : MD} (ok : M.Ok) {c : Chg} (hc : CanDo M.now c) (hm : made c = none) : (M.begin.1.does c).Ok := ok.begin.does (by rw [begin_now]; exact hc) (fun f h => by rw [hm] at h; cases h)
theorem sz_does0 {k : Nat} {M : MD} (h : Sz k M) {c : Chg} (hm : made c = none) : Sz (k + 1) (M.begin.1.does c) := by
  refine ⟨?_, ?_, ?_, (h.begin.mono (Nat.le_succ k)).files⟩
  · show (M.begin.1.chs ++ [c]).length ≤ _
    have := h.begin.chs
    simp; omega
  · have := h.begin.nf
    show M.begin.1.files.length ≤ _
    omega
  · show (M.begin.1.does c).used ≤ _
    rw [does_used0 hm, begin_used]
    have := h.used; omega
theorem can_from {M : MD} (ok : M.Ok) {n : Name} {f : Nat} (hf : nfind M.now n = some f) (t : Name) (ht : t = [] ∨ right t) : CanDo M.now ⟨n, t, 0⟩ ∧ made ⟨n, t, 0⟩ = none :=
  ⟨.inr ⟨now_ne ok hf, by show (nfind M.now n).isSome = true; rw [hf]; rfl, ht⟩, by simp [made, now_ne ok hf]⟩
def Makes (j : Nat) (g : Do) : Prop := ∀ k M, M.Ok → Sz k M → k + j ≤ 10000 → g.pre M ∧ (g.f M).1.Ok ∧ Sz (k + j) (g.f M).1
theorem makes_append (n : Name) {b : List UInt8} {j : Nat} (hb : b.length ≤ 50 * j) : Makes j (appendD n b) := by
  intro k M ok h hk
  refine ⟨h.small (by omega), ok_onFile ok _ _ fun f hf => ?_, sz_onFile h _ _ fun f hf => ?_⟩
  · split
    · exact ok.begin
    · exact ok.begin.setFile (by have := file_cut ok.begin f; simp only [List.length_append]; omega)
  · split
    · exact h.begin.mono (Nat.le_add_right _ _)
    · have hu := used_set ok.begin (f := f) (by rw [begin_kept, begin_chs]; exact (now_lt ok hf).1) ((M.begin.1.file f).1 ++ b, (M.begin.1.file f).2)
      unfold MD.size at hu
      simp only [List.length_append] at hu
      have hus := begin_used M
      have hsu := h.used
      have hfl := h.begin.file f
      refine (h.begin.mono (Nat.le_add_right k j)).setFile ?_ ?_
      · simp only [List.length_append]; omega
      · show (M.begin.1.setFile f _).used ≤ _
        omega
theorem makes_sync (n : Name) : Makes 1 (syncD n) := by
  intro k M ok h hk
  refine ⟨h.small (by omega), ok_onFile ok _ _ fun f hf => ok.begin.setFile (Nat.le_refl _), sz_onFile h _ _ fun f hf => ?_⟩
  have hu := used_set ok.begin (f := f) (by rw [begin_kept, begin_chs]; exact (now_lt ok hf).1) ((M.begin.1.file f).1, (M.begin.1.file f).1.length)
  unfold MD.size at hu
  simp only at hu
  have hus := begin_used M
  have hsu := h.used
  have hfl := h.begin.file f
  refine (h.begin.mono (Nat.le_succ k)).setFile ?_ ?_
  · simp only; omega
  · show (M.begin.1.setFile f _).used ≤ _
    omega
theorem makes_rename (n t : Name) : Makes 1 (renameD n t) := by
  intro k M ok h hk
  refine ⟨h.small (by omega), ok_onFile ok _ _ fun f hf => ?_, sz_onFile h _ _ fun f hf => ?_⟩
  · split
    · rename_i hr
      obtain ⟨h1, h2⟩ := can_from ok hf t (.inr hr)
      exact ok_does0 ok h1 h2
    · exact ok.begin
  · split
    · rename_i hr
      exact sz_does0 h (can_from ok hf t (.inr hr)).2
    · exact h.begin.mono (Nat.le_succ _)
theorem makes_remove (n : Name) : Makes 1 (removeD n) := by
  intro k M ok h hk
  refine ⟨h.small (by omega), ok_onFile ok _ _ fun f hf => ?_, sz_onFile h _ _ fun f hf => ?_⟩
  · obtain ⟨h1, h2⟩ := can_from ok hf [] (.inl rfl)
    exact ok_does0 ok h1 h2
  · exact sz_does0 h (can_from ok hf [] (.inl rfl)).2
theorem makes_syncNames : Makes 1 syncNamesD := by
  intro k M ok h hk
  refine ⟨h.small (by omega), ?_, ?_⟩
  · show (M.syncNames).1.Ok
    unfold MD.syncNames
    split
    · exact ok.begin
    · have := ok.begin.keptNow
      rw [begin_now] at this
      exact this
  · show Sz (k + 1) M.syncNames.1
    unfold MD.syncNames
    split
    · exact h.begin.mono (Nat.le_succ _)
    · have hk := used_kept ok.begin
      rw [begin_now, begin_used] at hk
      have hsu := h.used
      have hk2 := Nat.le.intro hk
      refine ⟨by simp, ?_, ?_, (h.begin.mono (Nat.le_succ k)).files⟩
      · have := h.begin.nf
        show M.begin.1.files.length ≤ _
        omega
      · exact Nat.le_trans hk2 (by omega)
theorem makes_create (n : Name) : Makes 1 (createD n) := by
  intro k M ok h hk
  have key : (M.create n).1.Ok ∧ Sz (k + 1) (M.create n).1 := by
    unfold MD.create
    split
    · exact ⟨ok.begin, h.begin.mono (Nat.le_succ _)⟩
    · split
      · exact ⟨ok.begin, h.begin.mono (Nat.le_succ _)⟩
      · split
        · exact ⟨ok.begin, h.begin.mono (Nat.le_succ _)⟩
        · rename_i h1 h2 h3
          have hn : nfind M.begin.1.now n = none := by rw [begin_now]; cases hx : nfind M.now n with
            | none => rfl
            | some x => rw [hx] at h3; simp at h3
          obtain ⟨c1, c2, c3⟩ := ok.begin.create (n := n) (by simpa using h2) hn
          rw [begin_files] at c1 c2 c3
          have e : ({ M.begin.1 with files := M.files ++ [([], 0)] } : MD).does ⟨[], n, M.files.length⟩ = M.begin.1.newFile.does ⟨[], n, M.files.length⟩ := by
            unfold MD.newFile; rw [begin_files]
          rw [e]
          have hus := begin_used M
          refine ⟨c2, ?_, ?_, ?_, fun x hx => ?_⟩
          · show (M.begin.1.chs ++ [_]).length ≤ _
            have := h.begin.chs
            simp; omega
          · show (M.begin.1.files ++ [_]).length ≤ _
            have := h.begin.nf
            simp; omega
          · show (M.begin.1.newFile.does _).used ≤ _
            rw [c3, hus]
            have := h.used; omega
          · have hx' : x ∈ M.begin.1.files ++ [([], 0)] := hx
            rcases List.mem_append.1 hx' with hx' | hx'
            · have := h.begin.files x hx'; omega
            · simp at hx'; subst hx'; simp
  exact ⟨h.small (by omega), key⟩
theorem Makes.but {j c : Nat} {g : Do} (h : Makes j g) : Makes j (butD c g) := fun k M ok hs hk => h k M ok hs hk
theorem Makes.mono {j j' : Nat} {g : Do} (h : Makes j g) (hj : j ≤ j') : Makes j' g := fun k M ok hs hk => by
  obtain ⟨a, b, c⟩ := h k M ok hs (by omega)
  exact ⟨a, b, c.mono (by omega)⟩
theorem Makes.nil : Makes 0 (runD []) := fun k M ok hs hk => ⟨trivial, ok, hs⟩
theorem Makes.cons {i j : Nat} {g : Do} {l : List Do} (h : Makes i g) (hl : Makes j (runD l)) : Makes (i + j) (runD (g :: l)) := by
  intro k M ok hs hk
  obtain ⟨a, b, c⟩ := h k M ok hs (by omega)
  have hj := fun (_ : (g.f M).2 = 0) => hl (k + i) (g.f M).1 b c (by omega)
  refine ⟨⟨a, fun h0 => (hj h0).1⟩, ?_⟩
  show (runF (g :: l) M).1.Ok ∧ Sz (k + (i + j)) (runF (g :: l) M).1
  rw [runF_cons]
  unfold runFrom
  by_cases h0 : (g.f M).2 = 0
  · rw [if_pos h0]
    obtain ⟨_, a2, a3⟩ := hj h0
    exact ⟨a2, a3.mono (by omega)⟩
  · rw [if_neg h0]
    exact ⟨b, c.mono (by omega)⟩
theorem makes_list (n : Name) : ∀ (l : List (List UInt8)), (∀ c ∈ l, c.length ≤ 100) → Makes (2 * l.length) (runD (l.map (appendD n)))
  | [], _ => Makes.nil
  | c :: l, h => ((makes_append n (j := 2) (h c (by simp))).cons (makes_list n l fun c hc => h c (List.mem_cons_of_mem _ hc))).mono (by simp; omega)
theorem makes_parts (n : Name) {b : List UInt8} (hb : b.length ≤ 300) : Makes 10 (runD (partsOf n b)) := by
  refine (makes_list n (chunks b) fun c hc => ?_).mono ?_
  · obtain ⟨i, hi, rfl⟩ := List.mem_map.1 hc
    rw [List.length_take]; omega
  · rw [chunks_len]; omega
theorem makes_put (n : Name) {b : List UInt8} (hb : b.length ≤ 300) : Makes 16 (putAll n b) := by
  intro k M ok hs hk
  have h : Makes (1 + (1 + (10 + (1 + (1 + (1 + 0)))))) (putD n b) :=
    (makes_remove _).but.cons ((makes_create _).cons (Makes.cons (makes_parts _ hb) ((makes_sync _).cons ((makes_rename _ _).cons (makes_syncNames.cons Makes.nil)))))
  obtain ⟨a, c, d⟩ := h k M ok hs (by omega)
  refine ⟨fun _ => a, ?_⟩
  show (if growsOk n then (putD n b).f M else (M, 1)).1.Ok ∧ Sz (k + 16) (if growsOk n then (putD n b).f M else (M, 1)).1
  split
  · exact ⟨c, d.mono (by omega)⟩
  · exact ⟨ok, hs.mono (by omega)⟩
theorem makes_grow (n : Name) {b : List UInt8} (hb : b.length ≤ 300) : Makes 16 (growAll n b) := by
  intro k M ok hs hk
  have h : Makes ((1 + (1 + 0)) + (6 + (1 + 0))) (growD n b) :=
    Makes.cons (Makes.but ((makes_create n).cons (makes_syncNames.cons Makes.nil))) ((makes_append n (j := 6) (by omega)).cons ((makes_sync n).cons Makes.nil))
  obtain ⟨a, c, d⟩ := h k M ok hs (by omega)
  refine ⟨fun _ => a, ?_⟩
  show (if growsOk n then (growD n b).f M else (M, 1)).1.Ok ∧ Sz (k + 16) (if growsOk n then (growD n b).f M else (M, 1)).1
  split
  · exact ⟨c, d.mono (by omega)⟩
  · exact ⟨ok, hs.mono (by omega)⟩
theorem makes_drop0 : ∀ (ns : List Name) (g : Bool) (k : Nat) (M : MD), M.Ok → Sz k M → k + (ns.length + 1) ≤ 10000 → dropPre ns g M ∧ (dropF ns g M).1.Ok ∧ Sz (k + (ns.length + 1)) (dropF ns g M).1
  | [], g, k, M, ok, hs, hk => by
    obtain ⟨a, b, c⟩ := makes_syncNames k M ok hs (by simpa using hk)
    refine ⟨fun _ => a, ?_⟩
    unfold dropF
    split
    · exact ⟨b, c⟩
    · exact ⟨ok, hs.mono (by omega)⟩
  | n :: r, g, k, M, ok, hs, hk => by
    simp only [List.length_cons] at hk ⊢
    obtain ⟨a, b, c⟩ := makes_remove n k M ok hs (by omega)
    have ih := makes_drop0 r (g || decide ((M.remove n).2 = 0)) (k + 1) (M.remove n).1 b c (by omega)
    refine ⟨⟨a, fun _ => ih.1⟩, ?_⟩
    unfold dropF
    split
    · exact ⟨ih.2.1, ih.2.2.mono (by omega)⟩
    · exact ⟨b, c.mono (by omega)⟩
def dropD (ns : List Name) : Do := ⟨dropF ns false, dropPre ns false⟩
theorem makes_drop {ns : List Name} (h : ns.length ≤ 10) : Makes 16 (dropD ns) := by
  intro k M ok hs hk
  obtain ⟨a, b, c⟩ := makes_drop0 ns false k M ok hs (by omega)
  exact ⟨a, b, c.mono (by omega)⟩
end Go.Proofs.Ytpncnionnfomeaa.Place
