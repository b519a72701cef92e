import Derived.Test.YtpncnionnfomeaaPlaceU
namespace Go.Proofs.Ytpncnionnfomeaa.Place
open Go Go.Proofs Go.Proofs.Ytpncnionnfomeaa.Aw Go.Proofs.Ytpncnionnfomeaa.Num Go.Proofs.Ytpncnionnfomeaa.DiskM Go.Proofs.Ytpncnionnfomeaa.DiskA Go.Proofs.Ytpncnionnfomeaa.DiskC Go.Proofs.Ytpncnionnfomeaa.Disk Go.Proofs.Ytpncnionnfomeaa.DiskL Go.Proofs.Ytpncnionnfomeaa.DiskH
set_option linter.unusedSimpArgs false
set_option linter.unusedVariables false
def Part (s : Name) (o x : List UInt8) (M : MD) : Prop := ∀ w, (nfind (M.at w) s = none ∧ o = []) ∨ ∃ f, nfind (M.at w) s = some f ∧ o <+: (M.file f).1.take (M.file f).2 ∧ (M.file f).1 <+: o ++ x
def HasF (s : Name) (b : List UInt8) (k : Nat) (M : MD) : Prop := M.chs = [] ∧ ∃ f, nfind M.kept s = some f ∧ M.file f = (b, k)
def Same (M0 M : MD) : Prop := M.chs = [] ∧ M.kept = M0.kept ∧ M.files = M0.files
theorem hasF_part {s : Name} {o x b : List UInt8} {k : Nat} {M : MD} (h : HasF s b k M) (h1 : o <+: b.take k) (h2 : b <+: o ++ x) : Part s o x M := fun w => by
  obtain ⟨hc, f, hf, hb⟩ := h
  refine .inr ⟨f, by rw [at_nil hc]; exact hf, ?_⟩
  rw [hb]
  exact ⟨h1, h2⟩
theorem part_core {s : Name} {o x : List UInt8} {M M' : MD} (c : Core M M') (h : Part s o x M) : Part s o x M' := fun w => by
  have e : M'.at w = M.at w := by unfold MD.at; rw [c.kept, c.chs]
  rcases h w with h | ⟨f, h1, h2, h3⟩
  · exact .inl (by rw [e]; exact h)
  · exact .inr ⟨f, by rw [e]; exact h1, by rw [c.file]; exact h2, by rw [c.file]; exact h3⟩
theorem hasF_core {s : Name} {b : List UInt8} {k : Nat} {M M' : MD} (c : Core M M') (h : HasF s b k M) : HasF s b k M' := ⟨c.chs.trans h.1, by
  obtain ⟨f, h1, h2⟩ := h.2
  exact ⟨f, by rw [c.kept]; exact h1, by rw [c.file]; exact h2⟩⟩
theorem hasF_now {s : Name} {b : List UInt8} {k : Nat} {M : MD} (h : HasF s b k M) : ∃ f, nfind M.now s = some f ∧ M.file f = (b, k) := by
  obtain ⟨hc, f, h1, h2⟩ := h
  exact ⟨f, by unfold MD.now; rw [hc]; exact h1, h2⟩
theorem hasF_set {s : Name} {b c : List UInt8} {k j : Nat} {M : MD} (ok : M.Ok) (h : HasF s b k M) {f : Nat} (hf : nfind M.now s = some f) : HasF s c j (M.setFile f (c, j)) :=
  ⟨h.1, f, by rw [show M.now = M.kept by unfold MD.now; rw [h.1]; rfl] at hf; exact hf, file_set_self _ (now_lt ok hf).2⟩
section
variable {M0 : MD} {s : Name} {o x : List UInt8}
structure WasF (M0 : MD) (s : Name) (o : List UInt8) : Prop where
  none : nfind M0.kept s = .none → o = []
  some : ∀ f, nfind M0.kept s = .some f → M0.file f = (o, o.length)
theorem same_part (h0 : WasF M0 s o) {M : MD} (h : Same M0 M) : Part s o x M := by
  obtain ⟨hc, hk, hf⟩ := h
  have hfile : ∀ f, M.file f = M0.file f := fun f => by unfold MD.file; rw [hf]
  cases hn : nfind M0.kept s with
  | none => exact fun w => .inl ⟨by rw [at_nil hc, hk]; exact hn, h0.none hn⟩
  | some f => exact hasF_part (b := o) (k := o.length) ⟨hc, f, by rw [hk]; exact hn, by rw [hfile]; exact h0.some f hn⟩ (by simp) (List.prefix_append _ _)
theorem same_core {M M' : MD} (c : Core M M') (h : Same M0 M) : Same M0 M' := ⟨c.chs.trans h.1, c.kept.trans h.2.1, c.files.trans h.2.2⟩
theorem lead_made (h0 : WasF M0 s o) (hs : growsOk s) : Leads (Same M0) (butD 4 (madeD s)) (HasF s o o.length) (Part s o x) := Leads.but fun M ok h => by
  show (runF [createD s, syncNamesD] M).1.Ok ∧ _
  have ec : runF [createD s, syncNamesD] M = runFrom [syncNamesD] (M.create s) := rfl
  show (runF [createD s, syncNamesD] M).1.Ok ∧ ((runF [createD s, syncNamesD] M).2 = 0 ∨ (runF [createD s, syncNamesD] M).2 = 4 → HasF s o o.length (runF [createD s, syncNamesD] M).1) ∧ ((runF [createD s, syncNamesD] M).2 ≠ 0 → Part s o x (runF [createD s, syncNamesD] M).1)
  rw [ec]
  have okc := ok_create ok s
  have hsame := same_core (core_begin M) h
  have hfile : ∀ f, M.begin.1.file f = M0.file f := fun f => by unfold MD.file; rw [hsame.2.2]
  have hnow : M.now = M0.kept := by unfold MD.now; rw [h.1, h.2.1]; rfl
  rcases create_cases ok s with ⟨e, _⟩ | ⟨e, _⟩ | ⟨e, hex⟩ | ⟨hr, hn, e⟩ <;> rw [e] at okc ⊢
  · exact ⟨okc, fun h => (by rcases h with h | h <;> cases h), fun _ => same_part h0 hsame⟩
  · exact ⟨okc, fun h => (by rcases h with h | h <;> cases h), fun _ => same_part h0 hsame⟩
  · refine ⟨okc, fun _ => ?_, fun _ => same_part h0 hsame⟩
    obtain ⟨f, hf⟩ := Option.isSome_iff_exists.1 hex
    rw [hnow] at hf
    exact ⟨hsame.1, f, (by show nfind M.begin.1.kept s = some f; rw [hsame.2.1]; exact hf), (hfile f).trans (h0.some f hf)⟩
  · obtain ⟨M1, hM1⟩ : ∃ M1, M.begin.1.newFile.does ⟨[], s, M.files.length⟩ = M1 := ⟨_, rfl⟩
    rw [hM1] at okc ⊢
    have ho : o = [] := h0.none (by rw [← hnow]; exact hn)
    subst ho
    have hch : M1.chs = [⟨[], s, M.files.length⟩] := by rw [← hM1]; show M.begin.1.chs ++ [_] = _; rw [hsame.1]; rfl
    have hkp : nfind M1.kept s = none := by rw [← hM1]; show nfind M.begin.1.kept s = none; rw [hsame.2.1, ← hnow]; exact hn
    have hnf : nfind M1.now s = some M.files.length := by
      rw [← hM1, does_now]
      exact nfind_chg (c := ⟨[], s, M.files.length⟩) hr.1
    have hff : M1.file M.files.length = ([], 0) := by
      rw [← hM1]
      unfold MD.file MD.does MD.newFile
      simp only [begin_files, List.getD_eq_getElem?_getD]
      rw [List.getElem?_append_right (Nat.le_refl _)]
      simp
    have hp : Part s [] x M1 := fun w => by
      by_cases hw : within w.names M1.chs.length = 0
      · refine .inl ⟨?_, rfl⟩
        unfold MD.at
        rw [hw]
        exact hkp
      · refine .inr ⟨M.files.length, ?_, by rw [hff]; exact ⟨List.prefix_refl _, List.nil_prefix⟩⟩
        have : M1.at w = M1.now := by
          unfold MD.at MD.now
          rw [List.take_of_length_le (by rw [hch] at hw ⊢; simp only [List.length_singleton] at hw ⊢; omega)]
        rw [this]
        exact hnf
    have es : runFrom [syncNamesD] (M1, 0) = M1.syncNames := by
      show runFrom [syncNamesD] (M1, 0) = _
      unfold runFrom
      rw [if_pos rfl, runF_cons]
      unfold runFrom
      show (if M1.syncNames.2 = 0 then (M1.syncNames.1, 0) else M1.syncNames) = _
      split
      · rename_i h0; rw [← h0]
      · rfl
    rw [es]
    refine ⟨ok_syncNames okc, ?_⟩
    unfold MD.syncNames
    split
    · exact ⟨fun h => (by rcases h with h | h <;> cases h), fun _ => part_core (core_begin M1) hp⟩
    · exact ⟨fun _ => ⟨rfl, M.files.length, hnf, ((core_begin M1).file _).trans hff⟩, fun h => absurd rfl h⟩
theorem lead_behind : Leads (HasF s o o.length) (appendD s x) (HasF s (o ++ x) o.length) (Part s o x) := fun M ok h => by
  have hp : Part s o x M := hasF_part h (by simp) (List.prefix_append _ _)
  obtain ⟨f, hf, hb⟩ := hasF_now h
  show (M.append s x).1.Ok ∧ ((M.append s x).2 = 0 → HasF s (o ++ x) o.length (M.append s x).1) ∧ ((M.append s x).2 ≠ 0 → Part s o x (M.append s x).1)
  have hok : (M.append s x).1.Ok := ok_onFile ok _ _ fun f hf => by
    split
    · exact ok.begin
    · exact ok.begin.setFile (by have := file_cut ok.begin f; simp only [List.length_append]; omega)
  refine ⟨hok, ?_⟩
  unfold MD.append
  rcases onFile_cases M s (fun M f => if M.room < (M.used : Int) + x.length then (M, 41) else (M.setFile f ((M.file f).1 ++ x, (M.file f).2), 0)) with e | e | ⟨g, _, hg, e⟩ <;> rw [e]
  · exact ⟨fun h => (by cases h), fun _ => part_core (core_begin M) hp⟩
  · exact ⟨fun h => (by cases h), fun _ => part_core (core_begin M) hp⟩
  · rw [hf] at hg; cases hg
    split
    · exact ⟨fun h => (by cases h), fun _ => part_core (core_begin M) hp⟩
    · refine ⟨fun _ => ?_, fun h => absurd rfl h⟩
      have hbf : M.begin.1.file f = (o, o.length) := ((core_begin M).file f).trans hb
      show HasF s (o ++ x) o.length (M.begin.1.setFile f ((M.begin.1.file f).1 ++ x, (M.begin.1.file f).2))
      rw [hbf]
      exact hasF_set ok.begin (hasF_core (core_begin M) h) (begin_find hf)
theorem part_behind {M : MD} (h : HasF s (o ++ x) o.length M) : Part s o x M := hasF_part h (by simp) (List.prefix_refl _)
theorem lead_kept : Leads (HasF s (o ++ x) o.length) (syncD s) (HasF s (o ++ x) (o ++ x).length) (Part s o x) := fun M ok h => by
  obtain ⟨f, hf, hb⟩ := hasF_now h
  have hok : (M.sync s).1.Ok := ok_onFile ok _ _ fun f hf => ok.begin.setFile (Nat.le_refl _)
  refine ⟨hok, ?_⟩
  show ((M.sync s).2 = 0 → HasF s (o ++ x) (o ++ x).length (M.sync s).1) ∧ ((M.sync s).2 ≠ 0 → Part s o x (M.sync s).1)
  unfold MD.sync
  rcases onFile_cases M s (fun M f => (M.setFile f ((M.file f).1, (M.file f).1.length), 0)) with e | e | ⟨g, _, hg, e⟩ <;> rw [e]
  · exact ⟨fun h => (by cases h), fun _ => part_core (core_begin M) (part_behind h)⟩
  · exact ⟨fun h => (by cases h), fun _ => part_core (core_begin M) (part_behind h)⟩
  · rw [hf] at hg; cases hg
    refine ⟨fun _ => ?_, fun h => absurd rfl h⟩
    have hbf : M.begin.1.file f = (o ++ x, o.length) := ((core_begin M).file f).trans hb
    show HasF s (o ++ x) (o ++ x).length (M.begin.1.setFile f ((M.begin.1.file f).1, (M.begin.1.file f).1.length))
    rw [hbf]
    exact hasF_set ok.begin (hasF_core (core_begin M) h) (begin_find hf)
theorem grow_part (h0 : WasF M0 s o) {M : MD} (ok : M.Ok) (h : Same M0 M) : ((growAll s x).f M).1.Ok ∧ Part s o x ((growAll s x).f M).1 ∧ (((growAll s x).f M).2 = 0 → HasF s (o ++ x) (o ++ x).length ((growAll s x).f M).1) := by
  show (if growsOk s then (growD s x).f M else (M, 1)).1.Ok ∧ Part s o x (if growsOk s then (growD s x).f M else (M, 1)).1 ∧ ((if growsOk s then (growD s x).f M else (M, 1)).2 = 0 → HasF s (o ++ x) (o ++ x).length (if growsOk s then (growD s x).f M else (M, 1)).1)
  split
  · rename_i hg
    have hl : Leads (Same M0) (growD s x) (HasF s (o ++ x) (o ++ x).length) (Part s o x) := (lead_made h0 hg).cons (lead_behind.cons (lead_kept.cons Leads.nil))
    obtain ⟨a, b, c⟩ := hl M ok h
    refine ⟨a, ?_, b⟩
    by_cases hz : ((growD s x).f M).2 = 0
    · exact hasF_part (b hz) (by rw [List.take_length]; exact List.prefix_append _ _) (List.prefix_refl _)
    · exact c hz
  · exact ⟨ok, same_part h0 h, fun h => by cases h⟩
end
theorem part_read {s : Name} {o x : List UInt8} {M : MD} (ok : M.Ok) (h : Part s o x M) (w : Wreck) : ∃ y, y <+: x ∧ (M.crash w).readB s = o ++ y := by
  obtain ⟨c1, c2⟩ := crash_of ok w s
  rcases h w with ⟨h1, h2⟩ | ⟨f, h1, h2, h3⟩
  · exact ⟨[], List.nil_prefix, by rw [(c1 h1).2, h2]; rfl⟩
  · obtain ⟨i, _, d2⟩ := c2 f h1
    obtain ⟨k1, k2⟩ := crashF_pre w i (x := M.file f)
    rw [d2]
    obtain ⟨y, hy⟩ := h2.trans k1
    refine ⟨y, ?_, hy.symm⟩
    have := k2.trans h3
    rw [← hy] at this
    exact (List.prefix_append_right_inj o).1 this
theorem hasF_read {s : Name} {b : List UInt8} {M : MD} (ok : M.Ok) (h : HasF s b b.length M) (w : Wreck) : (M.crash w).readB s = b := by
  obtain ⟨hc, f, hf, hb⟩ := h
  obtain ⟨i, _, d2⟩ := (crash_of ok w s).2 f (by rw [at_nil hc]; exact hf)
  rw [d2, hb, crashF_kept rfl]
end Go.Proofs.Ytpncnionnfomeaa.Place
