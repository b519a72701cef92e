import Derived.Test.YtpncnionnfomeaaPlaceL
import Derived.Test.YtpncnionnfomeaaDiskH
import Derived.Test.YtpncnionnfomeaaDiskG
namespace Go.Proofs.Ytpncnionnfomeaa.Place
open Go Go.Proofs Go.Proofs.Ytpncnionnfomeaa.Aw Go.Proofs.Ytpncnionnfomeaa.Num Go.Proofs.Ytpncnionnfomeaa.DiskM Go.Proofs.Ytpncnionnfomeaa.DiskA Go.Proofs.Ytpncnionnfomeaa.DiskC Go.Proofs.Ytpncnionnfomeaa.Disk Go.Proofs.Ytpncnionnfomeaa.DiskL Go.Proofs.Ytpncnionnfomeaa.DiskH
set_option linter.unusedSimpArgs false
set_option linter.unusedVariables false
theorem crash_of {M : MD} (ok : M.Ok) (w : Wreck) (s : Name) :
    (nfind (M.at w) s = none → nfind (M.crash w).now s = none ∧ (M.crash w).readB s = []) ∧
    ∀ f, nfind (M.at w) s = some f → ∃ i, nfind (M.crash w).now s = some i ∧ (M.crash w).readB s = (crashF w i (M.file f)).1 := by
  constructor
  · intro h
    have h' := nfind_none.1 h
    exact ⟨nfind_none.2 (by rw [crash_names]; exact h'), crash_read_none h'⟩
  · intro f h
    obtain ⟨i, hi⟩ := List.mem_iff_getElem?.1 (nfind_mem h)
    exact ⟨i, crash_find ok hi, crash_read ok hi⟩
theorem crashF_pre (w : Wreck) (i : Nat) {x : List UInt8 × Nat} : x.1.take x.2 <+: (crashF w i x).1 ∧ (crashF w i x).1 <+: x.1 := by
  unfold crashF
  refine ⟨?_, List.take_prefix _ _⟩
  rw [show x.1.take x.2 = (x.1.take (x.2 + wleft w i (x.1.length - x.2))).take x.2 by rw [List.take_take, Nat.min_eq_left (Nat.le_add_right _ _)]]
  exact List.take_prefix _ _
def Far (s : Name) (cs : List Chg) : Prop := ∀ c ∈ cs, c.frm ≠ s ∧ c.to ≠ s
theorem chg_far {l : Names} {c : Chg} {s : Name} (h : c.frm ≠ s ∧ c.to ≠ s) : nfind (chg l c) s = nfind l s := by
  have hc : nfind (cleft l c) s = nfind l s := by
    unfold cleft
    split
    · rfl
    · rw [nfind_without, if_neg (Ne.symm h.1)]
  unfold chg
  split
  · exact hc
  · rw [nfind_with, if_neg (Ne.symm h.2)]; exact hc
theorem play_far {s : Name} : ∀ {cs : List Chg} {l : Names}, Far s cs → nfind (play l cs) s = nfind l s
  | [], l, _ => rfl
  | c :: cs, l, h => by
    show nfind (play (chg l c) cs) s = _
    rw [play_far (fun x hx => h x (List.mem_cons_of_mem _ hx)), chg_far (h c (by simp))]
theorem Far.take {s : Name} {cs : List Chg} (h : Far s cs) (k : Nat) : Far s (cs.take k) := fun c hc => h c (List.mem_of_mem_take hc)
theorem Far.snoc {s : Name} {cs : List Chg} (h : Far s cs) {c : Chg} (hc : c.frm ≠ s ∧ c.to ≠ s) : Far s (cs ++ [c]) := fun x hx => by
  rcases List.mem_append.1 hx with hx | hx
  · exact h x hx
  · obtain rfl := List.mem_singleton.1 hx; exact hc
structure Keep (M0 M : MD) (s : Name) : Prop where
  kept : nfind M.kept s = nfind M0.kept s
  far : Far s M.chs
  file : ∀ f, nfind M0.kept s = some f → M.file f = M0.file f
theorem Keep.now {M0 M : MD} {s : Name} (h : Keep M0 M s) : nfind M.now s = nfind M0.kept s := (play_far h.far).trans h.kept
theorem Keep.at {M0 M : MD} {s : Name} (h : Keep M0 M s) (w : Wreck) : nfind (M.at w) s = nfind M0.kept s := (play_far (h.far.take _)).trans h.kept
theorem keep_refl {M : MD} (h : M.chs = []) (s : Name) : Keep M M s := ⟨rfl, fun c hc => (by rw [h] at hc; cases hc), fun _ _ => rfl⟩
structure Core (M M' : MD) : Prop where
  files : M'.files = M.files
  kept : M'.kept = M.kept
  chs : M'.chs = M.chs
theorem core_begin (M : MD) : Core M M.begin.1 := ⟨begin_files M, begin_kept M, begin_chs M⟩
theorem Core.file {M M' : MD} (h : Core M M') (f : Nat) : M'.file f = M.file f := by unfold MD.file; rw [h.files]
theorem Core.now {M M' : MD} (h : Core M M') : M'.now = M.now := by unfold MD.now; rw [h.kept, h.chs]
theorem Core.keep {M0 M M' : MD} {s : Name} (c : Core M M') (h : Keep M0 M s) : Keep M0 M' s := ⟨by rw [c.kept]; exact h.kept, by rw [c.chs]; exact h.far, fun f hf => (c.file f).trans (h.file f hf)⟩
theorem Keep.does {M0 M : MD} {s : Name} (h : Keep M0 M s) {c : Chg} (hc : c.frm ≠ s ∧ c.to ≠ s) : Keep M0 (M.does c) s := ⟨h.kept, h.far.snoc hc, h.file⟩
theorem inj_snd : ∀ {l : Names}, (l.map (·.2)).Nodup → ∀ {a b : Name} {f : Nat}, (a, f) ∈ l → (b, f) ∈ l → a = b
  | [], _, _, _, _, ha, _ => by cases ha
  | e :: r, hn, a, b, f, ha, hb => by
    simp only [List.map_cons, List.nodup_cons] at hn
    rcases List.mem_cons.1 ha with e1 | ha <;> rcases List.mem_cons.1 hb with e2 | hb
    · exact congrArg Prod.fst (e1.trans e2.symm)
    · exact absurd (List.mem_map.2 ⟨_, hb, by rw [← e1]⟩) hn.1
    · exact absurd (List.mem_map.2 ⟨_, ha, by rw [← e2]⟩) hn.1
    · exact inj_snd hn.2 ha hb
theorem now_inj {M : MD} (ok : M.Ok) {a b : Name} {f : Nat} (ha : nfind M.now a = some f) (hb : nfind M.now b = some f) : a = b :=
  inj_snd (List.nodup_append.1 ((reach_perm ok.rise ok.can).nodup_iff.2 ok.once)).1 (nfind_mem ha) (nfind_mem hb)
theorem file_set (M : MD) {f g : Nat} (x : List UInt8 × Nat) (h : g ≠ f) : (M.setFile f x).file g = M.file g := by
  unfold MD.file MD.setFile
  simp only [List.getD_eq_getElem?_getD]
  rw [List.getElem?_set_ne (Ne.symm h)]
theorem file_set_self {M : MD} {f : Nat} (x : List UInt8 × Nat) (h : f < M.files.length) : (M.setFile f x).file f = x := by
  unfold MD.file MD.setFile
  simp only [List.getD_eq_getElem?_getD]
  rw [List.getElem?_set_self h]; rfl
theorem Keep.setFile {M0 M : MD} {s n : Name} (ok : M.Ok) (h : Keep M0 M s) (hs : n ≠ s) {f : Nat} (hf : nfind M.now n = some f) (x : List UInt8 × Nat) : Keep M0 (M.setFile f x) s :=
  ⟨h.kept, h.far, fun g hg => by rw [file_set M x (fun e => hs (now_inj ok hf (by rw [h.now, hg, e]))), h.file g hg]⟩
theorem keep_onFile {M0 M : MD} {s n : Name} (h : Keep M0 M s) (X : MD → Nat → MD × Nat) (hX : ∀ f, nfind M.now n = some f → Keep M0 (X M.begin.1 f).1 s) : Keep M0 (M.onFile n X).1 s := by
  rcases onFile_cases M n X with e | e | ⟨f, _, hf, e⟩ <;> rw [e]
  · exact (core_begin M).keep h
  · exact (core_begin M).keep h
  · exact hX f hf
def Spares (s : Name) (g : Do) : Prop := ∀ M0 M, M.Ok → Keep M0 M s → (g.f M).1.Ok ∧ Keep M0 (g.f M).1 s
theorem begin_find {M : MD} {n : Name} {f : Nat} (h : nfind M.now n = some f) : nfind M.begin.1.now n = some f := by rw [begin_now]; exact h
theorem spares_append {s n : Name} (hs : n ≠ s) (b : List UInt8) : Spares s (appendD n b) := fun M0 M ok h => by
  refine ⟨ok_onFile ok _ _ fun f hf => ?_, keep_onFile h _ fun f hf => ?_⟩
  · split
    · exact ok.begin
    · exact ok.begin.setFile (by have := file_cut ok.begin f; simp only [List.length_append]; omega)
  · split
    · exact (core_begin M).keep h
    · exact ((core_begin M).keep h).setFile ok.begin hs (begin_find hf) _
theorem spares_sync {s n : Name} (hs : n ≠ s) : Spares s (syncD n) := fun M0 M ok h =>
  ⟨ok_onFile ok _ _ fun f hf => ok.begin.setFile (Nat.le_refl _), keep_onFile h _ fun f hf => ((core_begin M).keep h).setFile ok.begin hs (begin_find hf) _⟩
theorem ok_remove {M : MD} (ok : M.Ok) (n : Name) : (M.remove n).1.Ok := ok_onFile ok _ _ fun f hf => ok_does0 ok (can_from ok hf [] (.inl rfl)).1 (can_from ok hf [] (.inl rfl)).2
theorem ok_rename {M : MD} (ok : M.Ok) (n t : Name) : (M.rename n t).1.Ok := by
  refine ok_onFile ok _ _ fun f hf => ?_
  split
  · rename_i hr
    obtain ⟨h1, h2⟩ := can_from ok hf t (.inr hr)
    exact ok_does0 ok h1 h2
  · exact ok.begin
theorem spares_remove {s n : Name} (hs : n ≠ s) (h0 : s ≠ []) : Spares s (removeD n) := fun M0 M ok h =>
  ⟨ok_remove ok n, keep_onFile h _ fun f hf => ((core_begin M).keep h).does ⟨hs, Ne.symm h0⟩⟩
theorem spares_rename {s n t : Name} (hs : n ≠ s) (ht : t ≠ s) : Spares s (renameD n t) := fun M0 M ok h => by
  refine ⟨ok_rename ok n t, keep_onFile h _ fun f hf => ?_⟩
  split
  · exact ((core_begin M).keep h).does ⟨hs, ht⟩
  · exact (core_begin M).keep h
theorem ok_syncNames {M : MD} (ok : M.Ok) : M.syncNames.1.Ok := by
  unfold MD.syncNames
  split
  · exact ok.begin
  · have := ok.begin.keptNow
    rw [begin_now] at this
    exact this
theorem spares_syncNames (s : Name) : Spares s syncNamesD := fun M0 M ok h => by
  refine ⟨ok_syncNames ok, ?_⟩
  show Keep M0 M.syncNames.1 s
  unfold MD.syncNames
  split
  · exact (core_begin M).keep h
  · exact ⟨h.now, fun c hc => (by cases hc), fun f hf => ((core_begin M).file f).trans (h.file f hf)⟩
theorem create_cases {M : MD} (ok : M.Ok) (n : Name) : (M.create n = (M.begin.1, 40) ∧ M.begin.2 = false) ∨ (M.create n = (M.begin.1, 1) ∧ ¬ right n) ∨ (M.create n = (M.begin.1, 4) ∧ (nfind M.now n).isSome = true) ∨
    (right n ∧ nfind M.now n = none ∧ M.create n = (M.begin.1.newFile.does ⟨[], n, M.files.length⟩, 0)) := by
  unfold MD.create
  by_cases h1 : M.begin.2 = false
  · rw [if_pos h1]; exact .inl ⟨rfl, h1⟩
  · rw [if_neg h1]
    by_cases h2 : right n
    · rw [if_neg (fun h => h h2)]
      by_cases h3 : (nfind M.now n).isSome = true
      · rw [if_pos h3]; exact .inr (.inr (.inl ⟨rfl, h3⟩))
      · rw [if_neg h3]
        have hn : nfind M.now n = none := by cases hx : nfind M.now n with
          | none => rfl
          | some x => rw [hx] at h3; simp at h3
        refine .inr (.inr (.inr ⟨h2, hn, ?_⟩))
        unfold MD.newFile
        rw [begin_files]
    · rw [if_pos h2]; exact .inr (.inl ⟨rfl, h2⟩)
theorem ok_create {M : MD} (ok : M.Ok) (n : Name) : (M.create n).1.Ok := by
  rcases create_cases ok n with ⟨e, _⟩ | ⟨e, _⟩ | ⟨e, _⟩ | ⟨hr, hn, e⟩ <;> rw [e]
  · exact ok.begin
  · exact ok.begin
  · exact ok.begin
  · have := (ok.begin.create hr (by rw [begin_now]; exact hn)).2.1
    rw [begin_files] at this
    exact this
theorem file_new {M : MD} {f : Nat} (h : f < M.files.length) (c : Chg) : (M.newFile.does c).file f = M.file f := by
  unfold MD.file MD.does MD.newFile
  simp only [List.getD_eq_getElem?_getD]
  rw [List.getElem?_append_left h]
theorem spares_create {s n : Name} (hs : n ≠ s) (h0 : s ≠ []) : Spares s (createD n) := fun M0 M ok h => by
  refine ⟨ok_create ok n, ?_⟩
  show Keep M0 (M.create n).1 s
  rcases create_cases ok n with ⟨e, _⟩ | ⟨e, _⟩ | ⟨e, _⟩ | ⟨hr, hn, e⟩ <;> rw [e]
  · exact (core_begin M).keep h
  · exact (core_begin M).keep h
  · exact (core_begin M).keep h
  · have hb := (core_begin M).keep h
    refine ⟨hb.kept, hb.far.snoc ⟨Ne.symm h0, hs⟩, fun f hf => ?_⟩
    rw [file_new (now_lt ok.begin (hb.now.trans hf)).2]
    exact hb.file f hf
theorem Spares.but {s : Name} {c : Nat} {g : Do} (h : Spares s g) : Spares s (butD c g) := fun M0 M ok hk => h M0 M ok hk
theorem Spares.list {s : Name} : ∀ {l : List Do}, (∀ g ∈ l, Spares s g) → Spares s (runD l)
  | [], _ => fun M0 M ok h => ⟨ok, h⟩
  | g :: l, hl => fun M0 M ok h => by
    obtain ⟨a, b⟩ := hl g (by simp) M0 M ok h
    have ih := Spares.list (fun x hx => hl x (List.mem_cons_of_mem _ hx)) M0 (g.f M).1 a b
    show (runF (g :: l) M).1.Ok ∧ Keep M0 (runF (g :: l) M).1 s
    rw [runF_cons]
    unfold runFrom
    split
    · exact ih
    · exact ⟨a, b⟩
theorem spares_parts {s n : Name} (hs : n ≠ s) (b : List UInt8) : Spares s (runD (partsOf n b)) := Spares.list fun g hg => by
  obtain ⟨c, _, rfl⟩ := List.mem_map.1 hg
  exact spares_append hs c
theorem spares_put {s n : Name} (h1 : onTheWay ≠ s) (h2 : n ≠ s) (h0 : s ≠ []) (b : List UInt8) : Spares s (putAll n b) := fun M0 M ok h => by
  have key : Spares s (putD n b) := Spares.list fun g hg => by
    simp only [List.mem_cons, List.not_mem_nil, or_false] at hg
    rcases hg with rfl | rfl | rfl | rfl | rfl | rfl
    · exact (spares_remove h1 h0).but
    · exact spares_create h1 h0
    · exact spares_parts h1 b
    · exact spares_sync h1
    · exact spares_rename h1 h2
    · exact spares_syncNames s
  show (if growsOk n then (putD n b).f M else (M, 1)).1.Ok ∧ Keep M0 (if growsOk n then (putD n b).f M else (M, 1)).1 s
  split
  · exact key M0 M ok h
  · exact ⟨ok, h⟩
end Go.Proofs.Ytpncnionnfomeaa.Place
namespace Go.Proofs.Ytpncnionnfomeaa.Place
open Go Go.Proofs Go.Proofs.Ytpncnionnfomeaa.Aw Go.Proofs.Ytpncnionnfomeaa.Num Go.Proofs.Ytpncnionnfomeaa.DiskM Go.Proofs.Ytpncnionnfomeaa.DiskA Go.Proofs.Ytpncnionnfomeaa.DiskC Go.Proofs.Ytpncnionnfomeaa.Disk Go.Proofs.Ytpncnionnfomeaa.DiskL Go.Proofs.Ytpncnionnfomeaa.DiskH
set_option linter.unusedSimpArgs false
set_option linter.unusedVariables false
theorem chunks_flat (b : List UInt8) : (chunks b).flatten = b := by
  have key : ∀ k, ((List.range k).map fun i => (b.drop (64 * i)).take 64).flatten = b.take (64 * k) := by
    intro k
    induction k with
    | zero => simp
    | succ k ih =>
      rw [List.range_succ, List.map_append, List.flatten_append, ih, show 64 * (k + 1) = 64 * k + 64 by omega, List.take_add]
      simp
  unfold chunks
  rw [key, List.take_of_length_le (by omega)]
def Leads (P : MD → Prop) (g : Do) (Q R : MD → Prop) : Prop := ∀ M, M.Ok → P M → (g.f M).1.Ok ∧ ((g.f M).2 = 0 → Q (g.f M).1) ∧ ((g.f M).2 ≠ 0 → R (g.f M).1)
theorem Leads.nil {P R : MD → Prop} : Leads P (runD []) P R := fun M ok h => ⟨ok, fun _ => h, fun h0 => absurd rfl h0⟩
theorem Leads.cons {P Q S R : MD → Prop} {g : Do} {l : List Do} (h : Leads P g Q R) (hl : Leads Q (runD l) S R) : Leads P (runD (g :: l)) S R := fun M ok hp => by
  obtain ⟨a, b, c⟩ := h M ok hp
  show (runF (g :: l) M).1.Ok ∧ ((runF (g :: l) M).2 = 0 → S (runF (g :: l) M).1) ∧ ((runF (g :: l) M).2 ≠ 0 → R (runF (g :: l) M).1)
  rw [runF_cons]
  unfold runFrom
  split
  · rename_i h0
    exact hl _ a (b h0)
  · rename_i h0
    exact ⟨a, fun h => absurd h h0, c⟩
theorem Leads.weak {P Q R R' : MD → Prop} {g : Do} (h : Leads P g Q R) (hr : ∀ M, R M → R' M) : Leads P g Q R' := fun M ok hp => by
  obtain ⟨a, b, c⟩ := h M ok hp
  exact ⟨a, b, fun h0 => hr _ (c h0)⟩
theorem Leads.but {P Q R : MD → Prop} {g : Do} {c : Nat} (h : ∀ M, M.Ok → P M → (g.f M).1.Ok ∧ ((g.f M).2 = 0 ∨ (g.f M).2 = c → Q (g.f M).1) ∧ ((g.f M).2 ≠ 0 → R (g.f M).1)) : Leads P (butD c g) Q R := fun M ok hp => by
  obtain ⟨a, b, d⟩ := h M ok hp
  refine ⟨a, ?_, ?_⟩
  · show (if (g.f M).2 = c then 0 else (g.f M).2) = 0 → _
    intro h0
    split at h0
    · rename_i h1; exact b (.inr h1)
    · exact b (.inl h0)
  · show (if (g.f M).2 = c then 0 else (g.f M).2) ≠ 0 → _
    intro h0
    split at h0
    · exact absurd rfl h0
    · exact d h0
theorem nfind_chg {l : Names} {c : Chg} (h : c.to ≠ []) : nfind (chg l c) c.to = some (cfile l c) := by
  unfold chg
  rw [if_neg h, nfind_with, if_pos rfl]
def Was (M0 M : MD) (s : Name) (w : Wreck) : Prop := nfind (M.at w) s = nfind M0.kept s ∧ ∀ f, nfind M0.kept s = some f → M.file f = M0.file f
def Is (M : MD) (s : Name) (x : List UInt8) (w : Wreck) : Prop := ∃ f, nfind (M.at w) s = some f ∧ M.file f = (x, x.length)
def Once (M0 : MD) (s : Name) (x : List UInt8) (M : MD) : Prop := ∀ w, Was M0 M s w ∨ Is M s x w
theorem Keep.once {M0 M : MD} {s : Name} {x : List UInt8} (h : Keep M0 M s) : Once M0 s x M := fun w => .inl ⟨h.at w, h.file⟩
def OnWay (M0 : MD) (s : Name) (b : List UInt8) (M : MD) : Prop := Keep M0 M s ∧ ∃ f, nfind M.now onTheWay = some f ∧ (M.file f).1 = b
def OnWayK (M0 : MD) (s : Name) (x : List UInt8) (M : MD) : Prop := Keep M0 M s ∧ ∃ f, nfind M.now onTheWay = some f ∧ M.file f = (x, x.length)
def There (M0 : MD) (s : Name) (x : List UInt8) (M : MD) : Prop := Once M0 s x M ∧ ∃ f, nfind M.now s = some f ∧ M.file f = (x, x.length)
theorem lead_append {M0 : MD} {s : Name} (hs : onTheWay ≠ s) (b c : List UInt8) : Leads (OnWay M0 s b) (appendD onTheWay c) (OnWay M0 s (b ++ c)) (fun M => Keep M0 M s) := fun M ok h => by
  obtain ⟨a, k⟩ := spares_append hs c M0 M ok h.1
  refine ⟨a, fun h0 => ⟨k, ?_⟩, fun _ => k⟩
  obtain ⟨f, hf, hb⟩ := h.2
  change (M.append onTheWay c).2 = 0 at h0
  show ∃ f, nfind (M.append onTheWay c).1.now onTheWay = some f ∧ ((M.append onTheWay c).1.file f).1 = b ++ c
  unfold MD.append at h0 ⊢
  rcases onFile_cases M onTheWay (fun M f => if M.room < (M.used : Int) + c.length then (M, 41) else (M.setFile f ((M.file f).1 ++ c, (M.file f).2), 0)) with e | e | ⟨g, _, hg, e⟩ <;> rw [e] at h0 ⊢
  · cases h0
  · cases h0
  · rw [hf] at hg; cases hg
    split at h0
    · cases h0
    · rename_i h1
      rw [if_neg h1]
      refine ⟨f, begin_find hf, ?_⟩
      rw [file_set_self _ (now_lt ok.begin (begin_find hf)).2, (core_begin M).file, hb]
theorem lead_parts {M0 : MD} {s : Name} (hs : onTheWay ≠ s) : ∀ (cs : List (List UInt8)) (b : List UInt8), Leads (OnWay M0 s b) (runD (cs.map (appendD onTheWay))) (OnWay M0 s (b ++ cs.flatten)) (fun M => Keep M0 M s)
  | [], b => by rw [List.flatten_nil, List.append_nil]; exact Leads.nil
  | c :: cs, b => by
    have := lead_parts (M0 := M0) hs cs (b ++ c)
    rw [List.append_assoc] at this
    exact Leads.cons (lead_append hs b c) this
theorem lead_sync {M0 : MD} {s : Name} (hs : onTheWay ≠ s) (x : List UInt8) : Leads (OnWay M0 s x) (syncD onTheWay) (OnWayK M0 s x) (fun M => Keep M0 M s) := fun M ok h => by
  obtain ⟨a, k⟩ := spares_sync hs M0 M ok h.1
  refine ⟨a, fun h0 => ⟨k, ?_⟩, fun _ => k⟩
  obtain ⟨f, hf, hb⟩ := h.2
  change (M.sync onTheWay).2 = 0 at h0
  show ∃ f, nfind (M.sync onTheWay).1.now onTheWay = some f ∧ (M.sync onTheWay).1.file f = (x, x.length)
  unfold MD.sync at h0 ⊢
  rcases onFile_cases M onTheWay (fun M f => (M.setFile f ((M.file f).1, (M.file f).1.length), 0)) with e | e | ⟨g, _, hg, e⟩ <;> rw [e] at h0 ⊢
  · cases h0
  · cases h0
  · rw [hf] at hg; cases hg
    refine ⟨f, begin_find hf, ?_⟩
    show (M.begin.1.setFile f _).file f = _
    rw [file_set_self _ (now_lt ok.begin (begin_find hf)).2, (core_begin M).file, hb]
theorem lead_create {M0 : MD} {s : Name} (hs : onTheWay ≠ s) (h0 : s ≠ []) : Leads (fun M => Keep M0 M s) (createD onTheWay) (OnWay M0 s []) (fun M => Keep M0 M s) := fun M ok h => by
  obtain ⟨a, k⟩ := spares_create hs h0 M0 M ok h
  refine ⟨a, fun hc => ⟨k, ?_⟩, fun _ => k⟩
  change (M.create onTheWay).2 = 0 at hc
  show ∃ f, nfind (M.create onTheWay).1.now onTheWay = some f ∧ ((M.create onTheWay).1.file f).1 = []
  rcases create_cases ok onTheWay with ⟨e, _⟩ | ⟨e, _⟩ | ⟨e, _⟩ | ⟨hr, hn, e⟩ <;> rw [e] at hc ⊢
  · cases hc
  · cases hc
  · cases hc
  · refine ⟨M.files.length, ?_, ?_⟩
    · rw [does_now]
      exact nfind_chg (c := ⟨[], onTheWay, M.files.length⟩) hr.1
    · unfold MD.file MD.does MD.newFile
      simp only [begin_files, List.getD_eq_getElem?_getD]
      rw [List.getElem?_append_right (Nat.le_refl _)]
      simp
theorem once_core {M0 M M' : MD} {s : Name} {x : List UInt8} (c : Core M M') (h : Once M0 s x M) : Once M0 s x M' := fun w => by
  have e : M'.at w = M.at w := by unfold MD.at; rw [c.kept, c.chs]
  rcases h w with ⟨h1, h2⟩ | ⟨f, h1, h2⟩
  · exact .inl ⟨by rw [e]; exact h1, fun f hf => by rw [c.file]; exact h2 f hf⟩
  · exact .inr ⟨f, by rw [e]; exact h1, by rw [c.file]; exact h2⟩
theorem lead_rename {M0 : MD} {s : Name} (hs : growsOk s) (x : List UInt8) : Leads (OnWayK M0 s x) (renameD onTheWay s) (There M0 s x) (Once M0 s x) := fun M ok h => by
  refine ⟨ok_rename ok onTheWay s, ?_⟩
  obtain ⟨hk, f, hf, hx⟩ := h
  show ((M.rename onTheWay s).2 = 0 → There M0 s x (M.rename onTheWay s).1) ∧ ((M.rename onTheWay s).2 ≠ 0 → Once M0 s x (M.rename onTheWay s).1)
  have hb := (core_begin M).keep hk
  unfold MD.rename
  rcases onFile_cases M onTheWay (fun M f => if right s then (M.does ⟨onTheWay, s, 0⟩, 0) else (M, 1)) with e | e | ⟨g, _, hg, e⟩ <;> rw [e]
  · exact ⟨fun h => (by cases h), fun _ => hb.once⟩
  · exact ⟨fun h => (by cases h), fun _ => hb.once⟩
  · rw [if_pos hs.1]
    have hcf : cfile M.begin.1.now ⟨onTheWay, s, 0⟩ = f := by
      unfold cfile
      rw [if_neg (show onTheWay ≠ [] by decide)]
      rw [show nfind M.begin.1.now onTheWay = some f from begin_find hf]; rfl
    have hnow : nfind (M.begin.1.does ⟨onTheWay, s, 0⟩).now s = some f := by
      rw [does_now, nfind_chg (c := ⟨onTheWay, s, 0⟩) hs.1.1, hcf]
    have hfile : (M.begin.1.does ⟨onTheWay, s, 0⟩).file f = (x, x.length) := ((core_begin M).file f).trans hx
    refine ⟨fun _ => ⟨fun w => ?_, f, hnow, hfile⟩, fun h => absurd rfl h⟩
    by_cases hw : within w.names (M.begin.1.chs.length + 1) ≤ M.begin.1.chs.length
    · refine .inl ⟨?_, fun f hf => hb.file f hf⟩
      show nfind (play M.begin.1.kept ((M.begin.1.chs ++ [_]).take (within w.names (M.begin.1.chs ++ [_]).length))) s = _
      rw [List.length_append, List.length_singleton, List.take_append_of_le_length hw, play_far (hb.far.take _)]
      exact hb.kept
    · refine .inr ⟨f, ?_, hfile⟩
      show nfind (play M.begin.1.kept ((M.begin.1.chs ++ [_]).take (within w.names (M.begin.1.chs ++ [_]).length))) s = _
      rw [List.take_of_length_le (by rw [List.length_append, List.length_singleton]; omega)]
      exact hnow
theorem at_nil {M : MD} (h : M.chs = []) (w : Wreck) : M.at w = M.kept := by unfold MD.at; rw [h]; simp [play]
theorem lead_names {M0 : MD} {s : Name} (x : List UInt8) : Leads (There M0 s x) syncNamesD (fun M => ∀ w, Is M s x w) (Once M0 s x) := fun M ok h => by
  refine ⟨ok_syncNames ok, ?_⟩
  obtain ⟨ho, f, hf, hx⟩ := h
  show (M.syncNames.2 = 0 → ∀ w, Is M.syncNames.1 s x w) ∧ (M.syncNames.2 ≠ 0 → Once M0 s x M.syncNames.1)
  unfold MD.syncNames
  split
  · exact ⟨fun h => (by cases h), fun _ => once_core (core_begin M) ho⟩
  · refine ⟨fun _ w => ⟨f, ?_, ((core_begin M).file f).trans hx⟩, fun h => absurd rfl h⟩
    rw [at_nil rfl]
    exact hf
theorem lead_put {M0 : MD} {s : Name} (hs : growsOk s) (x : List UInt8) : Leads (fun M => Keep M0 M s) (putD s x) (fun M => ∀ w, Is M s x w) (Once M0 s x) := by
  have hn : onTheWay ≠ s := Ne.symm hs.2
  have k := fun (M : MD) (h : Keep M0 M s) => (h.once : Once M0 s x M)
  have h1 : Leads (fun M => Keep M0 M s) (butD 2 (removeD onTheWay)) (fun M => Keep M0 M s) (Once M0 s x) := Leads.but fun M ok h => by
    obtain ⟨a, b⟩ := spares_remove hn hs.1.1 M0 M ok h
    exact ⟨a, fun _ => b, fun _ => b.once⟩
  have h3 : Leads (OnWay M0 s []) (partsD x) (OnWay M0 s x) (Once M0 s x) := by
    have := lead_parts (M0 := M0) hn (chunks x) []
    rw [chunks_flat, List.nil_append] at this
    exact this.weak k
  exact h1.cons (((lead_create hn hs.1.1).weak k).cons (h3.cons (((lead_sync hn x).weak k).cons ((lead_rename hs x).cons ((lead_names x).cons Leads.nil)))))
theorem put_once {M0 M : MD} {s : Name} {x : List UInt8} (ok : M.Ok) (h : Keep M0 M s) : ((putAll s x).f M).1.Ok ∧ Once M0 s x ((putAll s x).f M).1 ∧ (((putAll s x).f M).2 = 0 → ∀ w, Is ((putAll s x).f M).1 s x w) := by
  show (if growsOk s then (putD s x).f M else (M, 1)).1.Ok ∧ Once M0 s x (if growsOk s then (putD s x).f M else (M, 1)).1 ∧ ((if growsOk s then (putD s x).f M else (M, 1)).2 = 0 → ∀ w, Is (if growsOk s then (putD s x).f M else (M, 1)).1 s x w)
  split
  · rename_i hg
    obtain ⟨a, b, c⟩ := lead_put hg x M ok h
    refine ⟨a, ?_, b⟩
    by_cases h0 : ((putD s x).f M).2 = 0
    · exact fun w => .inr (b h0 w)
    · exact c h0
  · exact ⟨ok, h.once, fun h => by cases h⟩
end Go.Proofs.Ytpncnionnfomeaa.Place
namespace Go.Proofs.Ytpncnionnfomeaa.PlaceX
open Go Go.Proofs Go.Proofs.Ytpncnionnfomeaa.Aw Go.Proofs.Ytpncnionnfomeaa.Num Go.Proofs.Ytpncnionnfomeaa.DiskM Go.Proofs.Ytpncnionnfomeaa.DiskA Go.Proofs.Ytpncnionnfomeaa.DiskK Go.Proofs.Ytpncnionnfomeaa.DiskC Go.Proofs.Ytpncnionnfomeaa.Disk Go.Proofs.Ytpncnionnfomeaa.DiskH
open Go.Proofs.Ytpncnionnfomeaa.DiskL (readP syncP syncNamesP namesP doomP wbV len_wbV Sz sz_new crash_o op_o small_crash Live begin_live onFile_live names_live read_live)
open Go.Proofs.Ytpncnionnfomeaa.Place (Do Makes putAll growAll dropD putFP growFP dropFP makes_put makes_grow makes_drop makes_syncNames makes_sync ok_syncNames runD butD runF runF_cons runFrom removeD createD appendD syncD renameD syncNamesD putD growD madeD partsOf partsD dropF growsOk file_set file_set_self now_inj Core Keep onTheWay)
set_option linter.unusedSimpArgs false
set_option linter.unusedVariables false
def Lives (g : Do) : Prop := ∀ M, Live M → Live (g.f M).1
theorem lives_remove (n : Name) : Lives (removeD n) := fun M h => onFile_live h _ _ fun f => h
theorem lives_sync (n : Name) : Lives (syncD n) := fun M h => onFile_live h _ _ fun f => h
theorem lives_append (n : Name) (b : List UInt8) : Lives (appendD n b) := fun M h => onFile_live h _ _ fun f => by split <;> exact h
theorem lives_rename (n t : Name) : Lives (renameD n t) := fun M h => onFile_live h _ _ fun f => by split <;> exact h
theorem lives_syncNames : Lives syncNamesD := fun M h => by
  show Live M.syncNames.1
  simp only [MD.syncNames, begin_live h]
  split <;> exact h
theorem lives_create (n : Name) : Lives (createD n) := fun M h => by
  show Live (M.create n).1
  rw [DiskL.create_live h]
  split
  · exact h
  · split <;> exact h
theorem Lives.but {g : Do} {c : Nat} (h : Lives g) : Lives (butD c g) := fun M hl => h M hl
theorem Lives.list : ∀ {l : List Do}, (∀ g ∈ l, Lives g) → Lives (runD l)
  | [], _ => fun M h => h
  | g :: l, hl => fun M h => by
    have h1 := hl g (by simp) M h
    have ih := Lives.list (fun x hx => hl x (List.mem_cons_of_mem _ hx)) (g.f M).1 h1
    show Live (runF (g :: l) M).1
    rw [runF_cons]
    unfold runFrom
    split
    · exact ih
    · exact h1
theorem lives_put (n : Name) (b : List UInt8) : Lives (putAll n b) := fun M h => by
  have key : Lives (putD n b) := Lives.list fun g hg => by
    simp only [List.mem_cons, List.not_mem_nil, or_false] at hg
    rcases hg with rfl | rfl | rfl | rfl | rfl | rfl
    · exact (lives_remove _).but
    · exact lives_create _
    · exact Lives.list fun g hg => by obtain ⟨c, _, rfl⟩ := List.mem_map.1 hg; exact lives_append _ _
    · exact lives_sync _
    · exact lives_rename _ _
    · exact lives_syncNames
  show Live (if growsOk n then (putD n b).f M else (M, 1)).1
  split
  · exact key M h
  · exact h
theorem lives_grow (n : Name) (b : List UInt8) : Lives (growAll n b) := fun M h => by
  have key : Lives (growD n b) := Lives.list fun g hg => by
    simp only [List.mem_cons, List.not_mem_nil, or_false] at hg
    rcases hg with rfl | rfl | rfl
    · refine Lives.but (Lives.list fun g hg => ?_)
      simp only [List.mem_cons, List.not_mem_nil, or_false] at hg
      rcases hg with rfl | rfl
      · exact lives_create _
      · exact lives_syncNames
    · exact lives_append _ _
    · exact lives_sync _
  show Live (if growsOk n then (growD n b).f M else (M, 1)).1
  split
  · exact key M h
  · exact h
theorem lives_drop (ns : List Name) : Lives (dropD ns) := fun M h => by
  have key : ∀ (ns : List Name) (g : Bool) (M : MD), Live M → Live (dropF ns g M).1 := by
    intro ns
    induction ns with
    | nil =>
      intro g M h
      unfold dropF
      split
      · exact lives_syncNames M h
      · exact h
    | cons n r ih =>
      intro g M h
      unfold dropF
      split
      · exact ih _ _ (lives_remove n M h)
      · exact lives_remove n M h
  exact key ns false M h
end Go.Proofs.Ytpncnionnfomeaa.PlaceX
namespace Go.Proofs.Ytpncnionnfomeaa.Place
open Go Go.Proofs Go.Proofs.Ytpncnionnfomeaa.Aw Go.Proofs.Ytpncnionnfomeaa.Num Go.Proofs.Ytpncnionnfomeaa.DiskM Go.Proofs.Ytpncnionnfomeaa.DiskA Go.Proofs.Ytpncnionnfomeaa.DiskC Go.Proofs.Ytpncnionnfomeaa.Disk Go.Proofs.Ytpncnionnfomeaa.DiskL Go.Proofs.Ytpncnionnfomeaa.DiskH
set_option linter.unusedSimpArgs false
set_option linter.unusedVariables false
def Part (s : Name) (o x : List UInt8) (M : MD) : Prop := ∀ w, (nfind (M.at w) s = none ∧ o = []) ∨ ∃ f, nfind (M.at w) s = some f ∧ o <+: (M.file f).1.take (M.file f).2 ∧ (M.file f).1 <+: o ++ x
def HasF (s : Name) (b : List UInt8) (k : Nat) (M : MD) : Prop := M.chs = [] ∧ ∃ f, nfind M.kept s = some f ∧ M.file f = (b, k)
def Same (M0 M : MD) : Prop := M.chs = [] ∧ M.kept = M0.kept ∧ M.files = M0.files
theorem hasF_part {s : Name} {o x b : List UInt8} {k : Nat} {M : MD} (h : HasF s b k M) (h1 : o <+: b.take k) (h2 : b <+: o ++ x) : Part s o x M := fun w => by
  obtain ⟨hc, f, hf, hb⟩ := h
  refine .inr ⟨f, by rw [at_nil hc]; exact hf, ?_⟩
  rw [hb]
  exact ⟨h1, h2⟩
theorem part_core {s : Name} {o x : List UInt8} {M M' : MD} (c : Core M M') (h : Part s o x M) : Part s o x M' := fun w => by
  have e : M'.at w = M.at w := by unfold MD.at; rw [c.kept, c.chs]
  rcases h w with h | ⟨f, h1, h2, h3⟩
  · exact .inl (by rw [e]; exact h)
  · exact .inr ⟨f, by rw [e]; exact h1, by rw [c.file]; exact h2, by rw [c.file]; exact h3⟩
theorem hasF_core {s : Name} {b : List UInt8} {k : Nat} {M M' : MD} (c : Core M M') (h : HasF s b k M) : HasF s b k M' := ⟨c.chs.trans h.1, by
  obtain ⟨f, h1, h2⟩ := h.2
  exact ⟨f, by rw [c.kept]; exact h1, by rw [c.file]; exact h2⟩⟩
theorem hasF_now {s : Name} {b : List UInt8} {k : Nat} {M : MD} (h : HasF s b k M) : ∃ f, nfind M.now s = some f ∧ M.file f = (b, k) := by
  obtain ⟨hc, f, h1, h2⟩ := h
  exact ⟨f, by unfold MD.now; rw [hc]; exact h1, h2⟩
theorem hasF_set {s : Name} {b c : List UInt8} {k j : Nat} {M : MD} (ok : M.Ok) (h : HasF s b k M) {f : Nat} (hf : nfind M.now s = some f) : HasF s c j (M.setFile f (c, j)) :=
  ⟨h.1, f, by rw [show M.now = M.kept by unfold MD.now; rw [h.1]; rfl] at hf; exact hf, file_set_self _ (now_lt ok hf).2⟩
section
variable {M0 : MD} {s : Name} {o x : List UInt8}
structure WasF (M0 : MD) (s : Name) (o : List UInt8) : Prop where
  none : nfind M0.kept s = .none → o = []
  some : ∀ f, nfind M0.kept s = .some f → M0.file f = (o, o.length)
theorem same_part (h0 : WasF M0 s o) {M : MD} (h : Same M0 M) : Part s o x M := by
  obtain ⟨hc, hk, hf⟩ := h
  have hfile : ∀ f, M.file f = M0.file f := fun f => by unfold MD.file; rw [hf]
  cases hn : nfind M0.kept s with
  | none => exact fun w => .inl ⟨by rw [at_nil hc, hk]; exact hn, h0.none hn⟩
  | some f => exact hasF_part (b := o) (k := o.length) ⟨hc, f, by rw [hk]; exact hn, by rw [hfile]; exact h0.some f hn⟩ (by simp) (List.prefix_append _ _)
theorem same_core {M M' : MD} (c : Core M M') (h : Same M0 M) : Same M0 M' := ⟨c.chs.trans h.1, c.kept.trans h.2.1, c.files.trans h.2.2⟩
theorem lead_made (h0 : WasF M0 s o) (hs : growsOk s) : Leads (Same M0) (butD 4 (madeD s)) (HasF s o o.length) (Part s o x) := Leads.but fun M ok h => by
  show (runF [createD s, syncNamesD] M).1.Ok ∧ _
  have ec : runF [createD s, syncNamesD] M = runFrom [syncNamesD] (M.create s) := rfl
  show (runF [createD s, syncNamesD] M).1.Ok ∧ ((runF [createD s, syncNamesD] M).2 = 0 ∨ (runF [createD s, syncNamesD] M).2 = 4 → HasF s o o.length (runF [createD s, syncNamesD] M).1) ∧ ((runF [createD s, syncNamesD] M).2 ≠ 0 → Part s o x (runF [createD s, syncNamesD] M).1)
  rw [ec]
  have okc := ok_create ok s
  have hsame := same_core (core_begin M) h
  have hfile : ∀ f, M.begin.1.file f = M0.file f := fun f => by unfold MD.file; rw [hsame.2.2]
  have hnow : M.now = M0.kept := by unfold MD.now; rw [h.1, h.2.1]; rfl
  rcases create_cases ok s with ⟨e, _⟩ | ⟨e, _⟩ | ⟨e, hex⟩ | ⟨hr, hn, e⟩ <;> rw [e] at okc ⊢
  · exact ⟨okc, fun h => (by rcases h with h | h <;> cases h), fun _ => same_part h0 hsame⟩
  · exact ⟨okc, fun h => (by rcases h with h | h <;> cases h), fun _ => same_part h0 hsame⟩
  · refine ⟨okc, fun _ => ?_, fun _ => same_part h0 hsame⟩
    obtain ⟨f, hf⟩ := Option.isSome_iff_exists.1 hex
    rw [hnow] at hf
    exact ⟨hsame.1, f, (by show nfind M.begin.1.kept s = some f; rw [hsame.2.1]; exact hf), (hfile f).trans (h0.some f hf)⟩
  · obtain ⟨M1, hM1⟩ : ∃ M1, M.begin.1.newFile.does ⟨[], s, M.files.length⟩ = M1 := ⟨_, rfl⟩
    rw [hM1] at okc ⊢
    have ho : o = [] := h0.none (by rw [← hnow]; exact hn)
    subst ho
    have hch : M1.chs = [⟨[], s, M.files.length⟩] := by rw [← hM1]; show M.begin.1.chs ++ [_] = _; rw [hsame.1]; rfl
    have hkp : nfind M1.kept s = none := by rw [← hM1]; show nfind M.begin.1.kept s = none; rw [hsame.2.1, ← hnow]; exact hn
    have hnf : nfind M1.now s = some M.files.length := by
      rw [← hM1, does_now]
      exact nfind_chg (c := ⟨[], s, M.files.length⟩) hr.1
    have hff : M1.file M.files.length = ([], 0) := by
      rw [← hM1]
      unfold MD.file MD.does MD.newFile
      simp only [begin_files, List.getD_eq_getElem?_getD]
      rw [List.getElem?_append_right (Nat.le_refl _)]
      simp
    have hp : Part s [] x M1 := fun w => by
      by_cases hw : within w.names M1.chs.length = 0
      · refine .inl ⟨?_, rfl⟩
        unfold MD.at
        rw [hw]
        exact hkp
      · refine .inr ⟨M.files.length, ?_, by rw [hff]; exact ⟨List.prefix_refl _, List.nil_prefix⟩⟩
        have : M1.at w = M1.now := by
          unfold MD.at MD.now
          rw [List.take_of_length_le (by rw [hch] at hw ⊢; simp only [List.length_singleton] at hw ⊢; omega)]
        rw [this]
        exact hnf
    have es : runFrom [syncNamesD] (M1, 0) = M1.syncNames := by
      show runFrom [syncNamesD] (M1, 0) = _
      unfold runFrom
      rw [if_pos rfl, runF_cons]
      unfold runFrom
      show (if M1.syncNames.2 = 0 then (M1.syncNames.1, 0) else M1.syncNames) = _
      split
      · rename_i h0; rw [← h0]
      · rfl
    rw [es]
    refine ⟨ok_syncNames okc, ?_⟩
    unfold MD.syncNames
    split
    · exact ⟨fun h => (by rcases h with h | h <;> cases h), fun _ => part_core (core_begin M1) hp⟩
    · exact ⟨fun _ => ⟨rfl, M.files.length, hnf, ((core_begin M1).file _).trans hff⟩, fun h => absurd rfl h⟩
theorem lead_behind : Leads (HasF s o o.length) (appendD s x) (HasF s (o ++ x) o.length) (Part s o x) := fun M ok h => by
  have hp : Part s o x M := hasF_part h (by simp) (List.prefix_append _ _)
  obtain ⟨f, hf, hb⟩ := hasF_now h
  show (M.append s x).1.Ok ∧ ((M.append s x).2 = 0 → HasF s (o ++ x) o.length (M.append s x).1) ∧ ((M.append s x).2 ≠ 0 → Part s o x (M.append s x).1)
  have hok : (M.append s x).1.Ok := ok_onFile ok _ _ fun f hf => by
    split
    · exact ok.begin
    · exact ok.begin.setFile (by have := file_cut ok.begin f; simp only [List.length_append]; omega)
  refine ⟨hok, ?_⟩
  unfold MD.append
  rcases onFile_cases M s (fun M f => if M.room < (M.used : Int) + x.length then (M, 41) else (M.setFile f ((M.file f).1 ++ x, (M.file f).2), 0)) with e | e | ⟨g, _, hg, e⟩ <;> rw [e]
  · exact ⟨fun h => (by cases h), fun _ => part_core (core_begin M) hp⟩
  · exact ⟨fun h => (by cases h), fun _ => part_core (core_begin M) hp⟩
  · rw [hf] at hg; cases hg
    split
    · exact ⟨fun h => (by cases h), fun _ => part_core (core_begin M) hp⟩
    · refine ⟨fun _ => ?_, fun h => absurd rfl h⟩
      have hbf : M.begin.1.file f = (o, o.length) := ((core_begin M).file f).trans hb
      show HasF s (o ++ x) o.length (M.begin.1.setFile f ((M.begin.1.file f).1 ++ x, (M.begin.1.file f).2))
      rw [hbf]
      exact hasF_set ok.begin (hasF_core (core_begin M) h) (begin_find hf)
theorem part_behind {M : MD} (h : HasF s (o ++ x) o.length M) : Part s o x M := hasF_part h (by simp) (List.prefix_refl _)
theorem lead_kept : Leads (HasF s (o ++ x) o.length) (syncD s) (HasF s (o ++ x) (o ++ x).length) (Part s o x) := fun M ok h => by
  obtain ⟨f, hf, hb⟩ := hasF_now h
  have hok : (M.sync s).1.Ok := ok_onFile ok _ _ fun f hf => ok.begin.setFile (Nat.le_refl _)
  refine ⟨hok, ?_⟩
  show ((M.sync s).2 = 0 → HasF s (o ++ x) (o ++ x).length (M.sync s).1) ∧ ((M.sync s).2 ≠ 0 → Part s o x (M.sync s).1)
  unfold MD.sync
  rcases onFile_cases M s (fun M f => (M.setFile f ((M.file f).1, (M.file f).1.length), 0)) with e | e | ⟨g, _, hg, e⟩ <;> rw [e]
  · exact ⟨fun h => (by cases h), fun _ => part_core (core_begin M) (part_behind h)⟩
  · exact ⟨fun h => (by cases h), fun _ => part_core (core_begin M) (part_behind h)⟩
  · rw [hf] at hg; cases hg
    refine ⟨fun _ => ?_, fun h => absurd rfl h⟩
    have hbf : M.begin.1.file f = (o ++ x, o.length) := ((core_begin M).file f).trans hb
    show HasF s (o ++ x) (o ++ x).length (M.begin.1.setFile f ((M.begin.1.file f).1, (M.begin.1.file f).1.length))
    rw [hbf]
    exact hasF_set ok.begin (hasF_core (core_begin M) h) (begin_find hf)
theorem grow_part (h0 : WasF M0 s o) {M : MD} (ok : M.Ok) (h : Same M0 M) : ((growAll s x).f M).1.Ok ∧ Part s o x ((growAll s x).f M).1 ∧ (((growAll s x).f M).2 = 0 → HasF s (o ++ x) (o ++ x).length ((growAll s x).f M).1) := by
  show (if growsOk s then (growD s x).f M else (M, 1)).1.Ok ∧ Part s o x (if growsOk s then (growD s x).f M else (M, 1)).1 ∧ ((if growsOk s then (growD s x).f M else (M, 1)).2 = 0 → HasF s (o ++ x) (o ++ x).length (if growsOk s then (growD s x).f M else (M, 1)).1)
  split
  · rename_i hg
    have hl : Leads (Same M0) (growD s x) (HasF s (o ++ x) (o ++ x).length) (Part s o x) := (lead_made h0 hg).cons (lead_behind.cons (lead_kept.cons Leads.nil))
    obtain ⟨a, b, c⟩ := hl M ok h
    refine ⟨a, ?_, b⟩
    by_cases hz : ((growD s x).f M).2 = 0
    · exact hasF_part (b hz) (by rw [List.take_length]; exact List.prefix_append _ _) (List.prefix_refl _)
    · exact c hz
  · exact ⟨ok, same_part h0 h, fun h => by cases h⟩
end
theorem part_read {s : Name} {o x : List UInt8} {M : MD} (ok : M.Ok) (h : Part s o x M) (w : Wreck) : ∃ y, y <+: x ∧ (M.crash w).readB s = o ++ y := by
  obtain ⟨c1, c2⟩ := crash_of ok w s
  rcases h w with ⟨h1, h2⟩ | ⟨f, h1, h2, h3⟩
  · exact ⟨[], List.nil_prefix, by rw [(c1 h1).2, h2]; rfl⟩
  · obtain ⟨i, _, d2⟩ := c2 f h1
    obtain ⟨k1, k2⟩ := crashF_pre w i (x := M.file f)
    rw [d2]
    obtain ⟨y, hy⟩ := h2.trans k1
    refine ⟨y, ?_, hy.symm⟩
    have := k2.trans h3
    rw [← hy] at this
    exact (List.prefix_append_right_inj o).1 this
theorem hasF_read {s : Name} {b : List UInt8} {M : MD} (ok : M.Ok) (h : HasF s b b.length M) (w : Wreck) : (M.crash w).readB s = b := by
  obtain ⟨hc, f, hf, hb⟩ := h
  obtain ⟨i, _, d2⟩ := (crash_of ok w s).2 f (by rw [at_nil hc]; exact hf)
  rw [d2, hb, crashF_kept rfl]
end Go.Proofs.Ytpncnionnfomeaa.Place
namespace Go.Proofs.Ytpncnionnfomeaa.Place
open Go Go.Proofs Go.Proofs.Ytpncnionnfomeaa.Aw Go.Proofs.Ytpncnionnfomeaa.Num Go.Proofs.Ytpncnionnfomeaa.DiskM Go.Proofs.Ytpncnionnfomeaa.DiskA Go.Proofs.Ytpncnionnfomeaa.DiskC Go.Proofs.Ytpncnionnfomeaa.Disk Go.Proofs.Ytpncnionnfomeaa.DiskL Go.Proofs.Ytpncnionnfomeaa.DiskH
set_option linter.unusedSimpArgs false
set_option linter.unusedVariables false
theorem runF_one {g : Do} {r : List Do} {M M' : MD} (h : g.f M = (M', 0)) : runF (g :: r) M = runF r M' := by
  rw [runF_cons, h]
  unfold runFrom
  rw [if_pos rfl]
theorem setFile_set (M : MD) (f : Nat) (a b : List UInt8 × Nat) : (M.setFile f a).setFile f b = M.setFile f b := by
  unfold MD.setFile
  simp only [List.set_set]
theorem setFile_self {M : MD} {f : Nat} (h : f < M.files.length) : M.setFile f ((M.file f).1, (M.file f).2) = M := by
  have : M.files.set f ((M.file f).1, (M.file f).2) = M.files := by
    show M.files.set f (M.file f) = M.files
    unfold MD.file
    rw [List.getD_eq_getElem?_getD, List.getElem?_eq_getElem h]
    exact List.set_getElem_self h
  unfold MD.setFile
  rw [this]
theorem apps_live {f : Nat} : ∀ (cs : List (List UInt8)) (M : MD) (k : Nat), Live M → M.Ok → Sz k M → nfind M.now onTheWay = some f → (cs ≠ [] → ((50 * (k + 2 * cs.length) + 64 : Nat) : Int) ≤ M.room) → (∀ c ∈ cs, c.length ≤ 64) → k + 2 * cs.length ≤ 9000 →
    runF (cs.map (appendD onTheWay)) M = (M.setFile f ((M.file f).1 ++ cs.flatten, (M.file f).2), 0)
  | [], M, k, _, ok, _, hf, _, _, _ => by
    rw [List.flatten_nil, List.append_nil, setFile_self (now_lt ok hf).2]; rfl
  | c :: cs, M, k, hl, ok, hs, hf, hr, hc, hk => by
    have hr := hr (by simp)
    simp only [List.length_cons] at hk hr
    have hcl := hc c (by simp)
    have hu := hs.used
    have e : M.append onTheWay c = (M.setFile f ((M.file f).1 ++ c, (M.file f).2), 0) := by
      unfold MD.append
      rw [onFile_some (by rw [begin_live hl]) hf, begin_live hl]
      simp only
      rw [if_neg (by omega)]
    obtain ⟨_, ok1, sz1⟩ := makes_append onTheWay (b := c) (j := 2) (by omega) k M ok hs (by omega)
    change (M.append onTheWay c).1.Ok at ok1
    change Sz (k + 2) (M.append onTheWay c).1 at sz1
    rw [e] at ok1 sz1
    have hfl := (now_lt ok hf).2
    obtain ⟨M', hM'⟩ : ∃ M', M.setFile f ((M.file f).1 ++ c, (M.file f).2) = M' := ⟨_, rfl⟩
    rw [hM'] at ok1 sz1 e
    have ih := apps_live cs M' (k + 2) (by rw [← hM']; exact hl) ok1 sz1 (by rw [← hM']; exact hf) (fun _ => by rw [← hM']; show _ ≤ M.room; omega) (fun c h => hc c (List.mem_cons_of_mem _ h)) (by omega)
    rw [List.map_cons, runF_one (g := appendD onTheWay c) e, ih, ← hM', file_set_self _ hfl, setFile_set]
    simp
theorem put_live {M : MD} {s : Name} {k : Nat} (hl : Live M) (ok : M.Ok) (hs : Sz k M) (hg : growsOk s) {x : List UInt8} (hx : x.length ≤ 300) (hk : k ≤ 8000) (hr : x ≠ [] → ((50 * (k + 12) + 64 : Nat) : Int) ≤ M.room) :
    ((putAll s x).f M).2 = 0 ∧ HasF s x x.length ((putAll s x).f M).1 ∧ ((putAll s x).f M).1.room = M.room := by
  have hrt : right onTheWay := by decide
  obtain ⟨M1, hM1⟩ : ∃ M1, ((butD 2 (removeD onTheWay)).f M).1 = M1 := ⟨_, rfl⟩
  have e1 : (butD 2 (removeD onTheWay)).f M = (M1, 0) := by
    refine Prod.ext hM1 ?_
    show (if (M.remove onTheWay).2 = 2 then 0 else (M.remove onTheWay).2) = 0
    rw [remove_live hl]
    split <;> rfl
  obtain ⟨_, ok1, sz1⟩ := (makes_remove onTheWay).but (c := 2) k M ok hs (by omega)
  rw [e1] at ok1 sz1
  have hl1 : Live M1 := by have := PlaceX.lives_remove onTheWay M hl; rw [← hM1]; exact this
  have hr1 : M1.room = M.room := by
    rw [← hM1]
    show (M.remove onTheWay).1.room = _
    rw [remove_live hl]
    split <;> rfl
  have hnt : nfind M1.now onTheWay = none := by
    rw [← hM1]
    show nfind (M.remove onTheWay).1.now onTheWay = none
    rw [remove_live hl]
    split
    · rw [gone_now (by decide), nfind_without, if_pos rfl]
    · rename_i h
      cases hx : nfind M.now onTheWay with
      | none => rfl
      | some y => rw [hx] at h; simp at h
  obtain ⟨fN, hfN⟩ : ∃ f, M1.files.length = f := ⟨_, rfl⟩
  obtain ⟨M2, hM2⟩ : ∃ M2, M1.newFile.does ⟨[], onTheWay, M1.files.length⟩ = M2 := ⟨_, rfl⟩
  have e2 : (createD onTheWay).f M1 = (M2, 0) := by
    show M1.create onTheWay = _
    rw [create_live hl1, if_neg (by simpa using hrt), if_neg (by rw [hnt]; simp), hM2]
  obtain ⟨_, ok2, sz2⟩ := makes_create onTheWay (k + 1) M1 ok1 sz1 (by omega)
  rw [e2] at ok2 sz2
  have hl2 : Live M2 := by have := PlaceX.lives_create onTheWay M1 hl1; rw [e2] at this; exact this
  have hn2 : M2.now = nwith M1.now onTheWay fN := by
    rw [← hM2, ← hfN]
    exact (made_now ok1 hrt (nfind_none.1 hnt)).1
  have hf2 : nfind M2.now onTheWay = some fN := by rw [hn2, nfind_with, if_pos rfl]
  have hr2 : M2.room = M.room := by rw [← hM2]; exact hr1
  have hfile2 : M2.file fN = ([], 0) := by
    rw [← hM2, ← hfN]
    unfold MD.file MD.does MD.newFile
    simp only [List.getD_eq_getElem?_getD]
    rw [List.getElem?_append_right (Nat.le_refl _)]
    simp
  have hcl := chunks_len x
  have e3 : (partsD x).f M2 = (M2.setFile fN (x, 0), 0) := by
    show runF ((chunks x).map (appendD onTheWay)) M2 = _
    rw [apps_live (chunks x) M2 (k + 1 + 1) hl2 ok2 sz2 hf2 (fun hne => by
      have hx0 : x ≠ [] := fun h0 => hne (by rw [h0]; rfl)
      have := hr hx0
      rw [hr2]; omega) (fun c hc => by
      obtain ⟨i, _, rfl⟩ := List.mem_map.1 hc
      rw [List.length_take]; omega) (by omega), chunks_flat, hfile2]
    rfl
  have hlt := (now_lt ok2 hf2).2
  have hl3 : Live (M2.setFile fN (x, 0)) := hl2
  have e4 : (syncD onTheWay).f (M2.setFile fN (x, 0)) = (M2.setFile fN (x, x.length), 0) := by
    show (M2.setFile fN (x, 0)).sync onTheWay = _
    unfold MD.sync
    rw [onFile_some (by rw [begin_live hl3]) (show nfind (M2.setFile fN (x, 0)).now onTheWay = some fN from hf2), begin_live hl3]
    simp only
    rw [file_set_self _ hlt, setFile_set]
  have hl4 : Live (M2.setFile fN (x, x.length)) := hl2
  have e5 : (renameD onTheWay s).f (M2.setFile fN (x, x.length)) = ((M2.setFile fN (x, x.length)).does ⟨onTheWay, s, 0⟩, 0) := by
    show (M2.setFile fN (x, x.length)).rename onTheWay s = _
    unfold MD.rename
    rw [onFile_some (by rw [begin_live hl4]) (show nfind (M2.setFile fN (x, x.length)).now onTheWay = some fN from hf2), begin_live hl4]
    simp only
    rw [if_pos hg.1]
  obtain ⟨M5, hM5⟩ : ∃ M5, (M2.setFile fN (x, x.length)).does ⟨onTheWay, s, 0⟩ = M5 := ⟨_, rfl⟩
  have hl5 : Live M5 := by rw [← hM5]; exact hl2
  have e6 : syncNamesD.f M5 = ({ M5 with kept := M5.now, chs := [] }, 0) := by
    show M5.syncNames = _
    unfold MD.syncNames
    rw [begin_live hl5]; rfl
  have hput : (putAll s x).f M = ({ M5 with kept := M5.now, chs := [] }, 0) := by
    show (if growsOk s then (putD s x).f M else (M, 1)) = _
    rw [if_pos hg]
    show runF [butD 2 (removeD onTheWay), createD onTheWay, partsD x, syncD onTheWay, renameD onTheWay s, syncNamesD] M = _
    rw [runF_one e1, runF_one e2, runF_one e3, runF_one e4, runF_one (e5.trans (by rw [hM5])), runF_one e6]
    rfl
  have hn5 : nfind M5.now s = some fN := by
    rw [← hM5, does_now]
    have : cfile (M2.setFile fN (x, x.length)).now ⟨onTheWay, s, 0⟩ = fN := by
      unfold cfile
      rw [if_neg (show onTheWay ≠ [] by decide), show nfind (M2.setFile fN (x, x.length)).now onTheWay = some fN from hf2]; rfl
    rw [nfind_chg (c := ⟨onTheWay, s, 0⟩) hg.1.1, this]
  have hfile5 : M5.file fN = (x, x.length) := by rw [← hM5]; exact file_set_self _ hlt
  rw [hput]
  exact ⟨rfl, ⟨rfl, fN, hn5, hfile5⟩, by show M5.room = _; rw [← hM5]; exact hr2⟩
end Go.Proofs.Ytpncnionnfomeaa.Place
namespace Go.Proofs.Ytpncnionnfomeaa.Place
open Go Go.Proofs Go.Proofs.Ytpncnionnfomeaa.Aw Go.Proofs.Ytpncnionnfomeaa.Num Go.Proofs.Ytpncnionnfomeaa.DiskM Go.Proofs.Ytpncnionnfomeaa.DiskA Go.Proofs.Ytpncnionnfomeaa.DiskC Go.Proofs.Ytpncnionnfomeaa.Disk Go.Proofs.Ytpncnionnfomeaa.DiskL Go.Proofs.Ytpncnionnfomeaa.DiskH
set_option linter.unusedSimpArgs false
set_option linter.unusedVariables false
theorem makes_growB (n : Name) {b : List UInt8} {j : Nat} (hb : b.length ≤ 50 * j) : Makes (j + 3) (growAll n b) := by
  intro k M ok hs hk
  have h : Makes ((1 + (1 + 0)) + (j + (1 + 0))) (growD n b) :=
    Makes.cons (Makes.but ((makes_create n).cons (makes_syncNames.cons Makes.nil))) ((makes_append n (j := j) hb).cons ((makes_sync n).cons Makes.nil))
  obtain ⟨a, c, d⟩ := h k M ok hs (by omega)
  refine ⟨fun _ => a, ?_⟩
  show (if growsOk n then (growD n b).f M else (M, 1)).1.Ok ∧ Sz (k + (j + 3)) (if growsOk n then (growD n b).f M else (M, 1)).1
  split
  · exact ⟨c, d.mono (by omega)⟩
  · exact ⟨ok, hs.mono (by omega)⟩
theorem grow_live {M : MD} {s : Name} {k : Nat} {o b : List UInt8} (hl : Live M) (ok : M.Ok) (hs : Sz k M) (hg : growsOk s) (hc : M.chs = []) (hw : WasF M s o) (hk : k ≤ 8000) (hr : ((50 * (k + 2) + b.length : Nat) : Int) ≤ M.room) :
    ((growAll s b).f M).2 = 0 ∧ ((growAll s b).f M).1.room = M.room ∧ HasF s (o ++ b) (o ++ b).length ((growAll s b).f M).1 := by
  have key : ∃ Ma, (butD 4 (madeD s)).f M = (Ma, 0) ∧ Ma.room = M.room := by
    have e : (madeD s).f M = runFrom [syncNamesD] (M.create s) := rfl
    have eb : (butD 4 (madeD s)).f M = (((madeD s).f M).1, if ((madeD s).f M).2 = 4 then 0 else ((madeD s).f M).2) := rfl
    rw [eb, e, create_live hl, if_neg (by simpa using hg.1)]
    split
    · exact ⟨M, rfl, rfl⟩
    · have hl1 : Live (M.newFile.does ⟨[], s, M.files.length⟩) := hl
      have es : (M.newFile.does ⟨[], s, M.files.length⟩).syncNames = ({ M.newFile.does ⟨[], s, M.files.length⟩ with kept := (M.newFile.does ⟨[], s, M.files.length⟩).now, chs := [] }, 0) := by
        unfold MD.syncNames
        rw [begin_live hl1]; rfl
      have er : runFrom [syncNamesD] (M.newFile.does ⟨[], s, M.files.length⟩, 0) = ({ M.newFile.does ⟨[], s, M.files.length⟩ with kept := (M.newFile.does ⟨[], s, M.files.length⟩).now, chs := [] }, 0) := by
        unfold runFrom
        rw [if_pos rfl, runF_one (g := syncNamesD) es]
        rfl
      rw [er]
      exact ⟨_, rfl, rfl⟩
  obtain ⟨Ma, e1, hra⟩ := key
  obtain ⟨_, oka, sza⟩ := Makes.but (c := 4) ((makes_create s).cons (makes_syncNames.cons Makes.nil)) k M ok hs (by omega)
  change ((butD 4 (madeD s)).f M).1.Ok at oka
  change Sz (k + (1 + (1 + 0))) ((butD 4 (madeD s)).f M).1 at sza
  have hha := (lead_made (M0 := M) (o := o) (x := b) hw hg M ok ⟨hc, rfl, rfl⟩).2.1 (by rw [e1])
  have hla : Live ((butD 4 (madeD s)).f M).1 := PlaceX.Lives.but (PlaceX.Lives.list fun g hg => by
    simp only [List.mem_cons, List.not_mem_nil, or_false] at hg
    rcases hg with rfl | rfl
    · exact PlaceX.lives_create _
    · exact PlaceX.lives_syncNames) M hl
  rw [e1] at oka sza hha hla
  obtain ⟨f, hf, hb⟩ := hasF_now hha
  have hu : Ma.used ≤ 50 * (k + (1 + (1 + 0))) := sza.used
  have e2 : (appendD s b).f Ma = (Ma.setFile f ((Ma.file f).1 ++ b, (Ma.file f).2), 0) := by
    show Ma.append s b = _
    unfold MD.append
    rw [onFile_some (by rw [begin_live hla]) hf, begin_live hla]
    simp only
    rw [if_neg (by omega)]
  have hl2 : Live (Ma.setFile f ((Ma.file f).1 ++ b, (Ma.file f).2)) := hla
  have e3 : (syncD s).f (Ma.setFile f ((Ma.file f).1 ++ b, (Ma.file f).2)) = ((Ma.setFile f ((Ma.file f).1 ++ b, (Ma.file f).2)).setFile f (((Ma.setFile f ((Ma.file f).1 ++ b, (Ma.file f).2)).file f).1, ((Ma.setFile f ((Ma.file f).1 ++ b, (Ma.file f).2)).file f).1.length), 0) := by
    show (Ma.setFile f _).sync s = _
    unfold MD.sync
    rw [onFile_some (by rw [begin_live hl2]) (show nfind (Ma.setFile f _).now s = some f from hf), begin_live hl2]
  have hgr : (growAll s b).f M = ((Ma.setFile f ((Ma.file f).1 ++ b, (Ma.file f).2)).setFile f (((Ma.setFile f ((Ma.file f).1 ++ b, (Ma.file f).2)).file f).1, ((Ma.setFile f ((Ma.file f).1 ++ b, (Ma.file f).2)).file f).1.length), 0) := by
    show (if growsOk s then (growD s b).f M else (M, 1)) = _
    rw [if_pos hg]
    show runF [butD 4 (madeD s), appendD s b, syncD s] M = _
    rw [runF_one e1, runF_one e2, runF_one e3]
    rfl
  have h0 : ((growAll s b).f M).2 = 0 := by rw [hgr]
  refine ⟨h0, by rw [hgr]; exact hra, (grow_part hw ok ⟨hc, rfl, rfl⟩).2.2 h0⟩
end Go.Proofs.Ytpncnionnfomeaa.Place
