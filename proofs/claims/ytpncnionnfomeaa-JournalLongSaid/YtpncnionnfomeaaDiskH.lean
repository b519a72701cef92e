import Derived.Test.YtpncnionnfomeaaDiskC
namespace Go.Proofs.Ytpncnionnfomeaa.DiskH
open Go Go.Proofs.Ytpncnionnfomeaa.Aw Go.Proofs.Ytpncnionnfomeaa.DiskM Go.Proofs.Ytpncnionnfomeaa.DiskA Go.Proofs.Ytpncnionnfomeaa.DiskC
set_option linter.unusedVariables false
set_option linter.unusedSimpArgs false
theorem crash_now (M : MD) (w : Wreck) : (M.crash w).now = num (M.at w) 0 := by rw [crash_eq]; rfl
theorem crash_names (M : MD) (w : Wreck) : (M.crash w).now.map (·.1) = (M.at w).map (·.1) := by rw [crash_now, num_names]
theorem crash_begin (M : MD) (w : Wreck) : (M.crash w).begin = (M.crash w, true) := by
  have h1 : (M.crash w).down = false := rfl
  have h2 : (M.crash w).doomed = false := rfl
  simp [MD.begin, h1, h2]
theorem crs_get (M : MD) (w : Wreck) : ∀ (l : Names) (k i : Nat) (e : Name × Nat), l[i]? = some e → (crs M w l k)[i]? = some (crashF w (k + i) (M.file e.2))
  | [], k, i, e, h => by simp at h
  | x :: r, k, 0, e, h => by
    simp only [List.getElem?_cons_zero, Option.some.injEq] at h
    subst h
    rfl
  | x :: r, k, i + 1, e, h => by
    simp only [List.getElem?_cons_succ] at h
    have := crs_get M w r (k + 1) i e h
    simp only [crs, List.getElem?_cons_succ, this]
    rw [show k + 1 + i = k + (i + 1) by omega]
theorem crash_file {M : MD} {w : Wreck} {i : Nat} {e : Name × Nat} (h : (M.at w)[i]? = some e) : (M.crash w).file i = crashF w i (M.file e.2) := by
  rw [crash_eq]
  show ((crs M w (M.at w) 0).getD i ([], 0)) = _
  rw [List.getD_eq_getElem?_getD, crs_get M w _ 0 i e h, Nat.zero_add]
  rfl
theorem at_names {M : MD} (ok : M.Ok) (w : Wreck) : ((M.at w).map (·.1)).Nodup := (at_ok ok w).1.nodup
theorem crash_find {M : MD} (ok : M.Ok) {w : Wreck} {i : Nat} {e : Name × Nat} (h : (M.at w)[i]? = some e) : nfind (M.crash w).now e.1 = some i := by
  rw [crash_now]
  exact nfind_num (at_names ok w) h
theorem crash_read {M : MD} (ok : M.Ok) {w : Wreck} {i : Nat} {e : Name × Nat} (h : (M.at w)[i]? = some e) : (M.crash w).readB e.1 = (crashF w i (M.file e.2)).1 := by
  unfold MD.readB
  rw [crash_begin, crash_find ok h]
  exact congrArg (fun x => x.1) (crash_file h)
theorem crash_read_none {M : MD} {w : Wreck} {n : Name} (h : n ∉ (M.at w).map (·.1)) : (M.crash w).readB n = [] := by
  unfold MD.readB
  rw [crash_begin]
  have : nfind (M.crash w).now n = none := nfind_none.2 (by rw [crash_names]; exact h)
  rw [this]
  rfl
structure Kept (M : MD) : Prop where
  chs : M.chs = []
  all : ∀ n f, nfind M.kept n = some f → (M.file f).2 = (M.file f).1.length
theorem kept_at {M : MD} (h : Kept M) (w : Wreck) : M.at w = M.kept := by
  unfold MD.at
  rw [h.chs]
  simp [play]
theorem kept_now {M : MD} (h : Kept M) : M.now = M.kept := by unfold MD.now; rw [h.chs]; rfl
theorem crashF_kept {w : Wreck} {i : Nat} {x : List UInt8 × Nat} (h : x.2 = x.1.length) : (crashF w i x).1 = x.1 := by
  unfold crashF
  rw [List.take_of_length_le (by omega)]
theorem kept_mem {M : MD} (ok : M.Ok) (h : Kept M) {e : Name × Nat} (he : e ∈ M.kept) : (M.file e.2).2 = (M.file e.2).1.length := h.all e.1 e.2 (nfind_some ok.rise.nodup he)
theorem kept_read {M : MD} (ok : M.Ok) (h : Kept M) (hb : M.begin = (M, true)) (w : Wreck) (n : Name) : M.readB n = (M.crash w).readB n := by
  by_cases hn : n ∈ M.kept.map (·.1)
  · obtain ⟨e, he, rfl⟩ := List.mem_map.1 hn
    obtain ⟨i, hi⟩ := List.mem_iff_getElem?.1 he
    have hi' : (M.at w)[i]? = some e := by rw [kept_at h]; exact hi
    rw [crash_read ok hi', crashF_kept (kept_mem ok h he)]
    unfold MD.readB
    rw [hb, kept_now h, nfind_some ok.rise.nodup (show (e.1, e.2) ∈ M.kept from he)]
    rfl
  · rw [crash_read_none (by rw [kept_at h]; exact hn)]
    unfold MD.readB
    rw [hb, kept_now h, nfind_none.2 hn]
    rfl
theorem kept_used {M : MD} (ok : M.Ok) (h : Kept M) (w : Wreck) : (M.crash w).used = M.used := by
  rw [crash_used, kept_at h]
  unfold MD.used reach
  rw [h.chs]
  have key : ∀ (l : Names) (k : Nat), (∀ e ∈ l, (M.file e.2).2 = (M.file e.2).1.length) → ((crs M w l k).map fun x => x.1.length).sum = ((l.map (·.2)).map M.size).sum := by
    intro l
    induction l with
    | nil => intro k _; rfl
    | cons e r ih =>
      intro k he
      simp only [crs, List.map_cons, List.sum_cons]
      rw [ih (k + 1) fun x hx => he x (List.mem_cons_of_mem _ hx), crashF_kept (he e (by simp))]
      rfl
  rw [key _ 0 fun e he => kept_mem ok h he]
  simp
theorem kept_names {M : MD} (h : Kept M) (w : Wreck) : M.now.map (·.1) = (M.crash w).now.map (·.1) := by rw [crash_names, kept_at h, kept_now h]
theorem crash_kept {M : MD} (ok : M.Ok) (w : Wreck) : Kept (M.crash w) := by
  refine ⟨rfl, fun n f hf => ?_⟩
  have hf' : nfind (M.crash w).now n = some f := hf
  rw [crash_now] at hf'
  have hm := nfind_mem hf'
  have hlt : f < (M.at w).length := by
    have : f ∈ (num (M.at w) 0).map (·.2) := List.mem_map.2 ⟨_, hm, rfl⟩
    rw [num_files, List.mem_range'] at this
    obtain ⟨i, hi, rfl⟩ := this
    omega
  rw [crash_file (List.getElem?_eq_getElem hlt)]
  have hc := file_cut ok ((M.at w)[f]).2
  have := wleft_le w f ((M.file ((M.at w)[f]).2).1.length - (M.file ((M.at w)[f]).2).2)
  unfold crashF
  simp only [List.length_take]
  omega
end Go.Proofs.Ytpncnionnfomeaa.DiskH
