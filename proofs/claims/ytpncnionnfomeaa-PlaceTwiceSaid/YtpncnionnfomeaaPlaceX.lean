import Derived.Test.YtpncnionnfomeaaPlaceU
namespace Go.Proofs.Ytpncnionnfomeaa.Place
open Go Go.Proofs Go.Proofs.Ytpncnionnfomeaa.Aw Go.Proofs.Ytpncnionnfomeaa.Num Go.Proofs.Ytpncnionnfomeaa.DiskM Go.Proofs.Ytpncnionnfomeaa.DiskA Go.Proofs.Ytpncnionnfomeaa.DiskC Go.Proofs.Ytpncnionnfomeaa.Disk Go.Proofs.Ytpncnionnfomeaa.DiskL Go.Proofs.Ytpncnionnfomeaa.DiskH
set_option linter.unusedSimpArgs false
set_option linter.unusedVariables false
def Takes (k : Nat) (g : Do) (M : MD) : Prop := (g.f M).2 = 0 → (∀ n, g.f (Dm M (n + k)) = (Dm (g.f M).1 n, 0)) ∧ ∀ n, n < k → (g.f (Dm M n)).2 = 40
def One (g : Do) (M : MD) : Prop := (∀ n, g.f (Dm M (n + 1)) = (Dm (g.f M).1 n, (g.f M).2)) ∧ (g.f (Dm M 0)).2 = 40
theorem One.takes {g : Do} {M : MD} (h : One g M) : Takes 1 g M := fun h0 => by
  refine ⟨fun n => by rw [h.1 n, h0], fun n hn => ?_⟩
  obtain rfl : n = 0 := by omega
  exact h.2
theorem One.but {g : Do} {M : MD} (h : One g M) : One (butD 2 g) M := by
  refine ⟨fun n => ?_, ?_⟩
  · show ((g.f (Dm M (n + 1))).1, if (g.f (Dm M (n + 1))).2 = 2 then 0 else (g.f (Dm M (n + 1))).2) = (Dm (g.f M).1 n, if (g.f M).2 = 2 then 0 else (g.f M).2)
    rw [h.1 n]
  · show (if (g.f (Dm M 0)).2 = 2 then 0 else (g.f (Dm M 0)).2) = 40
    rw [h.2]; rfl
theorem one_on {M : MD} (hl : Live M) (n : Name) (X : MD → Nat → MD × Nat) (hX : ∀ n f, X (Dm M n) f = (Dm (X M f).1 n, (X M f).2)) {p : MD → Prop} : One ⟨fun M => M.onFile n X, p⟩ M :=
  ⟨fun k => dm_onFile hl k n X (hX k), by show ((Dm M 0).onFile n X).2 = 40; rw [no_onFile dm_begin0]⟩
theorem one_remove {M : MD} (hl : Live M) (n : Name) : One (removeD n) M := one_on hl n _ fun _ _ => rfl
theorem one_sync {M : MD} (hl : Live M) (n : Name) : One (syncD n) M := one_on hl n _ fun _ _ => rfl
theorem one_rename {M : MD} (hl : Live M) (n t : Name) : One (renameD n t) M := one_on hl n _ fun _ _ => by
  split <;> rfl
theorem one_append {M : MD} (hl : Live M) (n : Name) (b : List UInt8) : One (appendD n b) M := one_on hl n _ fun k f => by
  have e : (Dm M k).used = M.used := used_eq rfl rfl rfl
  simp only [e]
  show (if M.room < _ then _ else _) = _
  split <;> rfl
theorem one_syncNames {M : MD} (hl : Live M) : One syncNamesD M := by
  refine ⟨fun n => ?_, ?_⟩
  · show (Dm M (n + 1)).syncNames = (Dm M.syncNames.1 n, M.syncNames.2)
    unfold MD.syncNames
    rw [dm_begin hl n, begin_live hl]
    rfl
  · show (Dm M 0).syncNames.2 = 40
    unfold MD.syncNames
    rw [dm_begin0]; rfl
theorem one_create {M : MD} (hl : Live M) (s : Name) : One (createD s) M := by
  refine ⟨fun n => ?_, ?_⟩
  · show (Dm M (n + 1)).create s = (Dm (M.create s).1 n, (M.create s).2)
    unfold MD.create
    rw [dm_begin hl n, begin_live hl]
    have e : (Dm M (n + 1)).now = M.now := rfl
    rw [e]
    simp only [Bool.true_eq_false, if_false]
    split
    · rfl
    · split
      · rfl
      · rfl
  · show ((Dm M 0).create s).2 = 40
    unfold MD.create
    rw [dm_begin0]; rfl
theorem Takes.nil (M : MD) : Takes 0 (runD []) M := fun _ => ⟨fun n => rfl, fun n h => absurd h (Nat.not_lt_zero _)⟩
theorem Takes.cons {i j : Nat} {g : Do} {l : List Do} {M : MD} (h : Takes i g M) (hl : (g.f M).2 = 0 → Takes j (runD l) (g.f M).1) : Takes (i + j) (runD (g :: l)) M := fun h0 => by
  change (runF (g :: l) M).2 = 0 at h0
  show (∀ n, runF (g :: l) (Dm M (n + (i + j))) = (Dm (runF (g :: l) M).1 n, 0)) ∧ ∀ n, n < i + j → (runF (g :: l) (Dm M n)).2 = 40
  simp only [runF_cons] at h0 ⊢
  by_cases hg : (g.f M).2 = 0
  · have e : runFrom l (g.f M) = runF l (g.f M).1 := by unfold runFrom; rw [if_pos hg]
    rw [e] at h0 ⊢
    obtain ⟨a, b⟩ := h hg
    obtain ⟨c, d⟩ := hl hg h0
    change ∀ n, runF l (Dm (g.f M).1 (n + j)) = (Dm (runF l (g.f M).1).1 n, 0) at c
    change ∀ n, n < j → (runF l (Dm (g.f M).1 n)).2 = 40 at d
    refine ⟨fun n => ?_, fun n hn => ?_⟩
    · rw [show n + (i + j) = n + j + i by omega, a (n + j)]
      unfold runFrom
      rw [if_pos rfl, c n]
    · by_cases hni : n < i
      · unfold runFrom
        rw [if_neg (by rw [b n hni]; decide), b n hni]
      · obtain ⟨m, rfl⟩ : ∃ m, n = m + i := ⟨n - i, by omega⟩
        rw [a m]
        unfold runFrom
        rw [if_pos rfl]
        exact d m (by omega)
  · have e : runFrom l (g.f M) = g.f M := by unfold runFrom; rw [if_neg hg]
    rw [e] at h0
    exact absurd h0 hg
theorem takes_parts (n : Name) : ∀ (cs : List (List UInt8)) (M : MD), Live M → Takes cs.length (runD (cs.map (appendD n))) M
  | [], M, _ => Takes.nil M
  | c :: cs, M, hl => by
    have := Takes.cons (one_append hl n c).takes (fun _ => takes_parts n cs _ (PlaceX.lives_append n c M hl))
    rw [Nat.add_comm] at this
    exact this
theorem takes_put {M : MD} (hl : Live M) {n : Name} (hn : growsOk n) (b : List UInt8) : Takes (5 + (chunks b).length) (putAll n b) M := by
  have h0 := PlaceX.lives_remove onTheWay M hl
  have h1 := PlaceX.lives_create onTheWay _ h0
  have h2 : Live ((partsD b).f ((createD onTheWay).f ((removeD onTheWay).f M).1).1).1 := PlaceX.Lives.list (fun g hg => by obtain ⟨c, _, rfl⟩ := List.mem_map.1 hg; exact PlaceX.lives_append _ _) _ h1
  have h3 := PlaceX.lives_sync onTheWay _ h2
  have h4 := PlaceX.lives_rename onTheWay n _ h3
  have key : Takes (1 + (1 + ((chunks b).length + (1 + (1 + (1 + 0)))))) (putD n b) M :=
    (one_remove hl onTheWay).but.takes.cons fun _ => (one_create h0 onTheWay).takes.cons fun _ => (takes_parts onTheWay (chunks b) _ h1).cons fun _ => (one_sync h2 onTheWay).takes.cons fun _ => (one_rename h3 onTheWay n).takes.cons fun _ => (one_syncNames h4).takes.cons fun _ => Takes.nil _
  have e : ∀ M, (putAll n b).f M = (putD n b).f M := fun M => if_pos hn
  unfold Takes at key ⊢
  simp only [e]
  rw [show 5 + (chunks b).length = 1 + (1 + ((chunks b).length + (1 + (1 + (1 + 0))))) by omega]
  exact key
theorem runF_step {g : Do} {r : List Do} {M M' : MD} (h : g.f M = (M', 0)) : runF (g :: r) M = runF r M' := by
  rw [runF_cons, h]
  unfold runFrom
  rw [if_pos rfl]
theorem set_set (M : MD) (f : Nat) (a b : List UInt8 × Nat) : (M.setFile f a).setFile f b = M.setFile f b := by
  unfold MD.setFile
  simp only [List.set_set]
theorem set_self {M : MD} {f : Nat} (h : f < M.files.length) : M.setFile f ((M.file f).1, (M.file f).2) = M := by
  have : M.files.set f ((M.file f).1, (M.file f).2) = M.files := by
    show M.files.set f (M.file f) = M.files
    unfold MD.file
    rw [List.getD_eq_getElem?_getD, List.getElem?_eq_getElem h]
    exact List.set_getElem_self h
  unfold MD.setFile
  rw [this]
theorem apps_done {f : Nat} : ∀ (cs : List (List UInt8)) (M : MD) (k : Nat), Live M → M.Ok → Sz k M → nfind M.now onTheWay = some f → M.room = 5000 → (∀ c ∈ cs, c.length ≤ 64) → k + 2 * cs.length ≤ 90 →
    runF (cs.map (appendD onTheWay)) M = (M.setFile f ((M.file f).1 ++ cs.flatten, (M.file f).2), 0)
  | [], M, k, _, ok, _, hf, _, _, _ => by
    rw [List.flatten_nil, List.append_nil, set_self (now_lt ok hf).2]; rfl
  | c :: cs, M, k, hl, ok, hs, hf, hr, hc, hk => by
    simp only [List.length_cons] at hk
    have hcl := hc c (by simp)
    have hu := hs.used
    have e : M.append onTheWay c = (M.setFile f ((M.file f).1 ++ c, (M.file f).2), 0) := by
      unfold MD.append
      rw [onFile_some (by rw [begin_live hl]) hf, begin_live hl]
      simp only
      rw [if_neg (by rw [hr]; omega)]
    obtain ⟨_, ok1, sz1⟩ := makes_append onTheWay (b := c) (j := 2) (by omega) k M ok hs (by omega)
    change (M.append onTheWay c).1.Ok at ok1
    change Sz (k + 2) (M.append onTheWay c).1 at sz1
    rw [e] at ok1 sz1
    have hfl := (now_lt ok hf).2
    obtain ⟨M', hM'⟩ : ∃ M', M.setFile f ((M.file f).1 ++ c, (M.file f).2) = M' := ⟨_, rfl⟩
    rw [hM'] at ok1 sz1 e
    have ih := apps_done cs M' (k + 2) (by rw [← hM']; exact hl) ok1 sz1 (by rw [← hM']; exact hf) (by rw [← hM']; exact hr) (fun c h => hc c (List.mem_cons_of_mem _ h)) (by omega)
    rw [List.map_cons, runF_step (g := appendD onTheWay c) e, ih, ← hM', file_set_self _ hfl, set_set]
    simp
theorem without_with (l : Names) (n : Name) (f : Nat) : nwithout (nwith l n f) n = nwithout l n := by
  have key : ∀ l : Names, nwithout (nins l n f) n = nwithout l n := by
    intro l
    induction l with
    | nil => simp [nins, nwithout]
    | cons e r ih =>
      unfold nins
      split
      · simp [nwithout]
      · unfold nwithout at ih ⊢
        simp only [List.filter_cons]
        rw [ih]
  unfold nwith
  rw [key]
  unfold nwithout
  rw [List.filter_filter]
  simp
structure Little (name : Name) (k : Nat) (M : MD) : Prop where
  live : Live M
  ok : M.Ok
  sz : Sz k M
  chs : M.chs = []
  room : M.room = 5000
  only : ∀ e ∈ M.now, e.1 = name
theorem put_done {M : MD} {name : Name} {k : Nat} (h : Little name k M) (hg : growsOk name) {x : List UInt8} (hx : x.length ≤ 300) (hk : k ≤ 16) :
    ((putAll name x).f M).2 = 0 ∧ Little name (k + 16) ((putAll name x).f M).1 ∧ Kept ((putAll name x).f M).1 ∧ ∃ f, ((putAll name x).f M).1.kept = [(name, f)] ∧ (((putAll name x).f M).1.file f).1 = x := by
  have hl := h.live
  have hnt : nfind M.now onTheWay = none := nfind_none.2 fun hm => by
    obtain ⟨e, he, h1⟩ := List.mem_map.1 hm
    exact hg.2 ((h.only e he).symm.trans h1)
  have hrt : right onTheWay := by decide
  obtain ⟨fN, hfN⟩ : ∃ f, M.files.length = f := ⟨_, rfl⟩
  obtain ⟨M2, hM2⟩ : ∃ M2, M.newFile.does ⟨[], onTheWay, M.files.length⟩ = M2 := ⟨_, rfl⟩
  have e1 : (butD 2 (removeD onTheWay)).f M = (M, 0) := by
    show ((M.remove onTheWay).1, if (M.remove onTheWay).2 = 2 then 0 else (M.remove onTheWay).2) = _
    rw [remove_live hl, if_neg (by rw [hnt]; simp)]
    rfl
  have e2 : (createD onTheWay).f M = (M2, 0) := by
    show M.create onTheWay = _
    rw [create_live hl, if_neg (by simpa using hrt), if_neg (by rw [hnt]; simp), hM2]
  obtain ⟨_, ok2, sz2⟩ := makes_create onTheWay k M h.ok h.sz (by omega)
  rw [e2] at ok2 sz2
  have hl2 : Live M2 := by have := PlaceX.lives_create onTheWay M hl; rw [e2] at this; exact this
  have hn2 : M2.now = nwith M.now onTheWay fN := by
    rw [← hM2, ← hfN]
    exact (made_now h.ok hrt (nfind_none.1 hnt)).1
  have hf2 : nfind M2.now onTheWay = some fN := by rw [hn2, nfind_with, if_pos rfl]
  have hr2 : M2.room = 5000 := by rw [← hM2]; exact h.room
  have hfile2 : M2.file fN = ([], 0) := by
    rw [← hM2, ← hfN]
    unfold MD.file MD.does MD.newFile
    simp only [List.getD_eq_getElem?_getD]
    rw [List.getElem?_append_right (Nat.le_refl _)]
    simp
  have hcl := chunks_len x
  have e3 : (partsD x).f M2 = (M2.setFile fN (x, 0), 0) := by
    show runF ((chunks x).map (appendD onTheWay)) M2 = _
    rw [apps_done (chunks x) M2 (k + 1) hl2 ok2 sz2 hf2 hr2 (fun c hc => by
      obtain ⟨i, _, rfl⟩ := List.mem_map.1 hc
      rw [List.length_take]; omega) (by omega), chunks_flat, hfile2]
    rfl
  have hlt := (now_lt ok2 hf2).2
  have hl3 : Live (M2.setFile fN (x, 0)) := hl2
  have e4 : (syncD onTheWay).f (M2.setFile fN (x, 0)) = (M2.setFile fN (x, x.length), 0) := by
    show (M2.setFile fN (x, 0)).sync onTheWay = _
    unfold MD.sync
    rw [onFile_some (by rw [begin_live hl3]) (show nfind (M2.setFile fN (x, 0)).now onTheWay = some fN from hf2), begin_live hl3]
    simp only
    rw [file_set_self _ hlt, set_set]
  have hl4 : Live (M2.setFile fN (x, x.length)) := hl2
  have e5 : (renameD onTheWay name).f (M2.setFile fN (x, x.length)) = ((M2.setFile fN (x, x.length)).does ⟨onTheWay, name, 0⟩, 0) := by
    show (M2.setFile fN (x, x.length)).rename onTheWay name = _
    unfold MD.rename
    rw [onFile_some (by rw [begin_live hl4]) (show nfind (M2.setFile fN (x, x.length)).now onTheWay = some fN from hf2), begin_live hl4]
    simp only
    rw [if_pos hg.1]
  obtain ⟨M5, hM5⟩ : ∃ M5, (M2.setFile fN (x, x.length)).does ⟨onTheWay, name, 0⟩ = M5 := ⟨_, rfl⟩
  have hl5 : Live M5 := by rw [← hM5]; exact hl2
  have e6 : syncNamesD.f M5 = ({ M5 with kept := M5.now, chs := [] }, 0) := by
    show M5.syncNames = _
    unfold MD.syncNames
    rw [begin_live hl5]; rfl
  have hput : (putAll name x).f M = ({ M5 with kept := M5.now, chs := [] }, 0) := by
    show (if growsOk name then (putD name x).f M else (M, 1)) = _
    rw [if_pos hg]
    show runF [butD 2 (removeD onTheWay), createD onTheWay, partsD x, syncD onTheWay, renameD onTheWay name, syncNamesD] M = _
    rw [runF_step e1, runF_step e2, runF_step e3, runF_step e4, runF_step (e5.trans (by rw [hM5])), runF_step e6]
    rfl
  have hwo : nwithout M.now onTheWay = M.now := without_eq hnt
  have hn5 : M5.now = [(name, fN)] := by
    rw [← hM5, does_now]
    show chg M2.now ⟨onTheWay, name, 0⟩ = _
    unfold chg cleft cfile
    rw [if_neg hg.1.1, if_neg (show onTheWay ≠ [] by decide), if_neg (show onTheWay ≠ [] by decide), hf2, hn2, without_with, hwo]
    unfold nwith
    have : nwithout M.now name = [] := by
      unfold nwithout
      exact List.filter_eq_nil_iff.2 fun e he => by simp [h.only e he]
    rw [this]
    rfl
  have hfile5 : M5.file fN = (x, x.length) := by rw [← hM5]; exact file_set_self _ hlt
  obtain ⟨_, ok6, sz6⟩ := makes_put name hx k M h.ok h.sz (by omega)
  have hl6 := PlaceX.lives_put name x M hl
  rw [hput] at ok6 sz6 hl6 ⊢
  refine ⟨rfl, ⟨hl6, ok6, sz6, rfl, by show M5.room = 5000; rw [← hM5]; exact hr2, fun e he => ?_⟩, ⟨rfl, fun n f hf => ?_⟩, fN, hn5, by show (M5.file fN).1 = x; rw [hfile5]⟩
  · have : e ∈ M5.now := he
    rw [hn5] at this
    exact congrArg Prod.fst (List.mem_singleton.1 this)
  · have hm := nfind_mem (show nfind M5.now n = some f from hf)
    rw [hn5] at hm
    have := congrArg Prod.snd (List.mem_singleton.1 hm)
    simp only at this
    subst this
    show (M5.file f).2 = (M5.file f).1.length
    rw [hfile5]
theorem little_new (name : Name) : Little name 0 (DiskM.new 5000) := ⟨⟨rfl, rfl⟩, (new_dAt 5000 [] []).ok, sz_new 5000, rfl, rfl, fun e he => by cases he⟩
end Go.Proofs.Ytpncnionnfomeaa.Place
