import Derived.Test.YtckmcglkjfkghaaDoorAwX
namespace Go.Proofs.YtckmcglkjfkghaaDoor.Aw
open Go Go.RowKit
set_option linter.unusedVariables false
set_option linter.unusedSimpArgs false
def V.strip : Nat → V → V
  | 0, v => v
  | n + 1, .bytes l _ => .bytes l none
  | n + 1, .list sz l _ => .list sz (l.map (V.strip n)) none
  | n + 1, .agg l => .agg (l.map (V.strip n))
  | n + 1, .tuple l => .tuple (l.map (V.strip n))
  | n + 1, v => v
theorem strip0 : V.strip 0 = id := by funext v; cases v <;> rfl
theorem strip_cells (n : Nat) (v : V) : ∃ m, m ≤ n ∧ (v.strip n).cells = v.cells.map (V.strip m) := by
  cases n with
  | zero => exact ⟨0, Nat.le_refl _, by rw [strip0]; simp⟩
  | succ n =>
    cases v
    case agg l => exact ⟨n, by omega, rfl⟩
    all_goals exact ⟨n + 1, Nat.le_refl _, rfl⟩
theorem strip_cells_len (n : Nat) (v : V) : (v.strip n).cells.length = v.cells.length := by
  obtain ⟨m, _, e⟩ := strip_cells n v
  rw [e, List.length_map]
theorem strip_flat {R : V → Value → Prop} {N : Nat} (hR : ∀ m, m ≤ N → ∀ v u, R v u → R (v.strip m) u) (n : Nat) (hn : n ≤ N) : ∀ (l : List V) (f : Nat → Value), (∀ j v, (l.flatMap V.cells)[j]? = some v → R v (f j)) →
    ((l.map (V.strip n)).flatMap V.cells).length = (l.flatMap V.cells).length ∧ ∀ j v, ((l.map (V.strip n)).flatMap V.cells)[j]? = some v → R v (f j)
  | [], f, h => ⟨rfl, fun j v hv => by simp at hv⟩
  | x :: l, f, h => by
    obtain ⟨m, hm, e⟩ := strip_cells n x
    simp only [List.flatMap_cons, List.map_cons] at h ⊢
    obtain ⟨h1, h2⟩ := strip_flat hR n hn l (fun j => f (x.cells.length + j)) fun j v hv => h (x.cells.length + j) v (by rw [List.getElem?_append_right (by omega), show x.cells.length + j - x.cells.length = j by omega]; exact hv)
    refine ⟨by rw [List.length_append, List.length_append, h1, e, List.length_map], fun j v hv => ?_⟩
    rw [e] at hv
    by_cases hj : j < x.cells.length
    · rw [List.getElem?_append_left (by rw [List.length_map]; exact hj), List.getElem?_map] at hv
      rw [List.getElem?_eq_getElem hj] at hv
      simp only [Option.map_some, Option.some.injEq] at hv
      subst hv
      exact hR m (by omega) _ _ (h j _ (by rw [List.getElem?_append_left hj, List.getElem?_eq_getElem hj]))
    · rw [List.getElem?_append_right (by rw [List.length_map]; omega), List.length_map] at hv
      have := h2 (j - x.cells.length) v hv
      rwa [show x.cells.length + (j - x.cells.length) = j by omega] at this
theorem Rel.strip {K : Kw} : ∀ (N n : Nat), n ≤ N → ∀ (v : V) (u : Value), Rel K v u → Rel K (v.strip n) u
  | 0, n, hn, v, u, h => by
    obtain rfl : n = 0 := by omega
    rw [strip0]; exact h
  | N + 1, 0, hn, v, u, h => by rw [strip0]; exact h
  | N + 1, n + 1, hn, v, u, h => by
    have ih := Rel.strip (K := K) N
    cases h with
    | bytes l t A c hc hm hr ht => exact .bytes l none A c hc hm hr trivial
    | list sz l t A c f hc hm hs hr hf ht =>
      obtain ⟨h1, h2⟩ := strip_flat (R := Rel K) (N := N) ih n (by omega) l f fun j v hv => by
        obtain ⟨hj, rfl⟩ := List.getElem?_eq_some_iff.1 hv
        exact hf j hj
      have := Rel.list (K := K) sz (l.map (V.strip n)) none A c f (by rw [List.length_map]; exact hc) hm (fun v hv => by
        obtain ⟨w, hw, rfl⟩ := List.mem_map.1 hv
        rw [strip_cells_len]; exact hs w hw) (fun j hj => hr j (by rwa [List.length_map] at hj)) (fun j hj => h2 j _ (List.getElem?_eq_getElem hj)) trivial
      rwa [List.length_map] at this
    | agg l vs hl ho h =>
      refine .agg _ vs (by rw [List.length_map]; exact hl) ho fun j hj => ?_
      rw [List.getElem_map]
      exact ih n (by omega) _ _ (h j (by rwa [List.length_map] at hj))
    | tuple l vs hl h =>
      refine .tuple _ vs (by rw [List.length_map]; exact hl) fun j hj => ?_
      rw [List.getElem_map]
      exact ih n (by omega) _ _ (h j (by rwa [List.length_map] at hj))
    | any => exact .any _
    | undef => exact .undef
    | int => exact .int _ _
    | bool => exact .bool _
    | may _ _ _ h1 h2 => exact .may _ _ _ h1 h2
    | str => exact .str _
    | raw => exact .raw _
    | nils => exact .nils
    | zero => exact .zero _
    | box _ _ _ h1 _ h2 => exact .box _ _ _ h1 _ h2
    | vrow _ _ _ _ _ _ h1 h2 h3 => exact .vrow _ _ _ _ _ _ h1 h2 h3
    | mref _ _ h1 => exact .mref _ _ h1
    | iter _ _ h1 => exact .iter _ _ h1
    | mrow _ _ _ _ _ _ h1 h2 h3 => exact .mrow _ _ _ _ _ _ h1 h2 h3
    | ref _ _ _ h1 h2 => exact .ref _ _ _ h1 h2
    | fn _ _ _ _ _ h1 h2 h3 h4 => exact .fn _ _ _ _ _ h1 h2 h3 h4
abbrev Kw.still (K : Kw) (L : List (List V)) : Kw := ⟨K.w, K.full L, [], []⟩
def Rows (L : List (List V)) (sz o n : Nat) (l : List V) : Prop :=
  ∃ k cs, L[o]? = some cs ∧ n * sz ≤ cs.length ∧ l.length = n ∧ (∀ x ∈ l, x.cells.length = sz) ∧ l.flatMap V.cells = (cs.take (n * sz)).map (V.strip k) ∧ ∀ x ∈ l, x.clean
theorem flat_clean {l : List V} (h : ∀ x ∈ l, x.clean) : ∀ x ∈ l.flatMap V.cells, x.clean := by
  intro x hx
  obtain ⟨y, hy, hx⟩ := List.mem_flatMap.1 hx
  exact clean_cells (h y hy) x hx
theorem rows_rel {K : Kw} {L : List (List V)} (hL : BoxesOk K L) {em : TypeId} {sz o n : Nat} {l : List V} {u : Value} (h : Rel K (.vrow em sz o n) u) (hr : Rows L sz o n l) : Rel (K.still L) (.list sz l none) u := by
  obtain ⟨k, cs, hcs, hfit, hlen, hsz, hfl, hcl⟩ := hr
  have hfc := flat_clean hcl
  have hll : (l.flatMap V.cells).length = n * sz := by rw [hfl, List.length_map, List.length_take]; omega
  cases h with
  | vrow _ _ _ _ A c hc hm hA =>
  subst hlen
  by_cases h0 : l.length * sz = 0
  · refine Rel.list sz l none A c (fun _ => Go.undef) hc hm hsz (fun j hj => by omega) (fun j hj => by omega) trivial
  · rcases hA with ⟨hn, _⟩ | ⟨b, m, rfl, hb, hs, hle⟩
    · rw [hn] at h0; simp at h0
    · obtain ⟨cur, ty, hh, hsize, hrel⟩ := box_cells (off := 0) hL hcs hb hs
      refine Rel.list sz l none _ c (fun j => cur.getD j Go.undef) hc hm hsz (fun j hj => ?_) (fun j hj => ?_) trivial
      · have hjc : j < cs.length := by omega
        obtain ⟨h1, h2⟩ := hrel j hjc
        have hg : cur.getD j Go.undef = cur[j]'(by omega) := by simp [Array.getD, show j < cur.size by omega]
        rw [hg]
        refine ⟨⟨_, rfl, ⟨?_, ?_⟩⟩, h2⟩
        · rw [Addr.add_lit]
          exact .inr ⟨o, cs, hb, hcs, by simpa using hjc⟩
        · rw [Addr.add_lit]
          show K.w.cell? _ = _
          simp only [Nat.zero_add]
          rw [cell_of_row K.w b j cur ty (0, 0) hh, Array.getElem?_eq_getElem (by omega)]
      · have hjc : j < cs.length := by omega
        obtain ⟨h1, h2⟩ := hrel j hjc
        have hg : cur.getD j Go.undef = cur[j]'(by omega) := by simp [Array.getD, show j < cur.size by omega]
        have hv : (l.flatMap V.cells)[j] = V.strip k cs[j] := by
          have : (l.flatMap V.cells)[j]? = ((cs.take (l.length * sz)).map (V.strip k))[j]? := by rw [hfl]
          rw [List.getElem?_eq_getElem hj, List.getElem?_map, List.getElem?_take_of_lt (by omega), List.getElem?_eq_getElem hjc] at this
          simpa using this
        rw [hv]
        simp only [hg]
        have h3 := Rel.strip k k (Nat.le_refl _) _ _ h1
        exact Rel.clean (K2 := K.still L) (fun a u hr => ⟨.inl hr.1, hr.2⟩) h3 (by rw [← hv]; exact hfc _ (List.getElem_mem _))
def RetV1 (L : List (List V)) (v r : V) : Prop :=
  match v with
  | .vrow em sz o n => ∃ l, r = .list sz l none ∧ Rows L sz o n l
  | v => ∃ k, V.le (v.strip k) r ∧ r.clean
def RetVL (L : List (List V)) : List V → List V → Prop
  | [], [] => True
  | v :: l, r :: l' => RetV1 L v r ∧ RetVL L l l'
  | _, _ => False
def RetV (L : List (List V)) (v r : V) : Prop :=
  match v, r with
  | .tuple l, .tuple l' => RetVL L l l'
  | v, r => RetV1 L v r
theorem retV1_rel {K : Kw} {L : List (List V)} (hL : BoxesOk K L) {v r : V} {u : Value} (h : Rel K v u) (hr : RetV1 L v r) : Rel (K.still L) r u := by
  unfold RetV1 at hr
  split at hr
  · obtain ⟨l, rfl, hr⟩ := hr
    exact rows_rel hL h hr
  · obtain ⟨k, hle, hc⟩ := hr
    exact Rel.clean (K2 := K.still L) (fun a u hr => ⟨.inl hr.1, hr.2⟩) (le_rel _ _ hle _ (Rel.strip k k (Nat.le_refl _) _ _ h)) hc
theorem retVL_rel {K : Kw} {L : List (List V)} (hL : BoxesOk K L) : ∀ {l l' : List V} (f : Nat → Value), (∀ j (h : j < l.length), Rel K l[j] (f j)) → RetVL L l l' → l.length = l'.length ∧ ∀ j (h : j < l'.length), Rel (K.still L) l'[j] (f j)
  | [], [], f, h, hr => ⟨rfl, fun j hj => absurd hj (by simp)⟩
  | v :: l, r :: l', f, h, hr => by
    obtain ⟨h1, h2⟩ := hr
    obtain ⟨e, h3⟩ := retVL_rel hL (fun j => f (j + 1)) (fun j hj => h (j + 1) (by simp; omega)) h2
    refine ⟨by simp [e], fun j hj => ?_⟩
    cases j with
    | zero => exact retV1_rel hL (h 0 (by simp)) h1
    | succ j => exact h3 j (by simpa using hj)
  | [], _ :: _, _, _, hr => hr.elim
  | _ :: _, [], _, _, hr => hr.elim
theorem retV_rel {K : Kw} {L : List (List V)} (hL : BoxesOk K L) {v r : V} {u : Value} (h : Rel K v u) (hr : RetV L v r) : Rel (K.still L) r u := by
  unfold RetV at hr
  split at hr
  · rename_i l l'
    cases h with
    | tuple _ vs hl hj =>
      obtain ⟨e, h2⟩ := retVL_rel hL (fun j => vs.getD j Go.undef) (fun j hj' => by
        have hs : j < vs.size := by omega
        simpa [Array.getD, hs] using hj j hj') hr
      refine .tuple l' vs (by omega) fun j hj' => ?_
      have hs : j < vs.size := by omega
      simpa [Array.getD, hs] using h2 j hj'
  · exact retV1_rel hL h hr
theorem retV_list {L : List (List V)} {sz : Nat} {l : List V} {t : Option Nat} (h : ∀ v ∈ l, v.clean) : RetV1 L (.list sz l t) (.list sz l none) := ⟨0, by cases t <;> exact ⟨rfl, rfl⟩, by unfold V.clean; exact ⟨rfl, h⟩⟩
theorem retV_listR {L : List (List V)} {sz : Nat} {l : List V} {t : Option Nat} (h : ∀ v ∈ l, v.clean) : RetV L (.list sz l t) (.list sz l none) := retV_list (L := L) h
theorem retV_self {L : List (List V)} {v : V} (h : v.clean) (hv : ∀ em sz o n, v ≠ .vrow em sz o n) : RetV1 L v v := by
  unfold RetV1
  split
  · rename_i em sz o n; exact absurd rfl (hv em sz o n)
  · exact ⟨0, by rw [strip0]; exact le_self _, h⟩
theorem leLL_refl (L : List (List V)) : leLL L L = True := by
  refine eq_true ?_
  induction L with
  | nil => exact trivial
  | cons x L ih => exact ⟨by rw [leL_self]; trivial, ih⟩
def noV : Nat → Prop := fun _ => False
def retPostV (τ : Tys) (rs : List ResultVar) (r : V) : Exit → St → Prop
  | .normal, st => ∃ v, resV τ st rs = some v ∧ RetV st.L v r
  | .ret, st => ∃ v, resV τ st rs = some v ∧ RetV st.L v r
  | _, _ => False
theorem Rel.listLe {K : Kw} {sz : Nat} {l l' : List V} {t : Option Nat} {u : Value} (h : Rel K (.list sz l t) u) (hl : l'.length = l.length) (hs : ∀ v ∈ l', v.cells.length = sz) (hle : V.le.leL (l.flatMap V.cells) (l'.flatMap V.cells)) : Rel K (.list sz l' none) u := by
  cases h with
  | list _ _ _ A c f hc hm hs0 hr hf ht =>
    obtain ⟨e, h2⟩ := leL_rel _ _ hle
    have := Rel.list (K := K) sz l' none A c f (by omega) hm hs (fun j hj => hr j (by rw [← hl]; exact hj)) (fun j hj => h2 f hf j hj) trivial
    rwa [hl] at this
theorem FSound.map {P : Program} {f : FuncId} {m : FM} (h : FSound P f m) (g : V → V) (hg : ∀ K v u, Rel K v u → Rel K (g v) u) : FSound P f fun args => m (args.map g) := by
  intro w prot args vs p r fr htt hth hm hp hsz hrel
  refine h w prot (args.map g) vs p r fr htt hth hm hp (by simpa using hsz) fun j hj hj' => ?_
  rw [List.getElem_map]
  exact hg _ _ _ (hrel j (by simpa using hj) hj')
section
variable {P : Program} {τ : Tys} {Γ : Fns}
theorem fsoundV (hτ : TyOk P τ) (hΓ : FnsOk P Γ) (hmix : P.follows .mixedOrders = true) {f : FuncId} {fn : Func} {c : Code} {m : FM} (hf : P.funcs[f]? = some fn) (hb : fn.body = some c)
    (h : ∀ args p r fr, m args = some (p, r, fr) → p → fr = [] ∧ awp τ Γ c (retPostV τ fn.results.toList r) ⟨args ++ List.replicate (fn.ntmps - args.length) .undef, [], []⟩) (hy0 : Γ.hy = fun _ => none := by rfl) : FSound P f m := by
  intro w prot args vs p r fr htt hth hm hp hsz hrel
  obtain ⟨rfl, h⟩ := h args p r fr hm hp
  refine callsIn_wide.1 (callsIn_of_wp_marks (F := Fence.wide) (n := 0) hf hb trivial ?_)
  have hmem0 : Mem P w (Bs.pure w prot) ⟨w, prot, [], []⟩ [] [] := ⟨Below.refl _ _, fun _ _ _ => Iff.rfl, hth, ⟨rfl, fun o cs h => (by simp at h)⟩, fun b hb => (by cases hb), fun o b cs h => (by simp at h), fun o o' b h1 h2 => (by simp at h1), rfl, fun k v n e h => (by simp at h), fun k k' t t' b h => (by simp at h), fun k t b h => (by simp at h), keeps_pure _ _ _, htt⟩
  have hinv : Inv P w (Bs.pure w prot) ⟨w, prot, [], []⟩ ⟨args ++ List.replicate (fn.ntmps - args.length) .undef, [], []⟩ { tmps := vs ++ Array.replicate (fn.ntmps - vs.size) Go.undef, defers := [] } := by
    refine ⟨hmem0, by simp [hsz], fun i hi hi' => ?_, trivial⟩
    simp only [List.getElem_append, Array.getElem_append]
    by_cases hlt : i < args.length
    · have hlt' : i < vs.size := by omega
      simp only [hlt, hlt', dite_true]
      exact hrel i hlt hlt'
    · have hlt' : ¬ i < vs.size := by omega
      simp only [hlt, hlt', dite_false, List.getElem_replicate, Array.getElem_replicate]
      exact .undef
  have hpost : ∀ (K : Kw) (st : St) (a : Act), Inv P w (Bs.pure w prot) K st a → (∃ v, resV τ st fn.results.toList = some v ∧ RetV st.L v r) →
      ∃ v, (results fn a.tmps).run P K.w = .ok v K.w ∧ ∃ u K', Ending.returned v = .returned u ∧ K'.w = K.w ∧ Mem P w (Bs.pure w prot) K' [] [] ∧ Rel K' r u := by
    intro K st a hi ⟨v, hv, hret⟩
    obtain ⟨u, hu, hr⟩ := results_sound (P := P) hτ hi hv
    have hme := hi.mem
    have hge : ∀ b o, K.full st.L b o → K.prot b o ∨ w.heap.size ≤ b := fun b o hb => hb.imp id fun ⟨i, cs, h1, _⟩ => hme.boxGe b (List.mem_of_getElem? h1)
    refine ⟨u, hu, u, K.still st.L, rfl, rfl, ⟨hme.below, fun b o hlt => ?_, fun b o hb => ?_, ⟨rfl, fun o cs h => (by simp at h)⟩, fun b hb => (by cases hb), fun o b cs h => (by simp at h), fun o o' b h1 h2 => (by simp at h1), rfl, fun k v n e h => (by simp at h), fun k k' t t' b h => (by simp at h), fun k t b h => (by simp at h), keeps_pure _ _ _, htt⟩, retV_rel hme.boxes hr hret⟩
    · rw [← hme.old b o hlt]
      exact ⟨fun hb => (hge b o hb).resolve_right (by omega), .inl⟩
    · rcases hb with hb | ⟨i, cs, hb, _, _⟩
      · exact hme.there b o hb
      · exact hme.boxes.lt (List.mem_of_getElem? hb)
  have hΓ' : FnsAt P w (Bs.pure w prot) Γ := { toFnsOk := hΓ, hy := fun b m hb => (by rw [hy0] at hb; cases hb), nb := Nat.zero_le _, nt := Nat.zero_le _ }
  refine awp_wp hτ hmix c Γ (Bs.pure w prot) none hΓ' (fun l e => by cases e) _ _ (fun e K st a hi hk => ?_) _ _ _ hinv h
  cases e <;> first | exact leaves_marks a.defers K hi.defers hi.mem (fun K' he' hm' => hpost K' st { a with defers := [] } ⟨hm', hi.size, fun i h1 h2 => (hi.slots i h1 h2).ext0 he', trivial⟩ hk) | exact hk.elim
abbrev SeenL := RetVL
def FM.seen (m : FM) : PM := fun args L T K => ∃ args' p r, SeenL L args args' ∧ m args' = some (p, r, []) ∧ p ∧ r.plain ∧ K r L T
theorem PSound.ofF {f : FuncId} {m : FM} (h : FSound P f m) : PSound P f m.seen := by
  intro B p0 K L T args vs Kont hm ⟨args', p, r, hs, hmm, hp, hpl, hk⟩ hsz hrel
  obtain ⟨e, h2⟩ := retVL_rel hm.boxes (fun j => vs.getD j Go.undef) (fun j hj' => by
    have hs : j < vs.size := by omega
    simpa [Array.getD, hs] using hrel j hj' hs) hs
  have hfull : ∀ b o, K.full L b o → b < K.w.heap.size := by
    rintro b o (hb | ⟨i, cs, hb, _, _⟩)
    · exact hm.there b o hb
    · exact hm.boxes.lt (List.mem_of_getElem? hb)
  refine (h K.w (K.full L) args' vs p r [] hm.tabsK hfull hmm hp (by omega) (fun j hj hj' => by
    have := h2 j hj
    simpa [Array.getD, hj'] using this)).mono fun e w' ⟨u, K', he, hw, hmK, hr⟩ => ?_
  obtain ⟨he1, hm1⟩ := hm.grow (q := fun _ _ => False) hmK.below (fun b o hq => hq.elim)
  exact ⟨u, { K with w := K'.w, prot := fun b o => K.prot b o ∨ False }, r, L, T, he, hw, he1, hm1, Rel.plain hr hpl, hk⟩
end
end Go.Proofs.YtckmcglkjfkghaaDoor.Aw
