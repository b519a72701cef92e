import Derived.Test.YtckmcglkjfkghaaDoorAw15
namespace Go.Proofs.YtckmcglkjfkghaaDoor.Aw
open Go Go.RowKit Go.ChangeShapes
set_option linter.unusedVariables false
set_option linter.unusedSimpArgs false
abbrev K0 (w : World) : Kw := ⟨w, fun b o => (w.cell? ⟨b, o, none⟩).isSome = true, [], []⟩
section
variable {H : Type} {enc : TypeId × Value → H} {P : Program} {w : World} {base : Nat} {held : Bool}
def CellsAre (w : World) (v : V) (cs : List Value) : Prop := cs.length = v.cells.length ∧ ∀ j (h : j < cs.length) (h' : j < v.cells.length), Rel (K0 w) v.cells[j] cs[j] ∧ cs[j].oneCell' = true
theorem slices_open {α : Type} [Inhabited α] {t e : TypeId} {sz : Nat} (ht : P.underlying t = some (.slice e)) (hce : P.cellsOf e = sz) (hsz : 0 < sz) (rep : α → V) (Q : α → Prop) (hrep : ∀ g, (rep g).cells.length = sz)
    (hel : ∀ n cs x, DataW.trod enc P w base (fun _ => true) held n e cs = some x → ∃ g, Q g ∧ CellsAre w (rep g) cs) {n : Nat} {cs : List Value} {x : DataW H × List MemPlace}
    (h : DataW.trod enc P w base (fun _ => true) held n t cs = some x) :
    ∃ (a : Option Addr) (len cap : Nat) (l : List α), cs = [.slice a len cap] ∧ l.length = len ∧ len ≤ maxLen ∧ (∀ g ∈ l, Q g) ∧ Rel (K0 w) (.list sz (l.map rep) none) (.slice a len cap) := by
  rcases DataW.trod_slice ht h with ⟨hcs, _⟩ | ⟨a, len, cap, elems, rest, m, _, hcs, _, _, hl, hm, hlen, hE, _⟩
  · exact ⟨none, 0, 0, [], hcs, rfl, Nat.zero_le _, by simp, Rel.list' (fun _ => Go.undef) rfl (Nat.le_refl _) (Nat.zero_le _) (by simp) (fun j hj => by simp at hj) (fun j hj => by simp at hj) trivial⟩
  · have each : ∀ i, i < len → ∃ g : α, Q g ∧ ∀ j (hj : j < sz), ∃ c, w.cell? (a.add (i * sz + j)) = some c ∧ Rel (K0 w) ((rep g).cells[j]'(by rw [hrep]; exact hj)) c ∧ c.oneCell' = true := by
      intro i hi
      have hE1 := hE i hi
      rw [hce, List.getElem?_eq_getElem (by omega)] at hE1
      simp only [Option.bind_eq_some_iff] at hE1
      obtain ⟨c1, hc1, hy1⟩ := hE1
      obtain ⟨g, hQ, hlen1, hcells⟩ := hel _ _ _ hy1
      have hsome := World.cells?_some hc1
      refine ⟨g, hQ, fun j hj => ?_⟩
      have hjc : j < c1.length := by rw [hlen1, hrep]; exact hj
      refine ⟨c1[j], ?_, hcells j hjc (by rw [hrep]; exact hj)⟩
      have := hsome.2.2 j (by omega)
      rw [add_add] at this
      rw [this, List.getElem?_eq_getElem hjc]
    have pickG : ∃ (g : Nat → α), ∀ i, i < len → Q (g i) ∧ ∀ j (hj : j < sz), ∃ c, w.cell? (a.add (i * sz + j)) = some c ∧ Rel (K0 w) ((rep (g i)).cells[j]'(by rw [hrep]; exact hj)) c ∧ c.oneCell' = true := by
      refine ⟨fun i => if h : i < len then Classical.choose (each i h) else default, fun i hi => ?_⟩
      simp only [hi, dif_pos]
      exact Classical.choose_spec (each i hi)
    obtain ⟨g, hg⟩ := pickG
    have hll : ((List.range len).map g).length = len := by simp
    have hs : ∀ v ∈ ((List.range len).map g).map rep, v.cells.length = sz := fun v hv => by
      obtain ⟨y, _, rfl⟩ := List.mem_map.1 hv
      exact hrep y
    have hcell : ∀ k, k < len * sz → ∃ c, w.cell? (a.add k) = some c ∧ c.oneCell' = true ∧ ∀ (hk : k < ((((List.range len).map g).map rep).flatMap V.cells).length), Rel (K0 w) ((((List.range len).map g).map rep).flatMap V.cells)[k] c := by
      intro k hk
      have hi : k / sz < len := Nat.div_lt_of_lt_mul (by rw [Nat.mul_comm]; exact hk)
      have hj : k % sz < sz := Nat.mod_lt _ hsz
      have hkk : k / sz * sz + k % sz = k := by rw [Nat.mul_comm]; exact Nat.div_add_mod k sz
      obtain ⟨c, h1, h2, h3⟩ := (hg _ hi).2 _ hj
      rw [hkk] at h1
      refine ⟨c, h1, h3, fun hk2 => ?_⟩
      have hfg := flat_get sz (((List.range len).map g).map rep) hs (k / sz) (k % sz) (by simpa using hi) hj
      rw [hkk] at hfg
      have e1 : (((List.range len).map g).map rep)[k / sz]'(by simpa using hi) = rep (g (k / sz)) := by simp
      rw [e1, List.getElem?_eq_getElem hk2, List.getElem?_eq_getElem (by rw [hrep]; exact hj)] at hfg
      rw [Option.some.inj hfg]
      exact h2
    refine ⟨some a, len, cap, (List.range len).map g, hcs, hll, by omega, fun y hy => ?_, Rel.list' (fun k => (w.cell? (a.add k)).getD Go.undef) (by simp) hl hm hs (fun k hk => ?_) (fun k hk => ?_) trivial⟩
    · obtain ⟨i, hi, rfl⟩ := List.mem_map.1 hy
      exact (hg i (List.mem_range.1 hi)).1
    · have hk' : k < len * sz := by simpa using hk
      obtain ⟨c, h1, h2, _⟩ := hcell k hk'
      rw [h1]
      refine ⟨⟨a, rfl, ?_, h1⟩, h2⟩
      have hsn := spot_none h1
      rw [hsn] at h1
      simp [h1]
    · have hk' : k < len * sz := by
        have := hk
        rw [flat_len sz _ hs] at this
        simpa using this
      obtain ⟨c, h1, _, h3⟩ := hcell k hk'
      rw [h1]
      exact h3 hk
theorem ints_open {t e : TypeId} (ht : P.underlying t = some (.slice e)) (he : P.underlying e = some (.int .i64)) (hc : P.cellsOf e = 1) {n : Nat} {cs : List Value} {x : DataW H × List MemPlace}
    (h : DataW.trod enc P w base (fun _ => true) held n t cs = some x) :
    ∃ (a : Option Addr) (len cap : Nat) (l : List Int), cs = [.slice a len cap] ∧ l.length = len ∧ len ≤ maxLen ∧ (∀ g ∈ l, (Lit.int .i64 g).wf = true) ∧ Rel (K0 w) (.list 1 (l.map fun n => .int .i64 n) none) (.slice a len cap) :=
  slices_open ht hc (by omega) (fun n => .int .i64 n) (fun g => (Lit.int .i64 g).wf = true) (fun g => rfl) (fun n cs x hx => by
    obtain ⟨g, rfl, _, hw⟩ := DataW.trod_int he hx
    refine ⟨g, hw, rfl, fun j h1 h2 => ?_⟩
    have : j = 0 := by simpa using h1
    subst this
    exact ⟨.int _ _, rfl⟩) h
end
theorem law_callsP {P : Program} {f : FuncId} {m : PM} (h : PSound P f m) {w : World} {args : List V} {vs : Array Value} (htt : Tabs P w) (hm : m args [] [] fun r _ _ => r = .bool true) (hsz : vs.size = args.length)
    (hrel : ∀ j (h : j < args.length) (h' : j < vs.size), Rel (K0 w) args[j] vs[j]) :
    Calls P f vs w fun e w' => e = .returned (.bool true) ∧ Below w.heap.size w w' := by
  have hth : ∀ b o, (w.cell? ⟨b, o, none⟩).isSome = true → b < w.heap.size := fun b o hb => by
    obtain ⟨u, hu⟩ := Option.isSome_iff_exists.1 hb
    exact cell_lt hu
  have hmem0 : Mem P w (Bs.pure w fun b o => (w.cell? ⟨b, o, none⟩).isSome = true) (K0 w) [] [] := ⟨Below.refl _ _, fun _ _ _ => Iff.rfl, hth, ⟨rfl, fun o cs h => (by simp at h)⟩, fun b hb => (by cases hb), fun o b cs h => (by simp at h), fun o o' b h1 h2 => (by simp at h1), rfl, fun k v n e h => (by simp at h), fun k k' t t' b h => (by simp at h), fun k t b h => (by simp at h), keeps_pure _ _ _, htt⟩
  refine (h w _ (K0 w) [] [] args vs _ hmem0 hm hsz hrel).mono fun e w' ⟨v, K', r, L', T', he, hw, _, hmem, hr, hk⟩ => ?_
  subst hw hk
  cases hr
  exact ⟨he, hmem.below⟩
theorem PSound.ghost {P : Program} {f : FuncId} {m m' : PM} (h : PSound P f m) (hm : ∀ args L T K, m' args L T K → m args L T fun v L' T' => ∃ G, K v (L' ++ G) T') : PSound P f m' := by
  intro B p0 K L T args vs Kont hM hk hsz hrel
  refine (h B p0 K L T args vs _ hM (hm _ _ _ _ hk) hsz hrel).mono fun e w' ⟨v, K', r, L', T', he, hw, hx, hM', hr, G, hk'⟩ => ?_
  obtain ⟨K2, w2, x2, M2⟩ := hM'.ghosts G
  exact ⟨v, K2, r, L' ++ G, T', he, w2.trans hw, hx.trans x2, M2, hr.ext x2, hk'⟩
end Go.Proofs.YtckmcglkjfkghaaDoor.Aw
