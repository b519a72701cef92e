import Derived.Test.YtckmcglkjfkghaaDoorAwE
import Derived.Sort.LoopGhostIn
import Derived.ProofKit
namespace Go.Proofs.YtckmcglkjfkghaaDoor.Aw
open Go Go.RowKit
set_option linter.unusedVariables false
set_option linter.unusedSimpArgs false
def noGo (Q : Exit → Act → World → Prop) : Exit → Act → World → Prop
  | .goto _, _, _ => False
  | e, a, w => Q e a w
section
variable {F : Fence} {n : Nat} {P : Program} {Q : Exit → Act → World → Prop} {b : Frame} {a : Act} {k : List Item} {cs : List Frame} {w : World}
theorem stepR_scope {c : Code} : step P (lone (b.atR a (.code (.scope c) :: k)) cs w) = .next (lone (b.atR a (.code c :: .inScope c :: k)) cs w) :=
  step_lone_go (by simp [stepG, stepG.exec, Frame.atR])
theorem stepR_inScope {c : Code} : step P (lone (b.atR a (.inScope c :: k)) cs w) = .next (lone (b.atR a k) cs w) :=
  step_lone_go (by simp [stepG, stepG.exec, Frame.atR])
theorem wpIn_scope_straight {c : Code} (h : c.wpIn F n P (noGo Q) a w) : (Code.scope c).wpIn F n P Q a w := by
  intro b k cs hro hb hr
  have h0 : (lone (b.atR a (.code (.scope c) :: k)) cs w).fenced P F := fenced_calm hb hr rfl
  obtain ⟨e, a₁, w₁, hq, harr⟩ := h b (.inScope c :: k) cs hro hb hr
  cases e with
  | normal => exact ⟨.normal, a₁, w₁, hq, .head h0 stepR_scope (StepsIn.trans harr (.one (fenced_calm hb hr rfl) stepR_inScope))⟩
  | exit id =>
    have hx : exitTo id (.inScope c :: k) = exitTo id k := by simp [exitTo]
    exact ⟨.exit id, a₁, w₁, hq, fun k' hk => .head h0 stepR_scope (harr.1 k' (by rw [hx]; exact hk)),
      fun hr' hk => let ⟨k₁, h1, h2⟩ := harr.2 hr' (by rw [hx]; exact hk); ⟨k₁, h1, .head h0 stepR_scope h2⟩⟩
  | goto l => exact hq.elim
  | ret => exact ⟨_, a₁, w₁, hq, .of_steps (.one h0 stepR_scope) harr⟩
  | panic ch => exact ⟨_, a₁, w₁, hq, .of_steps (.one h0 stepR_scope) harr⟩
  | outgrown => exact ⟨_, a₁, w₁, hq, .of_steps (.one h0 stepR_scope) harr⟩
end
section
variable {P : Program} {τ : Tys} {Γ : Fns} {B : World} {p0 : Bs} {K : Kw} {L : List (List V)} {T : List (Nat × TypeId)}
theorem loop_at (h : Mem P B p0 K L T) {o b : Nat} {r : Loop} (ho : L[o]? = some [.loopc r]) (hb : K.boxes[o]? = some (some b)) : K.w.heap[b]? = some (.loop r) ∧ MapAt K b [.loopc r] := by
  rcases h.boxes.2 o _ ho with ⟨hb', _⟩ | ⟨b', cur, ty, hb', hh, hsz, hcr⟩ | ⟨b', hb', hm⟩
  · rw [hb] at hb'; cases hb'
  · have := (hcr 0 (by simp)).1
    simp only [List.getElem_cons_zero] at this
    cases this
  · rw [hb] at hb'
    cases hb'
    refine ⟨?_, hm⟩
    rcases hm with ⟨es, ck', h1, (h2 | h2) | ⟨kk', l', h2, h3⟩⟩ | ⟨m, s, sn, la, h1, (h2 | h2) | ⟨h2, _⟩ | ⟨om, bm, h2, _⟩⟩ | ⟨r', h1, (h2 | h2) | h2⟩
    all_goals (first | (cases h2; done) | skip)
    cases h2
    exact h1
theorem loop_set (h : Mem P B p0 K L T) {o b : Nat} {r : Loop} (ho : L[o]? = some [.loopc r]) (hb : K.boxes[o]? = some (some b)) (r' : Loop) {cs' : List V} (hcs : cs' = [.loopc r'] ∨ cs' = [.any]) :
    Ext K { K with w := K.w.putObj b (.loop r') } ∧ Mem P B p0 { K with w := K.w.putObj b (.loop r') } (L.set o cs') T := by
  obtain ⟨hh, hm⟩ := loop_at h ho hb
  refine h.setObj (obj := .loop r') ho hb hm (by simp) (fun s hs => ?_) (fun K' _ hK' => .inr (.inr ⟨r', hK', ?_⟩))
  · unfold World.shp at hs
    rw [hh] at hs
    simp only [Option.some.injEq] at hs
    exact ⟨r', hs.symm, rfl⟩
  · rcases hcs with e | e
    · exact .inr e
    · exact .inl (.inr e)
theorem shp_loop {w : World} {b : Nat} {r : Loop} (h : w.heap[b]? = some (.loop r)) : w.shp b = some (none, 1) := by unfold World.shp; rw [h]
theorem loop_shp {w : World} {b : Nat} (h : w.shp b = some (none, 1)) : ∃ r, w.heap[b]? = some (.loop r) := by
  unfold World.shp at h
  split at h <;> first | exact ⟨_, by assumption⟩ | (simp at h; done) | cases h
theorem run_enter_inner {w : World} {l₀ : Nat} {r₀ : Loop} (h : w.heap[l₀]? = some (.loop r₀)) (fn : FuncId) (tmps : Array Value) (ps : Array Tmp) (assign body : Code) :
    (Instr.enterLoop fn tmps ps assign body (some l₀)).run P w =
      .ok (w.heap.size, []) (w.alloc (.loop { state := .ready, pending := none, fn, tmps, params := ps, assign, body, defers := r₀.defers })) := by
  unfold Instr.enterLoop
  simp only [Sem.run_bind, run_getLoop h, run_newObj_alloc, Result.andThen, Sem.run_pure]
theorem enter_loop {ro : Option Nat} (h : Mem P B p0 K L T) (hro : ∀ l, ro = some l → p0.k0.w.shp l = some (none, 1)) (fn : FuncId) (tmps : Array Value) (ps : Array Tmp) (assign body : Code) {ds : List Deferred} (hd : DefOk B p0 K ds) (hlt : ∀ d ∈ ds, ∀ b, d = { target := .collected b, args := #[] } → b < K.w.heap.size) :
    ∃ (l : Nat) (mark : List Deferred) (r : Loop) (K1 : Kw), (Instr.enterLoop fn tmps ps assign body ro).run P K.w = .ok (l, mark) K1.w ∧ r.state = .ready ∧ r.pending = none ∧ r.fn = fn ∧ r.tmps = tmps ∧ r.params = ps ∧ r.assign = assign ∧ r.body = body ∧
      Ext K K1 ∧ Mem P B p0 K1 (L ++ [[.loopc r]]) T ∧ K1.boxes[L.length]? = some (some l) ∧ DefOk B p0 K1 (mark ++ ds) := by
  have new : ∀ (K : Kw) (L : List (List V)), Mem P B p0 K L T → ∀ r : Loop, ∃ K', K'.w = K.w.alloc (.loop r) ∧ Ext K K' ∧ Mem P B p0 K' (L ++ [[.loopc r]]) T ∧ K'.boxes[L.length]? = some (some K.w.heap.size) := fun K L h r =>
    newMap h (obj := .loop r) (cs := [.loopc r]) fun K' _ hK' => .inr (.inr ⟨r, hK', .inr rfl⟩)
  cases ro with
  | none =>
    obtain ⟨he1, hm1⟩ := h.grow (q := fun _ _ => False) (Below.push K.w (.deferred (some []))) (fun b o hq => hq.elim)
    obtain ⟨K2, hw2, he2, hm2, hb2⟩ := new _ _ hm1 { state := .ready, pending := none, fn, tmps, params := ps, assign, body, defers := K.w.heap.size }
    have hk0 : p0.k0.w.shp K.w.heap.size = none := by
      cases hs : p0.k0.w.shp K.w.heap.size with
      | none => rfl
      | some s => have := shape_lt (h.keeps.1 _ s hs); omega
    refine ⟨K.w.heap.size + 1, [{ target := .collected K.w.heap.size, args := #[] }], _, K2, ?_, rfl, rfl, rfl, rfl, rfl, rfl, rfl, he1.trans he2, hm2, ?_, ?_⟩
    · rw [run_enterLoop_outer, hw2]
    · rw [hb2]
      show some (some (K.w.alloc (.deferred (some []))).heap.size) = _
      rw [World.size_alloc]
    · refine ⟨⟨K.w.heap.size, rfl, ?_, h.below.size, hk0, fun d hd' e => ?_⟩, (hd.ext he1).ext he2⟩
      · refine he2.size _ _ ?_
        show (K.w.alloc (.deferred (some []))).shp K.w.heap.size = _
        unfold World.shp
        rw [alloc_new]
      · have := hlt d hd' _ e; omega
  | some l0 =>
    obtain ⟨r0, hr0⟩ := loop_shp (h.keeps.1 l0 _ (hro l0 rfl))
    obtain ⟨K2, hw2, he2, hm2, hb2⟩ := new _ _ h { state := .ready, pending := none, fn, tmps, params := ps, assign, body, defers := r0.defers }
    refine ⟨K.w.heap.size, [], _, K2, ?_, rfl, rfl, rfl, rfl, rfl, rfl, rfl, he2, hm2, hb2, hd.ext he2⟩
    rw [run_enter_inner hr0, hw2]
theorem DefOk.lt : ∀ {ds : List Deferred}, DefOk B p0 K ds → ∀ d ∈ ds, ∀ b, d = { target := .collected b, args := #[] } → b < K.w.heap.size
  | _ :: _, ⟨⟨b, h1, h2, h3⟩, h⟩, d, hd, b', e => by
    rcases List.mem_cons.1 hd with rfl | hd
    · rw [h1] at e
      cases e
      exact shape_lt h2
    · exact h.lt d hd b' e
theorem leaves_marks {fn : Func} {tmps : Array Value} {R : Ending → World → Prop} : ∀ (ds : List Deferred) (K : Kw), DefOk B p0 K ds → Mem P B p0 K L T →
    (∀ K' : Kw, Ext0 K K' → Mem P B p0 K' L T → ∃ v, (results fn tmps).run P K'.w = .ok v K'.w ∧ R (.returned v) K'.w) → LeavesInM Fence.wide 0 P fn tmps R ds .returning K.w
  | [], K, _, hm, h => by
    unfold LeavesInM LeavesIn
    exact h K (Ext.refl K).to0 hm
  | d :: ds, K, ⟨⟨b, h1, h2, h3, h4, h5⟩, hd⟩, hm, h => by
    unfold LeavesInM
    obtain ⟨he, hm'⟩ := hm.shut h2 h3 h4
    have hh : K.w.heap[b]? = some (.deferred (some [])) := by
      unfold World.shp at h2
      split at h2 <;> first | (rename_i e; exact e) | (simp at h2; done) | cases h2
    refine ⟨by simp, .inl ⟨b, _, by rw [h1], run_takeDeferred hh, ?_⟩⟩
    refine leaves_marks ds { K with w := ChangeMaps.setBlock K.w b (.deferred none) } ?_ hm' fun K' he' hm2 => h K' (he.trans he') hm2
    have step : ∀ {ds : List Deferred}, DefOk B p0 K ds → (∀ d' ∈ ds, d' ≠ { target := .collected b, args := #[] }) → DefOk B p0 { K with w := ChangeMaps.setBlock K.w b (.deferred none) } ds := by
      intro ds
      induction ds with
      | nil => exact fun _ _ => trivial
      | cons d2 ds ih =>
        intro ⟨⟨b2, g1, g2, g3⟩, hd⟩ hn
        refine ⟨⟨b2, g1, ?_, g3⟩, ih hd fun d' hd' => hn d' (List.mem_cons_of_mem _ hd')⟩
        have hne : b2 ≠ b := fun e => hn d2 (by simp) (by rw [g1, e])
        refine (shape_of_heap ?_).trans g2
        show (ChangeMaps.setBlock K.w b (.deferred none)).heap[b2]? = K.w.heap[b2]?
        simp [ChangeMaps.setBlock, Ne.symm hne]
    exact step hd h5
end
end Go.Proofs.YtckmcglkjfkghaaDoor.Aw
