/-
  AN ABSTRACT EVALUATOR, PART 12: a region that draws its order: reads, computations and calls that turn nothing: whatever the order, it ends as in the text's.
-/
import Derived.Test.YtljmfemcfkhehaaAw11
import Derived.Orders
namespace Go.Proofs.Ytljmfemcfkhehaa.Aw
open Go Go.RowKit
set_option linter.unusedVariables false
set_option linter.unusedSimpArgs false

def stepD (τ : Tys) (Γ : Fns) (L : List (List V)) (ev : Operand → V) (op : Op) : Option (Prop × V) :=
  match evalPure τ L ev op with
  | some r => some r
  | none =>
    match op with
    | .call c => (evCall τ Γ ev c).map fun x => (x.1, x.2.1.drop)
    | .build t parts => evBuild τ t (parts.toList.map fun x => (x.1, ev x.2))
    | _ => none

def wantV (ops : Array Oper) (ρ : List V) (o : Oper) : Option Bool :=
  match o.guard with
  | none => some true
  | some (j, w) =>
    match (ops[j]?).bind (·.dst) with
    | none => none
    | some d => match ρ[d]? with
      | some (.bool b) => some (b == w)
      | some .undef => some false
      | _ => none

inductive Run (τ : Tys) (Γ : Fns) (L : List (List V)) (ops : Array Oper) : List Oper → List V → List V → Prop
  | nil (ρ : List V) : Run τ Γ L ops [] ρ ρ
  | exec {o : Oper} {rest : List Oper} {ρ ρN : List V} {p : Prop} {v : V} {d : Nat} (hw : wantV ops ρ o = some true) (hs : stepD τ Γ L (evOp ρ) o.op = some (p, v)) (hp : p) (hd : o.dst = some d) (h : Run τ Γ L ops rest (ρ.set d v) ρN) : Run τ Γ L ops (o :: rest) ρ ρN
  | skip {o : Oper} {rest : List Oper} {ρ ρN : List V} {d : Nat} (hw : wantV ops ρ o = some false) (hd : o.dst = some d) (h : Run τ Γ L ops rest (ρ.set d .undef) ρN) : Run τ Γ L ops (o :: rest) ρ ρN

def awpExecD (τ : Tys) (Γ : Fns) (L : List (List V)) (op : Op) (d : Option Tmp) (ρ : List V) (K : List V → Prop) : Prop :=
  match stepD τ Γ L (evOp ρ) op, d with
  | some (p, v), some d => p ∧ K (ρ.set d v)
  | _, _ => False

def awpD (τ : Tys) (Γ : Fns) (L : List (List V)) (ops : Array Oper) : List Oper → (List V → Prop) → List V → Prop
  | [], K, ρ => K ρ
  | o :: rest, K, ρ =>
    match o.guard with
    | none => awpExecD τ Γ L o.op o.dst ρ (awpD τ Γ L ops rest K)
    | some (j, want) =>
      match (ops[j]?).bind (·.dst) with
      | none => False
      | some d =>
        match ρ[d]? with
        | some (.bool b) =>
          awpIf b
            (bif want then awpExecD τ Γ L o.op o.dst (ρ.set d (.bool true)) (awpD τ Γ L ops rest K) else (o.dst.isSome = true ∧ awpD τ Γ L ops rest K (setO (ρ.set d (.bool true)) o.dst .undef)))
            (bif want then (o.dst.isSome = true ∧ awpD τ Γ L ops rest K (setO (ρ.set d (.bool false)) o.dst .undef)) else awpExecD τ Γ L o.op o.dst (ρ.set d (.bool false)) (awpD τ Γ L ops rest K))
        | some .undef => o.dst.isSome = true ∧ awpD τ Γ L ops rest K (setO ρ o.dst .undef)
        | _ => False

section
variable {P : Program} {τ : Tys} {Γ : Fns} {L : List (List V)} {ops : Array Oper}

theorem awpD_run {K : List V → Prop} : ∀ (l : List Oper) (ρ : List V), awpD τ Γ L ops l K ρ → ∃ ρN, Run τ Γ L ops l ρ ρN ∧ K ρN
  | [], ρ, h => ⟨ρ, .nil ρ, h⟩
  | o :: rest, ρ, h => by
    have exec : wantV ops ρ o = some true → awpExecD τ Γ L o.op o.dst ρ (awpD τ Γ L ops rest K) → ∃ ρN, Run τ Γ L ops (o :: rest) ρ ρN ∧ K ρN := by
      intro hw hx
      unfold awpExecD at hx
      split at hx
      · rename_i p v d hs hd
        obtain ⟨ρN, hr, hk⟩ := awpD_run rest _ hx.2
        exact ⟨ρN, .exec hw hs hx.1 hd hr, hk⟩
      · exact hx.elim
    have skip : wantV ops ρ o = some false → (o.dst.isSome = true ∧ awpD τ Γ L ops rest K (setO ρ o.dst .undef)) → ∃ ρN, Run τ Γ L ops (o :: rest) ρ ρN ∧ K ρN := by
      rintro hw ⟨hd, hx⟩
      obtain ⟨d, hd⟩ := Option.isSome_iff_exists.1 hd
      rw [hd] at hx
      obtain ⟨ρN, hr, hk⟩ := awpD_run rest _ hx
      exact ⟨ρN, .skip hw hd hr, hk⟩
    unfold awpD at h
    split at h
    · rename_i hg
      exact exec (by simp [wantV, hg]) h
    · rename_i j want hg
      split at h
      · exact h.elim
      · rename_i d hd
        split at h
        · rename_i b hb
          have hw : wantV ops ρ o = some (b == want) := by simp [wantV, hg, hd, hb]
          cases b
          · have h := h.2 rfl
            rw [set_same hb rfl] at h
            cases want
            · exact exec hw h
            · exact skip hw h
          · have h := h.1 rfl
            rw [set_same hb rfl] at h
            cases want
            · exact skip hw h
            · exact exec hw h
        · rename_i hb
          exact skip (by simp [wantV, hg, hd, hb]) h
        · exact h.elim

/-- what the text's order says of each operation -/
structure At (τ : Tys) (Γ : Fns) (L : List (List V)) (ops : Array Oper) (o : Oper) (ρi ρN : List V) : Prop where
  step : (wantV ops ρi o = some true ∧ ∃ p v d, stepD τ Γ L (evOp ρi) o.op = some (p, v) ∧ p ∧ o.dst = some d ∧ (d < ρN.length → ρN[d]? = some v)) ∨
    (wantV ops ρi o = some false ∧ ∃ d, o.dst = some d ∧ (d < ρN.length → ρN[d]? = some .undef))

theorem run_spec : ∀ (l : List Oper) (ρ ρN : List V), Run τ Γ L ops l ρ ρN → (∀ i j (hi : i < l.length) (hj : j < l.length), i < j → ∀ d, l[i].dst = some d → l[j].dst ≠ some d) →
    ρN.length = ρ.length ∧ (∀ t, (∀ o ∈ l, o.dst ≠ some t) → ρN[t]? = ρ[t]?) ∧
    ∀ i (hi : i < l.length), ∃ ρi, (∀ t, (∀ j (hj : j < l.length), j < i → l[j].dst = some t → ρi[t]? = ρN[t]?) ∧ ((∀ j (hj : j < l.length), j < i → l[j].dst ≠ some t) → ρi[t]? = ρ[t]?)) ∧ At τ Γ L ops l[i] ρi ρN
  | [], ρ, ρN, h, _ => by
    cases h
    exact ⟨rfl, fun _ _ => rfl, fun i hi => absurd hi (by simp)⟩
  | o :: rest, ρ, ρN, h, hnd => by
    obtain ⟨d, v, hd, hrun, hat⟩ : ∃ d v, o.dst = some d ∧ Run τ Γ L ops rest (ρ.set d v) ρN ∧ ((wantV ops ρ o = some true ∧ ∃ p, stepD τ Γ L (evOp ρ) o.op = some (p, v) ∧ p) ∨ (wantV ops ρ o = some false ∧ v = .undef)) := by
      cases h with
      | exec hw hs hp hd h => exact ⟨_, _, hd, h, .inl ⟨hw, _, hs, hp⟩⟩
      | skip hw hd h => exact ⟨_, _, hd, h, .inr ⟨hw, rfl⟩⟩
    obtain ⟨hl, hout, hin⟩ := run_spec rest _ ρN hrun (fun i j hi hj hij d' h1 h2 => hnd (i + 1) (j + 1) (by simp; omega) (by simp; omega) (by omega) d' h1 h2)
    have hnot : ∀ o' ∈ rest, o'.dst ≠ some d := fun o' ho' he => by
      obtain ⟨j, hj, rfl⟩ := List.mem_iff_getElem.1 ho'
      exact hnd 0 (j + 1) (by simp) (by simp; omega) (by omega) d (by simpa using hd) (by simpa using he)
    rw [List.length_set] at hl
    refine ⟨hl, fun t ht => ?_, fun i hi => ?_⟩
    · rw [hout t fun o' ho' => ht o' (List.mem_cons_of_mem _ ho'), List.getElem?_set_ne (fun e => ht o (by simp) (by rw [hd, e]))]
    · cases i with
      | zero =>
        refine ⟨ρ, fun t => ⟨fun j hj h0 => absurd h0 (by omega), fun _ => rfl⟩, ⟨?_⟩⟩
        have hv : d < ρN.length → ρN[d]? = some v := fun hlt => by
          have hlt' : d < ρ.length := by rw [← hl]; exact hlt
          rw [hout d hnot]; exact List.getElem?_set_self hlt'
        rcases hat with ⟨hw, p, hs, hp⟩ | ⟨hw, rfl⟩
        · exact .inl ⟨hw, p, v, d, hs, hp, hd, hv⟩
        · exact .inr ⟨hw, d, hd, hv⟩
      | succ i =>
        obtain ⟨ρi, h1, h2⟩ := hin i (by simpa using hi)
        refine ⟨ρi, fun t => ⟨fun j hj hji hjt => ?_, fun hno => ?_⟩, h2⟩
        · cases j with
          | zero =>
            have e : d = t := by have : o.dst = some t := hjt; rw [hd] at this; exact Option.some.inj this
            subst e
            rw [(h1 d).2 fun j hj _ => hnot _ (List.getElem_mem hj), hout d hnot]
          | succ j => exact (h1 t).1 j (by simpa using hj) (by omega) hjt
        · have hne : d ≠ t := fun e => hno 0 (by simp) (by omega) (by subst e; exact hd)
          rw [(h1 t).2 fun j hj hji => hno (j + 1) (by simp; omega) (by omega), List.getElem?_set_ne hne]

/-! ### what must be seen of the region's edges -/

def depOk (ops : Array Oper) (i : Nat) (o : Oper) (t : Tmp) : Bool :=
  (List.range ops.size).all fun j => match (ops[j]?).bind (·.dst) with
    | some d => d != t || (decide (j < i) && o.after.any fun e => Region.binds .any e && e.on == j)
    | none => true

def drawOk (ops : Array Oper) (n : Nat) : Bool :=
  (List.range ops.size).all fun i => match ops[i]? with
    | some o => (match o.dst with | some d => decide (d < n) && (List.range i).all fun j => (ops[j]?).bind (·.dst) != some d | none => false) &&
        (o.after.all fun e => !Region.binds .any e || decide (e.on < i)) && (o.looksAt ops).all (depOk ops i o)
    | none => false

theorem drawOk_spec {n : Nat} (h : drawOk ops n = true) {i : Nat} {o : Oper} (ho : ops[i]? = some o) :
    (∃ d, o.dst = some d ∧ d < n ∧ ∀ j, j < i → (ops[j]?).bind (·.dst) ≠ some d) ∧ (∀ e ∈ o.after, Region.binds .any e = true → e.on < i) ∧
    ∀ t ∈ o.looksAt ops, ∀ j d, (ops[j]?).bind (·.dst) = some d → d = t → j < i ∧ ∃ e ∈ o.after, Region.binds .any e = true ∧ e.on = j := by
  have hi : i < ops.size := (Array.getElem?_eq_some_iff.1 ho).1
  have := List.all_eq_true.1 h i (List.mem_range.2 hi)
  simp only [ho, Bool.and_eq_true] at this
  obtain ⟨⟨h1, h2⟩, h3⟩ := this
  refine ⟨?_, fun e he hb => ?_, fun t ht j d hj hdt => ?_⟩
  · split at h1
    · rename_i d hd
      simp only [Bool.and_eq_true, decide_eq_true_eq, List.all_eq_true, List.mem_range, bne_iff_ne, ne_eq] at h1
      exact ⟨d, hd, h1.1, h1.2⟩
    · cases h1
  · rw [Array.all_eq_true] at h2
    obtain ⟨k, hk, rfl⟩ := Array.mem_iff_getElem.1 he
    have := h2 k hk
    simpa [hb] using this
  · have h4 := List.all_eq_true.1 h3 t ht
    have hjl : j < ops.size := by
      cases hoj : ops[j]? with
      | none => simp [hoj] at hj
      | some o' => exact (Array.getElem?_eq_some_iff.1 hoj).1
    have h5 := List.all_eq_true.1 h4 j (List.mem_range.2 hjl)
    simp only [hj, hdt, bne_self_eq_false, Bool.false_or, Bool.and_eq_true, decide_eq_true_eq, Array.any_eq_true, beq_iff_eq] at h5
    obtain ⟨h6, k, hk, h7, h8⟩ := h5
    exact ⟨h6, _, Array.getElem_mem hk, h7, h8⟩

/-- an operation is read by its operands alone -/
theorem evalPure_congr {ev ev' : Operand → V} (op : Op) (h : ∀ x ∈ op.operands, ev x = ev' x) : evalPure τ L ev op = evalPure τ L ev' op := by
  cases op <;> simp only [Op.operands] at h <;> simp only [evalPure]
  case move x => rw [h x (by simp)]
  case assign x => rw [h x (by simp)]
  case pick c a b => rw [h c (by simp), h a (by simp), h b (by simp)]
  case binOp op t x y t' => rw [h x (by simp), h y (by simp)]
  case unOp op t x => rw [h x (by simp)]
  case convert s d x => rw [h x (by simp)]
  case extract t i => rw [h t (by simp)]
  case indexAddr t x i => rw [h x (by simp), h i (by simp)]
  case load t x => rw [h x (by simp)]
  case fieldAddr t x i => rw [h x (by simp)]
  case field t x i => rw [h x (by simp)]
  case index t x i => rw [h x (by simp), h i (by simp)]
  case slice t x lo hi mx =>
    cases mx <;> simp only [evalPure]
    cases lo <;> cases hi <;> simp_all
  case makeFunc fn first captured =>
    rw [List.map_congr_left (l := first.toList) fun x hx => h x (by simp at hx ⊢; exact .inl hx), List.map_congr_left (l := captured.toList) fun x hx => h x (by simp at hx ⊢; exact .inr hx)]
  case call c =>
    have ha : ∀ x ∈ c.args.toList, ev x = ev' x := fun x hx => h x (by simp [Call.operands]; exact .inr (by simpa using hx))
    split
    · rename_i x t hc hx ht; rw [hx] at ha; rw [ha x (by simp)]
    · rename_i _ x y hc hx; rw [hx] at ha; rw [ha x (by simp), ha y (by simp)]
    · rename_i _ x y hc hx; rw [hx] at ha; rw [ha x (by simp), ha y (by simp)]
    · rfl

theorem evCall_congr {ev ev' : Operand → V} (c : Call) (h : ∀ x ∈ (Op.call c).operands, ev x = ev' x) : evCall τ Γ ev c = evCall τ Γ ev' c := by
  have ha : ∀ x ∈ c.args.toList, ev x = ev' x := fun x hx => h x (by simp [Op.operands, Call.operands]; exact .inr (by simpa using hx))
  have e : callArgs τ ev c = callArgs τ ev' c := by
    unfold callArgs
    generalize c.argTypes.toList = ts
    revert ha
    generalize c.args.toList = as
    induction as generalizing ts with
    | nil => intro _; simp
    | cons x as ih =>
      intro ha
      cases ts with
      | nil => simp
      | cons t ts => simp only [List.zipWith_cons_cons]; rw [ha x (by simp), ih ts fun y hy => ha y (by simp [hy])]
  unfold evCall
  rw [e]

theorem stepD_congr {ev ev' : Operand → V} (op : Op) (h : ∀ x ∈ op.operands, ev x = ev' x) : stepD τ Γ L ev op = stepD τ Γ L ev' op := by
  unfold stepD
  rw [evalPure_congr op h]
  split
  · rfl
  · split
    · rw [evCall_congr _ h]
    · rename_i t parts _
      have : (parts.toList.map fun x => (x.1, ev x.2)) = parts.toList.map fun x => (x.1, ev' x.2) := List.map_congr_left fun x hx => by
        rw [h x.2 (by simp [Op.operands]; exact ⟨x.1, by simpa using hx⟩)]
      rw [this]
    · rfl

/-! ### whatever the order -/

variable {B : World} {p0 : Nat → Nat → Prop} {T : List (Nat × TypeId)}

/-- what is known where some operations have been done -/
structure Mid (P : Program) (B : World) (p0 : Nat → Nat → Prop) (L : List (List V)) (T : List (Nat × TypeId)) (ops : Array Oper) (ρ0 ρN : List V) (listed : Array Bool) (K : Kw) (a : Act) : Prop where
  mem : Mem P B p0 K L T
  size : a.tmps.size = ρN.length
  done : ∀ (i d : Nat), listed.getD i false = true → (ops[i]?).bind (·.dst) = some d → ∀ v u, ρN[d]? = some v → a.tmps[d]? = some u → Rel K v u
  other : ∀ d : Nat, (∀ i, listed.getD i false = true → (ops[i]?).bind (·.dst) ≠ some d) → ∀ v u, ρ0[d]? = some v → a.tmps[d]? = some u → Rel K v u
  defers : a.defers = []

theorem d_wp (hτ : TyOk P τ) (hΓ : FnsOk P Γ) {K : Kw} (hm : Mem P B p0 K L T) {a : Act} {o : Oper} {ev : Operand → V} (hρ : ∀ x, Rel K (ev x) (a.eval x)) {p : Prop} {v : V} (hev : stepD τ Γ L ev o.op = some (p, v)) (hp : p)
    {Kont : Act → World → Prop} {Q : Exit → Act → World → Prop} (hK : ∀ K' u, Ext K K' → Mem P B p0 K' L T → Rel K' v u → Kont (a.put o.dst u) K'.w) : o.wp P a K.w Kont Q := by
  unfold stepD at hev
  split at hev
  · rename_i r hpure
    obtain ⟨p', v'⟩ := r
    simp only [Option.some.injEq, Prod.mk.injEq] at hev
    obtain ⟨rfl, rfl⟩ := hev
    obtain ⟨u, hrun, hr⟩ := evalPure_sound hτ hm.boxes hρ hpure hp
    exact run_wp hrun (hK K u (Ext.refl K) hm hr)
  · split at hev
    · rename_i c hop
      simp only [Option.map_eq_some_iff, Prod.mk.injEq] at hev
      obtain ⟨⟨p', r, fr⟩, hcall, rfl, rfl⟩ := hev
      refine call_wp (st := ⟨[], L, T⟩) hΓ hm hρ hop hcall hp fun K' u hm' hr hf => ?_
      obtain ⟨he, hm2⟩ := adopt hm hm'
      exact hK { K with w := K'.w, prot := K'.prot } u he hm2 (Rel.dropped (K' := K') (K2 := { K with w := K'.w, prot := K'.prot }) (fun _ _ h => h) hr hf)
    · rename_i t parts hop
      obtain ⟨e1, e2⟩ := parts_rel hρ parts
      obtain ⟨u, hrun, hr⟩ := build_sound (P := P) hτ hev e1 e2
      exact run_wp (by simp [execOp, hop, hrun]) (hK K u (Ext.refl K) hm hr)
    · cases hev

theorem getD_setB {listed : Array Bool} {i j : Nat} (h : (listed.setIfInBounds i true).getD j false = true) : j = i ∨ listed.getD j false = true := by
  by_cases e : i = j
  · exact .inl e.symm
  · right
    simpa [Array.getElem?_setIfInBounds_ne e] using h

theorem drawn_wp (hτ : TyOk P τ) (hΓ : FnsOk P Γ) {ρ0 ρN : List V} (hok : drawOk ops ρ0.length = true) (hrun : Run τ Γ L ops ops.toList ρ0 ρN) {Q : Exit → Act → World → Prop}
    (hQ : ∀ K a, Inv P B p0 K ⟨ρN, L, T⟩ a → Q .normal a K.w) :
    ∀ (fuel : Nat) (listed : Array Bool) (K : Kw) (a : Act), Mid P B p0 L T ops ρ0 ρN listed K a → listed.size = ops.size → (ops.size ≤ fuel + (listed.toList.filter id).length) → wpAny P .any ops Q fuel listed a K.w := by
  have hdist : ∀ i j (hi : i < ops.toList.length) (hj : j < ops.toList.length), i < j → ∀ d, ops.toList[i].dst = some d → ops.toList[j].dst ≠ some d := by
    intro i j hi hj hij d h1 h2
    have hj' : j < ops.size := by simpa using hj
    have hi' : i < ops.size := by simpa using hi
    obtain ⟨⟨d', hd', _, hno⟩, _, _⟩ := drawOk_spec hok (Array.getElem?_eq_getElem hj')
    simp only [Array.getElem_toList] at h1 h2
    rw [h2] at hd'
    cases hd'
    exact hno i hij (by simp [Array.getElem?_eq_getElem hi', h1])
  obtain ⟨hl, hout, hin⟩ := run_spec ops.toList ρ0 ρN hrun hdist
  have hend : ∀ (listed : Array Bool) (K : Kw) (a : Act), Mid P B p0 L T ops ρ0 ρN listed K a → listed.size = ops.size → Region.ready .any ops listed = [] → Q .normal a K.w := by
    intro listed K a hmid hsz hr
    have hall : ∀ i, i < ops.size → listed.getD i false = true := by
      intro i
      induction i using Nat.strongRecOn with
      | _ i ih =>
        intro hi
        cases hli : listed.getD i false with
        | true => rfl
        | false =>
          exfalso
          have hmem : i ∈ Region.ready .any ops listed := by
            rw [mem_ready]
            obtain ⟨_, hafter, _⟩ := drawOk_spec hok (Array.getElem?_eq_getElem hi)
            have hit : listed.getD i true = false := by
              have : i < listed.size := by omega
              simp only [Array.getD_eq_getD_getElem?, Array.getElem?_eq_getElem this, Option.getD_some] at hli ⊢
              exact hli
            refine ⟨hit, _, Array.getElem?_eq_getElem hi, fun e he hb => ih e.on (hafter e he hb) (by have := hafter e he hb; omega)⟩
          rw [hr] at hmem
          cases hmem
    refine hQ K a ⟨hmid.mem, hmid.size, fun t ht ht' => ?_, hmid.defers⟩
    by_cases hex : ∃ i : Nat, (ops[i]?).bind (·.dst) = some t
    · obtain ⟨i, hi⟩ := hex
      have hil : i < ops.size := by
        cases hoi : ops[i]? with
        | none => simp [hoi] at hi
        | some o => exact (Array.getElem?_eq_some_iff.1 hoi).1
      exact hmid.done i t (hall i hil) hi _ _ (List.getElem?_eq_getElem ht) (Array.getElem?_eq_getElem ht')
    · have h0 : ρN[t]? = ρ0[t]? := hout t fun (o : Oper) ho he => by
        obtain ⟨i, hi, rfl⟩ := List.mem_iff_getElem.1 ho
        exact hex ⟨i, by rw [Array.getElem?_eq_getElem (by simpa using hi)]; simpa using he⟩
      exact hmid.other t (fun i _ he => hex ⟨i, he⟩) _ _ (by rw [← h0]; exact List.getElem?_eq_getElem ht) (Array.getElem?_eq_getElem ht')
  intro fuel
  induction fuel with
  | zero =>
    intro listed K a hmid hsz hcount
    have hrn : Region.ready .any ops listed = [] := by
      have hallt : ∀ x ∈ listed.toList, x = true := by
        have h1 : (listed.toList.filter id).length = listed.toList.length := by
          have h2 := List.length_filter_le id listed.toList
          simp only [Array.length_toList] at h2 ⊢
          omega
        intro x hx
        have := List.length_filter_eq_length_iff.1 h1 x hx
        simpa using this
      unfold Region.ready
      rw [List.filter_eq_nil_iff]
      intro i hi
      have hil : i < listed.size := by rw [hsz]; exact List.mem_range.1 hi
      have : listed.getD i true = true := by
        simp only [Array.getD_eq_getD_getElem?, Array.getElem?_eq_getElem hil, Option.getD_some]
        exact hallt _ (by simp)
      simp [this]
    exact ⟨hrn, hend listed K a hmid hsz hrn⟩
  | succ fuel ih =>
    intro listed K a hmid hsz hcount
    refine ⟨hend listed K a hmid hsz, fun i hi => ?_⟩
    obtain ⟨hli, o, ho, hafter⟩ := mem_ready.1 hi
    have hil : i < ops.size := (Array.getElem?_eq_some_iff.1 ho).1
    have hill : i < listed.size := by omega
    have hoi : ops.toList[i]'(by simpa using hil) = o := by
      have := (Array.getElem?_eq_some_iff.1 ho).2
      simpa using this
    obtain ⟨⟨d, hd, hdn, hdno⟩, _, hlooks⟩ := drawOk_spec hok ho
    obtain ⟨ρi, hρi, hat⟩ := hin i (by simpa using hil)
    rw [hoi] at hat
    have hnl : listed.getD i false = false := by
      simp only [Array.getD_eq_getD_getElem?, Array.getElem?_eq_getElem hill, Option.getD_some] at hli ⊢
      exact hli
    -- a slot that the operation looks at
    have hlook : ∀ t ∈ o.looksAt ops, ∀ v u, ρi[t]? = some v → a.tmps[t]? = some u → Rel K v u := by
      intro t ht v u hv hu
      by_cases hex : ∃ j : Nat, (ops[j]?).bind (·.dst) = some t
      · obtain ⟨j, hj⟩ := hex
        obtain ⟨hji, e, he, hb, hej⟩ := hlooks t ht j t hj rfl
        have hlj := hafter e he hb
        rw [hej] at hlj
        have hjl : j < ops.toList.length := by simp; omega
        have hjd : (ops.toList[j]'hjl).dst = some t := by
          have hjs : j < ops.size := by omega
          rw [Array.getElem?_eq_getElem hjs] at hj
          simpa using hj
        rw [(hρi t).1 j hjl hji hjd] at hv
        exact hmid.done j t hlj hj v u hv hu
      · have hv' := hv
        rw [(hρi t).2 fun j hj hji he => hex ⟨j, by rw [Array.getElem?_eq_getElem (by simpa using hj)]; simpa using he⟩] at hv'
        exact hmid.other t (fun i' _ he => hex ⟨i', he⟩) v u hv' hu
    have hlen : ρi.length = ρN.length ∨ True := .inr trivial
    have hwant : ∀ b, wantV ops ρi o = some b → Region.wanted o (yielded ops a.tmps) = b := by
      intro b hb
      unfold wantV at hb
      split at hb
      · rename_i hg
        simp only [Option.some.injEq] at hb
        subst hb
        simp [Region.wanted, hg]
      · rename_i j w hg
        split at hb
        · cases hb
        · rename_i dj hdj
          have hmem : dj ∈ o.looksAt ops := by
            unfold Oper.looksAt
            rw [hg]
            exact List.mem_append_right _ (by simp [hdj])
          have hlt : ∀ x, ρi[dj]? = some x → ∃ u, a.tmps[dj]? = some u ∧ Rel K x u := by
            intro x hx
            have hdjl : dj < a.tmps.size := by
              rw [hmid.size, hl]
              have hjs : j < ops.size := by
                cases hoj : ops[j]? with
                | none => simp [hoj] at hdj
                | some o' => exact (Array.getElem?_eq_some_iff.1 hoj).1
              obtain ⟨⟨d', hd', hdn', _⟩, _, _⟩ := drawOk_spec hok (Array.getElem?_eq_getElem hjs)
              rw [Array.getElem?_eq_getElem hjs] at hdj
              simp only [Option.bind_some] at hdj
              rw [hd'] at hdj
              cases hdj
              exact hdn'
            exact ⟨_, Array.getElem?_eq_getElem hdjl, hlook dj hmem x _ hx (Array.getElem?_eq_getElem hdjl)⟩
          split at hb
          · rename_i x hx
            obtain ⟨u, hu, hr⟩ := hlt _ hx
            simp only [Option.some.injEq] at hb
            subst hb
            cases hr
            simp [Region.wanted, hg, yielded, hdj, hu]
          · rename_i hx
            obtain ⟨u, hu, hr⟩ := hlt _ hx
            simp only [Option.some.injEq] at hb
            subst hb
            have hu' : u = Go.undef := by
              have hz : ∀ u, Rel K .undef u → u = Go.undef := fun u h => by cases h; rfl
              exact hz u hr
            subst hu'
            simp [Region.wanted, hg, yielded, hdj, hu, Go.undef, noResult]
          · cases hb
    -- the operands
    let ev : Operand → V := fun x => match x with
      | .tmp t => if t ∈ o.looksAt ops then evOp ρi (.tmp t) else .any
      | x => evOp ρi x
    have hev : ∀ x ∈ o.op.operands, ev x = evOp ρi x := by
      intro x hx
      cases x with
      | tmp t =>
        have ht : t ∈ o.looksAt ops := by
          unfold Oper.looksAt
          exact List.mem_append_left _ (List.mem_filterMap.2 ⟨.tmp t, by simpa using hx, rfl⟩)
        simp only [ev]; rw [if_pos ht]
      | _ => rfl
    have hrel : ∀ x, Rel K (ev x) (a.eval x) := by
      intro x
      cases x with
      | tmp t =>
        simp only [ev]
        split
        · rename_i ht
          simp only [evOp, Act.eval]
          cases hv : ρi[t]? with
          | none =>
            by_cases htl : t < a.tmps.size
            · exfalso
              by_cases hex : ∃ j : Nat, (ops[j]?).bind (·.dst) = some t
              · obtain ⟨j, hj⟩ := hex
                obtain ⟨hji, _⟩ := hlooks t ht j t hj rfl
                have hjl : j < ops.toList.length := by simp; omega
                have hjd : (ops.toList[j]'hjl).dst = some t := by
                  have hjs : j < ops.size := by omega
                  rw [Array.getElem?_eq_getElem hjs] at hj
                  simpa using hj
                rw [(hρi t).1 j hjl hji hjd, List.getElem?_eq_getElem (by rw [← hmid.size]; exact htl)] at hv
                cases hv
              · rw [(hρi t).2 fun j hj hji he => hex ⟨j, by rw [Array.getElem?_eq_getElem (by simpa using hj)]; simpa using he⟩, List.getElem?_eq_getElem (by rw [← hl, ← hmid.size]; exact htl)] at hv
                cases hv
            · have e2 : a.tmps[t]? = none := Array.getElem?_eq_none (Nat.le_of_not_lt htl)
              simp only [List.getD_eq_getElem?_getD, hv, Option.getD_none, Array.getD_eq_getD_getElem?, e2]
              exact .undef
          | some v =>
            by_cases htl : t < a.tmps.size
            · have := hlook t ht v _ hv (Array.getElem?_eq_getElem htl)
              simpa [List.getD_eq_getElem?_getD, hv, htl] using this
            · exfalso
              have hlt : ¬ t < ρN.length := by rw [← hmid.size]; exact htl
              by_cases hex : ∃ j : Nat, (ops[j]?).bind (·.dst) = some t
              · obtain ⟨j, hj⟩ := hex
                obtain ⟨hji, _⟩ := hlooks t ht j t hj rfl
                have hjl : j < ops.toList.length := by simp; omega
                have hjd : (ops.toList[j]'hjl).dst = some t := by
                  have hjs : j < ops.size := by omega
                  rw [Array.getElem?_eq_getElem hjs] at hj
                  simpa using hj
                rw [(hρi t).1 j hjl hji hjd, List.getElem?_eq_none (Nat.le_of_not_lt hlt)] at hv
                cases hv
              · rw [(hρi t).2 fun j hj hji he => hex ⟨j, by rw [Array.getElem?_eq_getElem (by simpa using hj)]; simpa using he⟩, List.getElem?_eq_none (by rw [← hl]; exact Nat.le_of_not_lt hlt)] at hv
                cases hv
        · exact .any _
      | const v => exact ofV_rel K v
      | global g => exact .any _
      | func f => exact .fn (.func f) [] [] #[] #[] rfl rfl (fun j h => absurd h (by simp)) (fun j h => absurd h (by simp))
    have hcount' : ops.size ≤ fuel + ((listed.setIfInBounds i true).toList.filter id).length := by
      have h1 : ((listed.setIfInBounds i true).toList.filter id).length = (listed.toList.filter id).length + 1 := by
        rw [Array.toList_setIfInBounds]
        have hill' : i < listed.toList.length := by simpa using hill
        have hget : listed.toList[i] = false := by
          simp only [Array.getElem_toList]
          simpa [Array.getD_eq_getD_getElem?, Array.getElem?_eq_getElem hill] using hnl
        rw [List.set_eq_take_append_cons_drop, if_pos hill']
        conv => rhs; rw [← List.take_append_drop i listed.toList, List.drop_eq_getElem_cons hill', hget]
        simp [List.filter_append, List.filter_cons]
        omega
      omega
    have next : ∀ (v : V) (K' : Kw) (u : Value), Ext K K' → Mem P B p0 K' L T → Rel K' v u → (d < ρN.length → ρN[d]? = some v) → wpAny P .any ops Q fuel (listed.setIfInBounds i true) (a.put o.dst u) K'.w := by
      intro v K' u hext hm' hr hvN
      refine ih _ K' _ ⟨hm', ?_, fun i' d' hi' hd' v' u' hv' hu' => ?_, fun d' hno v' u' hv' hu' => ?_, ?_⟩ (by simpa using hsz) hcount'
      · rw [hd]; simp [Act.put, hmid.size]
      · rw [hd] at hu'
        simp only [Act.put] at hu'
        by_cases e : d = d'
        · subst e
          have hdl : d < a.tmps.size := by
            rcases Nat.lt_or_ge d a.tmps.size with h1 | h1
            · exact h1
            · rw [Array.getElem?_eq_none (by simpa using h1)] at hu'; cases hu'
          rw [Array.getElem?_setIfInBounds_self_of_lt hdl] at hu'
          cases hu'
          rw [hvN (by rw [← hmid.size]; exact hdl)] at hv'
          cases hv'
          exact hr
        · rw [Array.getElem?_setIfInBounds_ne e] at hu'
          rcases getD_setB hi' with rfl | hi''
          · rw [ho] at hd'
            simp only [Option.bind_some, hd, Option.some.injEq] at hd'
            exact absurd hd' e
          · exact (hmid.done i' d' hi'' hd' v' u' hv' hu').ext hext
      · rw [hd] at hu'
        simp only [Act.put] at hu'
        have e : d ≠ d' := fun e => by
          refine hno i ?_ (by rw [ho]; simp [hd, e])
          simp [hill]
        rw [Array.getElem?_setIfInBounds_ne e] at hu'
        refine (hmid.other d' (fun i' hi' => hno i' ?_) v' u' hv' hu').ext hext
        exact getD_set_true hi'
      · rw [hd]; exact hmid.defers
    unfold wpOp
    simp only [ho]
    rcases hat.step with ⟨hw, p, v, d', hs, hp, hd', hvN⟩ | ⟨hw, d', hd', hvN⟩
    · rw [hd] at hd'
      cases hd'
      rw [if_pos (hwant true hw)]
      left
      rw [← stepD_congr o.op hev] at hs
      exact d_wp hτ hΓ hmid.mem hrel hs hp fun K' u he hm' hr => next v K' u he hm' hr hvN
    · rw [hd] at hd'
      cases hd'
      rw [if_neg (by rw [hwant false hw]; simp)]
      exact next .undef K _ (Ext.refl K) hmid.mem .undef hvN

end
end Go.Proofs.Ytljmfemcfkhehaa.Aw
