import Derived.Test.YtckmcglkjfkghaaDoorAw11
import Derived.Orders
import Derived.OrdersIn
namespace Go.Proofs.YtckmcglkjfkghaaDoor.Aw
open Go Go.RowKit
set_option linter.unusedVariables false
set_option linter.unusedSimpArgs false
def stepD (τ : Tys) (Γ : Fns) (L : List (List V)) (ev : Operand → V) (op : Op) : Option (Prop × V) :=
  match evalPure τ L ev op with
  | some r => some r
  | none =>
    match op with
    | .call c => match c.callee, c.args.toList, c.argTypes.toList with
      | .builtin .append, [s, x], [t, t2] => evGrow τ t t2 (ev s) (ev x)
      | _, _, _ => (evCall τ Γ ev c).map fun x => (x.1, x.2.1.drop)
    | .build t parts => evBuild τ t (parts.toList.map fun x => (x.1, ev x.2))
    | .buildSlice t len parts => evNone τ t len (parts.toList.map fun x => (x.1, ev x.2))
    | _ => none
def wantV (ops : Array Oper) (ρ : List V) (o : Oper) : Option Bool :=
  match o.guard with
  | none => some true
  | some (j, w) =>
    match (ops[j]?).bind (·.dst) with
    | none => none
    | some d => match ρ[d]? with
      | some (.bool b) => some (b == w)
      | some .undef => some false
      | _ => none
def isMkO (Γ : Fns) (op : Op) (d : Option Tmp) : Bool := match op with | .makeSlice _ _ _ => (muO Γ d).isRow | _ => false
def isMk (Γ : Fns) (o : Oper) : Bool := isMkO Γ o.op o.dst
inductive Run (τ : Tys) (Γ : Fns) (L : List (List V)) (ops : Array Oper) : List Oper → Nat → List V → List V → List (List V) → Prop
  | nil (h : Nat) (ρ : List V) : Run τ Γ L ops [] h ρ ρ []
  | exec {o : Oper} {rest : List Oper} {h : Nat} {ρ ρN : List V} {C : List (List V)} {p : Prop} {v : V} {d : Nat} (hmk : isMk Γ o = false) (hw : wantV ops ρ o = some true) (hs : stepD τ Γ L (evOp ρ) o.op = some (p, v)) (hp : p) (hd : o.dst = some d) (r : Run τ Γ L ops rest h (ρ.set d v) ρN C) : Run τ Γ L ops (o :: rest) h ρ ρN C
  | skip {o : Oper} {rest : List Oper} {h : Nat} {ρ ρN : List V} {C : List (List V)} {d : Nat} (hmk : isMk Γ o = false) (hw : wantV ops ρ o = some false) (hd : o.dst = some d) (r : Run τ Γ L ops rest h (ρ.set d .undef) ρN C) : Run τ Γ L ops (o :: rest) h ρ ρN C
  | make {o : Oper} {rest : List Oper} {h : Nat} {ρ ρN : List V} {C : List (List V)} {t : TypeId} {l c : Operand} {p : Prop} {e : TypeId} {n d : Nat} {cs : List V} (hop : o.op = .makeSlice t l c) (hmk : isMk Γ o = true) (hg : o.guard = none) (hs : makeM τ t (evOp ρ l) (evOp ρ c) = some (p, e, n, cs)) (hp : p) (hd : o.dst = some d)
      (r : Run τ Γ L ops rest (h + 1) (ρ.set d (.mrow e (L.length + h) 0 n)) ρN C) : Run τ Γ L ops (o :: rest) h ρ ρN (cs :: C)
def awpExecD (τ : Tys) (Γ : Fns) (L : List (List V)) (op : Op) (d : Option Tmp) (ρ : List V) (K : List V → Prop) : Prop :=
  match stepD τ Γ L (evOp ρ) op, d with
  | some (p, v), some d => p ∧ K (ρ.set d v)
  | _, _ => False
def mkArgs (τ : Tys) (ev : Operand → V) : Op → Option (Prop × TypeId × Nat × List V)
  | .makeSlice t l c => makeM τ t (ev l) (ev c)
  | _ => none
def mkD (r : Option (Prop × TypeId × Nat × List V)) (d : Option Tmp) (L acc : List (List V)) (ρ : List V) (K : List (List V) → List V → Prop) : Prop :=
  match r, d with
  | some (p, e, n, cs), some d => p ∧ K (acc ++ [cs]) (ρ.set d (.mrow e (L.length + acc.length) 0 n))
  | _, _ => False
def awpD (τ : Tys) (Γ : Fns) (L : List (List V)) (ops : Array Oper) : List Oper → (List (List V) → List V → Prop) → List (List V) → List V → Prop
  | [], K, acc, ρ => K acc ρ
  | o :: rest, K, acc, ρ =>
    match o.guard with
    | none => bif isMkO Γ o.op o.dst then mkD (mkArgs τ (evOp ρ) o.op) o.dst L acc ρ (awpD τ Γ L ops rest K) else awpExecD τ Γ L o.op o.dst ρ (awpD τ Γ L ops rest K acc)
    | some (j, want) =>
      bif isMkO Γ o.op o.dst then False else
      match (ops[j]?).bind (·.dst) with
      | none => False
      | some d =>
        match ρ[d]? with
        | some (.bool b) =>
          awpIf b
            (bif want then awpExecD τ Γ L o.op o.dst (ρ.set d (.bool true)) (awpD τ Γ L ops rest K acc) else (o.dst.isSome = true ∧ awpD τ Γ L ops rest K acc (setO (ρ.set d (.bool true)) o.dst .undef)))
            (bif want then (o.dst.isSome = true ∧ awpD τ Γ L ops rest K acc (setO (ρ.set d (.bool false)) o.dst .undef)) else awpExecD τ Γ L o.op o.dst (ρ.set d (.bool false)) (awpD τ Γ L ops rest K acc))
        | some .undef => o.dst.isSome = true ∧ awpD τ Γ L ops rest K acc (setO ρ o.dst .undef)
        | _ => False
section
variable {P : Program} {τ : Tys} {Γ : Fns} {L : List (List V)} {ops : Array Oper} {ro : Option Nat}
theorem awpD_run {K : List (List V) → List V → Prop} : ∀ (l : List Oper) (acc : List (List V)) (ρ : List V), awpD τ Γ L ops l K acc ρ → ∃ ρN C, Run τ Γ L ops l acc.length ρ ρN C ∧ K (acc ++ C) ρN
  | [], acc, ρ, h => ⟨ρ, [], .nil _ ρ, by rw [List.append_nil]; exact h⟩
  | o :: rest, acc, ρ, h => by
    have exec : isMk Γ o = false → wantV ops ρ o = some true → awpExecD τ Γ L o.op o.dst ρ (awpD τ Γ L ops rest K acc) → ∃ ρN C, Run τ Γ L ops (o :: rest) acc.length ρ ρN C ∧ K (acc ++ C) ρN := by
      intro hmk hw hx
      unfold awpExecD at hx
      split at hx
      · rename_i p v d hs hd
        obtain ⟨ρN, C, hr, hk⟩ := awpD_run rest acc _ hx.2
        exact ⟨ρN, C, .exec hmk hw hs hx.1 hd hr, hk⟩
      · exact hx.elim
    have skip : isMk Γ o = false → wantV ops ρ o = some false → (o.dst.isSome = true ∧ awpD τ Γ L ops rest K acc (setO ρ o.dst .undef)) → ∃ ρN C, Run τ Γ L ops (o :: rest) acc.length ρ ρN C ∧ K (acc ++ C) ρN := by
      rintro hmk hw ⟨hd, hx⟩
      obtain ⟨d, hd⟩ := Option.isSome_iff_exists.1 hd
      rw [hd] at hx
      obtain ⟨ρN, C, hr, hk⟩ := awpD_run rest acc _ hx
      exact ⟨ρN, C, .skip hmk hw hd hr, hk⟩
    unfold awpD at h
    split at h
    · rename_i hg
      cases hmk : isMk Γ o with
      | false =>
        have hmk' : isMkO Γ o.op o.dst = false := hmk
        rw [hmk', cond_false] at h
        exact exec hmk (by simp [wantV, hg]) h
      | true =>
        have hmk' : isMkO Γ o.op o.dst = true := hmk
        rw [hmk', cond_true] at h
        unfold mkD at h
        split at h
        · rename_i p n cs d hma hd
          obtain ⟨t, l, c, hop⟩ : ∃ t l c, o.op = .makeSlice t l c := by
            cases hop : o.op <;> rw [hop] at hma <;> first | exact ⟨_, _, _, rfl⟩ | (simp [mkArgs] at hma)
          rw [hop] at hma
          obtain ⟨ρN, C, hr, hk⟩ := awpD_run rest (acc ++ [cs]) _ h.2
          rw [List.length_append] at hr
          refine ⟨ρN, cs :: C, .make hop hmk hg hma h.1 hd hr, ?_⟩
          rw [List.append_assoc] at hk
          exact hk
        · exact h.elim
    · rename_i j want hg
      cases hmk : isMk Γ o with
      | true =>
        have hmk' : isMkO Γ o.op o.dst = true := hmk
        rw [hmk', cond_true] at h
        exact h.elim
      | false =>
      have hmk' : isMkO Γ o.op o.dst = false := hmk
      rw [hmk', cond_false] at h
      split at h
      · exact h.elim
      · rename_i d hd
        split at h
        · rename_i b hb
          have hw : wantV ops ρ o = some (b == want) := by simp [wantV, hg, hd, hb]
          cases b
          · have h := h.2 rfl
            rw [set_same hb rfl] at h
            cases want
            · exact exec hmk hw h
            · exact skip hmk hw h
          · have h := h.1 rfl
            rw [set_same hb rfl] at h
            cases want
            · exact skip hmk hw h
            · exact exec hmk hw h
        · rename_i hb
          exact skip hmk (by simp [wantV, hg, hd, hb]) h
        · exact h.elim
def cnt (Γ : Fns) (l : List Oper) (i : Nat) : Nat := (l.take i).countP (isMk Γ)
structure At (τ : Tys) (Γ : Fns) (L : List (List V)) (ops : Array Oper) (o : Oper) (ρi ρN : List V) (hid : Nat) (cell : Option (List V)) : Prop where
  step : (isMk Γ o = false ∧ wantV ops ρi o = some true ∧ ∃ p v d, stepD τ Γ L (evOp ρi) o.op = some (p, v) ∧ p ∧ o.dst = some d ∧ (d < ρN.length → ρN[d]? = some v)) ∨
    (isMk Γ o = false ∧ wantV ops ρi o = some false ∧ ∃ d, o.dst = some d ∧ (d < ρN.length → ρN[d]? = some .undef)) ∨
    (isMk Γ o = true ∧ o.guard = none ∧ ∃ t l c p e n cs d, o.op = .makeSlice t l c ∧ makeM τ t (evOp ρi l) (evOp ρi c) = some (p, e, n, cs) ∧ p ∧ o.dst = some d ∧ (d < ρN.length → ρN[d]? = some (.mrow e (L.length + hid) 0 n)) ∧ cell = some cs)
theorem run_spec : ∀ (l : List Oper) (h0 : Nat) (ρ ρN : List V) (C : List (List V)), Run τ Γ L ops l h0 ρ ρN C → (∀ i j (hi : i < l.length) (hj : j < l.length), i < j → ∀ d, l[i].dst = some d → l[j].dst ≠ some d) →
    ρN.length = ρ.length ∧ C.length = l.countP (isMk Γ) ∧ (∀ t, (∀ o ∈ l, o.dst ≠ some t) → ρN[t]? = ρ[t]?) ∧
    ∀ i (hi : i < l.length), ∃ ρi, (∀ t, (∀ j (hj : j < l.length), j < i → l[j].dst = some t → ρi[t]? = ρN[t]?) ∧ ((∀ j (hj : j < l.length), j < i → l[j].dst ≠ some t) → ρi[t]? = ρ[t]?)) ∧ At τ Γ L ops l[i] ρi ρN (h0 + cnt Γ l i) (C[cnt Γ l i]?)
  | [], h0, ρ, ρN, C, h, _ => by
    cases h
    exact ⟨rfl, rfl, fun _ _ => rfl, fun i hi => absurd hi (by simp)⟩
  | o :: rest, h0, ρ, ρN, C, h, hnd => by
    obtain ⟨d, v, h1, C1, hd, hrun, hC, hat⟩ : ∃ d v h1 C1, o.dst = some d ∧ Run τ Γ L ops rest h1 (ρ.set d v) ρN C1 ∧ ((isMk Γ o = false ∧ h1 = h0 ∧ C = C1) ∨ (isMk Γ o = true ∧ h1 = h0 + 1 ∧ ∃ cs, C = cs :: C1)) ∧
        ((isMk Γ o = false ∧ wantV ops ρ o = some true ∧ ∃ p, stepD τ Γ L (evOp ρ) o.op = some (p, v) ∧ p) ∨ (isMk Γ o = false ∧ wantV ops ρ o = some false ∧ v = .undef) ∨
          (isMk Γ o = true ∧ o.guard = none ∧ ∃ t l c p e n cs, o.op = .makeSlice t l c ∧ makeM τ t (evOp ρ l) (evOp ρ c) = some (p, e, n, cs) ∧ p ∧ v = .mrow e (L.length + h0) 0 n ∧ C[0]? = some cs)) := by
      cases h with
      | exec hmk hw hs hp hd h => exact ⟨_, _, _, _, hd, h, .inl ⟨hmk, rfl, rfl⟩, .inl ⟨hmk, hw, _, hs, hp⟩⟩
      | skip hmk hw hd h => exact ⟨_, _, _, _, hd, h, .inl ⟨hmk, rfl, rfl⟩, .inr (.inl ⟨hmk, hw, rfl⟩)⟩
      | make hop hmk hg hs hp hd h => exact ⟨_, _, _, _, hd, h, .inr ⟨hmk, rfl, _, rfl⟩, .inr (.inr ⟨hmk, hg, _, _, _, _, _, _, _, hop, hs, hp, rfl, rfl⟩)⟩
    obtain ⟨hl, hcl, hout, hin⟩ := run_spec rest _ _ ρN C1 hrun (fun i j hi hj hij d' h1 h2 => hnd (i + 1) (j + 1) (by simp; omega) (by simp; omega) (by omega) d' h1 h2)
    have hnot : ∀ o' ∈ rest, o'.dst ≠ some d := fun o' ho' he => by
      obtain ⟨j, hj, rfl⟩ := List.mem_iff_getElem.1 ho'
      exact hnd 0 (j + 1) (by simp) (by simp; omega) (by omega) d (by simpa using hd) (by simpa using he)
    rw [List.length_set] at hl
    refine ⟨hl, ?_, fun t ht => ?_, fun i hi => ?_⟩
    · rcases hC with ⟨hmk, _, rfl⟩ | ⟨hmk, _, cs, rfl⟩
      · rw [List.countP_cons_of_neg (by simp [hmk])]; exact hcl
      · rw [List.countP_cons_of_pos hmk]; simp [hcl]
    · rw [hout t fun o' ho' => ht o' (List.mem_cons_of_mem _ ho'), List.getElem?_set_ne (fun e => ht o (by simp) (by rw [hd, e]))]
    · cases i with
      | zero =>
        have hv : d < ρN.length → ρN[d]? = some v := fun hlt => by
          have hlt' : d < ρ.length := by rw [← hl]; exact hlt
          rw [hout d hnot]; exact List.getElem?_set_self hlt'
        have hc0 : cnt Γ (o :: rest) 0 = 0 := by simp [cnt]
        rw [hc0, Nat.add_zero]
        refine ⟨ρ, fun t => ⟨fun j hj h0 => absurd h0 (by omega), fun _ => rfl⟩, ⟨?_⟩⟩
        rcases hat with ⟨hmk, hw, p, hs, hp⟩ | ⟨hmk, hw, rfl⟩ | ⟨hmk, hg, t, l, c, p, e, n, cs, hop, hs, hp, rfl, hcs⟩
        · exact .inl ⟨hmk, hw, p, v, d, hs, hp, hd, hv⟩
        · exact .inr (.inl ⟨hmk, hw, d, hd, hv⟩)
        · exact .inr (.inr ⟨hmk, hg, t, l, c, p, e, n, cs, d, hop, hs, hp, hd, hv, hcs⟩)
      | succ i =>
        obtain ⟨ρi, h1', h2⟩ := hin i (by simpa using hi)
        have hidx : h1 + cnt Γ rest i = h0 + cnt Γ (o :: rest) (i + 1) ∧ C1[cnt Γ rest i]? = C[cnt Γ (o :: rest) (i + 1)]? := by
          simp only [cnt, List.take_succ_cons]
          rcases hC with ⟨hmk, rfl, rfl⟩ | ⟨hmk, rfl, cs, rfl⟩
          · rw [List.countP_cons_of_neg (by simp [hmk])]; exact ⟨rfl, rfl⟩
          · rw [List.countP_cons_of_pos hmk]; exact ⟨by omega, by simp⟩
        rw [← hidx.1, ← hidx.2]
        refine ⟨ρi, fun t => ⟨fun j hj hji hjt => ?_, fun hno => ?_⟩, h2⟩
        · cases j with
          | zero =>
            have e : d = t := by have : o.dst = some t := hjt; rw [hd] at this; exact Option.some.inj this
            subst e
            rw [(h1' d).2 fun j hj _ => hnot _ (List.getElem_mem hj), hout d hnot]
          | succ j => exact (h1' t).1 j (by simpa using hj) (by omega) hjt
        · have hne : d ≠ t := fun e => hno 0 (by simp) (by omega) (by subst e; exact hd)
          rw [(h1' t).2 fun j hj hji => hno (j + 1) (by simp; omega) (by omega), List.getElem?_set_ne hne]
theorem countP_at {α : Type} (p : α → Bool) : ∀ (l : List α) (c : Nat), c < l.countP p → ∃ i, ∃ h : i < l.length, p l[i] = true ∧ (l.take i).countP p = c
  | [], c, h => by simp at h
  | x :: l, c, h => by
    by_cases hx : p x = true
    · rw [List.countP_cons_of_pos hx] at h
      cases c with
      | zero => exact ⟨0, by simp, hx, by simp⟩
      | succ c =>
        obtain ⟨i, hi, h1, h2⟩ := countP_at p l c (by omega)
        exact ⟨i + 1, by simp; omega, h1, by rw [List.take_succ_cons, List.countP_cons_of_pos hx, h2]⟩
    · rw [List.countP_cons_of_neg hx] at h
      obtain ⟨i, hi, h1, h2⟩ := countP_at p l c h
      exact ⟨i + 1, by simp; omega, h1, by rw [List.take_succ_cons, List.countP_cons_of_neg hx, h2]⟩
theorem cnt_lt {l : List Oper} {i j : Nat} (hij : i < j) (hi : i < l.length) (hm : isMk Γ l[i] = true) : cnt Γ l i < cnt Γ l j := by
  unfold cnt
  have e : l.take j = l.take i ++ (l.drop i).take (j - i) := by
    have := List.take_add (l := l) (i := i) (j := j - i)
    rw [show i + (j - i) = j by omega] at this
    exact this
  rw [e, List.countP_append, List.drop_eq_getElem_cons hi, show j - i = (j - i - 1) + 1 by omega, List.take_succ_cons, List.countP_cons_of_pos hm]
  omega
def depOk (ops : Array Oper) (i : Nat) (o : Oper) (t : Tmp) : Bool :=
  (List.range ops.size).all fun j => match (ops[j]?).bind (·.dst) with
    | some d => d != t || (decide (j < i) && o.after.any fun e => Region.binds .any e && e.on == j)
    | none => true
def drawOk (ops : Array Oper) (n nI : Nat) : Bool :=
  (List.range nI).all fun i => match ops[i]? with
    | some o => (match o.dst with | some d => decide (d < n) && (List.range i).all fun j => (ops[j]?).bind (·.dst) != some d | none => false) &&
        (o.after.all fun e => !Region.binds .any e || decide (e.on < i)) && (o.looksAt ops).all (depOk ops i o)
    | none => false
def lastOk (ops : Array Oper) (nI : Nat) : Bool :=
  match ops[nI]? with
  | some o => o.guard.isNone && ((List.range nI).all fun j => o.after.any fun e => Region.binds .any e && e.on == j) && (o.after.all fun e => !Region.binds .any e || decide (e.on < nI))
  | none => false
theorem drawOk_spec {n nI : Nat} (h : drawOk ops n nI = true) {i : Nat} {o : Oper} (hiI : i < nI) (ho : ops[i]? = some o) :
    (∃ d, o.dst = some d ∧ d < n ∧ ∀ j, j < i → (ops[j]?).bind (·.dst) ≠ some d) ∧ (∀ e ∈ o.after, Region.binds .any e = true → e.on < i) ∧
    ∀ t ∈ o.looksAt ops, ∀ j d, (ops[j]?).bind (·.dst) = some d → d = t → j < i ∧ ∃ e ∈ o.after, Region.binds .any e = true ∧ e.on = j := by
  have hi : i < ops.size := (Array.getElem?_eq_some_iff.1 ho).1
  have := List.all_eq_true.1 h i (List.mem_range.2 hiI)
  simp only [ho, Bool.and_eq_true] at this
  obtain ⟨⟨h1, h2⟩, h3⟩ := this
  refine ⟨?_, fun e he hb => ?_, fun t ht j d hj hdt => ?_⟩
  · split at h1
    · rename_i d hd
      simp only [Bool.and_eq_true, decide_eq_true_eq, List.all_eq_true, List.mem_range, bne_iff_ne, ne_eq] at h1
      exact ⟨d, hd, h1.1, h1.2⟩
    · cases h1
  · rw [Array.all_eq_true] at h2
    obtain ⟨k, hk, rfl⟩ := Array.mem_iff_getElem.1 he
    have := h2 k hk
    simpa [hb] using this
  · have h4 := List.all_eq_true.1 h3 t ht
    have hjl : j < ops.size := by
      cases hoj : ops[j]? with
      | none => simp [hoj] at hj
      | some o' => exact (Array.getElem?_eq_some_iff.1 hoj).1
    have h5 := List.all_eq_true.1 h4 j (List.mem_range.2 hjl)
    simp only [hj, hdt, bne_self_eq_false, Bool.false_or, Bool.and_eq_true, decide_eq_true_eq, Array.any_eq_true, beq_iff_eq] at h5
    obtain ⟨h6, k, hk, h7, h8⟩ := h5
    exact ⟨h6, _, Array.getElem_mem hk, h7, h8⟩
theorem evalPure_congr {ev ev' : Operand → V} (op : Op) (h : ∀ x ∈ op.operands, ev x = ev' x) : evalPure τ L ev op = evalPure τ L ev' op := by
  cases op <;> simp only [Op.operands] at h <;> simp only [evalPure]
  case move x => rw [h x (by simp)]
  case assign x => rw [h x (by simp)]
  case pick c a b => rw [h c (by simp), h a (by simp), h b (by simp)]
  case binOp op t x y t' => rw [h x (by simp), h y (by simp)]
  case unOp op t x => rw [h x (by simp)]
  case convert s d x => rw [h x (by simp)]
  case extract t i => rw [h t (by simp)]
  case indexAddr t x i => rw [h x (by simp), h i (by simp)]
  case load t x => rw [h x (by simp)]
  case fieldAddr t x i => rw [h x (by simp)]
  case field t x i => rw [h x (by simp)]
  case index t x i => rw [h x (by simp), h i (by simp)]
  case slice t x lo hi mx =>
    cases mx with
    | none =>
      simp only [evalPure]
      cases lo <;> cases hi <;> simp_all
    | some m => cases lo <;> cases hi <;> first | rfl | (simp only [evalPure]; rw [h x (by simp), h _ (by simp), h _ (by simp), h m (by simp)]) | (rename_i l r; simp only [evalPure]; rw [h x (by simp), h l (by simp), h r (by simp), h m (by simp)])
  case makeFunc fn first captured =>
    rw [List.map_congr_left (l := first.toList) fun x hx => h x (by simp at hx ⊢; exact .inl hx), List.map_congr_left (l := captured.toList) fun x hx => h x (by simp at hx ⊢; exact .inr hx)]
  case nilCheck x => rw [h x (by simp)]
  case lookup t x i ok => rw [h x (by simp), h i (by simp)]
  case entry x => rw [h x (by simp)]
  case call c =>
    have ha : ∀ x ∈ c.args.toList, ev x = ev' x := fun x hx => h x (by simp [Call.operands]; exact .inr (by simpa using hx))
    split
    · rename_i x t hc hx ht; rw [hx] at ha; rw [ha x (by simp)]
    · rename_i _ x y hc hx; rw [hx] at ha; rw [ha x (by simp), ha y (by simp)]
    · rename_i _ x y hc hx; rw [hx] at ha; rw [ha x (by simp), ha y (by simp)]
    · rfl
theorem evCall_congr {ev ev' : Operand → V} (c : Call) (h : ∀ x ∈ (Op.call c).operands, ev x = ev' x) : evCall τ Γ ev c = evCall τ Γ ev' c := by
  have ha : ∀ x ∈ c.args.toList, ev x = ev' x := fun x hx => h x (by simp [Op.operands, Call.operands]; exact .inr (by simpa using hx))
  have e : callArgs τ ev c = callArgs τ ev' c := by
    unfold callArgs
    generalize c.argTypes.toList = ts
    revert ha
    generalize c.args.toList = as
    induction as generalizing ts with
    | nil => intro _; simp
    | cons x as ih =>
      intro ha
      cases ts with
      | nil => simp
      | cons t ts => simp only [List.zipWith_cons_cons]; rw [ha x (by simp), ih ts fun y hy => ha y (by simp [hy])]
  unfold evCall
  rw [e]
theorem stepD_congr {ev ev' : Operand → V} (op : Op) (h : ∀ x ∈ op.operands, ev x = ev' x) : stepD τ Γ L ev op = stepD τ Γ L ev' op := by
  unfold stepD
  rw [evalPure_congr op h]
  split
  · rfl
  · split
    · rename_i c _
      split
      · rename_i s x t t2 hc ha ht
        have hs : ∀ y ∈ c.args.toList, ev y = ev' y := fun y hy => h y (by simp [Op.operands, Call.operands]; exact .inr (by simpa using hy))
        rw [ha] at hs
        rw [hs s (by simp), hs x (by simp)]
      · rw [evCall_congr _ h]
    · rename_i t parts _
      have : (parts.toList.map fun x => (x.1, ev x.2)) = parts.toList.map fun x => (x.1, ev' x.2) := List.map_congr_left fun x hx => by
        rw [h x.2 (by simp [Op.operands]; exact ⟨x.1, by simpa using hx⟩)]
      rw [this]
    · rename_i t len parts _
      have : (parts.toList.map fun x => (x.1, ev x.2)) = parts.toList.map fun x => (x.1, ev' x.2) := List.map_congr_left fun x hx => by
        rw [h x.2 (by simp [Op.operands]; exact ⟨x.1, by simpa using hx⟩)]
      rw [this]
    · rfl
theorem zip_congr {α : Type} {g g' : Operand → TypeId → α} : ∀ (as : List Operand) (ts : List TypeId), (∀ x ∈ as, g x = g' x) → List.zipWith g as ts = List.zipWith g' as ts
  | [], ts, _ => by simp
  | x :: as, [], _ => by simp
  | x :: as, t :: ts, h => by rw [List.zipWith_cons_cons, List.zipWith_cons_cons, h x (by simp), zip_congr as ts fun y hy => h y (by simp [hy])]
theorem evCallM_congr {T : List (Nat × TypeId)} {ev ev' : Operand → V} (c : Call) (h : ∀ x ∈ c.args.toList, ev x = ev' x) : evCallM τ Γ L T ev c = evCallM τ Γ L T ev' c := by
  have e1 : List.zipWith (fun x t => castM τ L t (ev x)) c.args.toList c.argTypes.toList = List.zipWith (fun x t => castM τ L t (ev' x)) c.args.toList c.argTypes.toList := zip_congr _ _ fun x hx => by rw [h x hx]
  have e2 : List.zipWith (fun x t => castMP τ L t (ev x)) c.args.toList c.argTypes.toList = List.zipWith (fun x t => castMP τ L t (ev' x)) c.args.toList c.argTypes.toList := zip_congr _ _ fun x hx => by rw [h x hx]
  have e3 : ∀ (l : List Operand) (L0 : List (List V)), (∀ x ∈ l, ev x = ev' x) → l.foldl (fun L x => frz L (ev x)) L0 = l.foldl (fun L x => frz L (ev' x)) L0 := by
    intro l
    induction l with
    | nil => intro L0 _; rfl
    | cons x l ih => intro L0 hl; rw [List.foldl_cons, List.foldl_cons, hl x (by simp), ih _ fun y hy => hl y (by simp [hy])]
  unfold evCallM
  rw [e1, e2, e3 _ _ h]
theorem hasM_congr {ev ev' : Operand → V} (c : Call) (h : ∀ x ∈ c.args.toList, ev x = ev' x) : hasM ev c = hasM ev' c := by
  unfold hasM
  generalize c.args.toList = l at h
  induction l with
  | nil => rfl
  | cons x l ih => rw [List.any_cons, List.any_cons, h x (by simp), ih fun y hy => h y (by simp [hy])]
theorem evalEff_congr {T : List (Nat × TypeId)} {mu : Bool} {ev ev' : Operand → V} (op : Op) (h : ∀ x ∈ op.operands, ev x = ev' x) : evalEff τ Γ mu L T ev op = evalEff τ Γ mu L T ev' op := by
  cases op <;> simp only [Op.operands] at h <;> simp only [evalEff]
  case convert s d x => rw [h x (by simp)]
  case makeSlice t l c => rw [h l (by simp), h c (by simp)]
  case buildSlice t len parts =>
    have : (parts.toList.map fun x => (x.1, ev x.2)) = parts.toList.map fun x => (x.1, ev' x.2) := List.map_congr_left fun x hx => by
      rw [h x.2 (by simp; exact ⟨x.1, by simpa using hx⟩)]
    rw [this]
  case build t parts =>
    have : (parts.toList.map fun x => (x.1, ev x.2)) = parts.toList.map fun x => (x.1, ev' x.2) := List.map_congr_left fun x hx => by
      rw [h x.2 (by simp; exact ⟨x.1, by simpa using hx⟩)]
    rw [this]
  case box e x => rw [h x (by simp)]
  case store t a x => rw [h a (by simp), h x (by simp)]
  case mapUpdate t m k x => rw [h m (by simp), h k (by simp), h x (by simp)]
  case makeMap t r => cases r <;> rfl
  case range t x => rw [h x (by simp)]
  case call c =>
    have ha : ∀ x ∈ c.args.toList, ev x = ev' x := fun x hx => h x (by simp [Call.operands]; exact .inr (by simpa using hx))
    split
    · rename_i s x t t2 hc hx ht; rw [hx] at ha; rw [ha s (by simp), ha x (by simp)]
    · rename_i d s t t2 hc hx ht; rw [hx] at ha; rw [ha d (by simp), ha s (by simp)]
    · rename_i d s t t2 hc hx ht; rw [hx] at ha; rw [ha d (by simp), ha s (by simp)]
    · rw [hasM_congr c ha, evCallM_congr c ha, evCall_congr c h]
theorem kOp_congr {g : Bool} {ev ev' : Operand → V} (op : Op) (h : ∀ x ∈ op.operands, ev x = ev' x) : kOp τ Γ g ev op = kOp τ Γ g ev' op := by
  unfold kOp
  split
  · rename_i x; rw [h x (by simp [Op.operands])]
  · rename_i c
    have ha : ∀ x ∈ c.args.toList, ev x = ev' x := fun x hx => h x (by simp [Op.operands, Call.operands]; exact .inr (by simpa using hx))
    unfold kCall
    split
    · rename_i t hc
      rw [h (.tmp t) (by simp [Op.operands, Call.operands, hc])]
      unfold kVal
      split
      · unfold kFn
        split
        · rw [zip_congr (g := fun x t => castH τ t (ev x)) (g' := fun x t => castH τ t (ev' x)) _ _ fun x hx => by rw [ha x hx]]
        · rfl
      · unfold kFn
        split
        · rw [zip_congr (g := fun x t => castH τ t (ev x)) (g' := fun x t => castH τ t (ev' x)) _ _ fun x hx => by rw [ha x hx]]
        · rfl
      · rfl
    · rename_i s x t t2 hc hx ht; rw [hx] at ha; rw [ha s (by simp), ha x (by simp)]
    · rfl
  · rfl
theorem execE_congr {T : List (Nat × TypeId)} {mk : Mk} {ev ev' : Operand → V} (op : Op) {K : V → List (List V) → List (Nat × TypeId) → Prop} (h : ∀ x ∈ op.operands, ev x = ev' x) : execE τ Γ mk L T ev op K = execE τ Γ mk L T ev' op K := by
  unfold execE
  split
  · rename_i m c hc
    unfold pCall at hc
    split at hc
    · rename_i c'
      split at hc
      · simp only [Option.some.injEq, Prod.mk.injEq] at hc
        obtain ⟨_, rfl⟩ := hc
        have ha : ∀ x ∈ c'.args.toList, ev x = ev' x := fun x hx => h x (by simp [Op.operands, Call.operands]; exact .inr (by simpa using hx))
        rw [zip_congr (g := fun x t => castH τ t (ev x)) (g' := fun x t => castH τ t (ev' x)) _ _ fun x hx => by rw [ha x hx]]
      · cases hc
    · cases hc
  · have : stepE τ Γ mk L T ev op = stepE τ Γ mk L T ev' op := by
      unfold stepE
      split
      · rename_i t x hn
        have : op = .assign x := by unfold nilOf at hn; split at hn <;> simp at hn; simp_all
        rw [h x (by rw [this]; simp [Op.operands])]
      · rw [evalPure_congr op h, evalEff_congr op h]
    rw [this, kOp_congr op h]
theorem at_more {X : List (List V)} {o : Nat} {cs : List V} (h : L[o]? = some cs) : (L ++ X)[o]? = some cs := by rw [List.getElem?_append_left (List.getElem?_eq_some_iff.1 h).1, h]
theorem mapOf_more {X : List (List V)} {kk : Option IntKind} {x : V} {l : List (MKey × Nat × V)} (h : mapOf L kk x = some l) : mapOf (L ++ X) kk x = some l := by
  unfold mapOf at h ⊢
  split at h
  · exact h
  · split at h
    · rename_i ho
      rw [at_more ho]
      exact h
    · cases h
  · cases h
theorem evLenL_more {X : List (List V)} {t : TypeId} {x : V} {r : Prop × V} (h : evLenL τ L t x = some r) : evLenL τ (L ++ X) t x = some r := by
  unfold evLenL at h ⊢
  split at h
  · split at h
    · rename_i hm
      rw [mapOf_more hm]
      exact h
    · cases h
  · exact h
theorem evLookup_more {X : List (List V)} {t : TypeId} {x i : V} {ok : Bool} {r : Prop × V} (h : evLookup τ L t x i ok = some r) : evLookup τ (L ++ X) t x i ok = some r := by
  unfold evLookup at h ⊢
  split at h
  · split at h
    · rename_i hk hm
      rw [hk, mapOf_more hm]
      exact h
    · cases h
  · cases h
theorem evEntry_more {X : List (List V)} {x : V} {r : Prop × V} (h : evEntry L x = some r) : evEntry (L ++ X) x = some r := by
  unfold evEntry at h ⊢
  split at h
  · split at h
    · rename_i ho
      split at h
      · rename_i ho2
        rw [at_more ho]
        simp only [at_more ho2]
        exact h
      · cases h
    · cases h
  · cases h
theorem evalPure_more {ev : Operand → V} {X : List (List V)} {op : Op} {r : Prop × V} (h : evalPure τ L ev op = some r) : evalPure τ (L ++ X) ev op = some r := by
  cases op <;> simp only [evalPure] at h ⊢ <;> first | exact h | skip
  case slice t x lo hi mx => cases mx <;> cases lo <;> cases hi <;> exact h
  case convert src dst x =>
    unfold evConvL at h ⊢
    split at h
    · rename_i o off n hx
      split at h
      · split at h
        · split at h
          · rename_i hk hb _ cs hcs
            have hcs' : (L ++ X)[o]? = some cs := by rw [List.getElem?_append_left (List.getElem?_eq_some_iff.1 hcs).1, hcs]
            simp only [hk, hb, if_true, hcs']
            exact h
          · cases h
        · cases h
      · cases h
    · rename_i sz o n hx
      split at h
      · split at h
        · split at h
          · rename_i hk hb _ cs hcs
            have hcs' : (L ++ X)[o]? = some cs := by rw [List.getElem?_append_left (List.getElem?_eq_some_iff.1 hcs).1, hcs]
            simp only [hk, hb, if_true, hcs']
            exact h
          · cases h
        · cases h
      · cases h
    · exact h
  case lookup t x i ok => exact evLookup_more h
  case entry x => exact evEntry_more h
  case call c =>
    split at h
    all_goals first | exact h | exact evLenL_more h | cases h
  unfold evLoad at h ⊢
  split at h
  · exact h
  · rename_i o off _
    split at h
    · rename_i cs hcs
      rw [List.getElem?_append_left (List.getElem?_eq_some_iff.1 hcs).1, hcs]
      exact h
    · cases h
  · cases h
theorem stepD_more {ev : Operand → V} {X : List (List V)} {op : Op} {r : Prop × V} (h : stepD τ Γ L ev op = some r) : stepD τ Γ (L ++ X) ev op = some r := by
  unfold stepD at h ⊢
  cases hp : evalPure τ L ev op with
  | some r' =>
    rw [hp] at h
    simp only [Option.some.injEq] at h
    subst h
    rw [evalPure_more hp]
  | none =>
    rw [hp] at h
    have e : evalPure τ (L ++ X) ev op = none := by
      cases op <;> simp only at h <;> first | cases h; done | skip
      case call c =>
        simp only [evalPure] at hp ⊢
        split at hp
        all_goals first | exact hp | skip
        rename_i hc hx ht
        simp only [hc, hx, ht, evCall, Option.map_none] at h
        cases h
      all_goals first | (simp only [evalPure]; done) | (simp only [evalPure] at hp ⊢; exact hp)
    rw [e]
    exact h
variable {B : World} {p0 : Bs} {T : List (Nat × TypeId)}
structure Mid (P : Program) (B : World) (p0 : Bs) (Γ : Fns) (L : List (List V)) (T : List (Nat × TypeId)) (ops : Array Oper) (nI : Nat) (ρ0 ρN : List V) (C X : List (List V)) (listed : Array Bool) (K : Kw) (a : Act) : Prop where
  mem : Mem P B p0 K (L ++ X) T
  xlen : X.length = C.length
  xdone : ∀ i o, i < nI → listed.getD i false = true → ops[i]? = some o → isMk Γ o = true → X[cnt Γ (ops.toList.take nI) i]? = C[cnt Γ (ops.toList.take nI) i]?
  xhole : ∀ i o, i < nI → listed.getD i false = false → ops[i]? = some o → isMk Γ o = true → K.boxes[L.length + cnt Γ (ops.toList.take nI) i]? = some none
  size : a.tmps.size = ρN.length
  done : ∀ (i d : Nat), i < nI → listed.getD i false = true → (ops[i]?).bind (·.dst) = some d → ∀ v u, ρN[d]? = some v → a.tmps[d]? = some u → Rel K v u
  other : ∀ d : Nat, (∀ i, i < nI → listed.getD i false = true → (ops[i]?).bind (·.dst) ≠ some d) → ∀ v u, ρ0[d]? = some v → a.tmps[d]? = some u → Rel K v u
  defers : DefOk B p0 K a.defers
theorem d_wp (hτ : TyOk P τ) (hΓ : FnsAt P B p0 Γ) {K : Kw} (hm : Mem P B p0 K L T) {a : Act} {o : Oper} {ev : Operand → V} (hρ : ∀ x, Rel K (ev x) (a.eval x)) {p : Prop} {v : V} (hev : stepD τ Γ L ev o.op = some (p, v)) (hp : p)
    {Kont : Act → World → Prop} {Q : Exit → Act → World → Prop} (hK : ∀ K' u, Ext K K' → K'.boxes = K.boxes → Mem P B p0 K' L T → Rel K' v u → Kont (a.put o.dst u) K'.w) : owp P o a K.w Kont Q := by
  unfold stepD at hev
  split at hev
  · rename_i r hpure
    obtain ⟨p', v'⟩ := r
    simp only [Option.some.injEq, Prod.mk.injEq] at hev
    obtain ⟨rfl, rfl⟩ := hev
    obtain ⟨u, hrun, hr⟩ := evalPure_sound hτ hm.boxes hρ hpure hp
    exact run_wp hrun (hK K u (Ext.refl K) rfl hm hr)
  · split at hev
    · rename_i c hop
      split at hev
      · rename_i s x t t2 hc ha ht
        have ha' : c.args = #[s, x] := by rw [← Array.toList_inj]; simpa using ha
        have ht' : c.argTypes = #[t, t2] := by rw [← Array.toList_inj]; simpa using ht
        obtain ⟨K', u, hrun, hb, he, hm', hr⟩ := grow_sound (ty := o.type) hτ hm hev hp (hρ s) (hρ x)
        exact run_wp (by simp [execOp, hop, resolve, hc, ha', ht', invoke, builtin, hrun]) (hK K' u he hb hm' hr)
      simp only [Option.map_eq_some_iff, Prod.mk.injEq] at hev
      obtain ⟨⟨p', r, fr⟩, hcall, rfl, rfl⟩ := hev
      refine call_wp (st := ⟨[], L, T⟩) hΓ hm hρ hop hcall hp fun K' u hm' hr hf => ?_
      obtain ⟨he, hm2⟩ := adopt hm hm'
      exact hK { K with w := K'.w, prot := K'.prot } u he rfl hm2 (Rel.dropped (K' := K') (K2 := { K with w := K'.w, prot := K'.prot }) (fun _ _ h => h) hr hf)
    · rename_i t parts hop
      obtain ⟨e1, e2⟩ := parts_rel hρ parts
      obtain ⟨u, hrun, hr⟩ := build_sound (P := P) hτ hev e1 e2
      exact run_wp (by simp [execOp, hop, hrun]) (hK K u (Ext.refl K) rfl hm hr)
    · rename_i t len parts hop
      obtain ⟨e1, e2⟩ := parts_rel hρ parts
      obtain ⟨K', u, hrun, hb, he, hm', hr⟩ := none_sound (us := parts.map fun x => (x.1, a.eval x.2)) hτ hm hev hp e1 e2
      exact run_wp (by simp [execOp, hop, hrun]) (hK K' u he hb hm' hr)
    · cases hev
theorem getD_setB {listed : Array Bool} {i j : Nat} (h : (listed.setIfInBounds i true).getD j false = true) : j = i ∨ listed.getD j false = true := by
  by_cases e : i = j
  · exact .inl e.symm
  · right
    simpa [Array.getElem?_setIfInBounds_ne e] using h
theorem drawn_wp (hτ : TyOk P τ) (hΓ : FnsAt P B p0 Γ) {ρ0 ρN : List V} {C : List (List V)} {nI : Nat} (hnI : nI ≤ ops.size) (hok : drawOk ops ρ0.length nI = true) (hrun : Run τ Γ L ops (ops.toList.take nI) 0 ρ0 ρN C) {Q : Exit → Act → World → Prop} (hshape : ops.size = nI ∨ (ops.size = nI + 1 ∧ lastOk ops nI = true))
    (hQ : ∀ K a, Inv P B p0 K ⟨ρN, L ++ C, T⟩ a → (ops.size = nI ∧ Q .normal a K.w) ∨ (ops.size = nI + 1 ∧ lastOk ops nI = true ∧ ∀ o, ops[nI]? = some o → owp P o a K.w (fun a w => Q .normal a w) Q)) :
    ∀ (fuel : Nat) (listed : Array Bool) (K : Kw) (a : Act) (X : List (List V)), Mid P B p0 Γ L T ops nI ρ0 ρN C X listed K a → (ops.size = nI ∨ listed.getD nI false = false) → listed.size = ops.size → (ops.size ≤ fuel + (listed.toList.filter id).length) → wpAnyIn (WR ro) 0 P .any ops Q fuel listed a K.w := by
  have htl : ∀ i (hi : i < (ops.toList.take nI).length), i < nI ∧ ∃ h : i < ops.size, (ops.toList.take nI)[i] = ops[i] := fun i hi => by
    simp only [List.length_take, Array.length_toList] at hi
    exact ⟨by omega, by omega, by simp⟩
  have htl' : ∀ i, i < nI → i < (ops.toList.take nI).length := fun i hi => by simp; omega
  have hdist : ∀ i j (hi : i < (ops.toList.take nI).length) (hj : j < (ops.toList.take nI).length), i < j → ∀ d, (ops.toList.take nI)[i].dst = some d → (ops.toList.take nI)[j].dst ≠ some d := by
    intro i j hi hj hij d h1 h2
    obtain ⟨hjn, hj', ej⟩ := htl j hj
    obtain ⟨hin, hi', ei⟩ := htl i hi
    obtain ⟨⟨d', hd', _, hno⟩, _, _⟩ := drawOk_spec hok hjn (Array.getElem?_eq_getElem hj')
    rw [ei] at h1
    rw [ej] at h2
    rw [h2] at hd'
    cases hd'
    exact hno i hij (by simp [Array.getElem?_eq_getElem hi', h1])
  obtain ⟨hl, hCl, hout, hin⟩ := run_spec (ops.toList.take nI) 0 ρ0 ρN C hrun hdist
  have hinv : ∀ (listed : Array Bool) (K : Kw) (a : Act) (X : List (List V)), Mid P B p0 Γ L T ops nI ρ0 ρN C X listed K a → (∀ i, i < nI → listed.getD i false = true) → Inv P B p0 K ⟨ρN, L ++ C, T⟩ a := by
    intro listed K a X hmid hall
    have hXC : X = C := by
      apply List.ext_getElem?
      intro c
      by_cases hc : c < C.length
      · rw [hCl] at hc
        obtain ⟨i, hi, hm, hci⟩ := countP_at _ _ c hc
        obtain ⟨hin', hi', ei⟩ := htl i hi
        have := hmid.xdone i ops[i] hin' (hall i hin') (Array.getElem?_eq_getElem hi') (by rw [← ei]; exact hm)
        have e : cnt Γ (ops.toList.take nI) i = c := hci
        rw [e] at this
        exact this
      · rw [List.getElem?_eq_none (by rw [hmid.xlen]; omega), List.getElem?_eq_none (by omega)]
    subst hXC
    refine ⟨hmid.mem, hmid.size, fun t ht ht' => ?_, hmid.defers⟩
    by_cases hex : ∃ i : Nat, i < nI ∧ (ops[i]?).bind (·.dst) = some t
    · obtain ⟨i, hi, hd⟩ := hex
      exact hmid.done i t hi (hall i hi) hd _ _ (List.getElem?_eq_getElem ht) (Array.getElem?_eq_getElem ht')
    · have h0 : ρN[t]? = ρ0[t]? := hout t fun (o : Oper) ho he => by
        obtain ⟨i, hi, rfl⟩ := List.mem_iff_getElem.1 ho
        obtain ⟨hin', hi', ei⟩ := htl i hi
        exact hex ⟨i, hin', by rw [Array.getElem?_eq_getElem hi']; rw [ei] at he; simpa using he⟩
      exact hmid.other t (fun i hi _ he => hex ⟨i, hi, he⟩) _ _ (by rw [← h0]; exact List.getElem?_eq_getElem ht) (Array.getElem?_eq_getElem ht')
  have hready : ∀ (listed : Array Bool), listed.size = ops.size → Region.ready .any ops listed = [] → ∀ i, i < nI → listed.getD i false = true := by
    intro listed hsz hr i
    induction i using Nat.strongRecOn with
    | _ i ih =>
      intro hi
      cases hli : listed.getD i false with
      | true => rfl
      | false =>
        exfalso
        have hi' : i < ops.size := by omega
        have hmem : i ∈ Region.ready .any ops listed := by
          rw [mem_ready]
          obtain ⟨_, hafter, _⟩ := drawOk_spec hok hi (Array.getElem?_eq_getElem hi')
          have hit : listed.getD i true = false := by
            have : i < listed.size := by omega
            simp only [Array.getD_eq_getD_getElem?, Array.getElem?_eq_getElem this, Option.getD_some] at hli ⊢
            exact hli
          refine ⟨hit, _, Array.getElem?_eq_getElem hi', fun e he hb => ih e.on (hafter e he hb) (by have := hafter e he hb; omega)⟩
        rw [hr] at hmem
        cases hmem
  have hlastSpec : lastOk ops nI = true → ∃ o, ops[nI]? = some o ∧ o.guard = none ∧ (∀ j, j < nI → ∃ e ∈ o.after, Region.binds .any e = true ∧ e.on = j) ∧ ∀ e ∈ o.after, Region.binds .any e = true → e.on < nI := by
    intro h
    unfold lastOk at h
    split at h
    · rename_i o ho
      simp only [Bool.and_eq_true, Option.isNone_iff_eq_none] at h
      obtain ⟨⟨h1, h2⟩, h3⟩ := h
      refine ⟨o, ho, h1, fun j hj => ?_, fun e he hb => ?_⟩
      · have := List.all_eq_true.1 h2 j (List.mem_range.2 hj)
        simp only [Array.any_eq_true, Bool.and_eq_true, beq_iff_eq] at this
        obtain ⟨k, hk, h4, h5⟩ := this
        exact ⟨_, Array.getElem_mem hk, h4, h5⟩
      · rw [Array.all_eq_true] at h3
        obtain ⟨k, hk, rfl⟩ := Array.mem_iff_getElem.1 he
        have := h3 k hk
        simpa [hb] using this
    · cases h
  have hover : ∀ (fuel : Nat) (listed : Array Bool) (a : Act) (w : World), (∀ i, i < ops.size → listed.getD i false = true) → listed.size = ops.size → Q .normal a w → wpAnyIn (WR ro) 0 P .any ops Q fuel listed a w := by
    intro fuel listed a w hall hsz hq
    have hrn : Region.ready .any ops listed = [] := by
      unfold Region.ready
      rw [List.filter_eq_nil_iff]
      intro i hi
      have hil : i < ops.size := List.mem_range.1 hi
      have h1 := hall i hil
      have : listed.getD i true = true := by
        have hil' : i < listed.size := by omega
        simp only [Array.getD_eq_getD_getElem?, Array.getElem?_eq_getElem hil', Option.getD_some] at h1 ⊢
        exact h1
      simp [this]
    cases fuel with
    | zero => exact ⟨hrn, hq⟩
    | succ fuel => exact ⟨fun _ => hq, fun i hi => by rw [hrn] at hi; cases hi⟩
  have hend : ∀ (listed : Array Bool) (K : Kw) (a : Act) (X : List (List V)), Mid P B p0 Γ L T ops nI ρ0 ρN C X listed K a → (ops.size = nI ∨ listed.getD nI false = false) → listed.size = ops.size → Region.ready .any ops listed = [] → Q .normal a K.w := by
    intro listed K a X hmid hlast hsz hr
    have hall := hready listed hsz hr
    rcases hQ K a (hinv listed K a X hmid hall) with ⟨_, hq⟩ | ⟨hs1, hlo, _⟩
    · exact hq
    · exfalso
      obtain ⟨o, ho, _, _, hbefore⟩ := hlastSpec hlo
      have hnl : listed.getD nI false = false := hlast.resolve_left (by omega)
      have hmem : nI ∈ Region.ready .any ops listed := by
        rw [mem_ready]
        have hit : listed.getD nI true = false := by
          have : nI < listed.size := by omega
          simp only [Array.getD_eq_getD_getElem?, Array.getElem?_eq_getElem this, Option.getD_some] at hnl ⊢
          exact hnl
        exact ⟨hit, o, ho, fun e he hb => hall e.on (hbefore e he hb)⟩
      rw [hr] at hmem
      cases hmem
  intro fuel
  induction fuel with
  | zero =>
    intro listed K a X hmid hlast hsz hcount
    have hallt : ∀ x ∈ listed.toList, x = true := by
      have h1 : (listed.toList.filter id).length = listed.toList.length := by
        have h2 := List.length_filter_le id listed.toList
        simp only [Array.length_toList] at h2 ⊢
        omega
      intro x hx
      have := List.length_filter_eq_length_iff.1 h1 x hx
      simpa using this
    have hall : ∀ i, i < ops.size → listed.getD i false = true := fun i hi => by
      have hil : i < listed.size := by omega
      simp only [Array.getD_eq_getD_getElem?, Array.getElem?_eq_getElem hil, Option.getD_some]
      exact hallt _ (by simp)
    rcases hQ K a (hinv listed K a X hmid fun i hi => hall i (by omega)) with ⟨_, hq⟩ | ⟨hs1, _, _⟩
    · exact hover 0 listed a K.w hall hsz hq
    · rcases hlast with hl1 | hl1
      · omega
      · rw [hall nI (by omega)] at hl1; cases hl1
  | succ fuel ih =>
    intro listed K a X hmid hlast hsz hcount
    refine ⟨hend listed K a X hmid hlast hsz, fun i hi => ?_⟩
    obtain ⟨hli, o, ho, hafter⟩ := mem_ready.1 hi
    have hil : i < ops.size := (Array.getElem?_eq_some_iff.1 ho).1
    have hill : i < listed.size := by omega
    have hnl : listed.getD i false = false := by
      simp only [Array.getD_eq_getD_getElem?, Array.getElem?_eq_getElem hill, Option.getD_some] at hli ⊢
      exact hli
    by_cases hiI : i < nI
    case neg =>
      rcases Nat.lt_or_ge nI ops.size with hlt | hge
      case inr => omega
      have hex : lastOk ops nI = true ∧ ops.size = nI + 1 ∧ (∀ j, j < nI → listed.getD j false = true) := by
        have h0 : ∀ j, j < nI → ops.size = nI + 1 → lastOk ops nI = true → listed.getD j false = true := fun j hj hs1 hlo => by
          obtain ⟨o', ho', _, hall, _⟩ := hlastSpec hlo
          have ei : i = nI := by omega
          subst ei
          rw [ho] at ho'
          cases ho'
          obtain ⟨e, he, hb, hej⟩ := hall j hj
          rw [← hej]
          exact hafter e he hb
        exact hshape.elim (fun h => absurd h (by omega)) fun ⟨h1, h2⟩ => ⟨h2, h1, fun j hj => h0 j hj h1 h2⟩
      obtain ⟨hlo, hs1, hallj⟩ := hex
      have ei : i = nI := by omega
      subst ei
      rcases hQ K a (hinv listed K a X hmid hallj) with ⟨h1, _⟩ | ⟨_, _, hwp⟩
      · omega
      obtain ⟨o', ho', hg, _, _⟩ := hlastSpec hlo
      rw [ho] at ho'
      cases ho'
      unfold wpOpIn
      simp only [ho]
      rw [if_pos (by simp [Region.wanted, hg])]
      refine owp_in ?_ _ _
      refine owp_mono (fun a' w' hq => ?_) (hwp o ho)
      refine hover fuel _ a' w' (fun j hj => ?_) (by simpa using hsz) hq
      by_cases e : i = j
      · subst e; simp [hill]
      · have := hallj j (by omega)
        simpa [Array.getElem?_setIfInBounds_ne e] using this
    case pos =>
    have hoi : (ops.toList.take nI)[i]'(htl' i hiI) = o := by
      obtain ⟨_, _, e⟩ := htl i (htl' i hiI)
      rw [e]
      exact (Array.getElem?_eq_some_iff.1 ho).2
    obtain ⟨⟨d, hd, hdn, hdno⟩, _, hlooks⟩ := drawOk_spec hok hiI ho
    obtain ⟨ρi, hρi, hat⟩ := hin i (htl' i hiI)
    rw [hoi, Nat.zero_add] at hat
    have hdstI : ∀ j t, j < i → (ops[j]?).bind (·.dst) = some t → ∃ hj : j < (ops.toList.take nI).length, ((ops.toList.take nI)[j]'hj).dst = some t := by
      intro j t hji hj
      have hjl := htl' j (by omega)
      obtain ⟨_, hjs, e⟩ := htl j hjl
      refine ⟨hjl, ?_⟩
      rw [e]
      rw [Array.getElem?_eq_getElem hjs] at hj
      simpa using hj
    have hnoD : ∀ t, (¬ ∃ j : Nat, j < i ∧ (ops[j]?).bind (·.dst) = some t) → ρi[t]? = ρ0[t]? := by
      intro t hex
      refine (hρi t).2 fun j hj hji he => hex ⟨j, hji, ?_⟩
      obtain ⟨_, hjs, e⟩ := htl j hj
      rw [Array.getElem?_eq_getElem hjs]
      rw [e] at he
      simpa using he
    have hlook : ∀ t ∈ o.looksAt ops, ∀ v u, ρi[t]? = some v → a.tmps[t]? = some u → Rel K v u := by
      intro t ht v u hv hu
      by_cases hex : ∃ j : Nat, (ops[j]?).bind (·.dst) = some t
      · obtain ⟨j, hj⟩ := hex
        obtain ⟨hji, e, he, hb, hej⟩ := hlooks t ht j t hj rfl
        have hlj := hafter e he hb
        rw [hej] at hlj
        obtain ⟨hjl, hjd⟩ := hdstI j t hji hj
        rw [(hρi t).1 j hjl hji hjd] at hv
        exact hmid.done j t (by omega) hlj hj v u hv hu
      · have hv' := hv
        rw [hnoD t fun ⟨j, _, hj⟩ => hex ⟨j, hj⟩] at hv'
        exact hmid.other t (fun i' _ _ he => hex ⟨i', he⟩) v u hv' hu
    have hρlen : ∀ t, (ρi[t]?).isSome = true → t < a.tmps.size → True := fun _ _ _ => trivial
    have hwant : ∀ b, wantV ops ρi o = some b → Region.wanted o (yielded ops a.tmps) = b := by
      intro b hb
      unfold wantV at hb
      split at hb
      · rename_i hg
        simp only [Option.some.injEq] at hb
        subst hb
        simp [Region.wanted, hg]
      · rename_i j w hg
        split at hb
        · cases hb
        · rename_i dj hdj
          have hmem : dj ∈ o.looksAt ops := by
            unfold Oper.looksAt
            rw [hg]
            exact List.mem_append_right _ (by simp [hdj])
          have hlt : ∀ x, ρi[dj]? = some x → ∃ u, a.tmps[dj]? = some u ∧ Rel K x u := by
            intro x hx
            have hdjl : dj < a.tmps.size := by
              rw [hmid.size, hl]
              obtain ⟨hji, _⟩ := hlooks dj hmem j dj hdj rfl
              have hjs : j < ops.size := by omega
              obtain ⟨⟨d', hd', hdn', _⟩, _, _⟩ := drawOk_spec hok (by omega : j < nI) (Array.getElem?_eq_getElem hjs)
              rw [Array.getElem?_eq_getElem hjs] at hdj
              simp only [Option.bind_some] at hdj
              rw [hd'] at hdj
              cases hdj
              exact hdn'
            exact ⟨_, Array.getElem?_eq_getElem hdjl, hlook dj hmem x _ hx (Array.getElem?_eq_getElem hdjl)⟩
          split at hb
          · rename_i x hx
            obtain ⟨u, hu, hr⟩ := hlt _ hx
            simp only [Option.some.injEq] at hb
            subst hb
            cases hr
            simp [Region.wanted, hg, yielded, hdj, hu]
          · rename_i hx
            obtain ⟨u, hu, hr⟩ := hlt _ hx
            simp only [Option.some.injEq] at hb
            subst hb
            have hu' : u = Go.undef := by
              have hz : ∀ u, Rel K .undef u → u = Go.undef := fun u h => by cases h; rfl
              exact hz u hr
            subst hu'
            simp [Region.wanted, hg, yielded, hdj, hu, Go.undef, noResult]
          · cases hb
    let ev : Operand → V := fun x => match x with
      | .tmp t => if t ∈ o.looksAt ops then evOp ρi (.tmp t) else .any
      | x => evOp ρi x
    have hev : ∀ x ∈ o.op.operands, ev x = evOp ρi x := by
      intro x hx
      cases x with
      | tmp t =>
        have ht : t ∈ o.looksAt ops := by
          unfold Oper.looksAt
          exact List.mem_append_left _ (List.mem_filterMap.2 ⟨.tmp t, by simpa using hx, rfl⟩)
        simp only [ev]; rw [if_pos ht]
      | _ => rfl
    have hrel : ∀ x, Rel K (ev x) (a.eval x) := by
      intro x
      cases x with
      | tmp t =>
        simp only [ev]
        split
        · rename_i ht
          simp only [evOp, Act.eval]
          cases hv : ρi[t]? with
          | none =>
            by_cases htl1 : t < a.tmps.size
            · exfalso
              by_cases hex : ∃ j : Nat, j < i ∧ (ops[j]?).bind (·.dst) = some t
              · obtain ⟨j, hji, hj⟩ := hex
                obtain ⟨hjl, hjd⟩ := hdstI j t hji hj
                rw [(hρi t).1 j hjl hji hjd, List.getElem?_eq_getElem (by rw [← hmid.size]; exact htl1)] at hv
                cases hv
              · rw [hnoD t hex, List.getElem?_eq_getElem (by rw [← hl, ← hmid.size]; exact htl1)] at hv
                cases hv
            · have e2 : a.tmps[t]? = none := Array.getElem?_eq_none (Nat.le_of_not_lt htl1)
              simp only [List.getD_eq_getElem?_getD, hv, Option.getD_none, Array.getD_eq_getD_getElem?, e2]
              exact .undef
          | some v =>
            by_cases htl1 : t < a.tmps.size
            · have := hlook t ht v _ hv (Array.getElem?_eq_getElem htl1)
              simpa [List.getD_eq_getElem?_getD, hv, htl1] using this
            · exfalso
              have hlt : ¬ t < ρN.length := by rw [← hmid.size]; exact htl1
              by_cases hex : ∃ j : Nat, j < i ∧ (ops[j]?).bind (·.dst) = some t
              · obtain ⟨j, hji, hj⟩ := hex
                obtain ⟨hjl, hjd⟩ := hdstI j t hji hj
                rw [(hρi t).1 j hjl hji hjd, List.getElem?_eq_none (Nat.le_of_not_lt hlt)] at hv
                cases hv
              · rw [hnoD t hex, List.getElem?_eq_none (by rw [← hl]; exact Nat.le_of_not_lt hlt)] at hv
                cases hv
        · exact .any _
      | const v => exact ofV_rel K v
      | global g => exact .any _
      | func f => exact .fn (.func f) [] [] #[] #[] rfl rfl (fun j h => absurd h (by simp)) (fun j h => absurd h (by simp))
    have hcount' : ops.size ≤ fuel + ((listed.setIfInBounds i true).toList.filter id).length := by
      have h1 : ((listed.setIfInBounds i true).toList.filter id).length = (listed.toList.filter id).length + 1 := by
        rw [Array.toList_setIfInBounds]
        have hill' : i < listed.toList.length := by simpa using hill
        have hget : listed.toList[i] = false := by
          simp only [Array.getElem_toList]
          simpa [Array.getD_eq_getD_getElem?, Array.getElem?_eq_getElem hill] using hnl
        rw [List.set_eq_take_append_cons_drop, if_pos hill']
        conv => rhs; rw [← List.take_append_drop i listed.toList, List.drop_eq_getElem_cons hill', hget]
        simp [List.filter_append, List.filter_cons]
        omega
      omega
    have hlast' : ops.size = nI ∨ (listed.setIfInBounds i true).getD nI false = false := by
      refine hlast.imp id fun h => ?_
      have : i ≠ nI := by omega
      simpa [Array.getElem?_setIfInBounds_ne this] using h
    have getSet : ∀ j, (listed.setIfInBounds i true).getD j false = true → j = i ∨ listed.getD j false = true := fun j h => getD_setB h
    have getUnset : ∀ j, (listed.setIfInBounds i true).getD j false = false → j ≠ i ∧ listed.getD j false = false := fun j h => by
      by_cases e : i = j
      · subst e; simp [hill] at h
      · refine ⟨Ne.symm e, ?_⟩
        simpa [Array.getElem?_setIfInBounds_ne e] using h
    have next : ∀ (v : V) (K' : Kw) (u : Value) (X' : List (List V)), Ext K K' → Mem P B p0 K' (L ++ X') T → X'.length = C.length →
        (∀ i' o', i' < nI → (listed.setIfInBounds i true).getD i' false = true → ops[i']? = some o' → isMk Γ o' = true → X'[cnt Γ (ops.toList.take nI) i']? = C[cnt Γ (ops.toList.take nI) i']?) →
        (∀ i' o', i' < nI → (listed.setIfInBounds i true).getD i' false = false → ops[i']? = some o' → isMk Γ o' = true → K'.boxes[L.length + cnt Γ (ops.toList.take nI) i']? = some none) →
        Rel K' v u → (d < ρN.length → ρN[d]? = some v) → wpAnyIn (WR ro) 0 P .any ops Q fuel (listed.setIfInBounds i true) (a.put o.dst u) K'.w := by
      intro v K' u X' hext hm' hXl hXd hXh hr hvN
      refine ih _ K' _ X' ⟨hm', hXl, hXd, hXh, ?_, fun i' d' hi'I hi' hd' v' u' hv' hu' => ?_, fun d' hno v' u' hv' hu' => ?_, ?_⟩ hlast' (by simpa using hsz) hcount'
      · rw [hd]; simp [Act.put, hmid.size]
      · rw [hd] at hu'
        simp only [Act.put] at hu'
        by_cases e : d = d'
        · subst e
          have hdl : d < a.tmps.size := by
            rcases Nat.lt_or_ge d a.tmps.size with h1 | h1
            · exact h1
            · rw [Array.getElem?_eq_none (by simpa using h1)] at hu'; cases hu'
          rw [Array.getElem?_setIfInBounds_self_of_lt hdl] at hu'
          cases hu'
          rw [hvN (by rw [← hmid.size]; exact hdl)] at hv'
          cases hv'
          exact hr
        · rw [Array.getElem?_setIfInBounds_ne e] at hu'
          rcases getD_setB hi' with rfl | hi''
          · rw [ho] at hd'
            simp only [Option.bind_some, hd, Option.some.injEq] at hd'
            exact absurd hd' e
          · exact (hmid.done i' d' hi'I hi'' hd' v' u' hv' hu').ext hext
      · rw [hd] at hu'
        simp only [Act.put] at hu'
        have e : d ≠ d' := fun e => by
          refine hno i hiI ?_ (by rw [ho]; simp [hd, e])
          simp [hill]
        rw [Array.getElem?_setIfInBounds_ne e] at hu'
        refine (hmid.other d' (fun i' hi'I hi' => hno i' hi'I ?_) v' u' hv' hu').ext hext
        exact getD_set_true hi'
      · rw [hd]; exact hmid.defers.ext hext
    have same : isMk Γ o = false → ∀ (K' : Kw), K'.boxes = K.boxes →
        (∀ i' o', i' < nI → (listed.setIfInBounds i true).getD i' false = true → ops[i']? = some o' → isMk Γ o' = true → X[cnt Γ (ops.toList.take nI) i']? = C[cnt Γ (ops.toList.take nI) i']?) ∧
        (∀ i' o', i' < nI → (listed.setIfInBounds i true).getD i' false = false → ops[i']? = some o' → isMk Γ o' = true → K'.boxes[L.length + cnt Γ (ops.toList.take nI) i']? = some none) := by
      intro hmk K' hb
      refine ⟨fun i' o' hi'I hi' ho' hm' => ?_, fun i' o' hi'I hi' ho' hm' => ?_⟩
      · rcases getSet i' hi' with rfl | hi''
        · rw [ho] at ho'; cases ho'; rw [hmk] at hm'; cases hm'
        · exact hmid.xdone i' o' hi'I hi'' ho' hm'
      · rw [hb]; exact hmid.xhole i' o' hi'I (getUnset i' hi').2 ho' hm'
    unfold wpOpIn
    simp only [ho]
    rcases hat.step with ⟨hmk, hw, p, v, d', hs, hp, hd', hvN⟩ | ⟨hmk, hw, d', hd', hvN⟩ | ⟨hmk, hg, t, l, c, p, em, n, cs, d', hop, hs, hp, hd', hvN, hcell⟩
    · rw [hd] at hd'
      cases hd'
      rw [if_pos (hwant true hw)]
      refine owp_in ?_ _ _
      rw [← stepD_congr o.op hev] at hs
      refine d_wp hτ hΓ hmid.mem hrel (stepD_more hs) hp fun K' u he hb hm' hr => ?_
      obtain ⟨s1, s2⟩ := same hmk K' hb
      exact next v K' u X he hm' hmid.xlen s1 s2 hr hvN
    · rw [hd] at hd'
      cases hd'
      rw [if_neg (by rw [hwant false hw]; simp)]
      obtain ⟨s1, s2⟩ := same hmk K rfl
      exact ⟨fun _ _ => trivial, next .undef K _ X (Ext.refl K) hmid.mem hmid.xlen s1 s2 .undef hvN⟩
    · rw [hd] at hd'
      cases hd'
      rw [if_pos (by simp [Region.wanted, hg])]
      refine owp_in ?_ _ _
      have hl1 : ev l = evOp ρi l := hev l (by rw [hop]; simp [Op.operands])
      have hc1 : ev c = evOp ρi c := hev c (by rw [hop]; simp [Op.operands])
      rw [← hl1, ← hc1] at hs
      have hhole := hmid.xhole i o hiI hnl ho hmk
      obtain ⟨K', u, hrunm, he, hm', hr, hbx⟩ := makeM_fill (P := P) hτ hmid.mem hhole hs hp (hrel l) (hrel c)
      have hset : (L ++ X).set (L.length + cnt Γ (ops.toList.take nI) i) cs = L ++ X.set (cnt Γ (ops.toList.take nI) i) cs := by
        rw [List.set_append_right _ _ (Nat.le_add_right _ _), Nat.add_sub_cancel_left]
      rw [hset] at hm'
      have hcl : cnt Γ (ops.toList.take nI) i < C.length := (List.getElem?_eq_some_iff.1 hcell).1
      have hsep : ∀ i' o', i' < nI → i' ≠ i → ops[i']? = some o' → isMk Γ o' = true → cnt Γ (ops.toList.take nI) i' ≠ cnt Γ (ops.toList.take nI) i := by
        intro i' o' hi'I hne ho' hm1
        have hoi' : (ops.toList.take nI)[i']'(htl' i' hi'I) = o' := by
          obtain ⟨_, _, e⟩ := htl i' (htl' i' hi'I)
          rw [e]
          exact (Array.getElem?_eq_some_iff.1 ho').2
        rcases Nat.lt_or_gt_of_ne hne with h1 | h1
        · have := cnt_lt (Γ := Γ) h1 (htl' i' hi'I) (by rw [hoi']; exact hm1)
          omega
        · have := cnt_lt (Γ := Γ) h1 (htl' i hiI) (by rw [hoi]; exact hmk)
          omega
      refine run_wp (u := u) (w' := K'.w) (by simp [execOp, hop, hrunm]) (next _ K' u (X.set (cnt Γ (ops.toList.take nI) i) cs) he hm' (by simpa using hmid.xlen) (fun i' o' hi'I hi' ho' hm1 => ?_) (fun i' o' hi'I hi' ho' hm1 => ?_) hr hvN)
      · by_cases e : i' = i
        · subst e
          rw [List.getElem?_set_self (by rw [hmid.xlen]; exact hcl), hcell]
        · rw [List.getElem?_set_ne (Ne.symm (hsep i' o' hi'I e ho' hm1))]
          exact hmid.xdone i' o' hi'I ((getSet i' hi').resolve_left e) ho' hm1
      · obtain ⟨e, hu'⟩ := getUnset i' hi'
        rw [hbx, List.getElem?_set_ne (by have := hsep i' o' hi'I e ho' hm1; omega)]
        exact hmid.xhole i' o' hi'I hu' ho' hm1
end
end Go.Proofs.YtckmcglkjfkghaaDoor.Aw
