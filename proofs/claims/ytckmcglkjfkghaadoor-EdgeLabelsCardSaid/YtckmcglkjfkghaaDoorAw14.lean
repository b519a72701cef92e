import Derived.Test.YtckmcglkjfkghaaDoorAw13
namespace Go.Proofs.YtckmcglkjfkghaaDoor.Aw
open Go Go.RowKit
set_option linter.unusedVariables false
set_option linter.unusedSimpArgs false
def outThen (r : Option Out) (d : Option Tmp) (ρ : List V) (K : St → Prop) : Prop :=
  match r with
  | some (p, v, L, T) => p ∧ K ⟨setO ρ d v, L, T⟩
  | none => False
inductive Todo where
  | step (r : Option Out)
  | call (m : PM) (args : List V)
def todo (τ : Tys) (Γ : Fns) (mk : Mk) (L : List (List V)) (T : List (Nat × TypeId)) (ev : Operand → V) (op : Op) : Todo :=
  match pCall Γ op with
  | some (m, c) => if c.args.size = c.argTypes.size then .call m (List.zipWith (fun x t => castH τ t (ev x)) c.args.toList c.argTypes.toList) else .step none
  | none => match kOp τ Γ mk.isGrow ev op with
    | some (m, as) => .call m as
    | none => .step (stepE τ Γ mk L T ev op)
def todoThen (x : Todo) (d : Option Tmp) (ρ : List V) (L : List (List V)) (T : List (Nat × TypeId)) (K : St → Prop) : Prop :=
  match x with
  | .step r => outThen r d ρ K
  | .call m args => m args L T (fun r L' T' => K ⟨setO ρ d r, L', T'⟩)
def todoC (h : Option PM) (τ : Tys) (Γ : Fns) (mk : Mk) (L : List (List V)) (T : List (Nat × TypeId)) (ev : Operand → V) (c : Call) : Todo :=
  match h with
  | some m => if c.args.size = c.argTypes.size then .call m (List.zipWith (fun x t => castH τ t (ev x)) c.args.toList c.argTypes.toList) else .step none
  | none => match kCall τ Γ mk.isGrow ev c with
    | some (m, as) => .call m as
    | none => .step (stepE τ Γ mk L T ev (.call c))
def todoK (r : Option (PM × List V)) (s : Todo) : Todo := match r with
  | some (m, as) => .call m as
  | none => s
def todoS (b : Bool) (m : PM) (args : List V) : Todo := bif b then .call m args else .step none
def orEff (r : Option (Prop × V)) (L : List (List V)) (T : List (Nat × TypeId)) (e : Option Out) : Option Out :=
  match r with
  | some (p, v) => some (p, v, L, T)
  | none => e
def condThen (c : V) (X Y : St → Prop) (st : St) : Prop :=
  match c with
  | .bool b => awpIf b (X st) (Y st)
  | .may p q => awpMay p q (X st) (Y st)
  | _ => False
def guardAt (ops : Array Oper) (j : Nat) (ρ : List V) : Option (Nat × V) :=
  match (ops[j]?).bind (·.dst) with
  | none => none
  | some d => (ρ[d]?).map fun v => (d, v)
def guardThen (g : Option (Nat × V)) (want : Bool) (d : Option Tmp) (X : St → Prop) (K : St → Prop) (ρ : List V) (L : List (List V)) (T : List (Nat × TypeId)) : Prop :=
  match g with
  | some (s, .bool b) => awpIf b (bif want then X ⟨ρ.set s (.bool true), L, T⟩ else K ⟨setO (ρ.set s (.bool true)) d .undef, L, T⟩) (bif want then K ⟨setO (ρ.set s (.bool false)) d .undef, L, T⟩ else X ⟨ρ.set s (.bool false), L, T⟩)
  | some (s, .may p q) => awpMay p q (bif want then X ⟨ρ.set s (.bool true), L, T⟩ else K ⟨setO (ρ.set s (.bool true)) d .undef, L, T⟩) (bif want then K ⟨setO (ρ.set s (.bool false)) d .undef, L, T⟩ else X ⟨ρ.set s (.bool false), L, T⟩)
  | some (_, .undef) => K ⟨setO ρ d .undef, L, T⟩
  | _ => False
def guardQ (g : Option (Nat × V)) (want : Bool) (d : Option Tmp) (X : St → Prop) (K : St → Prop) (ρ : List V) (L : List (List V)) (T : List (Nat × TypeId)) : Prop :=
  match g with
  | some (s, .bool b) => awpIf b (bif want then X ⟨ρ.set s (.bool true), L, T⟩ else K ⟨setO (ρ.set s (.bool true)) d .undef, L, T⟩) (bif want then K ⟨setO (ρ.set s (.bool false)) d .undef, L, T⟩ else X ⟨ρ.set s (.bool false), L, T⟩)
  | some (_, .undef) => K ⟨setO ρ d .undef, L, T⟩
  | _ => False
def outQ (r : Option (Prop × V)) (d : Option Tmp) (ρ : List V) (L : List (List V)) (T : List (Nat × TypeId)) (X : St → Prop) : Prop :=
  match r, d with
  | some (p, v), some d => p ∧ X ⟨ρ.set d v, L, T⟩
  | _, _ => False
def qOp (τ : Tys) (Γ : Fns) (ops : Array Oper) (o : Option Oper) (c : Nat) (pd : List (Op × Tmp)) (X : List (Op × Tmp) → St → Prop) (st : St) : Prop :=
  match o with
  | none => False
  | some o => match o.guard with
    | none => stepQ τ Γ c o.op o.dst st (nextQ τ Γ c o.op o.dst pd X)
    | some (j, w) => guardQ (guardAt ops j st.ρ) w o.dst (fun st => stepQ τ Γ c o.op o.dst st (nextQ τ Γ c o.op o.dst pd X)) (X pd) st.ρ st.L st.T
def stabThen (r : Option (Prop × V)) (x : Option V) : Prop := match r with | some (p, v) => p ∧ x = some v | none => False
def outD (r : Option (Prop × V)) (d : Option Tmp) (ρ : List V) (K : List V → Prop) : Prop :=
  match r, d with
  | some (p, v), some d => p ∧ K (ρ.set d v)
  | _, _ => False
def guardD (g : Option (Nat × V)) (want : Bool) (d : Option Tmp) (X : List V → Prop) (K : List V → Prop) (ρ : List V) : Prop :=
  match g with
  | some (s, .bool b) => awpIf b (bif want then X (ρ.set s (.bool true)) else (d.isSome = true ∧ K (setO (ρ.set s (.bool true)) d .undef))) (bif want then (d.isSome = true ∧ K (setO (ρ.set s (.bool false)) d .undef)) else X (ρ.set s (.bool false)))
  | some (_, .undef) => d.isSome = true ∧ K (setO ρ d .undef)
  | _ => False
section
variable (τ : Tys) (Γ : Fns) (ρ : List V) (L : List (List V)) (T : List (Nat × TypeId)) (Q : Exit → St → Prop)
theorem r_stepN (ev : Operand → V) (op : Op) : stepE τ Γ .no L T ev op = orEff (evalPure τ L ev op) L T (evalEff τ Γ false L T ev op) := (rfl)
theorem r_stepR (ev : Operand → V) (op : Op) : stepE τ Γ .row L T ev op = orEff (evalPure τ L ev op) L T (evalEff τ Γ true L T ev op) := (rfl)
theorem r_stepG (ev : Operand → V) (op : Op) : stepE τ Γ .grow L T ev op = orEff (evalPure τ L ev op) L T (evalEff τ Γ false L T ev op) := (rfl)
theorem r_growG : Mk.isGrow .grow = true := (rfl)
theorem r_growN : Mk.isGrow .no = false := (rfl)
theorem r_growR : Mk.isGrow .row = false := (rfl)
theorem r_growS : Mk.isGrow .seq = false := (rfl)
theorem r_growL (t : TypeId) : Mk.isGrow (.nil t) = false := (rfl)
theorem r_stepS (ev : Operand → V) (op : Op) : stepE τ Γ .seq L T ev op = orEff (evalPure τ L ev op) L T (evalEff τ Γ false L T ev op) := (rfl)
theorem r_stepL (t : TypeId) (ev : Operand → V) (x : Operand) : stepE τ Γ (.nil t) L T ev (.assign x) = nilStep τ L T t (ev x) := (rfl)
theorem r_rowN : Mk.isRow .no = false := (rfl)
theorem r_rowR : Mk.isRow .row = true := (rfl)
theorem r_rowL (t : TypeId) : Mk.isRow (.nil t) = false := (rfl)
theorem r_muS (t : Tmp) : muO Γ (some t) = Γ.mu t := (rfl)
theorem r_muN : muO Γ none = .no := (rfl)
theorem r_orSome (p : Prop) (v : V) (e : Option Out) : orEff (some (p, v)) L T e = some (p, v, L, T) := (rfl)
theorem r_orNone (e : Option Out) : orEff none L T e = e := (rfl)
theorem r_outSome (p : Prop) (v : V) (L' : List (List V)) (T' : List (Nat × TypeId)) (d : Option Tmp) (K : St → Prop) : outThen (some (p, v, L', T')) d ρ K = (p ∧ K ⟨setO ρ d v, L', T'⟩) := (rfl)
theorem r_exec (op : Op) (d : Option Tmp) (K : St → Prop) : awpExec τ Γ op d ⟨ρ, L, T⟩ K = todoThen (todo τ Γ (muO Γ d) L T (evOp ρ) op) d ρ L T K := by
  unfold awpExec execE todo
  cases pCall Γ op with
  | none =>
    dsimp only
    cases kOp τ Γ (muO Γ d).isGrow (evOp ρ) op with
    | none =>
      dsimp only [todoThen]
      unfold outThen
      cases stepE τ Γ (muO Γ d) L T (evOp ρ) op <;> rfl
    | some x => rfl
  | some x =>
    obtain ⟨m, c⟩ := x
    dsimp only
    by_cases h : c.args.size = c.argTypes.size
    · rw [if_pos h]; simp only [h, true_and]; rfl
    · rw [if_neg h]; simp only [h, false_and]; rfl
theorem r_todoStep (r : Option Out) (d : Option Tmp) (K : St → Prop) : todoThen (.step r) d ρ L T K = outThen r d ρ K := (rfl)
theorem r_todoCall (m : PM) (args : List V) (d : Option Tmp) (K : St → Prop) : todoThen (.call m args) d ρ L T K = m args L T (fun r L' T' => K ⟨setO ρ d r, L', T'⟩) := (rfl)
theorem r_toCall (mk : Mk) (ev : Operand → V) (c : Call) : todo τ Γ mk L T ev (.call c) = todoC (hpO Γ c) τ Γ mk L T ev c := by
  unfold todo pCall todoC
  dsimp only
  cases hpO Γ c <;> rfl
theorem r_todoCs (m : PM) (mk : Mk) (ev : Operand → V) (f : Callee) (as : List Operand) (ts : List TypeId) : todoC (some m) τ Γ mk L T ev ⟨f, ⟨as⟩, ⟨ts⟩⟩ = todoS (as.length == ts.length) m (List.zipWith (fun x t => castH τ t (ev x)) as ts) := by
  simp only [todoC, todoS, List.size_toArray]
  by_cases h : as.length = ts.length
  · simp [h]
  · rw [if_neg h, show (as.length == ts.length) = false by simpa using h]; rfl
theorem r_todoS (m : PM) (args : List V) : todoS true m args = .call m args := (rfl)
theorem r_todoCn (mk : Mk) (ev : Operand → V) (c : Call) : todoC none τ Γ mk L T ev c = todoK (kCall τ Γ mk.isGrow ev c) (.step (stepE τ Γ mk L T ev (.call c))) := by
  unfold todoC todoK
  dsimp only
theorem r_todoKs (m : PM) (as : List V) (s : Todo) : todoK (some (m, as)) s = .call m as := (rfl)
theorem r_todoKn (s : Todo) : todoK none s = s := (rfl)
section
variable (mk : Mk) (ev : Operand → V)
theorem r_to0 (x : Operand) : todo τ Γ mk L T ev (.move x) = .step (stepE τ Γ mk L T ev (.move x)) := (rfl)
theorem r_to1 (x : Operand) : todo τ Γ mk L T ev (.assign x) = .step (stepE τ Γ mk L T ev (.assign x)) := (rfl)
theorem r_to2 (c a b : Operand) : todo τ Γ mk L T ev (.pick c a b) = .step (stepE τ Γ mk L T ev (.pick c a b)) := (rfl)
theorem r_to3 (e : TypeId) : todo τ Γ mk L T ev (.alloc e) = .step (stepE τ Γ mk L T ev (.alloc e)) := (rfl)
theorem r_to4 (e : TypeId) (x : Operand) : todo τ Γ mk L T ev (.box e x) = .step (stepE τ Γ mk L T ev (.box e x)) := (rfl)
theorem r_to5 (t : TypeId) (ps : Array (Nat × Operand)) : todo τ Γ mk L T ev (.build t ps) = .step (stepE τ Γ mk L T ev (.build t ps)) := (rfl)
theorem r_to6 (t : TypeId) (n : Nat) (ps : Array (Nat × Operand)) : todo τ Γ mk L T ev (.buildSlice t n ps) = .step (stepE τ Γ mk L T ev (.buildSlice t n ps)) := (rfl)
theorem r_to7 (t : TypeId) (x : Operand) : todo τ Γ mk L T ev (.load t x) = .step (stepE τ Γ mk L T ev (.load t x)) := (rfl)
theorem r_to8 (t : TypeId) (x y : Operand) : todo τ Γ mk L T ev (.store t x y) = .step (stepE τ Γ mk L T ev (.store t x y)) := (rfl)
theorem r_to9 (o : BinOp) (t : TypeId) (x y : Operand) (u : TypeId) : todo τ Γ mk L T ev (.binOp o t x y u) = .step (stepE τ Γ mk L T ev (.binOp o t x y u)) := (rfl)
theorem r_to10 (o : UnOp) (t : TypeId) (x : Operand) : todo τ Γ mk L T ev (.unOp o t x) = .step (stepE τ Γ mk L T ev (.unOp o t x)) := (rfl)
theorem r_to11 (t u : TypeId) (x : Operand) : todo τ Γ mk L T ev (.convert t u x) = .step (stepE τ Γ mk L T ev (.convert t u x)) := (rfl)
theorem r_to12 (f : Fn) (a b : Array Operand) : todo τ Γ mk L T ev (.makeFunc f a b) = .step (stepE τ Γ mk L T ev (.makeFunc f a b)) := (rfl)
theorem r_to13 (t : TypeId) (x y : Operand) : todo τ Γ mk L T ev (.makeSlice t x y) = .step (stepE τ Γ mk L T ev (.makeSlice t x y)) := (rfl)
theorem r_to14 (t : TypeId) (x : Operand) (lo hi mx : Option Operand) : todo τ Γ mk L T ev (.slice t x lo hi mx) = .step (stepE τ Γ mk L T ev (.slice t x lo hi mx)) := (rfl)
theorem r_to15 (t : TypeId) (x : Operand) (f : Nat) : todo τ Γ mk L T ev (.fieldAddr t x f) = .step (stepE τ Γ mk L T ev (.fieldAddr t x f)) := (rfl)
theorem r_to16 (t : TypeId) (x : Operand) (f : Nat) : todo τ Γ mk L T ev (.field t x f) = .step (stepE τ Γ mk L T ev (.field t x f)) := (rfl)
theorem r_to17 (t : TypeId) (x y : Operand) : todo τ Γ mk L T ev (.indexAddr t x y) = .step (stepE τ Γ mk L T ev (.indexAddr t x y)) := (rfl)
theorem r_to18 (t : TypeId) (x y : Operand) : todo τ Γ mk L T ev (.index t x y) = .step (stepE τ Γ mk L T ev (.index t x y)) := (rfl)
theorem r_to19 (x : Operand) (i : Nat) : todo τ Γ mk L T ev (.extract x i) = .step (stepE τ Γ mk L T ev (.extract x i)) := (rfl)
theorem r_to20 (t : TypeId) (r : Option Operand) : todo τ Γ mk L T ev (.makeMap t r) = .step (stepE τ Γ mk L T ev (.makeMap t r)) := (rfl)
theorem r_to21 (t : TypeId) (x y : Operand) (b : Bool) : todo τ Γ mk L T ev (.lookup t x y b) = .step (stepE τ Γ mk L T ev (.lookup t x y b)) := (rfl)
theorem r_to22 (t : TypeId) (x y z : Operand) : todo τ Γ mk L T ev (.mapUpdate t x y z) = .step (stepE τ Γ mk L T ev (.mapUpdate t x y z)) := (rfl)
theorem r_to23 (x : Operand) : todo τ Γ mk L T ev (.nilCheck x) = .step (stepE τ Γ mk L T ev (.nilCheck x)) := (rfl)
theorem r_to24 (t : TypeId) (x : Operand) : todo τ Γ mk L T ev (.range t x) = .step (stepE τ Γ mk L T ev (.range t x)) := (rfl)
theorem r_to25 (x : Operand) : todo τ Γ mk L T ev (.next x false) = .call nextP [ev x] := (rfl)
theorem r_to26 (x : Operand) : todo τ Γ mk L T ev (.entry x) = .step (stepE τ Γ mk L T ev (.entry x)) := (rfl)
end
theorem r_opsNil (ops : Array Oper) (K : St → Prop) : awpOps τ Γ ops [] K ⟨ρ, L, T⟩ = K ⟨ρ, L, T⟩ := (rfl)
theorem r_opsCons (ops : Array Oper) (d : Option Tmp) (op : Op) (ty : TypeId) (pos : String) (af : Array Edge) (rest : List Oper) (K : St → Prop) :
    awpOps τ Γ ops (⟨d, op, ty, pos, af, none⟩ :: rest) K ⟨ρ, L, T⟩ = todoThen (todo τ Γ (muO Γ d) L T (evOp ρ) op) d ρ L T (awpOps τ Γ ops rest K) := r_exec τ Γ ρ L T op d _
theorem r_opsGuard (ops : Array Oper) (d : Option Tmp) (op : Op) (ty : TypeId) (pos : String) (af : Array Edge) (j : Nat) (want : Bool) (rest : List Oper) (K : St → Prop) :
    awpOps τ Γ ops (⟨d, op, ty, pos, af, some (j, want)⟩ :: rest) K ⟨ρ, L, T⟩ = guardThen (guardAt ops j ρ) want d (fun st => awpExec τ Γ op d st (awpOps τ Γ ops rest K)) (awpOps τ Γ ops rest K) ρ L T := by
  simp only [awpOps, guardAt, guardThen]
  cases (ops[j]?).bind (·.dst) with
  | none => rfl
  | some s =>
    simp only []
    cases ρ[s]? with
    | none => rfl
    | some v => cases v <;> rfl
theorem r_skip : awp τ Γ .skip Q ⟨ρ, L, T⟩ = Q .normal ⟨ρ, L, T⟩ := (rfl)
theorem r_label (l : Nat) : awp τ Γ (.label l) Q ⟨ρ, L, T⟩ = Q .normal ⟨ρ, L, T⟩ := (rfl)
theorem r_exit (i : Nat) : awp τ Γ (.exit i) Q ⟨ρ, L, T⟩ = Q (.exit i) ⟨ρ, L, T⟩ := (rfl)
theorem r_goto (i : Nat) : awp τ Γ (.goto i) Q ⟨ρ, L, T⟩ = Q (.goto i) ⟨ρ, L, T⟩ := (rfl)
theorem r_ret : awp τ Γ .ret Q ⟨ρ, L, T⟩ = Q .ret ⟨ρ, L, T⟩ := (rfl)
theorem r_seq (x y : Code) : awp τ Γ (.seq x y) Q ⟨ρ, L, T⟩ = awp τ Γ x (thenA (awp τ Γ y Q) Q) ⟨ρ, L, T⟩ := (rfl)
theorem r_block (i : Nat) (x : Code) : awp τ Γ (.block i x) Q ⟨ρ, L, T⟩ = awp τ Γ x (inBlockA i Q) ⟨ρ, L, T⟩ := (rfl)
theorem r_scope (x : Code) : awp τ Γ (.scope x) Q ⟨ρ, L, T⟩ = awp τ Γ x (noGotoA Q) ⟨ρ, L, T⟩ := (rfl)
theorem r_ngN (st : St) : noGotoA Q .normal st = Q .normal st := (rfl)
theorem r_ngE (i : Nat) (st : St) : noGotoA Q (.exit i) st = Q (.exit i) st := (rfl)
theorem r_ngR (st : St) : noGotoA Q .ret st = Q .ret st := (rfl)
theorem r_loop (x : Code) : awp τ Γ (.loop x) Q ⟨ρ, L, T⟩ = awpLoop Γ (awp τ Γ x) Q ⟨ρ, L, T⟩ := (rfl)
theorem r_range (g : Operand) (ps : List Tmp) (x y : Code) : awp τ Γ (.rangeFunc g ⟨ps⟩ x y) Q ⟨ρ, L, T⟩ = awpRange Γ g ps (fun Γ => awp τ Γ x) (fun Γ => awp τ Γ y) Q ⟨ρ, L, T⟩ := (rfl)
theorem r_yNone (nb nt : Nat) : yPM nb nt none = none := (rfl)
theorem r_ySome (nb nt : Nat) (m : PM) : yPM nb nt (some m) = some fun args L T K => (nb ≤ L.length ∧ nt ≤ T.length) ∧ m args L T K := (rfl)
theorem r_sa0 (ρ : List V) (vs : List V) : setArgs ρ [] vs = ρ := by cases vs <;> rfl
theorem r_saC (ρ : List V) (p : Tmp) (ps : List Tmp) (v : V) (vs : List V) : setArgs ρ (p :: ps) (v :: vs) = setArgs (ρ.set p v) ps vs := (rfl)
theorem r_region (i : Nat) (l : List Oper) : awp τ Γ (.region i ⟨l⟩ false) Q ⟨ρ, L, T⟩ = awpOps τ Γ ⟨l⟩ l (Q .normal) ⟨ρ, L, T⟩ := (rfl)
theorem r_draw (i : Nat) (l : List Oper) : awp τ Γ (.region i ⟨l⟩ true) Q ⟨ρ, L, T⟩ = awpDrawO τ Γ ⟨l⟩ (Γ.ord i) Q ⟨ρ, L, T⟩ := (rfl)
theorem r_drawN (l : List Oper) : awpDrawO τ Γ ⟨l⟩ none Q ⟨ρ, L, T⟩ = awpDraw τ Γ ⟨l⟩ (splitE l) Q ⟨ρ, L, T⟩ := (rfl)
theorem r_drawQ0 (l : List Oper) (i : Nat) (q : List (Nat × Nat)) : awpDrawO τ Γ ⟨l⟩ (some ((i, 0) :: q)) Q ⟨ρ, L, T⟩ = (ordOk ⟨l⟩ ρ.length ((i, 0) :: q) = true ∧ awpQ τ Γ ⟨l⟩ ((i, 0) :: q) [] (Q .normal) ⟨ρ, L, T⟩) := (rfl)
theorem r_drawQ1 (l : List Oper) (i : Nat) (q : List (Nat × Nat)) : awpDrawO τ Γ ⟨l⟩ (some ((i, 1) :: q)) Q ⟨ρ, L, T⟩ = (ordOk ⟨l⟩ ρ.length ((i, 1) :: q) = true ∧ awpQ τ Γ ⟨l⟩ ((i, 1) :: q) [] (Q .normal) ⟨ρ, L, T⟩) := (rfl)
theorem r_drawQ2 (l : List Oper) (i : Nat) (q : List (Nat × Nat)) : awpDrawO τ Γ ⟨l⟩ (some ((i, 2) :: q)) Q ⟨ρ, L, T⟩ = (ordOk ⟨l⟩ ρ.length ((i, 2) :: q) = true ∧ awpQ τ Γ ⟨l⟩ ((i, 2) :: q) [] (Q .normal) ⟨ρ, L, T⟩) := (rfl)
theorem r_drawQ3 (l : List Oper) (i : Nat) (q : List (Nat × Nat)) : awpDrawO τ Γ ⟨l⟩ (some ((i, 3) :: q)) Q ⟨ρ, L, T⟩ = (ordOk ⟨l⟩ ρ.length ((i, 3) :: q) = true ∧ awpQ τ Γ ⟨l⟩ ((i, 3) :: q) [] (Q .normal) ⟨ρ, L, T⟩) := (rfl)
theorem r_drawQ4 (l : List Oper) (i : Nat) (q : List (Nat × Nat)) : awpDrawO τ Γ ⟨l⟩ (some ((i, 4) :: q)) Q ⟨ρ, L, T⟩ = (ordOk ⟨l⟩ ρ.length ((i, 4) :: q) = true ∧ awpQ τ Γ ⟨l⟩ ((i, 4) :: q) [] (Q .normal) ⟨ρ, L, T⟩) := (rfl)
theorem r_drawT (l : List Oper) (k : Nat) (q : List (Nat × Nat)) : awpDrawO τ Γ ⟨l⟩ (some ((k, 9) :: q)) Q ⟨ρ, L, T⟩ = ((tailOk ⟨l⟩ k = true ∧ ordOk ⟨l.take k⟩ ρ.length q = true) ∧ awpQ τ Γ ⟨l.take k⟩ q [] (awpOps τ Γ ⟨l⟩ (l.drop k) (Q .normal)) ⟨ρ, L, T⟩) := (rfl)
theorem r_qNil (ops : Array Oper) (pd : List (Op × Tmp)) (K : St → Prop) : awpQ τ Γ ops [] pd K ⟨ρ, L, T⟩ = K ⟨ρ, L, T⟩ := (rfl)
theorem r_qCons (l : List Oper) (i c : Nat) (r : List (Nat × Nat)) (pd : List (Op × Tmp)) (K : St → Prop) : awpQ τ Γ ⟨l⟩ ((i, c) :: r) pd K ⟨ρ, L, T⟩ = qOp τ Γ ⟨l⟩ l[i]? c pd (fun pd => awpQ τ Γ ⟨l⟩ r pd K) ⟨ρ, L, T⟩ := by
  simp only [awpQ, qOp, List.getElem?_toArray]
  cases l[i]? with
  | none => rfl
  | some o =>
    obtain ⟨d, op, ty, pos, af, g⟩ := o
    cases g with
    | none => rfl
    | some g =>
      obtain ⟨j, want⟩ := g
      simp only [guardAt, guardQ, List.getElem?_toArray]
      cases (l[j]?).bind (·.dst) with
      | none => rfl
      | some s =>
        simp only
        cases ρ[s]? with
        | none => rfl
        | some v => cases v <;> rfl
theorem r_qOp (ops : Array Oper) (d : Option Tmp) (op : Op) (ty : TypeId) (pos : String) (af : Array Edge) (c : Nat) (pd : List (Op × Tmp)) (X : List (Op × Tmp) → St → Prop) : qOp τ Γ ops (some ⟨d, op, ty, pos, af, none⟩) c pd X ⟨ρ, L, T⟩ = stepQ τ Γ c op d ⟨ρ, L, T⟩ (nextQ τ Γ c op d pd X) := (rfl)
theorem r_qOpG (ops : Array Oper) (d : Option Tmp) (op : Op) (ty : TypeId) (pos : String) (af : Array Edge) (j : Nat) (w : Bool) (c : Nat) (pd : List (Op × Tmp)) (X : List (Op × Tmp) → St → Prop) : qOp τ Γ ops (some ⟨d, op, ty, pos, af, some (j, w)⟩) c pd X ⟨ρ, L, T⟩ = guardQ (guardAt ops j ρ) w d (fun st => stepQ τ Γ c op d st (nextQ τ Γ c op d pd X)) (X pd) ρ L T := (rfl)
theorem r_next0 (op : Op) (d : Option Tmp) (pd : List (Op × Tmp)) (X : List (Op × Tmp) → St → Prop) : nextQ τ Γ 0 op d pd X ⟨ρ, L, T⟩ = X pd ⟨ρ, L, T⟩ := (rfl)
theorem r_next2 (op : Op) (d : Option Tmp) (pd : List (Op × Tmp)) (X : List (Op × Tmp) → St → Prop) : nextQ τ Γ 2 op d pd X ⟨ρ, L, T⟩ = X pd ⟨ρ, L, T⟩ := (rfl)
theorem r_next3 (op : Op) (d : Tmp) (pd : List (Op × Tmp)) (X : List (Op × Tmp) → St → Prop) : nextQ τ Γ 3 op (some d) pd X ⟨ρ, L, T⟩ = X ((op, d) :: pd) ⟨ρ, L, T⟩ := (rfl)
theorem r_next1 (op : Op) (d : Option Tmp) (pd : List (Op × Tmp)) (X : List (Op × Tmp) → St → Prop) : nextQ τ Γ 1 op d pd X ⟨ρ, L, T⟩ = (stableQ τ Γ pd ⟨ρ, L, T⟩ ∧ X pd ⟨ρ, L, T⟩) := (rfl)
theorem r_next4 (op : Op) (d : Option Tmp) (pd : List (Op × Tmp)) (X : List (Op × Tmp) → St → Prop) : nextQ τ Γ 4 op d pd X ⟨ρ, L, T⟩ = X [] ⟨ρ, L, T⟩ := (rfl)
theorem r_step4 (op : Op) (d : Option Tmp) (X : St → Prop) : stepQ τ Γ 4 op d ⟨ρ, L, T⟩ X = todoThen (todo τ Γ (muO Γ d) L T (evOp ρ) op) d ρ L T X := r_exec τ Γ ρ L T op d X
theorem r_stabN (st : St) : stableQ τ Γ [] st = True := (rfl)
theorem r_stabC (op : Op) (d : Tmp) (pd : List (Op × Tmp)) : stableQ τ Γ ((op, d) :: pd) ⟨ρ, L, T⟩ = (stabThen (stepD τ Γ L (evOp ρ) op) ρ[d]? ∧ stableQ τ Γ pd ⟨ρ, L, T⟩) := (rfl)
theorem r_stabS (p : Prop) (v : V) (x : Option V) : stabThen (some (p, v)) x = (p ∧ x = some v) := (rfl)
theorem r_step3 (op : Op) (d : Option Tmp) (X : St → Prop) : stepQ τ Γ 3 op d ⟨ρ, L, T⟩ X = outQ (stepD τ Γ L (evOp ρ) op) d ρ L T X := by
  simp only [stepQ, outQ, clsL]; rfl
theorem r_step1 (op : Op) (d : Option Tmp) (X : St → Prop) : stepQ τ Γ 1 op d ⟨ρ, L, T⟩ X = todoThen (todo τ Γ (muO Γ d) L T (evOp ρ) op) d ρ L T X := r_exec τ Γ ρ L T op d X
theorem r_step0 (op : Op) (d : Option Tmp) (X : St → Prop) : stepQ τ Γ 0 op d ⟨ρ, L, T⟩ X = outQ (stepD τ Γ [] (evOp ρ) op) d ρ L T X := by
  simp only [stepQ, outQ, clsL]; rfl
theorem r_step2 (op : Op) (d : Option Tmp) (X : St → Prop) : stepQ τ Γ 2 op d ⟨ρ, L, T⟩ X = outQ (stepD τ Γ L (evOp ρ) op) d ρ L T X := by
  simp only [stepQ, outQ, clsL]; rfl
theorem r_outQ (p : Prop) (v : V) (d : Nat) (X : St → Prop) : outQ (some (p, v)) (some d) ρ L T X = (p ∧ X ⟨ρ.set d v, L, T⟩) := (rfl)
theorem r_guardQT (s : Nat) (b : Bool) (d : Option Tmp) (X K : St → Prop) : guardQ (some (s, .bool b)) true d X K ρ L T = awpIf b (X ⟨ρ.set s (.bool true), L, T⟩) (K ⟨setO (ρ.set s (.bool false)) d .undef, L, T⟩) := (rfl)
theorem r_guardQF (s : Nat) (b : Bool) (d : Option Tmp) (X K : St → Prop) : guardQ (some (s, .bool b)) false d X K ρ L T = awpIf b (K ⟨setO (ρ.set s (.bool true)) d .undef, L, T⟩) (X ⟨ρ.set s (.bool false), L, T⟩) := (rfl)
theorem r_guardQU (s : Nat) (w : Bool) (d : Option Tmp) (X K : St → Prop) : guardQ (some (s, .undef)) w d X K ρ L T = K ⟨setO ρ d .undef, L, T⟩ := (rfl)
theorem r_drawS (ops : Array Oper) (a : List Oper) (b : Option Oper) : awpDraw τ Γ ops (a, b) Q ⟨ρ, L, T⟩ = (drawOk ops ρ.length a.length = true ∧ lastP ops a.length b ∧ awpD τ Γ L ops a (nextD τ Γ Q b L T) [] ρ) := (rfl)
theorem r_lastN (ops : Array Oper) (n : Nat) : lastP ops n none = True := (rfl)
theorem r_lastS (ops : Array Oper) (n : Nat) (o : Oper) : lastP ops n (some o) = (lastOk ops n = true) := (rfl)
theorem r_cond (c : Operand) (x y : Code) : awp τ Γ (.cond c x y) Q ⟨ρ, L, T⟩ = condThen (evOp ρ c) (awp τ Γ x Q) (awp τ Γ y Q) ⟨ρ, L, T⟩ := by
  simp only [awp, condThen]; cases evOp ρ c <;> rfl
theorem r_condMay (p q : Prop) (X Y : St → Prop) (st : St) : condThen (.may p q) X Y st = awpMay p q (X st) (Y st) := (rfl)
theorem r_condBool (b : Bool) (X Y : St → Prop) (st : St) : condThen (.bool b) X Y st = awpIf b (X st) (Y st) := (rfl)
theorem r_thenN (next : St → Prop) (st : St) : thenA next Q .normal st = next st := (rfl)
theorem r_thenE (next : St → Prop) (st : St) (i : Nat) : thenA next Q (.exit i) st = Q (.exit i) st := (rfl)
theorem r_thenG (next : St → Prop) (st : St) (i : Nat) : thenA next Q (.goto i) st = Q (.goto i) st := (rfl)
theorem r_thenR (next : St → Prop) (st : St) : thenA next Q .ret st = Q .ret st := (rfl)
theorem r_blockN (i : Nat) (st : St) : inBlockA i Q .normal st = Q .normal st := (rfl)
theorem r_blockE (i j : Nat) (st : St) : inBlockA i Q (.exit j) st = bif j == i then Q .normal st else Q (.exit j) st := (rfl)
theorem r_blockG (i j : Nat) (st : St) : inBlockA i Q (.goto j) st = Q (.goto j) st := (rfl)
theorem r_blockR (i : Nat) (st : St) : inBlockA i Q .ret st = Q .ret st := (rfl)
theorem r_guardT (s : Nat) (b : Bool) (d : Option Tmp) (X K : St → Prop) : guardThen (some (s, .bool b)) true d X K ρ L T = awpIf b (X ⟨ρ.set s (.bool true), L, T⟩) (K ⟨setO (ρ.set s (.bool false)) d .undef, L, T⟩) := (rfl)
theorem r_guardF (s : Nat) (b : Bool) (d : Option Tmp) (X K : St → Prop) : guardThen (some (s, .bool b)) false d X K ρ L T = awpIf b (K ⟨setO (ρ.set s (.bool true)) d .undef, L, T⟩) (X ⟨ρ.set s (.bool false), L, T⟩) := (rfl)
theorem r_guardMT (s : Nat) (p q : Prop) (d : Option Tmp) (X K : St → Prop) : guardThen (some (s, .may p q)) true d X K ρ L T = awpMay p q (X ⟨ρ.set s (.bool true), L, T⟩) (K ⟨setO (ρ.set s (.bool false)) d .undef, L, T⟩) := (rfl)
theorem r_guardMF (s : Nat) (p q : Prop) (d : Option Tmp) (X K : St → Prop) : guardThen (some (s, .may p q)) false d X K ρ L T = awpMay p q (K ⟨setO (ρ.set s (.bool true)) d .undef, L, T⟩) (X ⟨ρ.set s (.bool false), L, T⟩) := (rfl)
theorem r_guardU (s : Nat) (w : Bool) (d : Option Tmp) (X K : St → Prop) : guardThen (some (s, .undef)) w d X K ρ L T = K ⟨setO ρ d .undef, L, T⟩ := (rfl)
theorem r_ifTrue (X Y : Prop) : awpIf true X Y = X := propext ⟨fun h => h.1 rfl, awpIf_true⟩
theorem r_ifFalse (X Y : Prop) : awpIf false X Y = Y := propext ⟨fun h => h.2 rfl, awpIf_false⟩
theorem r_ifNot (b : Bool) (X Y : Prop) : awpIf (!b) X Y = awpIf b Y X := by cases b <;> simp [r_ifTrue, r_ifFalse]
theorem r_outD (p : Prop) (v : V) (d : Nat) (K : List V → Prop) : outD (some (p, v)) (some d) ρ K = (p ∧ K (ρ.set d v)) := (rfl)
theorem r_execD (op : Op) (d : Option Tmp) (K : List V → Prop) : awpExecD τ Γ L op d ρ K = outD (stepD τ Γ L (evOp ρ) op) d ρ K := by
  unfold awpExecD outD; cases stepD τ Γ L (evOp ρ) op <;> cases d <;> rfl
theorem r_dNil (ops : Array Oper) (K : List (List V) → List V → Prop) (acc : List (List V)) (x : V) (r : List V) : awpD τ Γ L ops [] K acc (x :: r) = K acc (x :: r) := (rfl)
theorem r_nextDN (acc : List (List V)) (x : V) (r : List V) : nextD τ Γ Q none L T acc (x :: r) = Q .normal ⟨x :: r, L ++ acc, T⟩ := (rfl)
theorem r_nextDS (d : Option Tmp) (op : Op) (ty : TypeId) (pos : String) (af : Array Edge) (g : Option (Nat × Bool)) (acc : List (List V)) (x : V) (r : List V) : nextD τ Γ Q (some ⟨d, op, ty, pos, af, g⟩) L T acc (x :: r) = todoThen (todo τ Γ (muO Γ d) (L ++ acc) T (evOp (x :: r)) op) d (x :: r) (L ++ acc) T (Q .normal) := r_exec τ Γ (x :: r) (L ++ acc) T op d _
theorem r_mkD (p : Prop) (e : TypeId) (n d : Nat) (cs : List V) (acc : List (List V)) (x : V) (r : List V) (K : List (List V) → List V → Prop) : mkD (some (p, e, n, cs)) (some d) L acc (x :: r) K = (p ∧ K (acc ++ [cs]) ((x :: r).set d (.mrow e (L.length + acc.length) 0 n))) := (rfl)
theorem r_dCons (ops : Array Oper) (d : Option Tmp) (op : Op) (ty : TypeId) (pos : String) (af : Array Edge) (rest : List Oper) (K : List (List V) → List V → Prop) (acc : List (List V)) (x : V) (r : List V) :
    awpD τ Γ L ops (⟨d, op, ty, pos, af, none⟩ :: rest) K acc (x :: r) = bif isMkO Γ op d then mkD (mkArgs τ (evOp (x :: r)) op) d L acc (x :: r) (awpD τ Γ L ops rest K) else outD (stepD τ Γ L (evOp (x :: r)) op) d (x :: r) (awpD τ Γ L ops rest K acc) := by
  simp only [awpD]
  rw [r_execD]
theorem r_dGuard (ops : Array Oper) (d : Option Tmp) (op : Op) (ty : TypeId) (pos : String) (af : Array Edge) (j : Nat) (want : Bool) (rest : List Oper) (K : List (List V) → List V → Prop) (acc : List (List V)) (x : V) (r : List V) :
    awpD τ Γ L ops (⟨d, op, ty, pos, af, some (j, want)⟩ :: rest) K acc (x :: r) = bif isMkO Γ op d then False else guardD (guardAt ops j (x :: r)) want d (fun ρ => awpExecD τ Γ L op d ρ (awpD τ Γ L ops rest K acc)) (awpD τ Γ L ops rest K acc) (x :: r) := by
  simp only [awpD, guardAt, guardD]
  congr 1
  cases (ops[j]?).bind (·.dst) with
  | none => rfl
  | some s =>
    simp only []
    cases (x :: r)[s]? with
    | none => rfl
    | some v => cases v <;> rfl
theorem r_dGuardT (s : Nat) (b : Bool) (d : Nat) (X K : List V → Prop) : guardD (some (s, .bool b)) true (some d) X K ρ = awpIf b (X (ρ.set s (.bool true))) (K ((ρ.set s (.bool false)).set d .undef)) := by
  simp [guardD, setO]
theorem r_dGuardF (s : Nat) (b : Bool) (d : Nat) (X K : List V → Prop) : guardD (some (s, .bool b)) false (some d) X K ρ = awpIf b (K ((ρ.set s (.bool true)).set d .undef)) (X (ρ.set s (.bool false))) := by
  simp [guardD, setO]
theorem r_dGuardU (s : Nat) (w : Bool) (d : Nat) (X K : List V → Prop) : guardD (some (s, .undef)) w (some d) X K ρ = K (ρ.set d .undef) := by
  simp [guardD, setO]
theorem r_execDcons (op : Op) (d : Option Tmp) (K : List V → Prop) (x : V) (r : List V) : awpExecD τ Γ L op d (x :: r) K = outD (stepD τ Γ L (evOp (x :: r)) op) d (x :: r) K := r_execD τ Γ (x :: r) L op d K
def orD (r : Option (Prop × V)) (e : Option (Prop × V)) : Option (Prop × V) := match r with | some x => some x | none => e
def effD (τ : Tys) (Γ : Fns) (ev : Operand → V) (op : Op) : Option (Prop × V) :=
  match op with
  | .call c => match c.callee, c.args.toList, c.argTypes.toList with
    | .builtin .append, [s, x], [t, t2] => evGrow τ t t2 (ev s) (ev x)
    | _, _, _ => (evCall τ Γ ev c).map fun x => (x.1, x.2.1.drop)
  | .build t parts => evBuild τ t (parts.toList.map fun x => (x.1, ev x.2))
  | .buildSlice t len parts => evNone τ t len (parts.toList.map fun x => (x.1, ev x.2))
  | _ => none
theorem r_stepD (ev : Operand → V) (op : Op) : stepD τ Γ L ev op = orD (evalPure τ L ev op) (effD τ Γ ev op) := by
  unfold stepD orD
  cases evalPure τ L ev op with
  | some x => rfl
  | none => cases op <;> rfl
theorem r_orDs (x : Prop × V) (e : Option (Prop × V)) : orD (some x) e = some x := (rfl)
theorem r_orDn (e : Option (Prop × V)) : orD none e = e := (rfl)
theorem St.le_intro {ρ ρ' : List V} {L L' : List (List V)} {T : List (Nat × TypeId)} (h : V.le.leL ρ ρ') (hL : leLL L L') (hl : L.length = L'.length) : St.le ⟨ρ, L, T⟩ ⟨ρ', L', T⟩ :=
  ⟨h, hL, by simp, .inl ⟨rfl, hl⟩⟩
theorem St.le_nil {ρ ρ' : List V} {T T' : List (Nat × TypeId)} (h : V.le.leL ρ ρ') (hT : T = T') : St.le ⟨ρ, [], T⟩ ⟨ρ', [], T'⟩ := by
  subst hT; exact St.le_intro h trivial rfl
end
theorem St.le_drop {ρ ρ' : List V} {T T' : List (Nat × TypeId)} (h : V.le.leL ρ ρ') (hT : T.take T'.length = T') (hu : ∀ v ∈ ρ', V.under T'.length 0 v) : St.le ⟨ρ, [], T⟩ ⟨ρ', [], T'⟩ :=
  ⟨h, trivial, hT, .inr ⟨hu, fun l hl => (by cases hl)⟩⟩
theorem r_le0 {ρ ρ' : List V} : St.le ⟨ρ, [], []⟩ ⟨ρ', [], []⟩ = V.le.leL ρ ρ' := propext ⟨fun h => h.1, fun h => St.le_nil h rfl⟩
theorem r_le1 {ρ ρ' : List V} {x x' : Nat × TypeId} : St.le ⟨ρ, [], [x]⟩ ⟨ρ', [], [x']⟩ = (V.le.leL ρ ρ' ∧ x = x') :=
  propext ⟨fun h => ⟨h.1, by have := h.2.2.1; simpa using this⟩, fun h => St.le_nil h.1 (by rw [h.2])⟩
theorem r_le2 {ρ ρ' : List V} {x x' y y' : Nat × TypeId} : St.le ⟨ρ, [], [x, y]⟩ ⟨ρ', [], [x', y']⟩ = (V.le.leL ρ ρ' ∧ x = x' ∧ y = y') :=
  propext ⟨fun h => ⟨h.1, by have := h.2.2.1; simpa using this⟩, fun h => St.le_nil h.1 (by rw [h.2.1, h.2.2])⟩
theorem r_leD0 {ρ ρ' : List V} {x : Nat × TypeId} {T : List (Nat × TypeId)} : St.le ⟨ρ, [], x :: T⟩ ⟨ρ', [], []⟩ = (V.le.leL ρ ρ' ∧ ∀ v ∈ ρ', V.under 0 0 v) :=
  propext ⟨fun h => ⟨h.1, by rcases h.2.2.2 with ⟨e, _⟩ | ⟨h, _⟩; (simp at e); exact h⟩, fun h => St.le_drop h.1 rfl h.2⟩
theorem r_leD1 {ρ ρ' : List V} {x x' y : Nat × TypeId} {T : List (Nat × TypeId)} : St.le ⟨ρ, [], x :: y :: T⟩ ⟨ρ', [], [x']⟩ = (V.le.leL ρ ρ' ∧ x = x' ∧ ∀ v ∈ ρ', V.under 1 0 v) :=
  propext ⟨fun h => ⟨h.1, by have := h.2.2.1; simpa using this, by rcases h.2.2.2 with ⟨e, _⟩ | ⟨h, _⟩; (simp at e); exact h⟩, fun h => St.le_drop h.1 (by rw [h.2.1]; rfl) h.2.2⟩
theorem r_leD2 {ρ ρ' : List V} {x x' y y' z : Nat × TypeId} {T : List (Nat × TypeId)} : St.le ⟨ρ, [], x :: y :: z :: T⟩ ⟨ρ', [], [x', y']⟩ = (V.le.leL ρ ρ' ∧ x = x' ∧ y = y' ∧ ∀ v ∈ ρ', V.under 2 0 v) :=
  propext ⟨fun h => ⟨h.1, by have := h.2.2.1; simp at this; exact this.1, by have := h.2.2.1; simp at this; exact this.2, by rcases h.2.2.2 with ⟨e, _⟩ | ⟨h, _⟩; (simp at e); exact h⟩, fun h => St.le_drop h.1 (by rw [h.2.1, h.2.2.1]; rfl) h.2.2.2⟩
theorem leLL_nil (L : List (List V)) : leLL L [] = True := by cases L <;> rfl
theorem leLL_cons (x y : List V) (L L' : List (List V)) : leLL (x :: L) (y :: L') = (V.le.leL x y ∧ leLL L L') := (rfl)
theorem leL_cons {x y : V} {l l' : List V} : V.le.leL (x :: l) (y :: l') = (V.le x y ∧ V.le.leL l l') := (rfl)
theorem leL_nil : V.le.leL [] [] = True := (rfl)
theorem le_any (x : V) : V.le x .any = True := by cases x <;> rfl
theorem le_self (x : V) : V.le x x := by
  have : ∀ v : V, V.le.leL [] [] := fun _ => trivial
  exact V.rec (motive_1 := fun x => V.le x x) (motive_2 := fun l => V.le.leL l l) (motive_3 := fun _ => True) (motive_4 := fun _ => True) (motive_5 := fun _ => True) trivial rfl (fun _ _ => rfl) (fun _ => rfl) (fun _ _ => ⟨id, id⟩) (fun _ => rfl) (fun _ => rfl) rfl rfl
    (fun l t => by cases t <;> rfl) (fun sz l t _ => by cases t; exact ⟨rfl, rfl⟩; rfl) (fun l h => h) (fun l h => h) (fun _ _ => rfl) (fun _ _ _ _ => rfl) (fun _ _ => rfl) (fun _ _ _ _ _ => rfl)
    (fun _ _ _ _ => rfl) (fun _ => rfl) (fun _ => rfl) rfl (fun _ _ _ _ => rfl) (fun _ _ _ _ => rfl) (fun _ => rfl) trivial (fun _ _ h1 h2 => ⟨h1, h2⟩) trivial (fun _ _ _ _ => trivial) (fun _ _ _ => trivial) (fun _ _ _ => trivial) x
theorem leL_self (l : List V) : V.le.leL l l = True := by
  induction l with
  | nil => rfl
  | cons x l ih => rw [leL_cons, ih]; exact propext ⟨fun _ => trivial, fun _ => ⟨le_self x, trivial⟩⟩
theorem r_leS {ρ ρ' : List V} {L L' : List (List V)} {T T' : List (Nat × TypeId)} (hL : L.length = L'.length) (hT : T.length = T'.length) : St.le ⟨ρ, L, T⟩ ⟨ρ', L', T'⟩ = (V.le.leL ρ ρ' ∧ leLL L L' ∧ T = T') :=
  propext ⟨fun h => ⟨h.1, h.2.1, by have h1 : List.take T'.length T = T' := h.2.2.1; rw [← hT, List.take_length] at h1; exact h1⟩, fun h => ⟨h.1, h.2.1, by rw [h.2.2]; simp, .inl ⟨hT, hL⟩⟩⟩
theorem unbyte_byteV (b : UInt8) : unbyte (byteV b) = b := by
  have e : ((b.toNat : Nat) : Int).toNat = b.toNat := Int.toNat_natCast _
  show UInt8.ofNat ((b.toNat : Nat) : Int).toNat = b
  rw [e]; simp
theorem unbyte_map (l : List UInt8) : (l.map byteV).map unbyte = l := by
  induction l with
  | nil => rfl
  | cons b l ih => rw [List.map_cons, List.map_cons, ih, unbyte_byteV]
theorem take_byteV (n : Nat) (l : List UInt8) : (l.map byteV).take n = (l.take n).map byteV := (List.map_take ..).symm
theorem drop_byteV (n : Nat) (l : List UInt8) : (l.map byteV).drop n = (l.drop n).map byteV := (List.map_drop ..).symm
theorem getD_byteV (l : List UInt8) (k : Nat) : (l.map byteV).getD k (.int .u8 0) = .int .u8 ((l.getD k 0).toNat : Nat) := by
  by_cases h : k < l.length
  · simp [List.getD_eq_getElem?_getD, List.getElem?_eq_getElem h, byteV]
  · simp [List.getD_eq_getElem?_getD, List.getElem?_eq_none (Nat.le_of_not_lt h)]
theorem set_byteV {l : List UInt8} {k : Nat} {z : Int} (hk : k < l.length) (h0 : 0 ≤ z) (h1 : z < 256) :
    (l.map byteV).take k ++ [V.int .u8 z] ++ (l.map byteV).drop (k + 1) = (l.set k (UInt8.ofNat z.toNat)).map byteV := by
  have e : V.int .u8 z = byteV (UInt8.ofNat z.toNat) := by
    unfold byteV; rw [UInt8.toNat_ofNat']; congr 1; omega
  rw [e, take_byteV, drop_byteV, List.set_eq_take_append_cons_drop, if_pos hk]
  simp
def rep (n : Nat) (v : V) : List V := List.replicate n v
theorem rep_length (n : Nat) (v : V) : (rep n v).length = n := List.length_replicate
theorem set8 {α : Type} (a0 a1 a2 a3 a4 a5 a6 a7 : α) (l : List α) (i : Nat) (x : α) : (a0 :: a1 :: a2 :: a3 :: a4 :: a5 :: a6 :: a7 :: l).set (i + 8) x = a0 :: a1 :: a2 :: a3 :: a4 :: a5 :: a6 :: a7 :: l.set i x := (rfl)
theorem get8 {α : Type} (a0 a1 a2 a3 a4 a5 a6 a7 : α) (l : List α) (i : Nat) (x : α) : (a0 :: a1 :: a2 :: a3 :: a4 :: a5 :: a6 :: a7 :: l).getD (i + 8) x = l.getD i x := (rfl)
theorem set_0 {α : Type} (a0 : α) (l : List α) (x : α) : (a0 :: l).set 0 x = x :: l := (rfl)
theorem get_0 {α : Type} (a0 : α) (l : List α) (x : α) : (a0 :: l).getD 0 x = a0 := (rfl)
theorem set_1 {α : Type} (a0 a1 : α) (l : List α) (x : α) : (a0 :: a1 :: l).set 1 x = a0 :: x :: l := (rfl)
theorem get_1 {α : Type} (a0 a1 : α) (l : List α) (x : α) : (a0 :: a1 :: l).getD 1 x = a1 := (rfl)
theorem set_2 {α : Type} (a0 a1 a2 : α) (l : List α) (x : α) : (a0 :: a1 :: a2 :: l).set 2 x = a0 :: a1 :: x :: l := (rfl)
theorem get_2 {α : Type} (a0 a1 a2 : α) (l : List α) (x : α) : (a0 :: a1 :: a2 :: l).getD 2 x = a2 := (rfl)
theorem set_3 {α : Type} (a0 a1 a2 a3 : α) (l : List α) (x : α) : (a0 :: a1 :: a2 :: a3 :: l).set 3 x = a0 :: a1 :: a2 :: x :: l := (rfl)
theorem get_3 {α : Type} (a0 a1 a2 a3 : α) (l : List α) (x : α) : (a0 :: a1 :: a2 :: a3 :: l).getD 3 x = a3 := (rfl)
theorem set_4 {α : Type} (a0 a1 a2 a3 a4 : α) (l : List α) (x : α) : (a0 :: a1 :: a2 :: a3 :: a4 :: l).set 4 x = a0 :: a1 :: a2 :: a3 :: x :: l := (rfl)
theorem get_4 {α : Type} (a0 a1 a2 a3 a4 : α) (l : List α) (x : α) : (a0 :: a1 :: a2 :: a3 :: a4 :: l).getD 4 x = a4 := (rfl)
theorem set_5 {α : Type} (a0 a1 a2 a3 a4 a5 : α) (l : List α) (x : α) : (a0 :: a1 :: a2 :: a3 :: a4 :: a5 :: l).set 5 x = a0 :: a1 :: a2 :: a3 :: a4 :: x :: l := (rfl)
theorem get_5 {α : Type} (a0 a1 a2 a3 a4 a5 : α) (l : List α) (x : α) : (a0 :: a1 :: a2 :: a3 :: a4 :: a5 :: l).getD 5 x = a5 := (rfl)
theorem set_6 {α : Type} (a0 a1 a2 a3 a4 a5 a6 : α) (l : List α) (x : α) : (a0 :: a1 :: a2 :: a3 :: a4 :: a5 :: a6 :: l).set 6 x = a0 :: a1 :: a2 :: a3 :: a4 :: a5 :: x :: l := (rfl)
theorem get_6 {α : Type} (a0 a1 a2 a3 a4 a5 a6 : α) (l : List α) (x : α) : (a0 :: a1 :: a2 :: a3 :: a4 :: a5 :: a6 :: l).getD 6 x = a6 := (rfl)
theorem set_7 {α : Type} (a0 a1 a2 a3 a4 a5 a6 a7 : α) (l : List α) (x : α) : (a0 :: a1 :: a2 :: a3 :: a4 :: a5 :: a6 :: a7 :: l).set 7 x = a0 :: a1 :: a2 :: a3 :: a4 :: a5 :: a6 :: x :: l := (rfl)
theorem get_7 {α : Type} (a0 a1 a2 a3 a4 a5 a6 a7 : α) (l : List α) (x : α) : (a0 :: a1 :: a2 :: a3 :: a4 :: a5 :: a6 :: a7 :: l).getD 7 x = a7 := (rfl)
def lawM (n : Nat) (p : List V → Prop) : FM := fun args => if args.length = n then some (p args, .bool true, []) else none
theorem law_calls {P : Program} {f : FuncId} {m : FM} (h : FSound P f m) {w : World} {args : List V} {vs : Array Value} {p : Prop} (htt : Tabs P w) (hm : m args = some (p, .bool true, [])) (hp : p) (hsz : vs.size = args.length)
    (hrel : ∀ j (h : j < args.length) (h' : j < vs.size), Rel ⟨w, fun b o => (w.cell? ⟨b, o, none⟩).isSome = true, [], []⟩ args[j] vs[j]) :
    Calls P f vs w fun e w' => e = .returned (.bool true) ∧ Below w.heap.size w w' := by
  refine (h w (fun b o => (w.cell? ⟨b, o, none⟩).isSome = true) args vs p (.bool true) [] htt (fun b o hb => ?_) hm hp hsz hrel).mono fun e w' ⟨v, K', he, hw, hmem, hr⟩ => ?_
  · obtain ⟨u, hu⟩ := Option.isSome_iff_exists.1 hb
    exact cell_lt hu
  · subst hw
    cases hr
    exact ⟨he, hmem.below⟩
theorem int_in {k : IntKind} {n : Int} (h : (Lit.int k n).wf = true) : k.min ≤ n ∧ n ≤ k.max := by
  simpa [Lit.wf] using h
theorem rel_bytes_in {w : World} {a : Option Addr} {len cap : Nat} {zs : List Int} (h : (a = none ∧ len = 0 ∧ cap = 0 ∧ zs = []) ∨
    ∃ x, a = some x ∧ len ≤ cap ∧ cap ≤ maxLen ∧ zs.length = cap ∧ (∀ i, i < zs.length → w.cell? (x.add i) = some (.int .u8 (zs.getD i 0))) ∧ ∀ n ∈ zs, (Lit.int .u8 n).wf = true) :
    ∃ l : List UInt8, l.length = len ∧ Rel ⟨w, fun b o => (w.cell? ⟨b, o, none⟩).isSome = true, [], []⟩ (.bytes l none) (.slice a len cap) := by
  rcases h with ⟨rfl, rfl, rfl, rfl⟩ | ⟨x, rfl, hl, hm, hz, hc, hw⟩
  · exact ⟨[], rfl, .bytes [] none none 0 (by simp) (by simp) (fun j hj => absurd hj (by simp)) trivial⟩
  · refine ⟨(zs.take len).map fun n => UInt8.ofNat n.toNat, by simp; omega, Rel.bytes' (by simp; omega) hl hm (fun j hj => ?_) trivial⟩
    simp only [List.length_map, List.length_take] at hj
    have hj' : j < zs.length := by omega
    refine ⟨x, rfl, ?_⟩
    have hcell := hc j hj'
    have hwf := hw (zs[j]) (List.getElem_mem hj')
    have hg : zs.getD j 0 = zs[j] := by simp [List.getD_eq_getElem?_getD, List.getElem?_eq_getElem hj']
    rw [hg] at hcell
    have hr : 0 ≤ zs[j] ∧ zs[j] ≤ 255 := by
      simp [Lit.wf, IntKind.min, IntKind.max, IntKind.signed, IntKind.bits] at hwf
      omega
    have hv : (Value.int .u8 ((((zs.take len).map fun n => UInt8.ofNat n.toNat)[j]'(by simp; omega)).toNat : Int)) = .int .u8 zs[j] := by
      congr 1
      simp only [List.getElem_map, List.getElem_take, UInt8.toNat_ofNat']
      omega
    rw [hv]
    have hs := spot_none hcell
    refine ⟨?_, hcell⟩
    rw [hs] at hcell
    simp [hcell]
end Go.Proofs.YtckmcglkjfkghaaDoor.Aw
