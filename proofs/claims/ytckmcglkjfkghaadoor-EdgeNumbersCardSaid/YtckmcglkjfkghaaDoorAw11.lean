import Derived.Test.YtckmcglkjfkghaaDoorAw10
import Derived.TacticsIn
namespace Go.Proofs.YtckmcglkjfkghaaDoor.Aw
open Go Go.RowKit
set_option linter.unusedVariables false
set_option linter.unusedSimpArgs false
structure St where
  ρ : List V
  L : List (List V)
  T : List (Nat × TypeId)
  deriving Inhabited
def evOp (ρ : List V) : Operand → V
  | .tmp t => ρ.getD t .undef
  | .const v => V.ofV v
  | .global _ => .any
  | .func f => .fn (.func f) [] []
inductive Mk where
  | no
  | row
  | nil (t : TypeId)
  | seq
  | grow
def Mk.isRow : Mk → Bool
  | .row => true
  | _ => false
def Mk.isGrow : Mk → Bool
  | .grow => true
  | _ => false
structure Fns where
  fn : FuncId → Option FM
  mu : Tmp → Mk := fun _ => .no
  hp : FuncId → Option PM := fun _ => none
  ord : Nat → Option (List (Nat × Nat)) := fun _ => none
  nb : Nat := 0
  nt : Nat := 0
  hy : Nat → Option PM := fun _ => none
  it : FuncId → Option (Nat → PM → PM) := fun _ => none
instance : CoeFun Fns (fun _ => FuncId → Option FM) := ⟨Fns.fn⟩
def muO (Γ : Fns) : Option Tmp → Mk
  | some t => Γ.mu t
  | none => .no
def castV (τ : Tys) (t : TypeId) : V → V
  | .nils => match elemI τ t with | some (_, i) => if isU8 i then .bytes [] none else .list i.size [] none | none => .nils
  | .zero => match elemI τ t with | some (_, i) => if isU8 i then .bytes [] none else .list i.size [] none | none => .zero
  | .agg l => .agg (l.map V.top)
  | v => v.top
def callArgs (τ : Tys) (ev : Operand → V) (c : Call) : List V := List.zipWith (fun x t => castV τ t (ev x)) c.args.toList c.argTypes.toList
def evCall (τ : Tys) (Γ : Fns) (ev : Operand → V) (c : Call) : Option (Prop × V × List (Nat × TypeId)) :=
  match c.callee with
  | .value (.func f) =>
    if c.args.size = c.argTypes.size then
      match Γ f with
      | some m => match m (callArgs τ ev c) with
        | some (p, r, fr) => some ((∀ a ∈ callArgs τ ev c, a.clean) ∧ r.flat ∧ p, r, fr)
        | none => none
      | none => none
    else none
  | _ => none
def V.isM : V → Bool
  | .mrow _ _ _ _ => true
  | _ => false
def castM (τ : Tys) (L : List (List V)) (t : TypeId) (v : V) : V :=
  match v with
  | .mrow em o off n => match L[o]? with
    | some cs => .bytes (((cs.drop off).take n).map unbyte) none
    | none => v
  | v => castV τ t v
def castMP (τ : Tys) (L : List (List V)) (t : TypeId) (v : V) : Prop :=
  match v with
  | .mrow em o off n => match L[o]?, elemI τ t with
    | some cs, some (_, i) => isU8 i = true ∧ i.size = 1 ∧ off + n ≤ cs.length ∧ (((cs.drop off).take n).map unbyte).map byteV = (cs.drop off).take n
    | _, _ => False
  | _ => True
def allP : List Prop → Prop
  | [] => True
  | p :: r => p ∧ allP r
def V.plain : V → Prop
  | .bytes _ _ => False
  | .list _ _ _ => False
  | .agg l => ∀ v ∈ l, v.plain
  | .tuple l => ∀ v ∈ l, v.plain
  | .box _ _ => False
  | .mrow _ _ _ _ => False
  | .vrow _ _ _ _ => False
  | .mref _ => False
  | .iter _ => False
  | .ref _ => False
  | .fn _ _ _ => False
  | _ => True
def hasM (ev : Operand → V) (c : Call) : Bool := c.args.toList.any fun x => (ev x).isM
def V.plain1 : V → Bool
  | .int _ _ => true
  | .bool _ => true
  | .str _ => true
  | .undef => true
  | _ => false
def V.plainB : V → Bool
  | .tuple l => l.all V.plain1
  | v => v.plain1
def frz (L : List (List V)) : V → List (List V)
  | .mrow _ o _ _ => L.set o []
  | _ => L
def evCallM (τ : Tys) (Γ : Fns) (L : List (List V)) (T : List (Nat × TypeId)) (ev : Operand → V) (c : Call) : Option Out :=
  match c.callee with
  | .value (.func f) =>
    if c.args.size = c.argTypes.size then
      match Γ f with
      | some m => match m (List.zipWith (fun x t => castM τ L t (ev x)) c.args.toList c.argTypes.toList) with
        | some (p, r, fr) =>
          bif r.plainB then some (allP (List.zipWith (fun x t => castMP τ L t (ev x)) c.args.toList c.argTypes.toList) ∧ (∀ a ∈ List.zipWith (fun x t => castM τ L t (ev x)) c.args.toList c.argTypes.toList, a.clean) ∧ p, r, L, T)
          else some (allP (List.zipWith (fun x t => castMP τ L t (ev x)) c.args.toList c.argTypes.toList) ∧ (∀ a ∈ List.zipWith (fun x t => castM τ L t (ev x)) c.args.toList c.argTypes.toList, a.clean) ∧ r.flat ∧ p, r.up T.length, c.args.toList.foldl (fun L x => frz L (ev x)) L, T ++ fr)
        | none => none
      | none => none
    else none
  | _ => none
def thawO (L : List (List V)) (T : List (Nat × TypeId)) (x : Option (Prop × V × List (Nat × TypeId))) : Option Out :=
  match x with
  | some (p, .bytes l (some 0), [(n, e)]) => some (n = l.length ∧ p, .mrow e L.length 0 l.length, L ++ [l.map byteV], T)
  | some (p, .tuple (.bytes l (some 0) :: rest), [(n, e)]) => some ((n = l.length ∧ ∀ v ∈ rest, v.plain) ∧ p, .tuple (.mrow e L.length 0 l.length :: rest), L ++ [l.map byteV], T)
  | _ => none
def hpO (Γ : Fns) (c : Call) : Option PM :=
  match c.callee with
  | .value (.func f) => Γ.hp f
  | _ => none
def castH (τ : Tys) (t : TypeId) (v : V) : V :=
  match v with
  | .nils => castV τ t .nils
  | .zero => castV τ t .zero
  | v => v
def pCall (Γ : Fns) (op : Op) : Option (PM × Call) :=
  match op with
  | .call c => match hpO Γ c with | some m => some (m, c) | none => none
  | _ => none
def evalEff (τ : Tys) (Γ : Fns) (mu : Bool) (L : List (List V)) (T : List (Nat × TypeId)) (ev : Operand → V) (op : Op) : Option Out :=
  match op with
  | .call c =>
    match c.callee, c.args.toList, c.argTypes.toList with
    | .builtin .append, [s, x], [t, t2] => bif mu then evAppendM τ L T t t2 (ev s) (ev x) else evAppend τ L T t t2 (ev s) (ev x)
    | .builtin .copy, [d, s], [t, _] => evCopy τ L T t (ev d) (ev s)
    | .builtin .delete, [m, k], [t, _] => evDelete τ L T t (ev m) (ev k)
    | _, _, _ => bif hasM ev c then evCallM τ Γ L T ev c else bif mu then thawO L T (evCall τ Γ ev c) else (evCall τ Γ ev c).map fun x => (x.1, x.2.1.up T.length, L, T ++ x.2.2)
  | .convert src dst x => evMark τ L T src dst (ev x)
  | .makeSlice t l c => bif mu then evMakeM τ L T t (ev l) (ev c) else evMake τ L T t (ev l) (ev c)
  | .buildSlice t len parts => evBuildSlice τ L T t len (parts.toList.map fun x => (x.1, ev x.2))
  | .build t parts => (evBuild τ t (parts.toList.map fun x => (x.1, ev x.2))).map fun x => (x.1, x.2, L, T)
  | .box _ x => evBox L T (ev x)
  | .alloc e => evAlloc τ L T e
  | .store t a x => evStore τ L T t (ev a) (ev x)
  | .mapUpdate t m k x => evMapUpdate τ L T t (ev m) (ev k) (ev x)
  | .makeMap t none => evMakeMap τ L T t
  | .range t x => evRange τ L T t (ev x)
  | _ => none
def nilStep (τ : Tys) (L : List (List V)) (T : List (Nat × TypeId)) (t : TypeId) (v : V) : Option Out :=
  match v, elemI τ t with
  | .nils, some (e, i) => some (True, if isU8 i then .bytes [] (some T.length) else .list i.size [] (some T.length), L, T ++ [(0, e)])
  | v, _ => some (True, v, L, T)
def nilOf : Mk → Op → Option (TypeId × Operand)
  | .nil t, .assign x => some (t, x)
  | _, _ => none
def stepE (τ : Tys) (Γ : Fns) (mk : Mk) (L : List (List V)) (T : List (Nat × TypeId)) (ev : Operand → V) (op : Op) : Option Out :=
  match nilOf mk op with
  | some (t, x) => nilStep τ L T t (ev x)
  | none => match evalPure τ L ev op with
    | some (p, v) => some (p, v, L, T)
    | none => evalEff τ Γ mk.isRow L T ev op
def growV (g : Bool) : V → Bool
  | .vrow _ _ _ _ => true
  | _ => g
def isVrow : V → Bool
  | .vrow _ _ _ _ => true
  | .mrow _ _ 0 _ => true
  | _ => false
def isBytesV : V → Bool
  | .bytes _ _ => true
  | _ => false
def isSlab (s : V) : V → Bool
  | .mrow _ _ (_ + 1) _ => true
  | .mrow _ _ 0 _ => isBytesV s
  | _ => false
def kFn (τ : Tys) (ev : Operand → V) (as : List Operand) (ts : List TypeId) (first cap : List V) : Option PM → Option (PM × List V)
  | some m => bif as.length == ts.length then some (m, first ++ List.zipWith (fun x t => castH τ t (ev x)) as ts ++ cap) else none
  | none => none
def yPM (nb nt : Nat) : Option PM → Option PM
  | some m => some fun args L T K => (nb ≤ L.length ∧ nt ≤ T.length) ∧ m args L T K
  | none => none
def kVal (τ : Tys) (Γ : Fns) (ev : Operand → V) (as : List Operand) (ts : List TypeId) : V → Option (PM × List V)
  | .fn (.func f) first cap => kFn τ ev as ts first cap (Γ.hp f)
  | .fn (.yield b) [] [] => kFn τ ev as ts [] [] (yPM Γ.nb Γ.nt (Γ.hy b))
  | _ => none
def kCall (τ : Tys) (Γ : Fns) (g : Bool) (ev : Operand → V) (c : Call) : Option (PM × List V) :=
  match c.callee, c.args.toList, c.argTypes.toList with
  | .value (.tmp t), as, ts => kVal τ Γ ev as ts (ev (.tmp t))
  | .builtin .append, [s, x], [t, t2] => bif growV g (ev s) then some (growP τ t t2, [ev s, ev x]) else bif isSlab (ev s) (ev x) then some (slabP τ t t2, [ev s, ev x]) else bif isVrow (ev x) then some (cloneP τ t t2, [ev s, ev x]) else none
  | _, _, _ => none
def kOp (τ : Tys) (Γ : Fns) (g : Bool) (ev : Operand → V) (op : Op) : Option (PM × List V) :=
  match op with
  | .next x false => some (nextP, [ev x])
  | .call c => kCall τ Γ g ev c
  | _ => none
def execE (τ : Tys) (Γ : Fns) (mk : Mk) (L : List (List V)) (T : List (Nat × TypeId)) (ev : Operand → V) (op : Op) (K : V → List (List V) → List (Nat × TypeId) → Prop) : Prop :=
  match pCall Γ op with
  | some (m, c) => c.args.size = c.argTypes.size ∧ m (List.zipWith (fun x t => castH τ t (ev x)) c.args.toList c.argTypes.toList) L T K
  | none => match kOp τ Γ mk.isGrow ev op with
    | some (m, as) => m as L T K
    | none => match stepE τ Γ mk L T ev op with
      | some (p, v, L', T') => p ∧ K v L' T'
      | none => False
structure Bs.le (q q' : Bs) : Prop where
  p : q'.p = q.p
  nb : q.nb ≤ q'.nb
  nt : q.nt ≤ q'.nt
  keeps : Keeps q.nb q.nt q.k0 q'.k0
theorem Keeps.more {nb nt nb' nt' : Nat} {A C : Kw} (h : Keeps nb' nt' A C) (h1 : nb ≤ nb') (h2 : nt ≤ nt') : Keeps nb nt A C :=
  ⟨h.1, h.2.1, fun o b ho => h.2.2.1 o b (by omega), fun k u m e hk => h.2.2.2 k u m e (by omega)⟩
theorem Keeps.trans {nb nt : Nat} {A B C : Kw} (h : Keeps nb nt A B) (g : Keeps nb nt B C) : Keeps nb nt A C := by
  obtain ⟨h0, h1, h2, h3⟩ := h
  obtain ⟨g0, g1, g2, g3⟩ := g
  refine ⟨fun b s hs => g0 b s (h0 b s hs), fun b o hp => ?_, fun o b ho hb => g2 o b ho (h2 o b ho hb), fun k u m e hk0 hk => ?_⟩
  · obtain ⟨p1, c1⟩ := h1 b o hp
    obtain ⟨p2, c2⟩ := g1 b o p1
    exact ⟨p2, c2.trans c1⟩
  · obtain ⟨u1, m1, t1, l1, e1⟩ := h3 k u m e hk0 hk
    obtain ⟨u2, m2, t2, l2, e2⟩ := g3 k u1 m1 e hk0 t1
    refine ⟨u2, m2, t2, by omega, fun he => ?_⟩
    rw [e2 (by omega), e1 (by omega)]
theorem Bs.le.refl (q : Bs) : Bs.le q q := ⟨rfl, Nat.le_refl _, Nat.le_refl _, Keeps.refl _ _ _⟩
theorem Bs.le.trans {a b c : Bs} (h : Bs.le a b) (g : Bs.le b c) : Bs.le a c :=
  ⟨g.p.trans h.p, Nat.le_trans h.nb g.nb, Nat.le_trans h.nt g.nt, h.keeps.trans (g.keeps.more h.nb h.nt)⟩
def YSound (P : Program) (B : World) (q : Bs) (b : Nat) (m : PM) : Prop :=
  ∀ (p0 : Bs), Bs.le q p0 → ∀ (K : Kw) (L : List (List V)) (T : List (Nat × TypeId)) (args : List V) (vs : Array Value) (Kont : V → List (List V) → List (Nat × TypeId) → Prop),
    q.nb ≤ L.length → q.nt ≤ T.length → Mem P B p0 K L T → m args L T Kont → vs.size = args.length → (∀ j (h : j < args.length) (h' : j < vs.size), Rel K args[j] vs[j]) →
    ∃ (fn : FuncId) (tmps : Array Value) (assign body : Code), (Instr.yield b vs).run P K.w = .ok (.round b fn tmps assign body) K.w ∧
      RoundIn Fence.wide 0 P b fn tmps assign body K.w fun e w' => ∃ v K' r L' T', e = .returned v ∧ K'.w = w' ∧ Ext K K' ∧ Mem P B p0 K' L' T' ∧ Rel K' r v ∧ Kont r L' T'
theorem YSound.le {P : Program} {B : World} {q p : Bs} {b : Nat} {m : PM} (h : YSound P B q b m) (hle : Bs.le q p) : YSound P B p b m :=
  fun p0 h0 K L T args vs Kont h1 h2 hm hk hsz hr => h p0 (hle.trans h0) K L T args vs Kont (Nat.le_trans hle.nb h1) (Nat.le_trans hle.nt h2) hm hk hsz hr
theorem YSound.up {P : Program} {B : World} {q : Bs} {b : Nat} {m : PM} (h : YSound P B q b m) : YSound P B q b (up m) := by
  intro p0 h0 K L T args vs Kont h1 h2 hm hk hsz hr
  obtain ⟨K0, g0, hk⟩ := hk
  obtain ⟨fn, tmps, assign, body, hrun, hround⟩ := h p0 h0 K L T args vs K0 h1 h2 hm hk hsz hr
  exact ⟨fn, tmps, assign, body, hrun, hround.mono fun e w' ⟨u, K', r, L', T', a1, a2, a3, a4, a5, a6⟩ => ⟨u, K', r, L', T', a1, a2, a3, a4, a5, g0 _ _ _ a6⟩⟩
abbrev IM := Nat → PM → PM
def ISound (P : Program) (f : FuncId) (I : IM) : Prop :=
  ∀ (B : World) (p0 : Bs) (K : Kw) (L : List (List V)) (T : List (Nat × TypeId)) (args : List V) (vs : Array Value) (Kont : V → List (List V) → List (Nat × TypeId) → Prop) (b : Nat) (Y : PM),
    Mem P B p0 K L T → YSound P B ⟨p0.p, K, L.length, T.length⟩ b Y → Mono Y → I b Y args L T Kont → vs.size = args.length → (∀ j (h : j < args.length) (h' : j < vs.size), Rel K args[j] vs[j]) →
    Calls P f vs K.w fun e w' => ∃ v K' r L' T', e = .returned v ∧ K'.w = w' ∧ Ext K K' ∧ Mem P B p0 K' L' T' ∧ Rel K' r v ∧ Kont r L' T'
structure FnsOk (P : Program) (Γ : Fns) : Prop where
  fn : ∀ f m, Γ f = some m → FSound P f m ∧ (∃ fn, P.funcs[f]? = some fn ∧ fn.name ≠ "runtime.NumGoroutine" ∧ fn.body ≠ none)
  hp : ∀ f m, Γ.hp f = some m → PSound P f m ∧ (∃ fn, P.funcs[f]? = some fn ∧ fn.name ≠ "runtime.NumGoroutine" ∧ fn.body ≠ none)
  it : ∀ f m, Γ.it f = some m → ISound P f m ∧ (∃ fn, P.funcs[f]? = some fn ∧ fn.name ≠ "runtime.NumGoroutine" ∧ fn.body ≠ none)
structure FnsAt (P : Program) (B : World) (p0 : Bs) (Γ : Fns) : Prop extends FnsOk P Γ where
  hy : ∀ b m, Γ.hy b = some m → YSound P B p0 b m
  nb : p0.nb ≤ Γ.nb
  nt : p0.nt ≤ Γ.nt
def DefOk (B : World) (p0 : Bs) (K : Kw) : List Deferred → Prop
  | [] => True
  | d :: ds => (∃ b, d = { target := .collected b, args := #[] } ∧ K.w.shp b = some (none, 0) ∧ B.heap.size ≤ b ∧ p0.k0.w.shp b = none ∧ ∀ d' ∈ ds, d' ≠ { target := .collected b, args := #[] }) ∧ DefOk B p0 K ds
theorem DefOk.step {B : World} {p0 : Bs} {K K' : Kw} (he : ∀ (b : Nat) s, K.w.shp b = some s → K'.w.shp b = some s) : ∀ {ds : List Deferred}, DefOk B p0 K ds → DefOk B p0 K' ds
  | [], _ => trivial
  | _ :: _, ⟨⟨b, h1, h2, h3⟩, h⟩ => ⟨⟨b, h1, he b _ h2, h3⟩, h.step he⟩
theorem DefOk.ext {B : World} {p0 : Bs} {K K' : Kw} (he : Ext K K') {ds : List Deferred} (h : DefOk B p0 K ds) : DefOk B p0 K' ds := h.step he.size
structure Inv (P : Program) (B : World) (p0 : Bs) (K : Kw) (st : St) (a : Act) : Prop where
  mem : Mem P B p0 K st.L st.T
  size : a.tmps.size = st.ρ.length
  slots : ∀ i (h : i < st.ρ.length) (h' : i < a.tmps.size), Rel K st.ρ[i] a.tmps[i]
  defers : DefOk B p0 K a.defers
section
variable {P : Program} {τ : Tys} {Γ : Fns} {B : World} {p0 : Bs} {K : Kw} {st : St} {a : Act} {ro : Option Nat}
theorem Inv.ev (h : Inv P B p0 K st a) (x : Operand) : Rel K (evOp st.ρ x) (a.eval x) := by
  cases x with
  | tmp t =>
    simp only [evOp, Act.eval]
    by_cases ht : t < st.ρ.length
    · have ht' : t < a.tmps.size := by rw [h.size]; exact ht
      have := h.slots t ht ht'
      simpa [List.getD_eq_getElem?_getD, List.getElem?_eq_getElem ht, ht'] using this
    · have ht' : ¬ t < a.tmps.size := by rw [h.size]; exact ht
      have e1 : st.ρ[t]? = none := List.getElem?_eq_none (Nat.le_of_not_lt ht)
      have e2 : a.tmps[t]? = none := Array.getElem?_eq_none (Nat.le_of_not_lt ht')
      simp only [List.getD_eq_getElem?_getD, e1, Option.getD_none, Array.getD_eq_getD_getElem?, e2]
      exact .undef
  | const v => exact ofV_rel K v
  | global g => exact .any _
  | func f => exact .fn (.func f) [] [] #[] #[] rfl rfl (fun j h => absurd h (by simp)) (fun j h => absurd h (by simp))
def setO (ρ : List V) (d : Option Tmp) (v : V) : List V := match d with | some t => ρ.set t v | none => ρ
theorem setO_length (ρ : List V) (d : Option Tmp) (v : V) : (setO ρ d v).length = ρ.length := by cases d <;> simp [setO]
theorem Inv.put (h : Inv P B p0 K st a) {K' : Kw} {L' : List (List V)} {T' : List (Nat × TypeId)} (he : Ext K K') (hm : Mem P B p0 K' L' T') {v : V} {u : Value} (hr : Rel K' v u) (d : Option Tmp) :
    Inv P B p0 K' ⟨setO st.ρ d v, L', T'⟩ (a.put d u) := by
  refine ⟨hm, ?_, fun i hi hi' => ?_, ?_⟩
  · cases d <;> simp [Act.put, setO, h.size]
  · cases d with
    | none => exact (h.slots i hi hi').ext he
    | some t =>
      simp only [setO, List.length_set] at hi
      simp only [Act.put, Array.size_setIfInBounds] at hi'
      simp only [setO, Act.put, List.getElem_set, Array.getElem_setIfInBounds hi']
      by_cases e : t = i
      · simp only [e, if_true]; exact hr
      · simp only [e, if_false]; exact (h.slots i hi hi').ext he
  · cases d <;> exact h.defers.ext he
theorem castV_rel {t : TypeId} {v : V} {u : Value} (h : Rel K v u) : Rel K (castV τ t v) u := by
  unfold castV
  split
  · cases h
    split
    · split
      · exact le_rel .nils (.bytes [] none) ⟨rfl, rfl⟩ _ .nils
      · exact le_rel .nils (.list _ [] none) ⟨rfl, rfl⟩ _ .nils
    · exact .nils
  · cases h with
    | zero A =>
    split
    · split
      · exact le_rel .zero (.bytes [] none) ⟨rfl, rfl⟩ _ (.zero A)
      · exact le_rel .zero (.list _ [] none) ⟨rfl, rfl⟩ _ (.zero A)
    · exact .zero A
  · cases h with
    | agg l vs hl ho hj =>
    exact .agg _ vs (by simpa using hl) ho fun j hj' => by
      rw [List.getElem_map]
      exact (hj j (by simpa using hj')).top
  · exact h.top
theorem callArgs_rel {ev : Operand → V} {ρ : Operand → Value} (hρ : ∀ x, Rel K (ev x) (ρ x)) {c : Call} (hs : c.args.size = c.argTypes.size) :
    (c.args.map ρ).size = (callArgs τ ev c).length ∧ ∀ j (h : j < (callArgs τ ev c).length) (h' : j < (c.args.map ρ).size), Rel K (callArgs τ ev c)[j] (c.args.map ρ)[j] := by
  have hl : (callArgs τ ev c).length = c.args.size := by simp [callArgs, ← hs]
  refine ⟨by simp [hl], fun j h h' => ?_⟩
  simp only [callArgs, List.getElem_zipWith, Array.getElem_map, Array.getElem_toList]
  exact castV_rel (hρ _)
theorem call_wp (hΓ : FnsAt P B p0 Γ) (hm : Mem P B p0 K st.L st.T) {ev : Operand → V} (hρ : ∀ x, Rel K (ev x) (a.eval x)) {o : Oper} {c : Call} (hop : o.op = .call c) {p : Prop} {r : V} {fr : List (Nat × TypeId)} (hev : evCall τ Γ ev c = some (p, r, fr)) (hp : p)
    {Kont : Act → World → Prop} {Q : Exit → Act → World → Prop}
    (hK : ∀ K' u, Mem P K.w (Bs.pure K.w K.prot) K' [] fr → Rel K' r u → r.flat → Kont (a.put o.dst u) K'.w) : owp P o a K.w Kont Q := by
  unfold evCall at hev
  split at hev
  · rename_i f hc
    simp only [Option.ite_none_right_eq_some] at hev
    obtain ⟨hs, hev⟩ := hev
    split at hev
    · rename_i m hm'
      split at hev
      · rename_i p' r' fr' hmm
        simp only [Option.some.injEq, Prod.mk.injEq] at hev
        obtain ⟨rfl, rfl, rfl⟩ := hev
        obtain ⟨hclean, hflat, hp'⟩ := hp
        obtain ⟨hsz, hrel⟩ := callArgs_rel (τ := τ) hρ hs
        obtain ⟨hsound, fn, hfn, hng, hbody⟩ := hΓ.fn f m hm'
        have hcall := hsound K.w K.prot (callArgs τ ev c) (c.args.map a.eval) p' r' fr' hm.tabsK hm.there hmm hp' hsz (fun j h h' => Rel.clean (K := K) (K2 := ⟨K.w, K.prot, [], []⟩) (fun _ _ hr => hr) (hrel j h h') (hclean _ (List.getElem_mem h)))
        have hexec : (execOp a.eval o).run P K.w = .ok (.enter f (c.args.map a.eval)) K.w := by
          have hfe : a.eval (.func f) = .func (.func f) #[] #[] := rfl
          simp [execOp, hop, resolve, hc, hfe, Deferred.ofValue, invoke, callFunc, hfn, hng, hbody]
        unfold owp
        rw [hexec]
        simp only [upO]
        refine hcall.mono fun e w' ⟨u, K', he, hw, hm', hr⟩ => ?_
        subst he
        rw [← hw]
        exact hK K' u hm' hr hflat
      · cases hev
    · cases hev
  · cases hev
theorem Rel.plain {K K2 : Kw} {x : V} {v : Value} (hr : Rel K x v) : x.plain → Rel K2 x v := by
  induction hr with
  | any v => exact fun _ => .any v
  | undef => exact fun _ => .undef
  | int k n => exact fun _ => .int k n
  | bool b => exact fun _ => .bool b
  | may p q b hp hq => exact fun _ => .may p q b hp hq
  | str l => exact fun _ => .str l
  | raw v => exact fun _ => .raw v
  | nils => exact fun _ => .nils
  | zero A => exact fun _ => .zero A
  | bytes l t A c hc hm hr ht => intro h; simp only [V.plain] at h
  | list sz l t A c f hc hm hs hr hf ht ih => intro h; simp only [V.plain] at h
  | agg l vs hl ho hj ih =>
    intro h
    simp only [V.plain] at h
    exact .agg l vs hl ho fun j hj => ih j hj (h _ (List.getElem_mem hj))
  | tuple l vs hl hj ih =>
    intro h
    simp only [V.plain] at h
    exact .tuple l vs hl fun j hj => ih j hj (h _ (List.getElem_mem hj))
  | box o off b hb s hs => intro h; simp only [V.plain] at h
  | vrow em sz o n A c hc hm hA => intro h; simp only [V.plain] at h
  | mref o b hb => intro h; simp only [V.plain] at h
  | iter o b hb => intro h; simp only [V.plain] at h
  | mrow em o off n A c hc hm hA => intro h; simp only [V.plain] at h
  | ref v ad f hr hf ih => intro h; simp only [V.plain] at h
  | fn f l m vs us hl hm h1 h2 ih1 ih2 => intro h; simp only [V.plain] at h
def Kw.full (K : Kw) (L : List (List V)) (b o : Nat) : Prop := K.prot b o ∨ ∃ (i : Nat) (cs : List V), K.boxes[i]? = some (some b) ∧ L[i]? = some cs ∧ o < cs.length
theorem castM_rel {L0 : List (List V)} (hτ : TyOk P τ) (hL : BoxesOk K L0) {t : TypeId} {v : V} {u : Value} {q : Nat → Nat → Prop} (hq : ∀ b o, K.prot b o → q b o)
    (hqv : ∀ em o off n b cs, v = .mrow em o off n → K.boxes[o]? = some (some b) → L0[o]? = some cs → ∀ j, j < cs.length → q b j) (h : Rel K v u) (hp : castMP τ L0 t v) (hc : (castM τ L0 t v).clean) : Rel ⟨K.w, q, [], []⟩ (castM τ L0 t v) u := by
  by_cases hm : ∃ em o off n, v = .mrow em o off n
  · obtain ⟨em, o, off, n, rfl⟩ := hm
    simp only [castM, castMP] at hp ⊢
    cases hcs : L0[o]? with
    | none => rw [hcs] at hp; simp at hp
    | some cs =>
      rw [hcs] at hp
      cases hei : elemI τ t with
      | none => rw [hei] at hp; simp at hp
      | some ei =>
        obtain ⟨e, i⟩ := ei
        rw [hei] at hp
        simp only at hp
        obtain ⟨_, _, hfit, hbytes⟩ := hp
        generalize hl : ((cs.drop off).take n).map unbyte = l at hbytes
        have hln : l.length = n := by rw [← hl]; simp; omega
        simp only [hl]
        cases h with
        | mrow em o off n A c hcc hm hA =>
        refine Rel.bytes' hln.symm hcc hm (fun j hj => ?_) trivial
        rcases hA with ⟨hA, _⟩ | ⟨b, m1, rfl, hb, hsb, _⟩
        · omega
        obtain ⟨cur, ty, hh, hsz, hr⟩ := box_cells (off := off) hL hcs hb hsb
        refine ⟨_, rfl, ?_⟩
        rw [Addr.add_lit]
        have hcj : cs[off + j]'(by omega) = byteV l[j] := by
          have h1 : (l.map byteV)[j]? = ((cs.drop off).take n)[j]? := by rw [hbytes]
          rw [List.getElem?_map, List.getElem?_eq_getElem hj, List.getElem?_take_of_lt (by omega), List.getElem?_drop, List.getElem?_eq_getElem (show off + j < cs.length by omega)] at h1
          simpa using h1.symm
        refine ⟨hqv em o off n b cs rfl hb hcs (off + j) (by omega), ?_⟩
        show K.w.cell? ⟨b, off + j, none⟩ = _
        rw [cell_of_row K.w b (off + j) cur ty (0, 0) hh, Array.getElem?_eq_getElem (by omega)]
        have h2 := (hr (off + j) (by omega)).1
        rw [hcj] at h2
        simp only [byteV] at h2
        cases hv : cur[off + j]'(by omega) <;> rw [hv] at h2 <;> cases h2
        rfl
  · have e : castM τ L0 t v = castV τ t v := by cases v <;> first | rfl | exact absurd ⟨_, _, _, _, rfl⟩ hm
    rw [e] at hc ⊢
    exact Rel.clean (K := K) (K2 := ⟨K.w, q, [], []⟩) (fun _ _ hr => ⟨hq _ _ hr.1, hr.2⟩) (castV_rel h) hc
theorem allP_get : ∀ {l : List Prop}, allP l → ∀ j (h : j < l.length), l[j]
  | [], _, j, h => absurd h (by simp)
  | p :: r, hp, 0, _ => hp.1
  | p :: r, hp, j + 1, h => allP_get hp.2 j (by simpa using h)
theorem plain1_plain {v : V} (h : v.plain1 = true) : v.plain := by cases v <;> first | trivial | (simp [V.plain1] at h; done) | (simp only [V.plain])
theorem plainB_plain {v : V} (h : v.plainB = true) : v.plain := by
  unfold V.plainB at h
  split at h
  · rename_i l
    simp only [V.plain]
    exact fun v hv => plain1_plain (List.all_eq_true.1 h v hv)
  · exact plain1_plain h
theorem frz_all {ev : Operand → V} : ∀ (xs : List Operand) {K : Kw} {L : List (List V)} {T : List (Nat × TypeId)}, Mem P B p0 K L T → ∃ K', K'.w = K.w ∧ K'.toks = K.toks ∧ K'.boxes = K.boxes ∧ Ext K K' ∧ Mem P B p0 K' (xs.foldl (fun L x => frz L (ev x)) L) T ∧
    ∀ x ∈ xs, ∀ em o off n b cs, ev x = .mrow em o off n → K.boxes[o]? = some (some b) → L[o]? = some cs → ∀ j, j < cs.length → K'.prot b j
  | [], K, L, T, h => ⟨K, rfl, rfl, rfl, Ext.refl K, h, fun x hx => by cases hx⟩
  | x :: xs, K, L, T, h => by
    have one : ∃ K1, K1.w = K.w ∧ K1.toks = K.toks ∧ K1.boxes = K.boxes ∧ Ext K K1 ∧ Mem P B p0 K1 (frz L (ev x)) T ∧ ∀ em o off n b cs, ev x = .mrow em o off n → K.boxes[o]? = some (some b) → L[o]? = some cs → ∀ j, j < cs.length → K1.prot b j := by
      by_cases hm : ∃ em o off n, ev x = .mrow em o off n
      · obtain ⟨em, o, off, n, hv⟩ := hm
        rw [hv]
        simp only [frz]
        by_cases hb : ∃ b cs, K.boxes[o]? = some (some b) ∧ L[o]? = some cs
        · obtain ⟨b, cs, hb, hcs⟩ := hb
          obtain ⟨he, hmm⟩ := h.freeze hcs hb
          refine ⟨{ K with prot := fun b' o' => K.prot b' o' ∨ (b' = b ∧ o' < cs.length) }, rfl, rfl, rfl, he, hmm, fun em' o' off' n' b' cs' e1 hb' hcs' j hj => ?_⟩
          cases e1
          rw [hb] at hb'; cases hb'
          rw [hcs] at hcs'; cases hcs'
          exact .inr ⟨rfl, hj⟩
        · refine ⟨K, rfl, rfl, rfl, Ext.refl K, ?_, fun em' o' off' n' b' cs' e1 hb' hcs' j hj => ?_⟩
          · by_cases hol : o < L.length
            · have hcs : L[o]? = some L[o] := List.getElem?_eq_getElem hol
              rcases h.boxes.2 o _ hcs with ⟨hc, _⟩ | ⟨b, _, _, hb', _⟩ | ⟨b, hb', _⟩
              · exact h.setGhost hc []
              · exact absurd ⟨b, _, hb', hcs⟩ hb
              · exact absurd ⟨b, _, hb', hcs⟩ hb
            · rw [List.set_eq_of_length_le (by omega)]; exact h
          · cases e1; exact absurd ⟨b', cs', hb', hcs'⟩ hb
      · have e : frz L (ev x) = L := by cases hv : ev x <;> first | rfl | exact absurd ⟨_, _, _, _, hv⟩ hm
        rw [e]
        exact ⟨K, rfl, rfl, rfl, Ext.refl K, h, fun em o off n b cs e1 => absurd ⟨em, o, off, n, e1⟩ hm⟩
    obtain ⟨K1, w1, t1, b1, e1, m1, f1⟩ := one
    obtain ⟨K2, w2, t2, b2, e2, m2, f2⟩ := frz_all (ev := ev) xs m1
    refine ⟨K2, w2.trans w1, t2.trans t1, b2.trans b1, e1.trans e2, m2, fun y hy em o off n b cs hv hb hcs j hj => ?_⟩
    rcases List.mem_cons.1 hy with rfl | hy
    · exact (e2.cell b j (f1 em o off n b cs hv hb hcs j hj)).1
    · by_cases hx : ∃ em' off' n', ev x = .mrow em' o off' n'
      · obtain ⟨em', off', n', hx⟩ := hx
        exact (e2.cell b j (f1 em' o off' n' b cs hx hb hcs j hj)).1
      · have hL : (frz L (ev x))[o]? = some cs := by
          cases hv' : ev x <;> simp only [frz] <;> first | exact hcs | skip
          rename_i em' o' off' n'
          rw [List.getElem?_set_ne (fun e => hx ⟨em', off', n', by rw [hv', e]⟩)]
          exact hcs
        exact f2 y hy em o off n b cs hv (by rw [b1]; exact hb) hL j hj
theorem callM_wp (hτ : TyOk P τ) (hΓ : FnsAt P B p0 Γ) (hm : Mem P B p0 K st.L st.T) {ev : Operand → V} (hρ : ∀ x, Rel K (ev x) (a.eval x)) {o : Oper} {c : Call} (hop : o.op = .call c) {p : Prop} {r : V} {L' : List (List V)} {T' : List (Nat × TypeId)} (hev : evCallM τ Γ st.L st.T ev c = some (p, r, L', T')) (hp : p)
    {Kont : Act → World → Prop} {Q : Exit → Act → World → Prop}
    (hK : ∀ K' u, Ext K K' → Mem P B p0 K' L' T' → Rel K' r u → Kont (a.put o.dst u) K'.w) : owp P o a K.w Kont Q := by
  unfold evCallM at hev
  split at hev
  · rename_i f hc
    simp only [Option.ite_none_right_eq_some] at hev
    obtain ⟨hs, hev⟩ := hev
    split at hev
    · rename_i m hm'
      split at hev
      · rename_i p' r' fr' hmm
        have hln : (List.zipWith (fun x t => castM τ st.L t (ev x)) c.args.toList c.argTypes.toList).length = c.args.size := by simp [← hs]
        obtain ⟨hsound, fn, hfn, hng, hbody⟩ := hΓ.fn f m hm'
        have hexec : (execOp a.eval o).run P K.w = .ok (.enter f (c.args.map a.eval)) K.w := by
          have hfe : a.eval (.func f) = .func (.func f) #[] #[] := rfl
          simp [execOp, hop, resolve, hc, hfe, Deferred.ofValue, invoke, callFunc, hfn, hng, hbody]
        cases hpl : r'.plainB with
        | true =>
          rw [hpl, cond_true] at hev
          simp only [Option.some.injEq, Prod.mk.injEq] at hev
          obtain ⟨rfl, rfl, rfl, rfl⟩ := hev
          obtain ⟨hcast, hclean, hp'⟩ := hp
          have hfull : ∀ b o, K.full st.L b o → b < K.w.heap.size := by
            rintro b o (hb | ⟨i, cs, hb, _, _⟩)
            · exact hm.there b o hb
            · exact hm.boxes.lt (List.mem_of_getElem? hb)
          have hcall := hsound K.w (K.full st.L) (List.zipWith (fun x t => castM τ st.L t (ev x)) c.args.toList c.argTypes.toList) (c.args.map a.eval) p' r' fr' hm.tabsK hfull hmm hp' (by simp [hln]) (fun j h h' => by
            have hc1 := hclean _ (List.getElem_mem h)
            have hc2 := allP_get hcast j (by simp [← hs]; rw [hln] at h; exact h)
            simp only [List.getElem_zipWith, Array.getElem_map, Array.getElem_toList] at hc1 hc2 ⊢
            exact castM_rel hτ hm.boxes (fun b o hb => .inl hb) (fun em o off n b cs _ hb hcs j hj => .inr ⟨o, cs, hb, hcs, hj⟩) (hρ _) hc2 hc1)
          unfold owp
          rw [hexec]
          simp only [upO]
          refine hcall.mono fun e w' ⟨u, K', he, hw, hmK, hr⟩ => ?_
          subst he
          rw [← hw]
          obtain ⟨he1, hm1⟩ := hm.grow (q := fun _ _ => False) hmK.below (fun b o hq => hq.elim)
          exact hK { K with w := K'.w, prot := fun b o => K.prot b o ∨ False } u he1 hm1 (Rel.plain hr (plainB_plain hpl))
        | false =>
          rw [hpl, cond_false] at hev
          simp only [Option.some.injEq, Prod.mk.injEq] at hev
          obtain ⟨rfl, rfl, rfl, rfl⟩ := hev
          obtain ⟨hcast, hclean, hflat, hp'⟩ := hp
          obtain ⟨K1, hw1, ht1, hb1, he1, hm1, hf1⟩ := frz_all (ev := ev) c.args.toList hm
          have hcall := hsound K1.w K1.prot (List.zipWith (fun x t => castM τ st.L t (ev x)) c.args.toList c.argTypes.toList) (c.args.map a.eval) p' r' fr' hm1.tabsK hm1.there hmm hp' (by simp [hln]) (fun j h h' => by
            have hc1 := hclean _ (List.getElem_mem h)
            have hc2 := allP_get hcast j (by simp [← hs]; rw [hln] at h; exact h)
            have hmem : c.args.toList[j]'(by rw [hln] at h; simpa using h) ∈ c.args.toList := List.getElem_mem _
            have := hf1 _ hmem
            simp only [List.getElem_zipWith, Array.getElem_map, Array.getElem_toList] at hc1 hc2 this ⊢
            rw [hw1]
            exact castM_rel hτ hm.boxes (fun b o hb => (he1.cell b o hb).1) (fun o off n b cs hv hb hcs j hj => this o off n b cs hv hb hcs j hj) (hρ _) hc2 hc1)
          unfold owp
          rw [hexec]
          simp only [upO]
          rw [← hw1]
          refine hcall.mono fun e w' ⟨u, K', he, hw, hmK, hr⟩ => ?_
          subst he
          rw [← hw]
          obtain ⟨he2, hm2⟩ := adoptAll hm1 hmK
          have hlen : K1.toks.length = st.T.length := by rw [← hm1.toks]; simp
          have hr2 : Rel { K1 with w := K'.w, prot := K'.prot, toks := K1.toks ++ K'.toks } (r'.up st.T.length) u := Rel.up (n := st.T.length) (K' := K') (K2 := { K1 with w := K'.w, prot := K'.prot, toks := K1.toks ++ K'.toks }) (fun _ _ h => h) (fun k t hk => by
            show (K1.toks ++ K'.toks)[st.T.length + k]? = some t
            rw [← hlen, List.getElem?_append_right (by omega), Nat.add_sub_cancel_left]; exact hk) hr hflat
          exact hK { K1 with w := K'.w, prot := K'.prot, toks := K1.toks ++ K'.toks } u (he1.trans he2) hm2 hr2
      · cases hev
    · cases hev
  · cases hev
theorem castH_rel {t : TypeId} {v : V} {u : Value} (h : Rel K v u) : Rel K (castH τ t v) u := by
  unfold castH
  split
  · exact castV_rel h
  · exact castV_rel h
  · exact h
theorem callP_wp (hΓ : FnsAt P B p0 Γ) {L : List (List V)} {T : List (Nat × TypeId)} (hm : Mem P B p0 K L T) {ev : Operand → V} (hρ : ∀ x, Rel K (ev x) (a.eval x)) {o : Oper} {c : Call} (hop : o.op = .call c) {m : PM} (hh : hpO Γ c = some m)
    {Φ : V → List (List V) → List (Nat × TypeId) → Prop} (hs : c.args.size = c.argTypes.size) (hx : m (List.zipWith (fun x t => castH τ t (ev x)) c.args.toList c.argTypes.toList) L T Φ)
    {Kont : Act → World → Prop} {Q : Exit → Act → World → Prop}
    (hK : ∀ K' u v L' T', Φ v L' T' → Ext K K' → Mem P B p0 K' L' T' → Rel K' v u → Kont (a.put o.dst u) K'.w) : owp P o a K.w Kont Q := by
  unfold hpO at hh
  split at hh
  · rename_i f hc
    obtain ⟨hsound, fn, hfn, hng, hbody⟩ := hΓ.hp f m hh
    have hln : (List.zipWith (fun x t => castH τ t (ev x)) c.args.toList c.argTypes.toList).length = c.args.size := by simp [← hs]
    have hcall := hsound B p0 K L T _ (c.args.map a.eval) Φ hm hx (by simp [hln]) (fun j h h' => by
      simp only [List.getElem_zipWith, Array.getElem_map, Array.getElem_toList]
      exact castH_rel (hρ _))
    have hexec : (execOp a.eval o).run P K.w = .ok (.enter f (c.args.map a.eval)) K.w := by
      have hfe : a.eval (.func f) = .func (.func f) #[] #[] := rfl
      simp [execOp, hop, resolve, hc, hfe, Deferred.ofValue, invoke, callFunc, hfn, hng, hbody]
    unfold owp
    rw [hexec]
    simp only [upO]
    refine hcall.mono fun e w' ⟨u, K', r, L', T', he, hw, hext, hmK, hr, hk⟩ => ?_
    subst he
    rw [← hw]
    exact hK K' u r L' T' hk hext hmK hr
  · cases hh
theorem callV_wp (hΓ : FnsAt P B p0 Γ) {L : List (List V)} {T : List (Nat × TypeId)} (hm : Mem P B p0 K L T) {ev : Operand → V} (hρ : ∀ x, Rel K (ev x) (a.eval x)) {o : Oper} {c : Call} (hop : o.op = .call c) {x : Operand} (hc : c.callee = .value x) {m : PM} {l : List V} (hh : kVal τ Γ ev c.args.toList c.argTypes.toList (ev x) = some (m, l))
    {Φ : V → List (List V) → List (Nat × TypeId) → Prop} (hx : m l L T Φ)
    {Kont : Act → World → Prop} {Q : Exit → Act → World → Prop}
    (hK : ∀ K' u v L' T', Φ v L' T' → Ext K K' → Mem P B p0 K' L' T' → Rel K' v u → Kont (a.put o.dst u) K'.w) : owp P o a K.w Kont Q := by
  have hr := hρ x
  unfold kVal at hh
  split at hh
  · rename_i f first cap hv
    rw [hv] at hr
    unfold kFn at hh
    split at hh
    · rename_i m' hm'
      cases hs : (c.args.toList.length == c.argTypes.toList.length) <;> rw [hs] at hh
      · cases hh
      · simp only [cond_true, Option.some.injEq, Prod.mk.injEq] at hh
        obtain ⟨rfl, rfl⟩ := hh
        have hs' : c.args.size = c.argTypes.size := by simpa using hs
        obtain ⟨hsound, fn, hfn, hng, hbody⟩ := hΓ.hp f m' hm'
        generalize hu : a.eval x = u0 at hr
        cases hr with
        | fn _ _ _ vs us e1 e2 r1 r2 =>
          have hz : (List.zipWith (fun x t => castH τ t (ev x)) c.args.toList c.argTypes.toList).length = c.args.size := by simp [← hs']
          have hcall := hsound B p0 K L T _ ((vs ++ c.args.map a.eval) ++ us) Φ hm hx (by simp [hz, e1, e2]) (fun j h h' => by
            simp only [List.append_assoc, Array.append_assoc] at h h' ⊢
            by_cases h1 : j < first.length
            · rw [List.getElem_append_left h1, Array.getElem_append_left (by omega)]
              exact r1 j h1
            · rw [List.getElem_append_right (by omega), Array.getElem_append_right (by omega)]
              by_cases h2 : j - first.length < c.args.size
              · rw [List.getElem_append_left (by rw [hz]; exact h2), Array.getElem_append_left (by simp; omega)]
                simp only [List.getElem_zipWith, Array.getElem_map, e1]
                have := hρ (c.args.toList[j - first.length]'(by simpa using h2))
                simp only [Array.getElem_toList] at this ⊢
                exact castH_rel this
              · rw [List.getElem_append_right (by rw [hz]; omega), Array.getElem_append_right (by simp; omega)]
                simp only [hz, Array.size_map, e1]
                simp only [List.length_append, hz] at h
                exact r2 _ (by omega))
          have hexec : (execOp a.eval o).run P K.w = .ok (.enter f ((vs ++ c.args.map a.eval) ++ us)) K.w := by
            simp [execOp, hop, resolve, hc, hu, Deferred.ofValue, invoke, callFunc, hfn, hng, hbody]
          unfold owp
          rw [hexec]
          simp only [upO]
          refine hcall.mono fun e w' ⟨u, K', r, L', T', he, hw, hext, hmK, hr, hk⟩ => ?_
          subst he
          rw [← hw]
          exact hK K' u r L' T' hk hext hmK hr
    · cases hh
  · rename_i b hv
    rw [hv] at hr
    unfold kFn at hh
    split at hh
    · rename_i m' hm'
      unfold yPM at hm'
      split at hm'
      · rename_i m0 hm0
        cases hm'
        cases hs : (c.args.toList.length == c.argTypes.toList.length) <;> rw [hs] at hh
        · cases hh
        · simp only [cond_true, Option.some.injEq, Prod.mk.injEq] at hh
          obtain ⟨rfl, rfl⟩ := hh
          have hs' : c.args.size = c.argTypes.size := by simpa using hs
          obtain ⟨⟨hn1, hn2⟩, hx⟩ := hx
          generalize hu : a.eval x = u0 at hr
          cases hr with
          | fn _ _ _ vs us e1 e2 r1 r2 =>
            have hvs : vs = #[] := Array.eq_empty_of_size_eq_zero (by simpa using e1)
            have hus : us = #[] := Array.eq_empty_of_size_eq_zero (by simpa using e2)
            subst hvs hus
            have hz : (List.zipWith (fun x t => castH τ t (ev x)) c.args.toList c.argTypes.toList).length = c.args.size := by simp [← hs']
            obtain ⟨fn, tmps, assign, body, hrun, hround⟩ := hΓ.hy b m0 hm0 p0 (Bs.le.refl _) K L T _ (c.args.map a.eval) Φ (Nat.le_trans hΓ.nb hn1) (Nat.le_trans hΓ.nt hn2) hm hx (by simp [hz]) (fun j h h' => by
              simp only [List.nil_append, List.append_nil, List.getElem_zipWith, Array.getElem_map, Array.getElem_toList]
              exact castH_rel (hρ _))
            have hexec : (execOp a.eval o).run P K.w = .ok (.round b fn tmps assign body) K.w := by
              simp [execOp, hop, resolve, hc, hu, Deferred.ofValue, invoke, hrun]
            unfold owp
            rw [hexec]
            simp only [upO]
            refine hround.mono fun e w' ⟨u, K', r, L', T', he, hw, hext, hmK, hr, hk⟩ => ?_
            subst he
            rw [← hw]
            exact hK K' u r L' T' hk hext hmK hr
      · cases hm'
    · cases hh
  · cases hh
theorem thaw (hm : Mem P B p0 K st.L st.T) {K' : Kw} {n : Nat} {e : TypeId} (hmK : Mem P K.w (Bs.pure K.w K.prot) K' [] [(n, e)]) {l : List UInt8} {u : Value} (hn : n = l.length) (hr : Rel K' (.bytes l (some 0)) u) :
    ∃ K2, K2.w = K'.w ∧ Ext K K2 ∧ Mem P B p0 K2 (st.L ++ [l.map byteV]) st.T ∧ Rel K2 (.mrow e st.L.length 0 l.length) u := by
  obtain ⟨he1, hm1⟩ := hm.grow (q := fun _ _ => False) hmK.below (fun b o hq => hq.elim)
  have hlen := hm.boxes.1
  cases hr with
  | bytes l t A c hc hcm hrd htk =>
  obtain ⟨u', m', e', hk', hn', hv'⟩ := htk
  have hk0 : (n, e) = (m', e') := by
    have := hmK.toks
    have h1 : (K'.toks.map (·.2))[0]? = some (n, e) := by rw [this]; rfl
    rw [List.getElem?_map, hk'] at h1
    simpa using h1.symm
  cases hk0
  have hu := hv' hn.symm
  rcases hmK.tokAt 0 u' n e hk' with ⟨⟨A0, hA0⟩, _⟩ | ⟨g, cap, cur, i, hA0, hc0, hg, hh, hi, hnc, hcm2, hcs, hpr⟩
  · rw [hA0] at hu
    have hl0 : l.length = 0 := by simp only [Value.slice.injEq] at hu; omega
    have hl : l = [] := List.eq_nil_of_length_eq_zero hl0
    subst hl
    obtain ⟨he2, hm2⟩ := hm1.addHole
    exact ⟨{ K with w := K'.w, prot := fun b o => K.prot b o ∨ False, boxes := K.boxes ++ [none] }, rfl, he1.trans he2, hm2, .mrow _ _ _ _ _ _ hc hcm (.inl ⟨rfl, (by simp only [Value.slice.injEq] at hu; exact hu.2.2)⟩)⟩
  · rw [hA0] at hu
    simp only [Value.slice.injEq] at hu
    obtain ⟨rfl, _, rfl⟩ := hu
    have hcell : ∀ j (h : j < l.length), cur[j]? = some (.int .u8 l[j].toNat) := fun j hj => by
      obtain ⟨ad, e1, hp1, hc1⟩ := hrd j hj
      cases e1
      rw [Addr.add_lit, Nat.zero_add, cell_of_row K'.w g j cur e (0, 0) hh] at hc1
      exact hc1
    have hle : l.length ≤ cur.size := by
      rcases Nat.eq_zero_or_pos l.length with h0 | h0
      · omega
      · have := (Array.getElem?_eq_some_iff.1 (hcell (l.length - 1) (by omega))).1; omega
    obtain ⟨he2, hm2⟩ := hm1.addBox (b := g) (cs := l.map byteV) (cur := cur) (ty := e) (by have := hm.below.size; omega) hh (by simpa using hle) (fun j hj => by
        have hj' : j < l.length := by simpa using hj
        have := (Array.getElem?_eq_some_iff.1 (hcell j hj')).2
        rw [this]
        simp only [List.getElem_map, byteV]
        exact ⟨.int _ _, rfl⟩)
      (fun o hp => by rcases hp with hp | hp; (have := hm.there _ _ hp; omega); exact hp) (fun hb => by have := hm.boxes.lt hb; omega) (fun k t hk hb => by have := hm.tokLt hk hb; omega)
    refine ⟨{ K with w := K'.w, prot := fun b o => K.prot b o ∨ False, boxes := K.boxes ++ [some g] }, rfl, he1.trans he2, hm2, .mrow _ _ _ _ _ _ hc hcm (.inr ⟨g, _, rfl, ?_, shape_cells hh, ?_⟩)⟩
    · show (K.boxes ++ [some g])[st.L.length]? = _
      rw [← hlen]; simp
    · have h1 := Nat.le_mul_of_pos_right c hcs.1
      have h2 := hcs.2
      omega
theorem thaw_wp (hΓ : FnsAt P B p0 Γ) (hm : Mem P B p0 K st.L st.T) {ev : Operand → V} (hρ : ∀ x, Rel K (ev x) (a.eval x)) {o : Oper} {c : Call} (hop : o.op = .call c) {p : Prop} {r : V} {L' : List (List V)} {T' : List (Nat × TypeId)} (hev : thawO st.L st.T (evCall τ Γ ev c) = some (p, r, L', T')) (hp : p)
    {Kont : Act → World → Prop} {Q : Exit → Act → World → Prop}
    (hK : ∀ K' u, Ext K K' → Mem P B p0 K' L' T' → Rel K' r u → Kont (a.put o.dst u) K'.w) : owp P o a K.w Kont Q := by
  unfold thawO at hev
  split at hev
  · rename_i p' l n e hcall
    simp only [Option.some.injEq, Prod.mk.injEq] at hev
    obtain ⟨rfl, rfl, rfl, rfl⟩ := hev
    refine call_wp hΓ hm hρ hop hcall hp.2 fun K' u hmK hr hf => ?_
    obtain ⟨K2, hw, he, hm2, hr2⟩ := thaw hm hmK hp.1 hr
    rw [← hw]
    exact hK K2 u he hm2 hr2
  · rename_i p' l rest n e hcall
    simp only [Option.some.injEq, Prod.mk.injEq] at hev
    obtain ⟨rfl, rfl, rfl, rfl⟩ := hev
    refine call_wp hΓ hm hρ hop hcall hp.2 fun K' u hmK hr hf => ?_
    cases hr with
    | tuple l' vs hl hj =>
    have h0 := hj 0 (by simp)
    obtain ⟨K2, hw, he, hm2, hr2⟩ := thaw hm hmK hp.1.1 h0
    rw [← hw]
    refine hK K2 _ he hm2 (.tuple _ vs (by simpa using hl) fun j hj' => ?_)
    cases j with
    | zero => exact hr2
    | succ j =>
      simp only [List.length_cons] at hj'
      have h1 := hj (j + 1) (by simp; omega)
      simp only [List.getElem_cons_succ] at h1 ⊢
      exact Rel.plain h1 (hp.1.2 _ (List.getElem_mem _))
  · cases hev
theorem nilStep_sound (hτ : TyOk P τ) (hm : Mem P B p0 K st.L st.T) {t : TypeId} {v : V} {u : Value} {p : Prop} {r : V} {L' : List (List V)} {T' : List (Nat × TypeId)} (hev : nilStep τ st.L st.T t v = some (p, r, L', T')) (hr : Rel K v u) :
    ∃ K', K'.w = K.w ∧ Ext K K' ∧ Mem P B p0 K' L' T' ∧ Rel K' r u := by
  unfold nilStep at hev
  split at hev
  · rename_i e i hei
    simp only [Option.some.injEq, Prod.mk.injEq] at hev
    obtain ⟨_, rfl, rfl, rfl⟩ := hev
    cases hr
    obtain ⟨he, hm1⟩ := hm.addTok (v := .slice none 0 0) (n := 0) (e := e) (.inl ⟨⟨_, rfl⟩, .inl rfl⟩) (fun b hb => by rw [ownB_zero] at hb; cases hb) (fun k t b _ _ hb => by rw [ownB_zero] at hb; cases hb)
    have hlen : K.toks.length = st.T.length := by rw [← hm.toks]; simp
    have htk : Kw.tokOk { K with toks := K.toks ++ [(Value.slice none 0 0, 0, e)] } (some st.T.length) 0 (.slice none 0 0) := ⟨_, 0, e, by rw [← hlen]; simp, Nat.le_refl _, fun _ => rfl⟩
    refine ⟨{ K with toks := K.toks ++ [(.slice none 0 0, 0, e)] }, rfl, he, hm1, ?_⟩
    split
    · exact bytesV_rd (l := []) (rd_nils .nils) htk
    · exact listV_rd (l := []) (rd_nils .nils) (fun v hv => by cases hv) htk
  · simp only [Option.some.injEq, Prod.mk.injEq] at hev
    obtain ⟨_, rfl, rfl, rfl⟩ := hev
    exact ⟨K, rfl, Ext.refl K, hm, hr⟩
theorem run_wp {o : Oper} {u : Value} {w w' : World} {Kont : Act → World → Prop} {Q : Exit → Act → World → Prop} (h : (execOp a.eval o).run P w = .ok (.value u) w') (hK : Kont (a.put o.dst u) w') : owp P o a w Kont Q := by
  unfold owp
  rw [h]
  exact hK
theorem eff_wp {o : Oper} {s : Sem Value} {v : V} {L' : List (List V)} {T' : List (Nat × TypeId)} (he : Eff P B p0 K s v L' T') (hop : execOp a.eval o = (do pure (.value (← s)) : Sem Next))
    {Kont : Act → World → Prop} {Q : Exit → Act → World → Prop} (hK : ∀ K' u, Ext K K' → Mem P B p0 K' L' T' → Rel K' v u → Kont (a.put o.dst u) K'.w) : owp P o a K.w Kont Q := by
  obtain ⟨K', u, hrun, hext, hm, hr⟩ := he
  refine run_wp (u := u) (w' := K'.w) ?_ (hK K' u hext hm hr)
  rw [hop, Sem.run_bind, hrun]
  rfl
theorem parts_rel {ev : Operand → V} {ρ : Operand → Value} (hρ : ∀ x, Rel K (ev x) (ρ x)) (ps : Array (Nat × Operand)) :
    (ps.toList.map fun x => (x.1, ev x.2)).map (·.1) = (ps.map fun x => (x.1, ρ x.2)).toList.map (·.1) ∧
    ∀ j (h : j < (ps.toList.map fun x => (x.1, ev x.2)).length) (h' : j < (ps.map fun x => (x.1, ρ x.2)).toList.length), Rel K (ps.toList.map fun x => (x.1, ev x.2))[j].2 ((ps.map fun x => (x.1, ρ x.2)).toList[j]).2 := by
  refine ⟨by simp [List.map_map, Function.comp_def], fun j h h' => ?_⟩
  simp only [List.getElem_map, Array.toList_map]
  exact hρ _
theorem stepE_wp (hτ : TyOk P τ) (hΓ : FnsAt P B p0 Γ) {L : List (List V)} {T : List (Nat × TypeId)} (hm : Mem P B p0 K L T) {ev : Operand → V} (hρ : ∀ x, Rel K (ev x) (a.eval x)) {o : Oper} {p : Prop} {v : V} {L' : List (List V)} {T' : List (Nat × TypeId)} {mk : Mk} (hev : stepE τ Γ mk L T ev o.op = some (p, v, L', T')) (hp : p)
    {Kont : Act → World → Prop} {Q : Exit → Act → World → Prop} (hK : ∀ K' u, Ext K K' → Mem P B p0 K' L' T' → Rel K' v u → Kont (a.put o.dst u) K'.w) : owp P o a K.w Kont Q := by
  unfold stepE at hev
  split at hev
  · rename_i t x hnil
    have hop : o.op = .assign x := by unfold nilOf at hnil; split at hnil <;> simp at hnil; simp_all
    obtain ⟨K', hw, he, hm', hr⟩ := nilStep_sound (st := ⟨[], L, T⟩) hτ hm hev (hρ x)
    refine run_wp (u := a.eval x) (w' := K.w) (by simp [execOp, hop]) ?_
    rw [← hw]
    exact hK K' _ he hm' hr
  split at hev
  · rename_i p' v' hpure
    simp only [Option.some.injEq, Prod.mk.injEq] at hev
    obtain ⟨rfl, rfl, rfl, rfl⟩ := hev
    obtain ⟨u, hrun, hr⟩ := evalPure_sound hτ hm.boxes hρ hpure hp
    exact run_wp hrun (hK K u (Ext.refl K) hm hr)
  · unfold evalEff at hev
    split at hev
    · rename_i c hop
      split at hev
      · rename_i s x t t2 hc ha ht
        have ha' : c.args = #[s, x] := by rw [← Array.toList_inj]; simpa using ha
        have ht' : c.argTypes = #[t, t2] := by rw [← Array.toList_inj]; simpa using ht
        cases hmu : mk.isRow with
        | false =>
          rw [hmu] at hev
          refine eff_wp (append_sound (ty := o.type) hτ hm hev hp (hρ s) (hρ x)) ?_ hK
          simp [execOp, hop, resolve, hc, ha', ht', invoke, builtin]
        | true =>
          rw [hmu] at hev
          refine eff_wp (appendM_sound (ty := o.type) hτ hm hev hp (hρ s) (hρ x)) ?_ hK
          simp [execOp, hop, resolve, hc, ha', ht', invoke, builtin]
      · rename_i d s t t2 hc ha ht
        have ha' : c.args = #[d, s] := by rw [← Array.toList_inj]; simpa using ha
        have ht' : c.argTypes = #[t, t2] := by rw [← Array.toList_inj]; simpa using ht
        refine eff_wp (copy_sound (t2 := t2) (ty := o.type) hτ hm hev hp (hρ d) (hρ s)) ?_ hK
        simp [execOp, hop, resolve, hc, ha', ht', invoke, builtin]
      · rename_i m k t t2 hc ha ht
        have ha' : c.args = #[m, k] := by rw [← Array.toList_inj]; simpa using ha
        have ht' : c.argTypes = #[t, t2] := by rw [← Array.toList_inj]; simpa using ht
        refine eff_wp (delete_sound (t2 := t2) (ty := o.type) hτ hm hev (hρ m) (hρ k)) ?_ hK
        simp [execOp, hop, resolve, hc, ha', ht', invoke, builtin]
      · rename_i hno hno2 hno3
        cases hM : hasM ev c with
        | true =>
          simp only [hM, cond_true] at hev
          exact callM_wp (st := ⟨[], L, T⟩) hτ hΓ hm hρ hop hev hp fun K' u he hm2 hr2 => hK K' u he hm2 hr2
        | false =>
        simp only [hM, cond_false] at hev
        cases hmu : mk.isRow with
        | true =>
          rw [hmu, cond_true] at hev
          exact thaw_wp (st := ⟨[], L, T⟩) hΓ hm hρ hop hev hp fun K' u he hm2 hr2 => hK K' u he hm2 hr2
        | false =>
        rw [hmu, cond_false] at hev
        simp only [Option.map_eq_some_iff, Prod.mk.injEq] at hev
        obtain ⟨⟨p', r, fr⟩, hcall, rfl, rfl, rfl, rfl⟩ := hev
        refine call_wp (st := ⟨[], L, T⟩) hΓ hm hρ hop hcall hp fun K' u hmK hr hf => ?_
        obtain ⟨he, hm2⟩ := adoptAll hm hmK
        have hlen : K.toks.length = T.length := by rw [← hm.toks]; simp
        have hr2 : Rel { K with w := K'.w, prot := K'.prot, toks := K.toks ++ K'.toks } (r.up T.length) u := Rel.up (n := T.length) (K' := K') (K2 := { K with w := K'.w, prot := K'.prot, toks := K.toks ++ K'.toks }) (fun _ _ h => h) (fun k t hk => by
          show (K.toks ++ K'.toks)[T.length + k]? = some t
          rw [← hlen, List.getElem?_append_right (by omega), Nat.add_sub_cancel_left]; exact hk) hr hf
        exact hK { K with w := K'.w, prot := K'.prot, toks := K.toks ++ K'.toks } u he hm2 hr2
    · rename_i src dst x hop
      exact eff_wp (mark_sound hτ hm hev hp (hρ x)) (by simp [execOp, hop]) hK
    · rename_i t l c hop
      cases hmu : mk.isRow with
      | false =>
        rw [hmu] at hev
        exact eff_wp (make_sound hτ hm hev hp (hρ l) (hρ c)) (by simp [execOp, hop]) hK
      | true =>
        rw [hmu] at hev
        exact eff_wp (makeM_sound hτ hm hev hp (hρ l) (hρ c)) (by simp [execOp, hop]) hK
    · rename_i t len parts hop
      obtain ⟨e1, e2⟩ := parts_rel hρ parts
      exact eff_wp (buildSlice_sound hτ hm hev hp e1 e2) (by simp [execOp, hop]) hK
    · rename_i t parts hop
      simp only [Option.map_eq_some_iff, Prod.mk.injEq] at hev
      obtain ⟨⟨p', v'⟩, hb, rfl, rfl, rfl, rfl⟩ := hev
      obtain ⟨e1, e2⟩ := parts_rel hρ parts
      obtain ⟨u, hrun, hr⟩ := build_sound (P := P) hτ hb e1 e2
      exact eff_wp ⟨K, u, hrun, Ext.refl K, hm, hr⟩ (by simp [execOp, hop]) hK
    · rename_i e x hop
      exact eff_wp (box_sound (e := e) hm hev (hρ x)) (by simp [execOp, hop]) hK
    · rename_i e hop
      exact eff_wp (alloc_sound hτ hm hev) (by simp [execOp, hop]) hK
    · rename_i t x y hop
      obtain ⟨K', hrun, he, hm', rfl⟩ := store_sound hτ hm hev hp (hρ x) (hρ y)
      unfold owp
      have hexec : (execOp a.eval o).run P K.w = .ok .skip K'.w := by simp [execOp, hop, hrun]
      rw [hexec]
      exact hK K' _ he hm' .undef
    · rename_i t m k x hop
      obtain ⟨K', hrun, he, hm', rfl⟩ := mapUpdate_sound hτ hm hev (hρ m) (hρ k) (hρ x)
      unfold owp
      have hexec : (execOp a.eval o).run P K.w = .ok .skip K'.w := by simp [execOp, hop, hrun]
      rw [hexec]
      exact hK K' _ he hm' .undef
    · rename_i t hop
      exact eff_wp (makeMap_sound hτ hm hev) (by simp [execOp, hop]) hK
    · rename_i t x hop
      exact eff_wp (range_sound hτ hm hev (hρ x)) (by simp [execOp, hop]) hK
    · cases hev
theorem execE_wp (hτ : TyOk P τ) (hΓ : FnsAt P B p0 Γ) {L : List (List V)} {T : List (Nat × TypeId)} (hm : Mem P B p0 K L T) {ev : Operand → V} (hρ : ∀ x, Rel K (ev x) (a.eval x)) {o : Oper} {mk : Mk} {Φ : V → List (List V) → List (Nat × TypeId) → Prop} (hx : execE τ Γ mk L T ev o.op Φ)
    {Kont : Act → World → Prop} {Q : Exit → Act → World → Prop} (hK : ∀ K' u v L' T', Φ v L' T' → Ext K K' → Mem P B p0 K' L' T' → Rel K' v u → Kont (a.put o.dst u) K'.w) : owp P o a K.w Kont Q := by
  unfold execE at hx
  split at hx
  · rename_i m c hc
    unfold pCall at hc
    split at hc
    · rename_i c' hop
      split at hc
      · rename_i m' hh
        simp only [Option.some.injEq, Prod.mk.injEq] at hc
        obtain ⟨rfl, rfl⟩ := hc
        exact callP_wp hΓ hm hρ hop hh hx.1 hx.2 hK
      · cases hc
    · cases hc
  · split at hx
    · rename_i m as hk
      by_cases hval : ∃ c t, o.op = .call c ∧ c.callee = .value (.tmp t)
      · obtain ⟨c, t, hop, hc⟩ := hval
        rw [hop] at hk
        simp only [kOp, kCall, hc] at hk
        exact callV_wp hΓ hm hρ hop hc hk hx hK
      obtain ⟨K', u, v, L', T', hrun, hΦ, he, hm', hr⟩ : ∃ K' u v L' T', (execOp a.eval o).run P K.w = .ok (.value u) K'.w ∧ Φ v L' T' ∧ Ext K K' ∧ Mem P B p0 K' L' T' ∧ Rel K' v u := by
        have up : ∀ {s : Sem Value}, execOp a.eval o = (do pure (.value (← s)) : Sem Next) → (∃ K' u v L' T', s.run P K.w = .ok u K'.w ∧ Φ v L' T' ∧ Ext K K' ∧ Mem P B p0 K' L' T' ∧ Rel K' v u) →
            ∃ K' u v L' T', (execOp a.eval o).run P K.w = .ok (.value u) K'.w ∧ Φ v L' T' ∧ Ext K K' ∧ Mem P B p0 K' L' T' ∧ Rel K' v u := by
          rintro s e ⟨K', u, v, L', T', h1, h2⟩
          exact ⟨K', u, v, L', T', by rw [e, Sem.run_bind, h1]; rfl, h2⟩
        unfold kOp at hk
        split at hk
        · rename_i x hop
          cases hk
          exact up (by simp [execOp, hop]) (next_sound (ty := o.type) hm hx (hρ x))
        · rename_i c hop
          unfold kCall at hk
          split at hk
          · exact absurd ⟨c, _, hop, by assumption⟩ hval
          · rename_i s x t t2 hc ha ht
            have ha' : c.args = #[s, x] := by rw [← Array.toList_inj]; simpa using ha
            have ht' : c.argTypes = #[t, t2] := by rw [← Array.toList_inj]; simpa using ht
            have hop' : execOp a.eval o = (do pure (.value (← Builtin.append_ #[t, t2] o.type #[a.eval s, a.eval x])) : Sem Next) := by
              simp [execOp, hop, resolve, hc, ha', ht', invoke, builtin]
            cases hg : growV mk.isGrow (ev s) <;> rw [hg] at hk
            · simp only [cond_false] at hk
              cases hsl : isSlab (ev s) (ev x) <;> rw [hsl] at hk
              · simp only [cond_false] at hk
                cases hv : isVrow (ev x) <;> rw [hv] at hk
                · cases hk
                · cases hk
                  exact up hop' (cloneP_sound hτ hm hx (hρ s) (hρ x))
              · cases hk
                exact up hop' (slabP_sound hτ hm hx (hρ s) (hρ x))
            · cases hk
              exact up hop' (growP_sound hτ hm hx (hρ s) (hρ x))
          · cases hk
        · cases hk
      exact run_wp hrun (hK K' u v L' T' hΦ he hm' hr)
    · split at hx
      · rename_i p v L' T' hev
        exact stepE_wp hτ hΓ hm hρ hev hx.1 fun K' u he hm' hr => hK K' u v L' T' hx.2 he hm' hr
      · exact hx.elim
def awpIf (b : Bool) (X Y : Prop) : Prop := (b = true → X) ∧ (b = false → Y)
theorem awpIf_intro {b : Bool} {X Y : Prop} (h : b = true → X) (g : b = false → Y) : awpIf b X Y := ⟨h, g⟩
theorem awpIf_true {X Y : Prop} (h : X) : awpIf true X Y := ⟨fun _ => h, fun e => (by cases e)⟩
theorem awpIf_false {X Y : Prop} (h : Y) : awpIf false X Y := ⟨fun e => (by cases e), fun _ => h⟩
def awpMay (p q X Y : Prop) : Prop := (p → X) ∧ (q → Y)
theorem awpMay_intro {p q X Y : Prop} (h : p → X) (g : q → Y) : awpMay p q X Y := ⟨h, g⟩
def awpExec (τ : Tys) (Γ : Fns) (op : Op) (d : Option Tmp) (st : St) (K : St → Prop) : Prop :=
  execE τ Γ (muO Γ d) st.L st.T (evOp st.ρ) op fun v L T => K ⟨setO st.ρ d v, L, T⟩
def awpOps (τ : Tys) (Γ : Fns) (ops : Array Oper) : List Oper → (St → Prop) → St → Prop
  | [], K, st => K st
  | o :: rest, K, st =>
    match o.guard with
    | none => awpExec τ Γ o.op o.dst st (awpOps τ Γ ops rest K)
    | some (j, want) =>
      match (ops[j]?).bind (·.dst) with
      | none => False
      | some d =>
        match st.ρ[d]? with
        | some (.bool b) =>
          awpIf b
            (bif want then awpExec τ Γ o.op o.dst { st with ρ := st.ρ.set d (.bool true) } (awpOps τ Γ ops rest K) else awpOps τ Γ ops rest K { st with ρ := setO (st.ρ.set d (.bool true)) o.dst .undef })
            (bif want then awpOps τ Γ ops rest K { st with ρ := setO (st.ρ.set d (.bool false)) o.dst .undef } else awpExec τ Γ o.op o.dst { st with ρ := st.ρ.set d (.bool false) } (awpOps τ Γ ops rest K))
        | some (.may p q) =>
          awpMay p q (bif want then awpExec τ Γ o.op o.dst { st with ρ := st.ρ.set d (.bool true) } (awpOps τ Γ ops rest K) else awpOps τ Γ ops rest K { st with ρ := setO (st.ρ.set d (.bool true)) o.dst .undef })
            (bif want then awpOps τ Γ ops rest K { st with ρ := setO (st.ρ.set d (.bool false)) o.dst .undef } else awpExec τ Γ o.op o.dst { st with ρ := st.ρ.set d (.bool false) } (awpOps τ Γ ops rest K))
        | some .undef => awpOps τ Γ ops rest K { st with ρ := setO st.ρ o.dst .undef }
        | _ => False
theorem set_same {ρ : List V} {d : Nat} {b b' : Bool} (h : ρ[d]? = some (.bool b)) (hb : b = b') : ρ.set d (.bool b') = ρ := by
  obtain ⟨hlt, he⟩ := List.getElem?_eq_some_iff.1 h
  rw [← hb, ← he, List.set_getElem_self]
theorem yielded_bool (h : Inv P B p0 K st a) {ops : Array Oper} {j d : Nat} {b : Bool} (hd : (ops[j]?).bind (·.dst) = some d) (hb : st.ρ[d]? = some (.bool b)) : yielded ops a.tmps j = some b := by
  obtain ⟨hlt, he⟩ := List.getElem?_eq_some_iff.1 hb
  have hlt' : d < a.tmps.size := by rw [h.size]; exact hlt
  have := h.slots d hlt hlt'
  rw [he] at this
  cases hv : a.tmps[d] <;> rw [hv] at this <;> cases this
  simp [yielded, hd, Array.getElem?_eq_getElem hlt', hv]
theorem inv_may (h : Inv P B p0 K st a) {d : Nat} {p q : Prop} (hb : st.ρ[d]? = some (.may p q)) :
    ∃ b : Bool, Inv P B p0 K { st with ρ := st.ρ.set d (.bool b) } a ∧ (b = true → p) ∧ (b = false → q) := by
  obtain ⟨hlt, e⟩ := List.getElem?_eq_some_iff.1 hb
  have hlt' : d < a.tmps.size := by rw [h.size]; exact hlt
  have hr := h.slots d hlt hlt'
  rw [e] at hr
  obtain ⟨b, hv, hp, hq⟩ : ∃ b : Bool, a.tmps[d] = .bool b ∧ (b = true → p) ∧ (b = false → q) := by
    generalize a.tmps[d] = v at hr
    cases hr with
    | may _ _ b hp hq => exact ⟨b, rfl, hp, hq⟩
  refine ⟨b, ⟨h.mem, by simp [h.size], fun i hi hi' => ?_, h.defers⟩, hp, hq⟩
  simp only [List.length_set] at hi
  by_cases e1 : d = i
  · subst e1
    rw [List.getElem_set_self, hv]
    exact .bool b
  · rw [List.getElem_set_ne e1]
    exact h.slots i hi hi'
theorem yielded_undef (h : Inv P B p0 K st a) {ops : Array Oper} {j d : Nat} (hd : (ops[j]?).bind (·.dst) = some d) (hb : st.ρ[d]? = some .undef) : yielded ops a.tmps j = none := by
  obtain ⟨hlt, he⟩ := List.getElem?_eq_some_iff.1 hb
  have hlt' : d < a.tmps.size := by rw [h.size]; exact hlt
  have := h.slots d hlt hlt'
  rw [he] at this
  have hu : ∀ v, Rel K .undef v → v = Go.undef := fun v h => by cases h; rfl
  have hv := hu _ this
  simp [yielded, hd, Array.getElem?_eq_getElem hlt', hv, Go.undef, noResult]
theorem ops_wp (hτ : TyOk P τ) (hΓ : FnsAt P B p0 Γ) {ops : Array Oper} {Kont : St → Prop} {Q : Exit → Act → World → Prop} (hQ : ∀ K st a, Inv P B p0 K st a → Kont st → Q .normal a K.w) :
    ∀ (l : List Oper) (K : Kw) (st : St) (a : Act), Inv P B p0 K st a → awpOps τ Γ ops l Kont st → wpListIn (WR ro) 0 P ops Q l a K.w
  | [], K, st, a, h, hk => wpListIn_nil (hQ K st a h hk)
  | o :: rest, K, st, a, h, hk => by
    have exec : ∀ st', Inv P B p0 K st' a → awpExec τ Γ o.op o.dst st' (awpOps τ Γ ops rest Kont) → owp P o a K.w (wpListIn (WR ro) 0 P ops Q rest) Q := by
      intro st' h' hx
      exact execE_wp hτ hΓ h'.mem h'.ev hx fun K' u v L' T' hk he hm' hr => ops_wp hτ hΓ hQ rest K' _ _ (h'.put he hm' hr o.dst) hk
    have skip : ∀ st', Inv P B p0 K st' a → awpOps τ Γ ops rest Kont { st' with ρ := setO st'.ρ o.dst .undef } → wpListIn (WR ro) 0 P ops Q rest (a.put o.dst undef) K.w := by
      intro st' h' hx
      exact ops_wp hτ hΓ hQ rest K _ _ (h'.put (Ext.refl K) h'.mem .undef o.dst) hx
    unfold awpOps at hk
    unfold wpListIn
    split at hk
    · rename_i hg
      rw [if_pos (by simp [Region.wanted, hg])]
      exact owp_in (exec st h hk) _ _
    · rename_i j want hg
      split at hk
      · exact hk.elim
      · rename_i d hd
        split at hk
        · rename_i b hb
          have hy := yielded_bool h hd hb
          cases b
          · have hk := hk.2 rfl
            rw [set_same hb rfl] at hk
            cases want
            · rw [if_pos (by simp [Region.wanted, hg, hy])]
              exact owp_in (exec st h hk) _ _
            · rw [if_neg (by simp [Region.wanted, hg, hy])]
              exact ⟨fun _ _ => trivial, skip st h hk⟩
          · have hk := hk.1 rfl
            rw [set_same hb rfl] at hk
            cases want
            · rw [if_neg (by simp [Region.wanted, hg, hy])]
              exact ⟨fun _ _ => trivial, skip st h hk⟩
            · rw [if_pos (by simp [Region.wanted, hg, hy])]
              exact owp_in (exec st h hk) _ _
        · rename_i p q hb
          obtain ⟨b, h', hpq⟩ := inv_may h hb
          have hlt : d < st.ρ.length := (List.getElem?_eq_some_iff.1 hb).1
          have hy := yielded_bool h' hd (by rw [List.getElem?_set_self hlt])
          cases b
          · have hk := hk.2 (hpq.2 rfl)
            cases want
            · rw [if_pos (by simp [Region.wanted, hg, hy])]
              exact owp_in (exec _ h' hk) _ _
            · rw [if_neg (by simp [Region.wanted, hg, hy])]
              exact ⟨fun _ _ => trivial, skip _ h' hk⟩
          · have hk := hk.1 (hpq.1 rfl)
            cases want
            · rw [if_neg (by simp [Region.wanted, hg, hy])]
              exact ⟨fun _ _ => trivial, skip _ h' hk⟩
            · rw [if_pos (by simp [Region.wanted, hg, hy])]
              exact owp_in (exec _ h' hk) _ _
        · rename_i hb
          have hy := yielded_undef h hd hb
          rw [if_neg (by simp [Region.wanted, hg, hy])]
          exact ⟨fun _ _ => trivial, skip st h hk⟩
        · exact hk.elim
end
end Go.Proofs.YtckmcglkjfkghaaDoor.Aw
