import Derived.Test.YtckmcglkjfkghaaDoorAw2
import Derived.Laws.BytesString
import Derived.MapKept
namespace Go.Proofs.YtckmcglkjfkghaaDoor.Aw
open Go Go.RowKit
set_option linter.unusedVariables false
set_option linter.unusedSimpArgs false
def cellV (l : List V) (off : Nat) : Option V := match l[off]? with | some (.agg _) => none | x => x
def partV (τ : Tys) (t : TypeId) (l : List V) (off : Nat) : Option V :=
  match τ t with
  | some i => if i.isAgg then (if off + i.size ≤ l.length then some (.agg ((l.drop off).take i.size)) else none) else cellV l off
  | none => none
def loadV (τ : Tys) (t : TypeId) (v : V) : Option V :=
  match τ t with
  | some i => if i.isAgg then (match v with | .agg l => if l.length = i.size then some v else none | _ => none) else (match v with | .agg _ => none | _ => if i.size = 1 then some v else none)
  | none => none
def sizeV (τ : Tys) (t : TypeId) : Nat := match τ t with | some i => i.size | none => 0
def lenV : V → Option Nat
  | .bytes l _ => some l.length
  | .list _ l _ => some l.length
  | .nils => some 0
  | .str l => some l.length
  | _ => none
def sliceV (x : V) (lo hi : Option V) : Option (Prop × V) :=
  match x, lo, hi with
  | .bytes l _, none, none => some (True, .bytes l none)
  | .bytes l _, some (.int _ a), none => some (0 ≤ a ∧ a ≤ (l.length : Int), .bytes (l.drop a.toNat) none)
  | .bytes l _, none, some (.int _ b) => some (0 ≤ b ∧ b ≤ (l.length : Int), .bytes (l.take b.toNat) none)
  | .bytes l _, some (.int _ a), some (.int _ b) => some (0 ≤ a ∧ a ≤ b ∧ b ≤ (l.length : Int), .bytes ((l.take b.toNat).drop a.toNat) none)
  | .list sz l _, none, none => some (True, .list sz l none)
  | .list sz l _, some (.int _ a), none => some (0 ≤ a ∧ a ≤ (l.length : Int), .list sz (l.drop a.toNat) none)
  | .list sz l _, none, some (.int _ b) => some (0 ≤ b ∧ b ≤ (l.length : Int), .list sz (l.take b.toNat) none)
  | .list sz l _, some (.int _ a), some (.int _ b) => some (0 ≤ a ∧ a ≤ b ∧ b ≤ (l.length : Int), .list sz ((l.take b.toNat).drop a.toNat) none)
  | .str l, none, none => some (True, .str l)
  | .str l, some (.int _ a), none => some (0 ≤ a ∧ a ≤ (l.length : Int), .str (l.drop a.toNat))
  | .str l, none, some (.int _ b) => some (0 ≤ b ∧ b ≤ (l.length : Int), .str (l.take b.toNat))
  | .str l, some (.int _ a), some (.int _ b) => some (0 ≤ a ∧ a ≤ b ∧ b ≤ (l.length : Int), .str ((l.take b.toNat).drop a.toNat))
  | _, _, _ => none
def kindV (τ : Tys) (t : TypeId) : Option TyK := (τ t).map TyI.kind
def evPick (c a b : V) : Option (Prop × V) :=
  match c, a, b with
  | .bool c, .bool a, .bool b => some (True, .bool (bif c then a else b))
  | .bool c, a, b => some (True, bif c then a else b)
  | _, _, _ => none
def intsOf (k : IntKind) : List V → Option (List Int)
  | [] => some []
  | .int k' n :: r => if k' = k then (intsOf k r).map (n :: ·) else none
  | _ => none
def evArrEq (τ : Tys) (t : TypeId) (a b : List V) : Option (Prop × Bool) :=
  match kindV τ t with
  | some (.array n e) => match kindV τ e with
    | some (.int k) => if sizeV τ e = 1 ∧ a.length = n ∧ b.length = n then match intsOf k a, intsOf k b with
      | some x, some y => some (True, decide (x = y))
      | _, _ => none
      else none
    | _ => none
  | _ => none
def nilV (k : TyK) (x : V) : Option V :=
  match k, x with
  | .slice _, .nils => some (.bool true)
  | .slice _, .zero => some (.may True True)
  | .slice _, .bytes l _ => some (.may (l = []) True)
  | .slice _, .list sz l _ => some (.may (l = [] ∨ sz = 0) True)
  | .slice _, .mrow _ _ _ n => some (.may (n = 0) True)
  | .slice _, .vrow _ _ _ n => some (.may (n = 0) True)
  | .ptr _, .box _ _ => some (.bool false)
  | .ptr _, .ref _ => some (.bool false)
  | .map _ _, .mref _ => some (.bool false)
  | .ptr _, .raw (.pointer none) => some (.bool true)
  | .map _ _, .raw (.map none) => some (.bool true)
  | .func, .fn _ _ _ => some (.bool false)
  | .func, .raw .nilFunc => some (.bool true)
  | _, _ => none
def isNilV (k : TyK) (y : V) : Bool :=
  match k, y with
  | .slice _, .nils => true
  | .ptr _, .raw (.pointer none) => true
  | .map _ _, .raw (.map none) => true
  | .func, .raw .nilFunc => true
  | _, _ => false
def negV : V → V
  | .may p q => .may q p
  | .bool b => .bool (!b)
  | v => v
def evNil (op : BinOp) (k : Option TyK) (x y : V) : Option (Prop × V) :=
  match k, op with
  | some k, .eql => bif isNilV k y then (nilV k x).map fun v => (True, v) else none
  | some k, .neq => bif isNilV k y then (nilV k x).map fun v => (True, negV v) else none
  | _, _ => none
def evBin (τ : Tys) (op : BinOp) (t : TypeId) (x y : V) : Option (Prop × V) :=
  match x, y with
  | .int k a, .int k' b => binInt op k a k' b
  | .str a, .str b => binStr op a b
  | .bool a, .bool b =>
    match kindV τ t, op with
    | some .bool, .eql => some (True, .bool (a == b))
    | some .bool, .neq => some (True, .bool (!(a == b)))
    | _, _ => none
  | .agg a, .agg b =>
    match op with
    | .eql => (evArrEq τ t a b).map fun x => (x.1, .bool x.2)
    | .neq => (evArrEq τ t a b).map fun x => (x.1, .bool (!x.2))
    | _ => none
  | x, y => evNil op (kindV τ t) x y
def evUn (op : UnOp) (x : V) : Option (Prop × V) :=
  match op, x with
  | .neg, .int k n => some (True, .int k (k.wrap (0 - n)))
  | .xor, .int k n => some (True, .int k (notK k n))
  | .not, .bool b => some (True, .bool (!b))
  | .not, .may p q => some (True, .may q p)
  | _, _ => none
def isBytes (τ : Tys) (t : TypeId) : Bool :=
  match kindV τ t with
  | some (.slice e) => match kindV τ e with | some (.int .u8) => true | _ => false
  | _ => false
def evConv (τ : Tys) (src dst : TypeId) (x : V) : Option (Prop × V) :=
  match kindV τ dst, x with
  | some (.int k), .int _ n => if (τ src).isSome then some (True, .int k (k.wrap n)) else none
  | some .str, .str l => if (τ src).isSome then some (True, .str l) else none
  | some .str, .bytes l _ => if isBytes τ src then some (True, .str l) else none
  | some .str, .nils => if isBytes τ src then some (True, .str []) else none
  | some .str, .zero => if isBytes τ src then some (True, .str []) else none
  | _, _ => none
def byteV (b : UInt8) : V := .int .u8 b.toNat
def unbyte : V → UInt8
  | .int .u8 n => UInt8.ofNat n.toNat
  | _ => 0
def evConvL (τ : Tys) (L : List (List V)) (src dst : TypeId) (x : V) : Option (Prop × V) :=
  match x with
  | .mrow em o off n => match kindV τ dst with
    | some .str => if isBytes τ src then match L[o]? with
      | some cs => some (off + n ≤ cs.length ∧ (((cs.drop off).take n).map unbyte).map byteV = (cs.drop off).take n, .str (((cs.drop off).take n).map unbyte))
      | none => none
      else none
    | _ => none
  | .vrow em sz o n => match kindV τ dst with
    | some .str => if isBytes τ src then match L[o]? with
      | some cs => some (n ≤ cs.length ∧ ((cs.take n).map unbyte).map byteV = cs.take n, .str ((cs.take n).map unbyte))
      | none => none
      else none
    | _ => none
  | x => evConv τ src dst x
def evExtract (x : V) (i : Nat) : Option (Prop × V) :=
  match x with
  | .tuple l => (l[i]?).map fun v => (True, v)
  | _ => none
def evLen (τ : Tys) (t : TypeId) (x : V) : Option (Prop × V) :=
  match kindV τ t, x with
  | some (.slice _), .bytes l _ => some (True, .int .i64 l.length)
  | some (.slice _), .list _ l _ => some (True, .int .i64 l.length)
  | some (.slice _), .nils => some (True, .int .i64 0)
  | some (.slice _), .zero => some (True, .int .i64 0)
  | some (.slice _), .mrow _ _ _ n => some (True, .int .i64 n)
  | some (.slice _), .vrow _ _ _ n => some (True, .int .i64 n)
  | some .str, .str l => some (True, .int .i64 l.length)
  | some (.array n _), _ => some (True, .int .i64 n)
  | _, _ => none
def evMin (x y : V) : Option (Prop × V) :=
  match x, y with
  | .int k a, .int _ b => some (True, .int k (if b < a then b else a))
  | _, _ => none
def evMax (x y : V) : Option (Prop × V) :=
  match x, y with
  | .int k a, .int _ b => some (True, .int k (if a < b then b else a))
  | _, _ => none
def evIndexAddr (τ : Tys) (t : TypeId) (x i : V) : Option (Prop × V) :=
  match kindV τ t, x, i with
  | some (.slice e), .bytes l _, .int _ j => if sizeV τ e = 1 then some (0 ≤ j ∧ j < (l.length : Int), .ref (.int .u8 (l.getD j.toNat 0).toNat)) else none
  | some (.slice e), .list sz l _, .int _ j => if sizeV τ e = sz ∧ 0 < sz then some (0 ≤ j ∧ j < (l.length : Int), .ref (l.getD j.toNat .any)) else none
  | some (.array n e), .box o off, .int _ j => if 0 < sizeV τ e then some (0 ≤ j ∧ j < (n : Int), .box o (off + j.toNat * sizeV τ e)) else none
  | some (.slice e), .mrow em o off n, .int _ j => if 0 < sizeV τ e then some (0 ≤ j ∧ j < (n : Int), .box o (off + j.toNat * sizeV τ e)) else none
  | some (.slice e), .vrow em sz o n, .int _ j => if 0 < sizeV τ e then some (0 ≤ j ∧ j < (n : Int), .box o (j.toNat * sizeV τ e)) else none
  | _, _, _ => none
def V.isAgg : V → Bool
  | .agg _ => true
  | _ => false
def loadBox (τ : Tys) (t : TypeId) (cs : List V) (off : Nat) : Option (Prop × V) :=
  match τ t with
  | some i =>
    if i.isAgg then some (off + i.size ≤ cs.length, .agg ((cs.drop off).take i.size))
    else bif (cs.getD off i.zeroV).isAgg then none else some (off < cs.length, cs.getD off i.zeroV)
  | none => none
def evLoad (τ : Tys) (L : List (List V)) (t : TypeId) (a : V) : Option (Prop × V) :=
  match a with
  | .ref v => (loadV τ t v).map fun v => (True, v)
  | .box o off => match L[o]? with
    | some cs => loadBox τ t cs off
    | none => none
  | _ => none
def evLoadR (τ : Tys) (L : List (List V)) (t : TypeId) (a : V) : Option (Prop × V) :=
  match a with
  | .ref v => (loadV τ t v).map fun v => (True, v)
  | .box o off => match L[o]? with
    | some cs => (partV τ t cs off).map fun v => (True, v)
    | none => none
  | _ => none
def evFieldAddr (τ : Tys) (s : TypeId) (x : V) (f : Nat) : Option (Prop × V) :=
  match kindV τ s, x with
  | some (.struct fs), .ref (.agg l) => match fs[f]? with
    | some (off, ft) => if sizeV τ ft = 0 then none else (partV τ ft l off).map fun v => (True, .ref v)
    | none => none
  | some (.struct fs), .box o off0 => match fs[f]? with
    | some (off, ft) => if sizeV τ ft = 0 then none else some (True, .box o (off0 + off))
    | none => none
  | _, _ => none
def evField (τ : Tys) (t : TypeId) (x : V) (f : Nat) : Option (Prop × V) :=
  match kindV τ t, x with
  | some (.struct fs), .agg l => match fs[f]? with
    | some (off, ft) => (partV τ ft l off).map fun v => (True, v)
    | none => none
  | _, _ => none
def evIndex (τ : Tys) (t : TypeId) (x i : V) : Option (Prop × V) :=
  match kindV τ t, x, i with
  | some .str, .str l, .int _ j => some (0 ≤ j ∧ j < (l.length : Int), .int .u8 (l.getD j.toNat 0).toNat)
  | some (.array n e), .agg l, .int _ j => if 0 ≤ j ∧ j < (n : Int) then (partV τ e l (j.toNat * sizeV τ e)).map fun v => (True, v) else none
  | _, _, _ => none
def sliceM (em : TypeId) (o off n : Nat) (lo hi : Option V) : Option (Prop × V) :=
  match lo, hi with
  | none, none => some (True, .mrow em o off n)
  | some (.int _ a), none => some (0 ≤ a ∧ a ≤ (n : Int), .mrow em o (off + a.toNat) (n - a.toNat))
  | none, some (.int _ b) => some (0 ≤ b ∧ b ≤ (n : Int), .mrow em o off b.toNat)
  | some (.int _ a), some (.int _ b) => some (0 ≤ a ∧ a ≤ b ∧ b ≤ (n : Int), .mrow em o (off + a.toNat) (b.toNat - a.toNat))
  | _, _ => none
def evSlice (τ : Tys) (t : TypeId) (x : V) (lo hi : Option V) : Option (Prop × V) :=
  match kindV τ t, x with
  | some (.slice e), .bytes l k => if sizeV τ e = 1 then sliceV (.bytes l k) lo hi else none
  | some (.slice e), .list sz l k => if sizeV τ e = sz ∧ 0 < sz then sliceV (.list sz l k) lo hi else none
  | some .str, .str l => sliceV (.str l) lo hi
  | some (.slice e), .mrow em o off n => if sizeV τ e = 1 then sliceM em o off n lo hi else none
  | some (.slice e), .vrow em sz o n => match lo, hi with
    | none, some (.int _ b) => if sizeV τ e = sz ∧ 0 < sz then some (0 ≤ b ∧ b ≤ (n : Int), .vrow em sz o b.toNat) else none
    | none, none => if sizeV τ e = sz ∧ 0 < sz then some (True, .vrow em sz o n) else none
    | _, _ => none
  | some (.slice e), .nils => match lo, hi with
    | none, some (.int _ b) => if sizeV τ e = sizeV τ e ∧ 0 < sizeV τ e then some (0 ≤ b ∧ b ≤ ((0 : Nat) : Int), .nils) else none
    | _, _ => none
  | _, _ => none
def evSlice3 (τ : Tys) (t : TypeId) (x lo hi mx : V) : Option (Prop × V) :=
  match kindV τ t, x, lo, hi, mx with
  | some (.slice e), .bytes l _, .int _ a, .int _ b, .int _ m => if sizeV τ e = 1 then some ((0 ≤ a ∧ a ≤ b) ∧ b ≤ m ∧ m ≤ (l.length : Int), .bytes ((l.take b.toNat).drop a.toNat) none) else none
  | _, _, _, _, _ => none
def mfind (l : List (MKey × Nat × V)) (k : MKey) : Option V := match l with
  | [] => none
  | e :: r => bif decide (e.1 = k) then some e.2.2 else mfind r k
def keyKind (τ : Tys) (t : TypeId) : Option (Option IntKind) := match kindV τ t with
  | some .str => some none
  | some (.int k) => some (some k)
  | _ => none
def keyV (kk : Option IntKind) (v : V) : Option MKey := match kk, v with
  | none, .str l => some (.str l)
  | some k, .int k' n => bif decide (k' = k) then some (.int k n) else none
  | _, _ => none
def mapI (τ : Tys) (t : TypeId) : Option (Option IntKind × V) := match kindV τ t with
  | some (.map kt vt) => match keyKind τ kt, τ vt with
    | some kk, some i => some (kk, i.zeroV)
    | _, _ => none
  | _ => none
def okV (ok : Bool) (z : V) (r : Option V) : V := bif ok then .tuple [r.getD z, .bool r.isSome] else r.getD z
def mapOf (L : List (List V)) (kk : Option IntKind) : V → Option (List (MKey × Nat × V))
  | .raw (.map none) => some []
  | .mref o => match L[o]? with
    | some [.mapc kk' _ l] => bif decide (kk' = kk) then some l else none
    | _ => none
  | _ => none
def evLookup (τ : Tys) (L : List (List V)) (t : TypeId) (x i : V) (ok : Bool) : Option (Prop × V) :=
  match mapI τ t with
  | some (kk, z) => match keyV kk i, mapOf L kk x with
    | some k, some l => some (True, okV ok z (mfind l k))
    | _, _ => none
  | none => none
def evLenL (τ : Tys) (L : List (List V)) (t : TypeId) (x : V) : Option (Prop × V) :=
  match mapI τ t with
  | some (kk, _) => match mapOf L kk x with
    | some l => some (True, .int .i64 l.length)
    | none => none
  | none => evLen τ t x
def MKey.toV : MKey → V
  | .str l => .str l
  | .int k n => .int k n
def mstamp (l : List (MKey × Nat × V)) (s : Nat) : Option (MKey × Nat × V) := match l with
  | [] => none
  | e :: r => bif e.2.1 == s then some e else mstamp r s
def evEntry (L : List (List V)) (x : V) : Option (Prop × V) := match x with
  | .iter o => match L[o]? with
    | some [.iterc om _ seen last] => match L[om]? with
      | some [.mapc _ ck l] => match seen.getLast? with
        | some s => match mstamp l s with
          | some e => some (ck = last, .tuple [e.1.toV, e.2.2])
          | none => none
        | none => none
      | _ => none
    | _ => none
  | _ => none
def evNilCheck (x : V) : Option (Prop × V) := match x with
  | .box o off => some (True, .box o off)
  | .ref v => some (True, .ref v)
  | .fn (.func f) a b => some (True, .fn (.func f) a b)
  | _ => none
def evalPure (τ : Tys) (L : List (List V)) (ev : Operand → V) (op : Op) : Option (Prop × V) :=
  match op with
  | .move x => some (True, ev x)
  | .assign x => some (True, ev x)
  | .pick c a b => evPick (ev c) (ev a) (ev b)
  | .binOp op t x y _ => evBin τ op t (ev x) (ev y)
  | .unOp op _ x => evUn op (ev x)
  | .convert src dst x => evConvL τ L src dst (ev x)
  | .extract t i => evExtract (ev t) i
  | .call c =>
    match c.callee, c.args.toList, c.argTypes.toList with
    | .builtin .len, [x], [t] => evLenL τ L t (ev x)
    | .builtin .min, [x, y], _ => evMin (ev x) (ev y)
    | .builtin .max, [x, y], _ => evMax (ev x) (ev y)
    | _, _, _ => none
  | .indexAddr t x i => evIndexAddr τ t (ev x) (ev i)
  | .load t a => evLoad τ L t (ev a)
  | .fieldAddr s x f => evFieldAddr τ s (ev x) f
  | .field t x f => evField τ t (ev x) f
  | .index t x i => evIndex τ t (ev x) (ev i)
  | .slice t x lo hi none => evSlice τ t (ev x) (lo.map ev) (hi.map ev)
  | .makeFunc f first captured => some (True, .fn f (first.toList.map ev) (captured.toList.map ev))
  | .nilCheck x => evNilCheck (ev x)
  | .lookup t x i ok => evLookup τ L t (ev x) (ev i) ok
  | .entry x => evEntry L (ev x)
  | .slice t x (some lo) (some hi) (some mx) => evSlice3 τ t (ev x) (ev lo) (ev hi) (ev mx)
  | _ => none
def ERel (K : Kw) : List (MKey × Nat × V) → List MapEntry → Prop
  | [], [] => True
  | x :: l, e :: es => (e.key = x.1.val ∧ e.born = x.2.1 ∧ Rel K x.2.2 e.val) ∧ ERel K l es
  | _, _ => False
def MRel (K : Kw) (kk : Option IntKind) (l : List (MKey × Nat × V)) (es : Array MapEntry) (ck : Nat) : Prop :=
  MapKept.Stamped es ck ∧ (∀ x ∈ l, x.1.kind = kk) ∧ ERel K l es.toList
def MapAt (K : Kw) (b : Nat) (cs : List V) : Prop :=
  (∃ es ck, K.w.heap[b]? = some (.map es ck) ∧ ((cs = [] ∨ cs = [.any]) ∨ ∃ kk l, cs = [.mapc kk ck l] ∧ MRel K kk l es ck)) ∨
  (∃ m since seen last, K.w.heap[b]? = some (.mapIter m since seen last) ∧ ((cs = [] ∨ cs = [.any]) ∨ (cs = [.iter0] ∧ m = none) ∨ ∃ om bm, cs = [.iterc om since seen.toList last] ∧ m = some bm ∧ K.boxes[om]? = some (some bm))) ∨
  ∃ r, K.w.heap[b]? = some (.loop r) ∧ ((cs = [] ∨ cs = [.any]) ∨ cs = [.loopc r])
def BoxesOk (K : Kw) (L : List (List V)) : Prop :=
  K.boxes.length = L.length ∧ ∀ (o : Nat) (cs : List V), L[o]? = some cs → (K.boxes[o]? = some none ∧ True) ∨ (∃ (b : Nat) (cur : Array Value) (ty : TypeId), K.boxes[o]? = some (some b) ∧ K.w.heap[b]? = some (.cells cur ty (0, 0)) ∧
    ∃ h : cs.length ≤ cur.size, ∀ j (hj : j < cs.length), Rel K cs[j] (cur[j]'(by omega)) ∧ (cur[j]'(by omega)).oneCell' = true) ∨ ∃ b, K.boxes[o]? = some (some b) ∧ MapAt K b cs
theorem ERel.ext0 {K K' : Kw} (he : Ext0 K K') : ∀ {l : List (MKey × Nat × V)} {es : List MapEntry}, ERel K l es → ERel K' l es
  | [], [], _ => trivial
  | _ :: _, _ :: _, ⟨⟨a, b, c⟩, h⟩ => ⟨⟨a, b, c.ext0 he⟩, h.ext0 he⟩
  | [], _ :: _, h => h.elim
  | _ :: _, [], h => h.elim
theorem ERel.ext {K K' : Kw} (he : Ext K K') {l : List (MKey × Nat × V)} {es : List MapEntry} (h : ERel K l es) : ERel K' l es := h.ext0 he.to0
theorem MRel.ext0 {K K' : Kw} (he : Ext0 K K') {kk : Option IntKind} {l : List (MKey × Nat × V)} {es : Array MapEntry} {ck : Nat} (h : MRel K kk l es ck) : MRel K' kk l es ck :=
  ⟨h.1, h.2.1, h.2.2.ext0 he⟩
theorem MRel.ext {K K' : Kw} (he : Ext K K') {kk : Option IntKind} {l : List (MKey × Nat × V)} {es : Array MapEntry} {ck : Nat} (h : MRel K kk l es ck) : MRel K' kk l es ck := h.ext0 he.to0
theorem MapAt.keep0 {K K' : Kw} (he : Ext0 K K') {b : Nat} (hb : K'.w.heap[b]? = K.w.heap[b]?) {cs : List V} (h : MapAt K b cs) : MapAt K' b cs := by
  rcases h with ⟨es, ck, h1, h2⟩ | ⟨m, s, sn, la, h1, h2⟩ | ⟨r, h1, h2⟩
  · exact .inl ⟨es, ck, hb.trans h1, h2.imp id fun ⟨kk, l, e, r⟩ => ⟨kk, l, e, r.ext0 he⟩⟩
  · exact .inr (.inl ⟨m, s, sn, la, hb.trans h1, h2.imp id (Or.imp id fun ⟨om, bm, e1, e2, e3⟩ => ⟨om, bm, e1, e2, he.boxes _ _ e3⟩)⟩)
  · exact .inr (.inr ⟨r, hb.trans h1, h2⟩)
theorem MapAt.keep {K K' : Kw} (he : Ext K K') {b : Nat} (hb : K'.w.heap[b]? = K.w.heap[b]?) {cs : List V} (h : MapAt K b cs) : MapAt K' b cs := h.keep0 he.to0 hb
theorem MapAt.noShape {K : Kw} {b : Nat} {cs : List V} (h : MapAt K b cs) {e : TypeId} {n : Nat} (hs : K.w.shp b = some (some e, n)) : False := by
  unfold World.shp at hs
  rcases h with ⟨es, ck, h1, h2⟩ | ⟨m, s, sn, la, h1, h2⟩ | ⟨r, h1, h2⟩ <;> (rw [h1] at hs; cases hs)
theorem MapAt.lt {K : Kw} {b : Nat} {cs : List V} (h : MapAt K b cs) : b < K.w.heap.size := by
  rcases h with ⟨es, ck, h1, h2⟩ | ⟨m, s, sn, la, h1, h2⟩ | ⟨r, h1, h2⟩ <;> exact (Array.getElem?_eq_some_iff.1 h1).1
theorem MapAt.gone {K : Kw} {b : Nat} {cs : List V} (h : MapAt K b cs) : MapAt K b [] := by
  rcases h with ⟨es, ck, h1, _⟩ | ⟨m, s, sn, la, h1, _⟩ | ⟨r, h1, _⟩
  · exact .inl ⟨es, ck, h1, .inl (.inl rfl)⟩
  · exact .inr (.inl ⟨m, s, sn, la, h1, .inl (.inl rfl)⟩)
  · exact .inr (.inr ⟨r, h1, .inl (.inl rfl)⟩)
theorem MapAt.anyV {K : Kw} {b : Nat} {cs : List V} (h : MapAt K b cs) : MapAt K b [.any] := by
  rcases h with ⟨es, ck, h1, _⟩ | ⟨m, s, sn, la, h1, _⟩ | ⟨r, h1, _⟩
  · exact .inl ⟨es, ck, h1, .inl (.inr rfl)⟩
  · exact .inr (.inl ⟨m, s, sn, la, h1, .inl (.inr rfl)⟩)
  · exact .inr (.inr ⟨r, h1, .inl (.inr rfl)⟩)
theorem MapAt.le {K : Kw} {b : Nat} {cs cs' : List V} (h : MapAt K b cs) (hle : V.le.leL cs cs') : cs' = cs ∨ cs' = [.any] := by
  rcases h with ⟨es, ck, h1, (rfl | rfl) | ⟨kk, l, rfl, _⟩⟩ | ⟨m, s, sn, la, h1, (rfl | rfl) | ⟨rfl, _⟩ | ⟨om, bm, rfl, _⟩⟩ | ⟨r, h1, (rfl | rfl) | rfl⟩
  all_goals
    rcases cs' with _ | ⟨y, _ | ⟨z, r⟩⟩ <;> first | exact .inl rfl | exact hle.elim | exact hle.2.elim | skip
  all_goals
    have hy := hle.1
    cases y <;> simp_all [V.le]
theorem add_block (a : Addr) (n : Nat) : (a.add n).block = a.block := by unfold Addr.add; split <;> rfl
theorem add_add (a : Addr) (i j : Nat) : (a.add i).add j = a.add (i + j) := by
  unfold Addr.add
  by_cases hi : i = 0 <;> by_cases hj : j = 0 <;> simp [hi, hj, Nat.add_assoc]
theorem kindV_some {τ : Tys} {t : TypeId} {k : TyK} (h : kindV τ t = some k) : ∃ i, τ t = some i ∧ i.kind = k := by
  unfold kindV at h
  cases hi : τ t with
  | none => simp [hi] at h
  | some i => exact ⟨i, rfl, by simpa [hi] using h⟩
theorem sizeV_pos {τ : Tys} {t : TypeId} {n : Nat} (h : sizeV τ t = n) (hn : 0 < n) : ∃ i, τ t = some i ∧ i.size = n := by
  unfold sizeV at h
  cases hi : τ t with
  | none => simp [hi] at h; omega
  | some i => exact ⟨i, rfl, by simpa [hi] using h⟩
section sound
variable {P : Program} {τ : Tys} {K : Kw} {L : List (List V)}
theorem pick_sound {c a b : V} {p : Prop} {v : V} {vc va vb : Value} (h : evPick c a b = some (p, v)) (rc : Rel K c vc) (ra : Rel K a va) (rb : Rel K b vb) :
    ∃ u, (do pure (.value (if ← asBool vc then va else vb)) : Sem Next).run P K.w = .ok (.value u) K.w ∧ Rel K v u := by
  unfold evPick at h
  split at h
  · rename_i c' a' b'
    cases rc; cases ra; cases rb
    simp only [Option.some.injEq, Prod.mk.injEq] at h
    obtain ⟨_, rfl⟩ := h
    refine ⟨_, ?_, .bool _⟩
    cases c' <;> simp [asBool]
  · rename_i cc _
    obtain ⟨c', rfl⟩ : ∃ c', c' = cc := ⟨_, rfl⟩
    cases rc
    simp only [Option.some.injEq, Prod.mk.injEq] at h
    obtain ⟨_, rfl⟩ := h
    cases c'
    · exact ⟨vb, by simp [asBool], rb⟩
    · exact ⟨va, by simp [asBool], ra⟩
  · cases h
theorem intsOf_spec {k : IntKind} : ∀ {l : List V} {x : List Int}, intsOf k l = some x → l = x.map (.int k) := by
  intro l
  induction l with
  | nil => intro x h; simp [intsOf] at h; subst h; rfl
  | cons v l ih =>
    intro x h
    cases v with
    | int k' n =>
      simp only [intsOf, Option.ite_none_right_eq_some, Option.map_eq_some_iff] at h
      obtain ⟨rfl, y, hy, rfl⟩ := h
      rw [ih hy]; rfl
    | _ => simp [intsOf] at h
theorem rel_ints {k : IntKind} {x : List Int} {vs : Array Value} (h : Rel K (.agg (x.map (.int k))) (.agg vs)) : vs = (x.map fun n => Value.int k n).toArray := by
  cases h with
  | agg l vs hl ho hr =>
  apply Array.ext
  · simpa using hl
  · intro i h1 h2
    have := hr i (by omega)
    simp only [List.getElem_map] at this
    cases hv : vs[i] <;> rw [hv] at this <;> cases this
    simp
theorem forIn_eq {w : World} {β : Type} (f : Nat → β → Sem (ForInStep β)) (b : β) : ∀ (l : List Nat), (∀ i ∈ l, (f i b).run P w = .ok (.yield b) w) → (forIn l b f : Sem β).run P w = .ok b w
  | [], _ => rfl
  | i :: l, h => by
    rw [List.forIn_cons, Sem.run_bind, h i (by simp)]
    simp only [Result.andThen_ok]
    exact forIn_eq f b l fun j hj => h j (by simp [hj])
theorem forIn_stop {w : World} {β : Type} (f : Nat → β → Sem (ForInStep β)) (b b' : β) : ∀ (l : List Nat) (i : Nat), i ∈ l → (∀ j ∈ l, (f j b).run P w = .ok (.yield b) w ∨ (f j b).run P w = .ok (.done b') w) → (f i b).run P w = .ok (.done b') w → (forIn l b f : Sem β).run P w = .ok b' w
  | [], _, h, _, _ => by cases h
  | j :: l, i, hi, h, hd => by
    rw [List.forIn_cons, Sem.run_bind]
    rcases h j (by simp) with hj | hj
    · rw [hj]
      simp only [Result.andThen_ok]
      rcases List.mem_cons.1 hi with rfl | hi
      · rw [hj] at hd; cases hd
      · exact forIn_stop f b b' l i hi (fun j hj => h j (by simp [hj])) hd
    · rw [hj]
      simp
theorem part_one (hτ : TyOk P τ) {e : TypeId} {ie : TyI} (he : τ e = some ie) {k : IntKind} (hk : ie.kind = .int k) {w : World} {vs : Array Value} {i : Nat} {v : Value} (hv : vs[i]? = some v) : (part e vs i).run P w = .ok v w := by
  have ha : ie.isAgg = false := by simp [TyI.isAgg, hk]
  simp [part, hτ.run_isAgg he, ha, hv]
theorem depth_two (P : Program) : ∃ d, P.depth = d + 2 := ⟨_, rfl⟩
theorem arrEq_run (hτ : TyOk P τ) {t e : TypeId} {n : Nat} {k : IntKind} {ie : TyI} (hu : P.underlying t = some (.array n e)) (he : τ e = some ie) (hke : ie.kind = .int k) (hsz : ie.size = 1) {x y : List Int} (hx : x.length = n) (hy : y.length = n) {w : World} (d : Nat) :
    (Op.equalIn (d + 2) t (.agg (x.map fun n => Value.int k n).toArray) (.agg (y.map fun n => Value.int k n).toArray)).run P w = .ok (decide (x = y)) w := by
  have hue := hτ.int he hke
  have hcmp : ∀ i (h : i < n), (Op.equalIn (d + 1) e (.int k (x[i]'(by omega))) (.int k (y[i]'(by omega)))).run P w = .ok ((x[i]'(by omega)) == (y[i]'(by omega))) w := fun i h => by
    rw [Op.equalIn]; simp only [Sem.run_bind, run_underlying hue, Result.andThen_ok]; simp
  have hpx : ∀ i (h : i < n), (part e (x.map fun n => Value.int k n).toArray i).run P w = .ok (.int k (x[i]'(by omega))) w := fun i h => part_one hτ he hke (by simp [show i < x.length by omega])
  have hpy : ∀ i (h : i < n), (part e (y.map fun n => Value.int k n).toArray i).run P w = .ok (.int k (y[i]'(by omega))) w := fun i h => part_one hτ he hke (by simp [show i < y.length by omega])
  rw [Op.equalIn]
  simp only [Sem.run_bind, run_underlying hu, Result.andThen_ok, hτ.run_sizeOf he, hsz, Nat.mul_one]
  rw [Std.Legacy.Range.forIn_eq_forIn_range']
  by_cases hxy : x = y
  · subst hxy
    rw [forIn_eq]
    · simp
    · intro i hi
      have hin : i < n := by simp [List.mem_range'] at hi; omega
      simp only [Sem.run_bind, hpx i hin, Result.andThen_ok, hcmp i hin]
      simp
  · obtain ⟨i, hi, hne⟩ : ∃ i, ∃ h : i < n, x[i]'(by omega) ≠ y[i]'(by omega) := by
      apply Classical.byContradiction
      intro hno
      apply hxy
      apply List.ext_getElem (by omega)
      intro i h1 h2
      apply Classical.byContradiction
      intro hne
      exact hno ⟨i, by omega, hne⟩
    rw [forIn_stop (i := i) (b' := ⟨some false, ()⟩)]
    · simp [hxy]
    · simp [List.mem_range', hi]
    · intro j hj
      have hjn : j < n := by simp [List.mem_range'] at hj; omega
      simp only [Sem.run_bind, hpx j hjn, hpy j hjn, Result.andThen_ok, hcmp j hjn]
      by_cases e1 : x[j]'(by omega) = y[j]'(by omega)
      · left; simp [e1]
      · right; simp [e1]
    · simp only [Sem.run_bind, hpx i hi, hpy i hi, Result.andThen_ok, hcmp i hi]
      simp [hne]
theorem arrEq_sound (hτ : TyOk P τ) {t : TypeId} {a b : List V} {p : Prop} {r : Bool} {va vb : Value} {ox oy : Operand} (h : evArrEq τ t a b = some (p, r)) (ra : Rel K (.agg a) va) (rb : Rel K (.agg b) vb) :
    (∀ op, (eqGuard op t ox oy va vb).run P K.w = .ok () K.w) ∧ (binOp .eql t va vb).run P K.w = .ok (.bool r) K.w ∧ (binOp .neq t va vb).run P K.w = .ok (.bool (!r)) K.w := by
  unfold evArrEq at h
  split at h
  · rename_i n e hk
    split at h
    · rename_i k hke
      simp only [Option.ite_none_right_eq_some] at h
      obtain ⟨⟨hsz, hla, hlb⟩, h⟩ := h
      split at h
      · rename_i x y hx hy
        simp only [Option.some.injEq, Prod.mk.injEq] at h
        obtain ⟨_, rfl⟩ := h
        have ea := intsOf_spec hx
        have eb := intsOf_spec hy
        subst ea eb
        obtain ⟨vas, rfl⟩ : ∃ vs, va = .agg vs := by cases ra; exact ⟨_, rfl⟩
        obtain ⟨vbs, rfl⟩ : ∃ vs, vb = .agg vs := by cases rb; exact ⟨_, rfl⟩
        rw [rel_ints ra, rel_ints rb]
        obtain ⟨i, hi, hk⟩ := kindV_some hk
        obtain ⟨ie, hie, hke⟩ := kindV_some hke
        have hu := hτ.array hi hk
        have hs1 : ie.size = 1 := by simpa [sizeV, hie] using hsz
        have hrun := arrEq_run (w := K.w) hτ hu hie hke hs1 (by simpa using hla : x.length = n) (by simpa using hlb : y.length = n) 9998
        refine ⟨fun op => ?_, ?_, ?_⟩
        · obtain ⟨d, hd⟩ := depth_two P
          have hg : P.eqGuardType P.depth t = false := by
            rw [hd]
            simp [Program.eqGuardType, hu, hτ.int hie hke]
          cases op <;> simp [eqGuard, run_program, hg]
        · simp only [binOp]
          simp only [Op.equal, Op.maxDepth, Sem.run_bind, hrun, Result.andThen_ok, Sem.run_pure]
        · simp only [binOp]
          simp only [Op.equal, Op.maxDepth, Sem.run_bind, hrun, Result.andThen_ok, Sem.run_pure]
      · cases h
    · cases h
  · cases h
theorem nil_run (hτ : TyOk P τ) {op : BinOp} {t : TypeId} {k : TyK} {x y v : V} {vx vy : Value} {ox oy : Operand} (hk : kindV τ t = some k) (hx : nilV k x = some v) (hy : isNilV k y = true) (rx : Rel K x vx) (ry : Rel K y vy) :
    (eqGuard op t ox oy vx vy).run P K.w = .ok () K.w ∧ (∃ b, (binOp .eql t vx vy).run P K.w = .ok (.bool b) K.w ∧ Rel K v (.bool b)) ∧ ∃ b, (binOp .neq t vx vy).run P K.w = .ok (.bool b) K.w ∧ Rel K (negV v) (.bool b) := by
  obtain ⟨i, hi, hki⟩ := kindV_some hk
  obtain ⟨d, hd, hdk⟩ := hτ.under hi
  rw [hki] at hdk
  have hvf : (∃ b, v = .bool b) ∨ ∃ p q, v = .may p q := by
    unfold nilV at hx
    split at hx <;> cases hx <;> first | exact .inl ⟨_, rfl⟩ | exact .inr ⟨_, _, rfl⟩
  have bin : ∀ (x y : Value) (b : Bool), (Op.equal t x y).run P K.w = .ok b K.w → (∀ k n, x ≠ .int k n) → (∀ k n, x ≠ .float k n) → (∀ k n m, x ≠ .complex k n m) → (∀ s, x ≠ .string s) →
      (binOp .eql t x y).run P K.w = .ok (.bool b) K.w ∧ (binOp .neq t x y).run P K.w = .ok (.bool (!b)) K.w := by
    intro x y b h h1 h2 h3 h4
    have e1 : binOp .eql t x y = (do pure (.bool (← Op.equal t x y))) := by
      cases x <;> first | rfl | (cases y <;> rfl) | exact absurd rfl (h1 _ _) | exact absurd rfl (h2 _ _) | exact absurd rfl (h3 _ _ _) | exact absurd rfl (h4 _)
    have e2 : binOp .neq t x y = (do pure (.bool (!(← Op.equal t x y)))) := by
      cases x <;> first | rfl | (cases y <;> rfl) | exact absurd rfl (h1 _ _) | exact absurd rfl (h2 _ _) | exact absurd rfl (h3 _ _ _) | exact absurd rfl (h4 _)
    rw [e1, e2]
    constructor <;> (rw [Sem.run_bind, h]; rfl)
  have neg : ∀ b, Rel K v (.bool b) → Rel K (negV v) (.bool (!b)) := by
    intro b h
    cases h with
    | bool => exact .bool _
    | any => rcases hvf with ⟨_, h⟩ | ⟨_, _, h⟩ <;> cases h
    | may p q b hp hq => exact .may _ _ _ (fun e => hq (by simpa using e)) (fun e => hp (by simpa using e))
    | raw => rcases hvf with ⟨_, h⟩ | ⟨_, _, h⟩ <;> cases h
  suffices h : (eqGuard op t ox oy vx vy).run P K.w = .ok () K.w ∧ ∃ b, (binOp .eql t vx vy).run P K.w = .ok (.bool b) K.w ∧ (binOp .neq t vx vy).run P K.w = .ok (.bool (!b)) K.w ∧ Rel K v (.bool b) by
    obtain ⟨h1, b, h2, h3, h4⟩ := h
    exact ⟨h1, ⟨b, h2, h4⟩, !b, h3, neg b h4⟩
  unfold isNilV at hy
  split at hy
  · rename_i e
    cases ry
    rw [descK_slice hdk] at hd
    obtain ⟨A, n, c, rfl, hr⟩ : ∃ A n c, vx = .slice A n c ∧ Rel K v (.bool A.isNone) := by
      cases x with
      | nils => cases rx; cases hx; exact ⟨_, _, _, rfl, .bool _⟩
      | zero => cases rx; cases hx; exact ⟨_, _, _, rfl, .may _ _ _ (fun _ => trivial) (fun _ => trivial)⟩
      | bytes l t =>
        cases rx with
        | bytes l t A c hc hm hr ht =>
          cases hx
          refine ⟨A, _, c, rfl, .may _ _ _ (fun h => ?_) (fun _ => trivial)⟩
          cases A with
          | some a => cases h
          | none => cases l with
            | nil => rfl
            | cons z l => obtain ⟨ad, e, _⟩ := hr 0 (by simp); cases e
      | list sz l t =>
        cases rx with
        | list sz l t A c f hc hm hs hr hf ht =>
          cases hx
          refine ⟨A, _, c, rfl, .may _ _ _ (fun h => ?_) (fun _ => trivial)⟩
          cases A with
          | some a => cases h
          | none => cases l with
            | nil => exact .inl rfl
            | cons z l =>
              rcases Nat.eq_zero_or_pos sz with h0 | h0
              · exact .inr h0
              · obtain ⟨⟨ad, e, _⟩, _⟩ := hr 0 (by rw [List.length_cons]; exact Nat.mul_pos (by omega) h0); cases e
      | mrow em o off n =>
        cases rx with
        | mrow em o off n A c hc hm hA =>
          cases hx
          refine ⟨A, _, c, rfl, .may _ _ _ (fun h => ?_) (fun _ => trivial)⟩
          cases A with
          | some a => cases h
          | none => rcases hA with ⟨h, _⟩ | ⟨b, m, h, _⟩
                    · exact h
                    · cases h
      | vrow em sz o n =>
        cases rx with
        | vrow em sz o n A c hc hm hA =>
          cases hx
          refine ⟨A, _, c, rfl, .may _ _ _ (fun h => ?_) (fun _ => trivial)⟩
          cases A with
          | some a => cases h
          | none => rcases hA with ⟨h, _⟩ | ⟨b, m, h, _⟩
                    · exact h
                    · cases h
      | _ => cases hx
    have hb := bin (.slice A n c) (.slice none 0 0) A.isNone (by rw [Op.equal, Op.maxDepth, Op.equalIn]; simp only [Sem.run_bind, run_underlying hd, Result.andThen_ok]; cases A <;> rfl) (by simp) (by simp) (by simp) (by simp)
    exact ⟨by cases op <;> rfl, A.isNone, hb.1, hb.2, hr⟩
  · rename_i e
    cases ry
    rw [descK_ptr hdk] at hd
    obtain ⟨A, rfl, hr⟩ : ∃ A, vx = .pointer A ∧ Rel K v (.bool A.isNone) := by
      unfold nilV at hx
      split at hx <;> first | (cases hx; done) | skip
      all_goals (first | (cases ‹TyK.ptr e = _›; done) | skip)
      all_goals (cases rx; cases hx)
      all_goals exact ⟨_, rfl, .bool _⟩
    have hb := bin (.pointer A) (.pointer none) A.isNone (by rw [Op.equal, Op.maxDepth, Op.equalIn]; simp only [Sem.run_bind, run_underlying hd, Result.andThen_ok]; cases A <;> rfl) (by simp) (by simp) (by simp) (by simp)
    exact ⟨by cases op <;> rfl, A.isNone, hb.1, hb.2, hr⟩
  · rename_i e f
    cases ry
    have hd' : P.underlying t = some (.map e f) := by
      rw [hd]; cases d <;> simp [descK] at hdk; obtain ⟨rfl, rfl⟩ := hdk; rfl
    obtain ⟨A, rfl, hr⟩ : ∃ A, vx = .map A ∧ Rel K v (.bool A.isNone) := by
      unfold nilV at hx
      split at hx <;> first | (cases hx; done) | skip
      all_goals (first | (cases ‹TyK.map e f = _›; done) | skip)
      all_goals (cases rx; cases hx)
      all_goals exact ⟨_, rfl, .bool _⟩
    have hb := bin (.map A) (.map none) A.isNone (by rw [Op.equal, Op.maxDepth, Op.equalIn]; simp only [Sem.run_bind, run_underlying hd', Result.andThen_ok]; cases A <;> rfl) (by simp) (by simp) (by simp) (by simp)
    exact ⟨by cases op <;> rfl, A.isNone, hb.1, hb.2, hr⟩
  · cases ry
    obtain ⟨a, b, c, hd'⟩ : ∃ a b c, P.underlying t = some (.func a b c) := by
      cases d <;> simp [descK] at hdk; exact ⟨_, _, _, hd⟩
    unfold nilV at hx
    split at hx <;> first | (cases hx; done) | skip
    all_goals (first | (cases ‹TyK.func = _›; done) | skip)
    · cases hx
      obtain ⟨f, a, b, rfl⟩ : ∃ f a b, vx = .func f a b := by cases rx; exact ⟨_, _, _, rfl⟩
      have hb := bin (.func f a b) .nilFunc false (by rw [Op.equal, Op.maxDepth, Op.equalIn]; simp only [Sem.run_bind, run_underlying hd', Result.andThen_ok]; rfl) (by simp) (by simp) (by simp) (by simp)
      exact ⟨by cases op <;> rfl, false, hb.1, hb.2, .bool _⟩
    · cases hx
      cases rx
      have hb := bin .nilFunc .nilFunc true (by rw [Op.equal, Op.maxDepth, Op.equalIn]; simp only [Sem.run_bind, run_underlying hd', Result.andThen_ok]; rfl) (by simp) (by simp) (by simp) (by simp)
      exact ⟨by cases op <;> rfl, true, hb.1, hb.2, .bool _⟩
  · cases hy
theorem nil_sound (hτ : TyOk P τ) {op : BinOp} {t : TypeId} {x y : V} {p : Prop} {v : V} {vx vy : Value} {ox oy : Operand} (h : evNil op (kindV τ t) x y = some (p, v)) (rx : Rel K x vx) (ry : Rel K y vy) :
    ∃ u, (do eqGuard op t ox oy vx vy; binOp op t vx vy : Sem Value).run P K.w = .ok u K.w ∧ Rel K v u := by
  unfold evNil at h
  split at h
  · rename_i k hk
    cases hy : isNilV k y <;> rw [hy] at h
    · cases h
    · simp only [cond_true, Option.map_eq_some_iff, Prod.mk.injEq] at h
      obtain ⟨v', hv, _, rfl⟩ := h
      obtain ⟨h1, ⟨b, h2, h3⟩, _⟩ := nil_run (op := .eql) (ox := ox) (oy := oy) hτ hk hv hy rx ry
      exact ⟨_, by rw [Sem.run_bind, h1, Result.andThen_ok, h2], h3⟩
  · rename_i k hk
    cases hy : isNilV k y <;> rw [hy] at h
    · cases h
    · simp only [cond_true, Option.map_eq_some_iff, Prod.mk.injEq] at h
      obtain ⟨v', hv, _, rfl⟩ := h
      obtain ⟨h1, _, b, h2, h3⟩ := nil_run (op := .neq) (ox := ox) (oy := oy) hτ hk hv hy rx ry
      exact ⟨_, by rw [Sem.run_bind, h1, Result.andThen_ok, h2], h3⟩
  · cases h
theorem bin_sound (hτ : TyOk P τ) {op : BinOp} {t : TypeId} {x y : V} {p : Prop} {v : V} {vx vy : Value} {ox oy : Operand} (h : evBin τ op t x y = some (p, v)) (hp : p) (rx : Rel K x vx) (ry : Rel K y vy) :
    ∃ u, (do eqGuard op t ox oy vx vy; binOp op t vx vy : Sem Value).run P K.w = .ok u K.w ∧ Rel K v u := by
  unfold evBin at h
  split at h
  · cases rx; cases ry; exact binInt_sound h hp
  · cases rx; cases ry; exact binStr_sound h hp
  · rename_i a b
    cases rx; cases ry
    have hg : ((eqGuard op t ox oy (.bool a) (.bool b)) : Sem Unit).run P K.w = .ok () K.w := by
      unfold eqGuard; cases op <;> simp
    rw [Sem.run_bind, hg, Result.andThen_ok]
    split at h
    · rename_i hk
      obtain ⟨i, hi, hk⟩ := kindV_some hk
      simp only [Option.some.injEq, Prod.mk.injEq] at h
      obtain ⟨_, rfl⟩ := h
      exact ⟨_, run_eql_bool K.w t a b (hτ.bool hi hk), .bool _⟩
    · rename_i hk
      obtain ⟨i, hi, hk⟩ := kindV_some hk
      simp only [Option.some.injEq, Prod.mk.injEq] at h
      obtain ⟨_, rfl⟩ := h
      exact ⟨_, run_neq_bool K.w t a b (hτ.bool hi hk), .bool _⟩
    · cases h
  · split at h
    · simp only [Option.map_eq_some_iff, Prod.mk.injEq] at h
      obtain ⟨⟨p', r⟩, hr, rfl, rfl⟩ := h
      obtain ⟨h1, h2, _⟩ := arrEq_sound (ox := ox) (oy := oy) hτ hr rx ry
      exact ⟨_, by rw [Sem.run_bind, h1, Result.andThen_ok, h2], .bool _⟩
    · simp only [Option.map_eq_some_iff, Prod.mk.injEq] at h
      obtain ⟨⟨p', r⟩, hr, rfl, rfl⟩ := h
      obtain ⟨h1, _, h3⟩ := arrEq_sound (ox := ox) (oy := oy) hτ hr rx ry
      exact ⟨_, by rw [Sem.run_bind, h1, Result.andThen_ok, h3], .bool _⟩
    · cases h
  · exact nil_sound hτ h rx ry
theorem un_sound {op : UnOp} {x : V} {p : Prop} {v : V} {vx : Value} (h : evUn op x = some (p, v)) (rx : Rel K x vx) :
    ∃ u, (Op.unary op vx).run P K.w = .ok u K.w ∧ Rel K v u := by
  unfold evUn at h
  split at h
  · cases rx
    simp only [Option.some.injEq, Prod.mk.injEq] at h
    obtain ⟨_, rfl⟩ := h
    exact ⟨_, by simp [Op.unary, Op.intArith], .int _ _⟩
  · cases rx
    simp only [Option.some.injEq, Prod.mk.injEq] at h
    obtain ⟨_, rfl⟩ := h
    exact ⟨_, by simp [Op.unary, Op.intBits, notK], .int _ _⟩
  · cases rx
    simp only [Option.some.injEq, Prod.mk.injEq] at h
    obtain ⟨_, rfl⟩ := h
    exact ⟨_, by simp [Op.unary], .bool _⟩
  · cases rx with
    | may _ _ b hp hq =>
      simp only [Option.some.injEq, Prod.mk.injEq] at h
      obtain ⟨_, rfl⟩ := h
      exact ⟨.bool (!b), by simp [Op.unary], .may _ _ _ (fun e => hq (by simpa using e)) (fun e => hp (by simpa using e))⟩
  · cases h
theorem foldl_push (l : List UInt8) : ∀ s : ByteArray, (l.map fun b => (b.toNat : Int)).foldl (fun r n => r.push (UInt8.ofNat n.toNat)) s = ⟨(s.data.toList ++ l).toArray⟩ := by
  induction l with
  | nil => intro s; simp
  | cons b l ih =>
    intro s
    simp only [List.map_cons, List.foldl_cons]
    rw [ih]
    apply ByteArray.ext
    simp [ByteArray.push]
theorem rd_cells {A : Option Addr} {l : List UInt8} {c : Nat} (hr : ∀ j (h : j < l.length), ∃ ad, A = some ad ∧ K.w.cell? (ad.add j) = some (.int .u8 l[j].toNat)) :
    (Conv.bytesToString (.slice A l.length c)).run P K.w = .ok (.string ⟨l.toArray⟩) K.w := by
  cases A with
  | none =>
    have : l = [] := by
      cases l with
      | nil => rfl
      | cons b l => obtain ⟨ad, h, _⟩ := hr 0 (by simp); cases h
    subst this
    rfl
  | some ad =>
    have hl : (loadCells ad (l.map fun b => Value.int .u8 (b.toNat : Int)).length).run P K.w = .ok (l.map fun b => Value.int .u8 (b.toNat : Int)).toArray K.w := by
      refine run_loadCells_list (P := P) K.w ad _ fun j v hj => ?_
      simp only [List.getElem?_map, Option.map_eq_some_iff] at hj
      obtain ⟨b, hb, rfl⟩ := hj
      obtain ⟨hlt, rfl⟩ := List.getElem?_eq_some_iff.1 hb
      obtain ⟨ad', e, hrd⟩ := hr j hlt
      cases e
      exact hrd
    have hl' : (loadCells ad l.length).run P K.w = .ok ((l.map fun b => (b.toNat : Int)).map (Value.int .u8)).toArray K.w := by
      rw [List.map_map]; rw [List.length_map] at hl; exact hl
    rw [run_bytesToString K.w ad l.length c _ hl', foldl_push]
    rfl
theorem rd_bytes {A : Option Addr} {l : List UInt8} {c : Nat} (hr : ∀ j (h : j < l.length), ∃ ad, A = some ad ∧ K.rd (ad.add j) (.int .u8 l[j].toNat)) :
    (Conv.bytesToString (.slice A l.length c)).run P K.w = .ok (.string ⟨l.toArray⟩) K.w := rd_cells fun j h => let ⟨ad, e, r⟩ := hr j h; ⟨ad, e, r.2⟩
theorem isBytes_spec (hτ : TyOk P τ) {t : TypeId} (h : isBytes τ t = true) : ∃ e, P.underlying t = some (.slice e) ∧ P.underlying e = some (.int .u8) := by
  unfold isBytes at h
  split at h
  · rename_i e hk
    split at h
    · rename_i hk'
      obtain ⟨i, hi, hk⟩ := kindV_some hk
      obtain ⟨i', hi', hk'⟩ := kindV_some hk'
      exact ⟨e, hτ.slice hi hk, hτ.int hi' hk'⟩
    · cases h
  · cases h
theorem conv_sound (hτ : TyOk P τ) {src dst : TypeId} {x : V} {p : Prop} {v : V} {vx : Value} (h : evConv τ src dst x = some (p, v)) (rx : Rel K x vx) :
    ∃ u, (convert src dst vx).run P K.w = .ok u K.w ∧ Rel K v u := by
  unfold evConv at h
  split at h
  · rename_i k k' n hk
    cases rx
    obtain ⟨i, hi, hk⟩ := kindV_some hk
    split at h
    · rename_i hs
      obtain ⟨is, his⟩ := Option.isSome_iff_exists.1 hs
      obtain ⟨d, hd, _⟩ := hτ.under his
      simp only [Option.some.injEq, Prod.mk.injEq] at h
      obtain ⟨_, rfl⟩ := h
      refine ⟨_, ?_, .int _ _⟩
      simp [convert, run_underlying hd, run_underlying (hτ.int hi hk), Conv.intToInt]
    · cases h
  · rename_i l hk
    cases rx
    obtain ⟨i, hi, hk⟩ := kindV_some hk
    split at h
    · rename_i hs
      obtain ⟨is, his⟩ := Option.isSome_iff_exists.1 hs
      obtain ⟨d, hd, _⟩ := hτ.under his
      simp only [Option.some.injEq, Prod.mk.injEq] at h
      obtain ⟨_, rfl⟩ := h
      refine ⟨_, ?_, .str _⟩
      simp [convert, run_underlying hd, run_underlying (hτ.str hi hk)]
    · cases h
  · rename_i l t hk
    cases rx with
    | bytes l t A c hc hm hr ht =>
    obtain ⟨i, hi, hk⟩ := kindV_some hk
    split at h
    · rename_i hb
      obtain ⟨e, he, he'⟩ := isBytes_spec hτ hb
      simp only [Option.some.injEq, Prod.mk.injEq] at h
      obtain ⟨_, rfl⟩ := h
      exact ⟨_, by rw [run_convert_bytes_string K.w src dst e A l.length c he he' (hτ.str hi hk), rd_bytes hr], .str _⟩
    · cases h
  · rename_i hk
    cases rx
    obtain ⟨i, hi, hk⟩ := kindV_some hk
    split at h
    · rename_i hb
      obtain ⟨e, he, he'⟩ := isBytes_spec hτ hb
      simp only [Option.some.injEq, Prod.mk.injEq] at h
      obtain ⟨_, rfl⟩ := h
      exact ⟨_, by rw [run_convert_bytes_string K.w src dst e none 0 0 he he' (hτ.str hi hk)]; rfl, .str []⟩
    · cases h
  · rename_i hk
    cases rx with
    | zero A =>
    obtain ⟨i, hi, hk⟩ := kindV_some hk
    split at h
    · rename_i hb
      obtain ⟨e, he, he'⟩ := isBytes_spec hτ hb
      simp only [Option.some.injEq, Prod.mk.injEq] at h
      obtain ⟨_, rfl⟩ := h
      have := rd_bytes (P := P) (K := K) (A := A) (l := []) (c := 0) (fun j hj => absurd hj (by simp))
      exact ⟨_, by rw [run_convert_bytes_string K.w src dst e A 0 0 he he' (hτ.str hi hk)]; exact this, .str []⟩
    · cases h
  · cases h
theorem extract_sound {x : V} {i : Nat} {p : Prop} {v : V} {vx : Value} (h : evExtract x i = some (p, v)) (rx : Rel K x vx) :
    ∃ u, (Instr.extract vx i).run P K.w = .ok u K.w ∧ Rel K v u := by
  unfold evExtract at h
  split at h
  · cases rx with
    | tuple l vs hl hr =>
    simp only [Option.map_eq_some_iff, Prod.mk.injEq] at h
    obtain ⟨v', hv', _, rfl⟩ := h
    obtain ⟨hlt, rfl⟩ := List.getElem?_eq_some_iff.1 hv'
    refine ⟨vs[i]'(by omega), ?_, hr i hlt⟩
    have : vs[i]? = some (vs[i]'(by omega)) := Array.getElem?_eq_getElem (by omega)
    simp [Instr.extract, this]
  · cases h
theorem len_sound (hτ : TyOk P τ) {t ty : TypeId} {x : V} {p : Prop} {v : V} {vx : Value} (h : evLen τ t x = some (p, v)) (rx : Rel K x vx) :
    ∃ u, (Builtin.len_ #[t] ty #[vx]).run P K.w = .ok u K.w ∧ Rel K v u := by
  unfold evLen at h
  split at h
  all_goals first
    | (rename_i hk
       obtain ⟨i, hi, hk⟩ := kindV_some hk
       simp only [Option.some.injEq, Prod.mk.injEq] at h
       obtain ⟨_, rfl⟩ := h
       refine ⟨_, ?_, .int _ _⟩
       first
         | (have hu := hτ.array hi hk
            simp [Builtin.len_, run_underlying hu, goInt]; done)
         | (cases rx
            have hu := hτ.slice hi hk
            simp [Builtin.len_, run_underlying hu, goInt]; done)
         | (cases rx
            have hu := hτ.str hi hk
            have hz : (ByteArray.mk (List.toArray ‹List UInt8›)).size = (‹List UInt8›).length := by simp [ByteArray.size]
            simp [Builtin.len_, run_underlying hu, goInt, hz]; done))
    | cases h
theorem min_sound {x y : V} {p : Prop} {v : V} {vx vy : Value} {ts : Array TypeId} {ty : TypeId} (h : evMin x y = some (p, v)) (rx : Rel K x vx) (ry : Rel K y vy) :
    ∃ u, (Builtin.min_ ts ty #[vx, vy]).run P K.w = .ok u K.w ∧ Rel K v u := by
  unfold evMin at h
  split at h
  · cases rx; cases ry
    simp only [Option.some.injEq, Prod.mk.injEq] at h
    obtain ⟨_, rfl⟩ := h
    exact ⟨_, run_min_int2 K.w ts ty _ _ _ _, .int _ _⟩
  · cases h
theorem max_sound {x y : V} {p : Prop} {v : V} {vx vy : Value} {ts : Array TypeId} {ty : TypeId} (h : evMax x y = some (p, v)) (rx : Rel K x vx) (ry : Rel K y vy) :
    ∃ u, (Builtin.max_ ts ty #[vx, vy]).run P K.w = .ok u K.w ∧ Rel K v u := by
  unfold evMax at h
  split at h
  · cases rx; cases ry
    simp only [Option.some.injEq, Prod.mk.injEq] at h
    obtain ⟨_, rfl⟩ := h
    exact ⟨_, run_max_int2 K.w ts ty _ _ _ _, .int _ _⟩
  · cases h
end sound
end Go.Proofs.YtckmcglkjfkghaaDoor.Aw
