/-
  AN ABSTRACT EVALUATOR, PART 3: operations that compute and read.
-/
import Derived.Test.YtljmfemcfkhehaaAw2
import Derived.Laws.BytesString
namespace Go.Proofs.Ytljmfemcfkhehaa.Aw
open Go Go.RowKit
set_option linter.unusedVariables false
set_option linter.unusedSimpArgs false

/-- A cell by itself. -/
def cellV (l : List V) (off : Nat) : Option V := match l[off]? with | some (.agg _) => none | x => x

/-- The part of a row of cells that a variable of type t at place off takes. -/
def partV (τ : Tys) (t : TypeId) (l : List V) (off : Nat) : Option V :=
  match τ t with
  | some i => if i.isAgg then (if off + i.size ≤ l.length then some (.agg ((l.drop off).take i.size)) else none) else cellV l off
  | none => none

/-- What a variable of type t reads where v's cells lie. -/
def loadV (τ : Tys) (t : TypeId) (v : V) : Option V :=
  match τ t with
  | some i => if i.isAgg then (match v with | .agg l => if l.length = i.size then some v else none | _ => none) else (match v with | .agg _ => none | _ => if i.size = 1 then some v else none)
  | none => none

def sizeV (τ : Tys) (t : TypeId) : Nat := match τ t with | some i => i.size | none => 0

def lenV : V → Option Nat
  | .bytes l _ => some l.length
  | .list _ l _ => some l.length
  | .nils => some 0
  | .str l => some l.length
  | _ => none

/-- x[lo:hi] -/
def sliceV (x : V) (lo hi : Option V) : Option (Prop × V) :=
  match x, lo, hi with
  | .bytes l _, none, none => some (True, .bytes l none)
  | .bytes l _, some (.int _ a), none => some (0 ≤ a ∧ a ≤ (l.length : Int), .bytes (l.drop a.toNat) none)
  | .bytes l _, none, some (.int _ b) => some (0 ≤ b ∧ b ≤ (l.length : Int), .bytes (l.take b.toNat) none)
  | .bytes l _, some (.int _ a), some (.int _ b) => some (0 ≤ a ∧ a ≤ b ∧ b ≤ (l.length : Int), .bytes ((l.take b.toNat).drop a.toNat) none)
  | .list sz l _, none, none => some (True, .list sz l none)
  | .list sz l _, some (.int _ a), none => some (0 ≤ a ∧ a ≤ (l.length : Int), .list sz (l.drop a.toNat) none)
  | .list sz l _, none, some (.int _ b) => some (0 ≤ b ∧ b ≤ (l.length : Int), .list sz (l.take b.toNat) none)
  | .list sz l _, some (.int _ a), some (.int _ b) => some (0 ≤ a ∧ a ≤ b ∧ b ≤ (l.length : Int), .list sz ((l.take b.toNat).drop a.toNat) none)
  | .str l, none, none => some (True, .str l)
  | .str l, some (.int _ a), none => some (0 ≤ a ∧ a ≤ (l.length : Int), .str (l.drop a.toNat))
  | .str l, none, some (.int _ b) => some (0 ≤ b ∧ b ≤ (l.length : Int), .str (l.take b.toNat))
  | .str l, some (.int _ a), some (.int _ b) => some (0 ≤ a ∧ a ≤ b ∧ b ≤ (l.length : Int), .str ((l.take b.toNat).drop a.toNat))
  | _, _, _ => none

def kindV (τ : Tys) (t : TypeId) : Option TyK := (τ t).map TyI.kind

def evPick (c a b : V) : Option (Prop × V) :=
  match c, a, b with
  | .bool c, .bool a, .bool b => some (True, .bool (bif c then a else b))
  | .bool c, a, b => some (True, bif c then a else b)
  | _, _, _ => none

def evBin (τ : Tys) (op : BinOp) (t : TypeId) (x y : V) : Option (Prop × V) :=
  match x, y with
  | .int k a, .int k' b => binInt op k a k' b
  | .str a, .str b => binStr op a b
  | .bool a, .bool b =>
    match kindV τ t, op with
    | some .bool, .eql => some (True, .bool (a == b))
    | some .bool, .neq => some (True, .bool (!(a == b)))
    | _, _ => none
  | _, _ => none

def evUn (op : UnOp) (x : V) : Option (Prop × V) :=
  match op, x with
  | .neg, .int k n => some (True, .int k (k.wrap (0 - n)))
  | .xor, .int k n => some (True, .int k (notK k n))
  | .not, .bool b => some (True, .bool (!b))
  | _, _ => none

def isBytes (τ : Tys) (t : TypeId) : Bool :=
  match kindV τ t with
  | some (.slice e) => match kindV τ e with | some (.int .u8) => true | _ => false
  | _ => false

def evConv (τ : Tys) (src dst : TypeId) (x : V) : Option (Prop × V) :=
  match kindV τ dst, x with
  | some (.int k), .int _ n => if (τ src).isSome then some (True, .int k (k.wrap n)) else none
  | some .str, .str l => if (τ src).isSome then some (True, .str l) else none
  | some .str, .bytes l _ => if isBytes τ src then some (True, .str l) else none
  | some .str, .nils => if isBytes τ src then some (True, .str []) else none
  | _, _ => none

def evExtract (x : V) (i : Nat) : Option (Prop × V) :=
  match x with
  | .tuple l => (l[i]?).map fun v => (True, v)
  | _ => none

def evLen (τ : Tys) (t : TypeId) (x : V) : Option (Prop × V) :=
  match kindV τ t, x with
  | some (.slice _), .bytes l _ => some (True, .int .i64 l.length)
  | some (.slice _), .list _ l _ => some (True, .int .i64 l.length)
  | some (.slice _), .nils => some (True, .int .i64 0)
  | some .str, .str l => some (True, .int .i64 l.length)
  | some (.array n _), _ => some (True, .int .i64 n)
  | _, _ => none

def evMin (x y : V) : Option (Prop × V) :=
  match x, y with
  | .int k a, .int _ b => some (True, .int k (if b < a then b else a))
  | _, _ => none

def evMax (x y : V) : Option (Prop × V) :=
  match x, y with
  | .int k a, .int _ b => some (True, .int k (if a < b then b else a))
  | _, _ => none

def evIndexAddr (τ : Tys) (t : TypeId) (x i : V) : Option (Prop × V) :=
  match kindV τ t, x, i with
  | some (.slice e), .bytes l _, .int _ j => if sizeV τ e = 1 then some (0 ≤ j ∧ j < (l.length : Int), .ref (.int .u8 (l.getD j.toNat 0).toNat)) else none
  | some (.slice e), .list sz l _, .int _ j => if sizeV τ e = sz ∧ 0 < sz then some (0 ≤ j ∧ j < (l.length : Int), .ref (l.getD j.toNat .any)) else none
  | some (.array n e), .box o off, .int _ j => if 0 < sizeV τ e then some (0 ≤ j ∧ j < (n : Int), .box o (off + j.toNat * sizeV τ e)) else none
  | _, _, _ => none

def evLoad (τ : Tys) (L : List (List V)) (t : TypeId) (a : V) : Option (Prop × V) :=
  match a with
  | .ref v => (loadV τ t v).map fun v => (True, v)
  | .box o off => match L[o]? with
    | some cs => (partV τ t cs off).map fun v => (True, v)
    | none => none
  | _ => none

def evFieldAddr (τ : Tys) (s : TypeId) (x : V) (f : Nat) : Option (Prop × V) :=
  match kindV τ s, x with
  | some (.struct fs), .ref (.agg l) => match fs[f]? with
    | some (off, ft) => if sizeV τ ft = 0 then none else (partV τ ft l off).map fun v => (True, .ref v)
    | none => none
  | some (.struct fs), .box o off0 => match fs[f]? with
    | some (off, ft) => if sizeV τ ft = 0 then none else some (True, .box o (off0 + off))
    | none => none
  | _, _ => none

def evField (τ : Tys) (t : TypeId) (x : V) (f : Nat) : Option (Prop × V) :=
  match kindV τ t, x with
  | some (.struct fs), .agg l => match fs[f]? with
    | some (off, ft) => (partV τ ft l off).map fun v => (True, v)
    | none => none
  | _, _ => none

def evIndex (τ : Tys) (t : TypeId) (x i : V) : Option (Prop × V) :=
  match kindV τ t, x, i with
  | some .str, .str l, .int _ j => some (0 ≤ j ∧ j < (l.length : Int), .int .u8 (l.getD j.toNat 0).toNat)
  | some (.array n e), .agg l, .int _ j => if 0 ≤ j ∧ j < (n : Int) then (partV τ e l (j.toNat * sizeV τ e)).map fun v => (True, v) else none
  | _, _, _ => none

def evSlice (τ : Tys) (t : TypeId) (x : V) (lo hi : Option V) : Option (Prop × V) :=
  match kindV τ t, x with
  | some (.slice e), .bytes l k => if sizeV τ e = 1 then sliceV (.bytes l k) lo hi else none
  | some (.slice e), .list sz l k => if sizeV τ e = sz ∧ 0 < sz then sliceV (.list sz l k) lo hi else none
  | some .str, .str l => sliceV (.str l) lo hi
  | _, _ => none

def evalPure (τ : Tys) (L : List (List V)) (ev : Operand → V) (op : Op) : Option (Prop × V) :=
  match op with
  | .move x => some (True, ev x)
  | .assign x => some (True, ev x)
  | .pick c a b => evPick (ev c) (ev a) (ev b)
  | .binOp op t x y _ => evBin τ op t (ev x) (ev y)
  | .unOp op _ x => evUn op (ev x)
  | .convert src dst x => evConv τ src dst (ev x)
  | .extract t i => evExtract (ev t) i
  | .call c =>
    match c.callee, c.args.toList, c.argTypes.toList with
    | .builtin .len, [x], [t] => evLen τ t (ev x)
    | .builtin .min, [x, y], _ => evMin (ev x) (ev y)
    | .builtin .max, [x, y], _ => evMax (ev x) (ev y)
    | _, _, _ => none
  | .indexAddr t x i => evIndexAddr τ t (ev x) (ev i)
  | .load t a => evLoad τ L t (ev a)
  | .fieldAddr s x f => evFieldAddr τ s (ev x) f
  | .field t x f => evField τ t (ev x) f
  | .index t x i => evIndex τ t (ev x) (ev i)
  | .slice t x lo hi none => evSlice τ t (ev x) (lo.map ev) (hi.map ev)
  | .makeFunc f first captured => some (True, .fn f (first.toList.map ev) (captured.toList.map ev))
  | _ => none

/-! ### that it is so -/

def BoxesOk (K : Kw) (L : List (List V)) : Prop :=
  K.boxes.length = L.length ∧ ∀ (o : Nat) (cs : List V), L[o]? = some cs → ∃ (b : Nat) (cur : Array Value) (ty : TypeId), K.boxes[o]? = some b ∧ K.w.heap[b]? = some (.cells cur ty (0, 0)) ∧
    ∃ h : cur.size = cs.length, ∀ j (hj : j < cs.length), Rel K cs[j] (cur[j]'(by omega)) ∧ (cur[j]'(by omega)).oneCell' = true

theorem add_block (a : Addr) (n : Nat) : (a.add n).block = a.block := by unfold Addr.add; split <;> rfl
theorem add_add (a : Addr) (i j : Nat) : (a.add i).add j = a.add (i + j) := by
  unfold Addr.add
  by_cases hi : i = 0 <;> by_cases hj : j = 0 <;> simp [hi, hj, Nat.add_assoc]

theorem kindV_some {τ : Tys} {t : TypeId} {k : TyK} (h : kindV τ t = some k) : ∃ i, τ t = some i ∧ i.kind = k := by
  unfold kindV at h
  cases hi : τ t with
  | none => simp [hi] at h
  | some i => exact ⟨i, rfl, by simpa [hi] using h⟩
theorem sizeV_pos {τ : Tys} {t : TypeId} {n : Nat} (h : sizeV τ t = n) (hn : 0 < n) : ∃ i, τ t = some i ∧ i.size = n := by
  unfold sizeV at h
  cases hi : τ t with
  | none => simp [hi] at h; omega
  | some i => exact ⟨i, rfl, by simpa [hi] using h⟩

section sound
variable {P : Program} {τ : Tys} {K : Kw} {L : List (List V)}

theorem pick_sound {c a b : V} {p : Prop} {v : V} {vc va vb : Value} (h : evPick c a b = some (p, v)) (rc : Rel K c vc) (ra : Rel K a va) (rb : Rel K b vb) :
    ∃ u, (do pure (.value (if ← asBool vc then va else vb)) : Sem Next).run P K.w = .ok (.value u) K.w ∧ Rel K v u := by
  unfold evPick at h
  split at h
  · rename_i c' a' b'
    cases rc; cases ra; cases rb
    simp only [Option.some.injEq, Prod.mk.injEq] at h
    obtain ⟨_, rfl⟩ := h
    refine ⟨_, ?_, .bool _⟩
    cases c' <;> simp [asBool]
  · rename_i cc _
    obtain ⟨c', rfl⟩ : ∃ c', c' = cc := ⟨_, rfl⟩
    cases rc
    simp only [Option.some.injEq, Prod.mk.injEq] at h
    obtain ⟨_, rfl⟩ := h
    cases c'
    · exact ⟨vb, by simp [asBool], rb⟩
    · exact ⟨va, by simp [asBool], ra⟩
  · cases h

theorem bin_sound (hτ : TyOk P τ) {op : BinOp} {t : TypeId} {x y : V} {p : Prop} {v : V} {vx vy : Value} {ox oy : Operand} (h : evBin τ op t x y = some (p, v)) (hp : p) (rx : Rel K x vx) (ry : Rel K y vy) :
    ∃ u, (do eqGuard op t ox oy vx vy; binOp op t vx vy : Sem Value).run P K.w = .ok u K.w ∧ Rel K v u := by
  unfold evBin at h
  split at h
  · cases rx; cases ry; exact binInt_sound h hp
  · cases rx; cases ry; exact binStr_sound h hp
  · rename_i a b
    cases rx; cases ry
    have hg : ((eqGuard op t ox oy (.bool a) (.bool b)) : Sem Unit).run P K.w = .ok () K.w := by
      unfold eqGuard; cases op <;> simp
    rw [Sem.run_bind, hg, Result.andThen_ok]
    split at h
    · rename_i hk
      obtain ⟨i, hi, hk⟩ := kindV_some hk
      simp only [Option.some.injEq, Prod.mk.injEq] at h
      obtain ⟨_, rfl⟩ := h
      exact ⟨_, run_eql_bool K.w t a b (hτ.bool hi hk), .bool _⟩
    · rename_i hk
      obtain ⟨i, hi, hk⟩ := kindV_some hk
      simp only [Option.some.injEq, Prod.mk.injEq] at h
      obtain ⟨_, rfl⟩ := h
      exact ⟨_, run_neq_bool K.w t a b (hτ.bool hi hk), .bool _⟩
    · cases h
  · cases h

theorem un_sound {op : UnOp} {x : V} {p : Prop} {v : V} {vx : Value} (h : evUn op x = some (p, v)) (rx : Rel K x vx) :
    ∃ u, (Op.unary op vx).run P K.w = .ok u K.w ∧ Rel K v u := by
  unfold evUn at h
  split at h
  · cases rx
    simp only [Option.some.injEq, Prod.mk.injEq] at h
    obtain ⟨_, rfl⟩ := h
    exact ⟨_, by simp [Op.unary, Op.intArith], .int _ _⟩
  · cases rx
    simp only [Option.some.injEq, Prod.mk.injEq] at h
    obtain ⟨_, rfl⟩ := h
    exact ⟨_, by simp [Op.unary, Op.intBits, notK], .int _ _⟩
  · cases rx
    simp only [Option.some.injEq, Prod.mk.injEq] at h
    obtain ⟨_, rfl⟩ := h
    exact ⟨_, by simp [Op.unary], .bool _⟩
  · cases h

theorem foldl_push (l : List UInt8) : ∀ s : ByteArray, (l.map fun b => (b.toNat : Int)).foldl (fun r n => r.push (UInt8.ofNat n.toNat)) s = ⟨(s.data.toList ++ l).toArray⟩ := by
  induction l with
  | nil => intro s; simp
  | cons b l ih =>
    intro s
    simp only [List.map_cons, List.foldl_cons]
    rw [ih]
    apply ByteArray.ext
    simp [ByteArray.push]

theorem rd_bytes {A : Option Addr} {l : List UInt8} {c : Nat} (hr : ∀ j (h : j < l.length), ∃ ad, A = some ad ∧ K.rd (ad.add j) (.int .u8 l[j].toNat)) :
    (Conv.bytesToString (.slice A l.length c)).run P K.w = .ok (.string ⟨l.toArray⟩) K.w := by
  cases A with
  | none =>
    have : l = [] := by
      cases l with
      | nil => rfl
      | cons b l => obtain ⟨ad, h, _⟩ := hr 0 (by simp); cases h
    subst this
    rfl
  | some ad =>
    have hl : (loadCells ad (l.map fun b => Value.int .u8 (b.toNat : Int)).length).run P K.w = .ok (l.map fun b => Value.int .u8 (b.toNat : Int)).toArray K.w := by
      refine run_loadCells_list (P := P) K.w ad _ fun j v hj => ?_
      simp only [List.getElem?_map, Option.map_eq_some_iff] at hj
      obtain ⟨b, hb, rfl⟩ := hj
      obtain ⟨hlt, rfl⟩ := List.getElem?_eq_some_iff.1 hb
      obtain ⟨ad', e, hrd⟩ := hr j hlt
      cases e
      exact hrd.2
    have hl' : (loadCells ad l.length).run P K.w = .ok ((l.map fun b => (b.toNat : Int)).map (Value.int .u8)).toArray K.w := by
      rw [List.map_map]; rw [List.length_map] at hl; exact hl
    rw [run_bytesToString K.w ad l.length c _ hl', foldl_push]
    rfl

theorem isBytes_spec (hτ : TyOk P τ) {t : TypeId} (h : isBytes τ t = true) : ∃ e, P.underlying t = some (.slice e) ∧ P.underlying e = some (.int .u8) := by
  unfold isBytes at h
  split at h
  · rename_i e hk
    split at h
    · rename_i hk'
      obtain ⟨i, hi, hk⟩ := kindV_some hk
      obtain ⟨i', hi', hk'⟩ := kindV_some hk'
      exact ⟨e, hτ.slice hi hk, hτ.int hi' hk'⟩
    · cases h
  · cases h

theorem conv_sound (hτ : TyOk P τ) {src dst : TypeId} {x : V} {p : Prop} {v : V} {vx : Value} (h : evConv τ src dst x = some (p, v)) (rx : Rel K x vx) :
    ∃ u, (convert src dst vx).run P K.w = .ok u K.w ∧ Rel K v u := by
  unfold evConv at h
  split at h
  · rename_i k k' n hk
    cases rx
    obtain ⟨i, hi, hk⟩ := kindV_some hk
    split at h
    · rename_i hs
      obtain ⟨is, his⟩ := Option.isSome_iff_exists.1 hs
      obtain ⟨d, hd, _⟩ := hτ.under his
      simp only [Option.some.injEq, Prod.mk.injEq] at h
      obtain ⟨_, rfl⟩ := h
      refine ⟨_, ?_, .int _ _⟩
      simp [convert, run_underlying hd, run_underlying (hτ.int hi hk), Conv.intToInt]
    · cases h
  · rename_i l hk
    cases rx
    obtain ⟨i, hi, hk⟩ := kindV_some hk
    split at h
    · rename_i hs
      obtain ⟨is, his⟩ := Option.isSome_iff_exists.1 hs
      obtain ⟨d, hd, _⟩ := hτ.under his
      simp only [Option.some.injEq, Prod.mk.injEq] at h
      obtain ⟨_, rfl⟩ := h
      refine ⟨_, ?_, .str _⟩
      simp [convert, run_underlying hd, run_underlying (hτ.str hi hk)]
    · cases h
  · rename_i l t hk
    cases rx with
    | bytes l t A c hc hm hr ht =>
    obtain ⟨i, hi, hk⟩ := kindV_some hk
    split at h
    · rename_i hb
      obtain ⟨e, he, he'⟩ := isBytes_spec hτ hb
      simp only [Option.some.injEq, Prod.mk.injEq] at h
      obtain ⟨_, rfl⟩ := h
      exact ⟨_, by rw [run_convert_bytes_string K.w src dst e A l.length c he he' (hτ.str hi hk), rd_bytes hr], .str _⟩
    · cases h
  · rename_i hk
    cases rx
    obtain ⟨i, hi, hk⟩ := kindV_some hk
    split at h
    · rename_i hb
      obtain ⟨e, he, he'⟩ := isBytes_spec hτ hb
      simp only [Option.some.injEq, Prod.mk.injEq] at h
      obtain ⟨_, rfl⟩ := h
      exact ⟨_, by rw [run_convert_bytes_string K.w src dst e none 0 0 he he' (hτ.str hi hk)]; rfl, .str []⟩
    · cases h
  · cases h

theorem extract_sound {x : V} {i : Nat} {p : Prop} {v : V} {vx : Value} (h : evExtract x i = some (p, v)) (rx : Rel K x vx) :
    ∃ u, (Instr.extract vx i).run P K.w = .ok u K.w ∧ Rel K v u := by
  unfold evExtract at h
  split at h
  · cases rx with
    | tuple l vs hl hr =>
    simp only [Option.map_eq_some_iff, Prod.mk.injEq] at h
    obtain ⟨v', hv', _, rfl⟩ := h
    obtain ⟨hlt, rfl⟩ := List.getElem?_eq_some_iff.1 hv'
    refine ⟨vs[i]'(by omega), ?_, hr i hlt⟩
    have : vs[i]? = some (vs[i]'(by omega)) := Array.getElem?_eq_getElem (by omega)
    simp [Instr.extract, this]
  · cases h

theorem len_sound (hτ : TyOk P τ) {t ty : TypeId} {x : V} {p : Prop} {v : V} {vx : Value} (h : evLen τ t x = some (p, v)) (rx : Rel K x vx) :
    ∃ u, (Builtin.len_ #[t] ty #[vx]).run P K.w = .ok u K.w ∧ Rel K v u := by
  unfold evLen at h
  split at h
  all_goals first
    | (rename_i hk
       obtain ⟨i, hi, hk⟩ := kindV_some hk
       simp only [Option.some.injEq, Prod.mk.injEq] at h
       obtain ⟨_, rfl⟩ := h
       refine ⟨_, ?_, .int _ _⟩
       first
         | (have hu := hτ.array hi hk
            simp [Builtin.len_, run_underlying hu, goInt]; done)
         | (cases rx
            have hu := hτ.slice hi hk
            simp [Builtin.len_, run_underlying hu, goInt]; done)
         | (cases rx
            have hu := hτ.str hi hk
            have hz : (ByteArray.mk (List.toArray ‹List UInt8›)).size = (‹List UInt8›).length := by simp [ByteArray.size]
            simp [Builtin.len_, run_underlying hu, goInt, hz]; done))
    | cases h

theorem min_sound {x y : V} {p : Prop} {v : V} {vx vy : Value} {ts : Array TypeId} {ty : TypeId} (h : evMin x y = some (p, v)) (rx : Rel K x vx) (ry : Rel K y vy) :
    ∃ u, (Builtin.min_ ts ty #[vx, vy]).run P K.w = .ok u K.w ∧ Rel K v u := by
  unfold evMin at h
  split at h
  · cases rx; cases ry
    simp only [Option.some.injEq, Prod.mk.injEq] at h
    obtain ⟨_, rfl⟩ := h
    exact ⟨_, run_min_int2 K.w ts ty _ _ _ _, .int _ _⟩
  · cases h
theorem max_sound {x y : V} {p : Prop} {v : V} {vx vy : Value} {ts : Array TypeId} {ty : TypeId} (h : evMax x y = some (p, v)) (rx : Rel K x vx) (ry : Rel K y vy) :
    ∃ u, (Builtin.max_ ts ty #[vx, vy]).run P K.w = .ok u K.w ∧ Rel K v u := by
  unfold evMax at h
  split at h
  · cases rx; cases ry
    simp only [Option.some.injEq, Prod.mk.injEq] at h
    obtain ⟨_, rfl⟩ := h
    exact ⟨_, run_max_int2 K.w ts ty _ _ _ _, .int _ _⟩
  · cases h

end sound
end Go.Proofs.Ytljmfemcfkhehaa.Aw
