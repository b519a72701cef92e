import Derived.Test.YtckmcglkjfkghaaDoorAw1
import Derived.Laws.Slices
import Derived.Laws.BytesArg
import Derived.Laws.Cells
import Derived.Laws.Small
namespace Go.Proofs.YtckmcglkjfkghaaDoor.Aw
open Go Go.RowKit
set_option linter.unusedVariables false
set_option linter.unusedSimpArgs false
inductive TyK where
  | int (k : IntKind)
  | bool
  | str
  | slice (e : TypeId)
  | struct (fs : List (Nat × TypeId))
  | array (n : Nat) (e : TypeId)
  | ptr (e : TypeId)
  | map (k v : TypeId)
  | func
  | other
  deriving Inhabited
def descK : TypeDesc → TyK
  | .int k => .int k
  | .bool => .bool
  | .string => .str
  | .slice e => .slice e
  | .struct fs => .struct (fs.toList.map fun f => (f.offset, f.type))
  | .array n e => .array n e
  | .pointer e => .ptr e
  | .map k v => .map k v
  | .func _ _ _ => .func
  | _ => .other
structure TyI where
  kind : TyK
  size : Nat
  bytes : Nat
  zero : Value
  deriving Inhabited
def TyI.isAgg (i : TyI) : Bool := match i.kind with | .struct _ => true | .array _ _ => true | _ => false
abbrev Tys := TypeId → Option TyI
def TyOk (P : Program) (τ : Tys) : Prop := ∀ t i, τ t = some i →
  (P.underlying t).map descK = some i.kind ∧ (P.info? t).map (fun x => (x.size, x.bytes, x.zero)) = some (i.size, i.bytes, some i.zero)
theorem TyOk.nil (P : Program) : TyOk P (fun _ => none) := fun _ _ h => by cases h
theorem TyOk.cons {P : Program} {τ : Tys} (h : TyOk P τ) (t0 : TypeId) (i0 : TyI) (h1 : (P.underlying t0).map descK = some i0.kind)
    (h2 : (P.info? t0).map (fun x => (x.size, x.bytes, x.zero)) = some (i0.size, i0.bytes, some i0.zero)) : TyOk P (fun t => if t = t0 then some i0 else τ t) := by
  intro t i hi
  by_cases e : t = t0
  · subst e
    simp at hi
    subst hi
    exact ⟨h1, h2⟩
  · simp [e] at hi
    exact h t i hi
section ty
variable {P : Program} {τ : Tys} {t e : TypeId} {i : TyI} {w : World}
theorem TyOk.under (h : TyOk P τ) (hi : τ t = some i) : ∃ d, P.underlying t = some d ∧ descK d = i.kind := by
  obtain ⟨h1, _⟩ := h t i hi
  cases hu : P.underlying t with
  | none => simp [hu] at h1
  | some d => exact ⟨d, rfl, by simpa [hu] using h1⟩
theorem TyOk.info (h : TyOk P τ) (hi : τ t = some i) : ∃ x, P.info? t = some x ∧ x.size = i.size ∧ x.bytes = i.bytes ∧ x.zero = some i.zero := by
  obtain ⟨_, h2⟩ := h t i hi
  cases hu : P.info? t with
  | none => simp [hu] at h2
  | some x => exact ⟨x, rfl, by simpa [hu] using h2⟩
theorem descK_int {d : TypeDesc} {k : IntKind} (h : descK d = .int k) : d = .int k := by cases d <;> simp [descK] at h; subst h; rfl
theorem descK_bool {d : TypeDesc} (h : descK d = .bool) : d = .bool := by cases d <;> simp [descK] at h; rfl
theorem descK_str {d : TypeDesc} (h : descK d = .str) : d = .string := by cases d <;> simp [descK] at h; rfl
theorem descK_slice {d : TypeDesc} {e : TypeId} (h : descK d = .slice e) : d = .slice e := by cases d <;> simp [descK] at h; subst h; rfl
theorem descK_array {d : TypeDesc} {n : Nat} {e : TypeId} (h : descK d = .array n e) : d = .array n e := by cases d <;> simp [descK] at h; obtain ⟨rfl, rfl⟩ := h; rfl
theorem descK_ptr {d : TypeDesc} {e : TypeId} (h : descK d = .ptr e) : d = .pointer e := by cases d <;> simp [descK] at h; subst h; rfl
theorem descK_struct {d : TypeDesc} {fs : List (Nat × TypeId)} (h : descK d = .struct fs) : ∃ f, d = .struct f ∧ f.toList.map (fun f => (f.offset, f.type)) = fs := by
  cases d <;> simp [descK] at h; exact ⟨_, rfl, h⟩
theorem TyOk.slice (h : TyOk P τ) (hi : τ t = some i) (hk : i.kind = .slice e) : P.underlying t = some (.slice e) := by
  obtain ⟨d, hd, hk'⟩ := h.under hi
  rw [hd, descK_slice (hk'.trans hk)]
theorem TyOk.int {k : IntKind} (h : TyOk P τ) (hi : τ t = some i) (hk : i.kind = .int k) : P.underlying t = some (.int k) := by
  obtain ⟨d, hd, hk'⟩ := h.under hi
  rw [hd, descK_int (hk'.trans hk)]
theorem TyOk.str (h : TyOk P τ) (hi : τ t = some i) (hk : i.kind = .str) : P.underlying t = some .string := by
  obtain ⟨d, hd, hk'⟩ := h.under hi
  rw [hd, descK_str (hk'.trans hk)]
theorem TyOk.bool (h : TyOk P τ) (hi : τ t = some i) (hk : i.kind = .bool) : P.underlying t = some .bool := by
  obtain ⟨d, hd, hk'⟩ := h.under hi
  rw [hd, descK_bool (hk'.trans hk)]
theorem TyOk.array {n : Nat} (h : TyOk P τ) (hi : τ t = some i) (hk : i.kind = .array n e) : P.underlying t = some (.array n e) := by
  obtain ⟨d, hd, hk'⟩ := h.under hi
  rw [hd, descK_array (hk'.trans hk)]
theorem TyOk.struct {fs : List (Nat × TypeId)} (h : TyOk P τ) (hi : τ t = some i) (hk : i.kind = .struct fs) : ∃ f, P.underlying t = some (.struct f) ∧ f.toList.map (fun f => (f.offset, f.type)) = fs := by
  obtain ⟨d, hd, hk'⟩ := h.under hi
  obtain ⟨f, rfl, hf⟩ := descK_struct (hk'.trans hk)
  exact ⟨f, hd, hf⟩
theorem TyOk.run_sizeOf (h : TyOk P τ) (hi : τ t = some i) : (sizeOf t).run P w = .ok i.size w := by
  obtain ⟨x, hx, hs, _⟩ := h.info hi
  simp [sizeOf, typeInfo, hx, hs]
theorem TyOk.run_isAgg (h : TyOk P τ) (hi : τ t = some i) : (isAgg t).run P w = .ok i.isAgg w := by
  obtain ⟨d, hd, hk⟩ := h.under hi
  simp only [isAgg, Sem.run_bind, run_underlying hd, Result.andThen_ok, TyI.isAgg, ← hk]
  cases d <;> rfl
theorem TyOk.run_zero (h : TyOk P τ) (hi : τ t = some i) : (zeroValue t).run P w = .ok i.zero w := by
  obtain ⟨x, hx, _, _, hz⟩ := h.info hi
  simp [zeroValue, typeInfo, hx, hz]
end ty
def V.ofV1 : Value → V
  | .int k n => .int k n
  | .bool b => .bool b
  | .string s => .str s.data.toList
  | .slice none 0 0 => .nils
  | .tuple ⟨[]⟩ => .undef
  | v => .raw v
def V.ofV : Value → V
  | .agg cs => if cs.all (·.oneCell') then .agg (cs.toList.map V.ofV1) else .raw (.agg cs)
  | v => V.ofV1 v
def TyI.zeroV (i : TyI) : V := V.ofV i.zero
theorem ofV1_rel (K : Kw) (v : Value) : Rel K (V.ofV1 v) v := by
  unfold V.ofV1
  split
  · exact .int _ _
  · exact .bool _
  · rename_i s
    have := Rel.str (K := K) s.data.toList
    simpa using this
  · exact .nils
  · exact .undef
  · exact .raw _
theorem ofV_rel (K : Kw) (v : Value) : Rel K (V.ofV v) v := by
  unfold V.ofV
  split
  · rename_i cs
    split
    · rename_i ha
      refine .agg _ _ (by simp) (fun j h => ?_) fun j h => ?_
      · rw [Array.all_eq_true] at ha
        exact ha j h
      · simp only [List.getElem_map, Array.getElem_toList]
        exact ofV1_rel K _
    · exact .raw _
  · exact ofV1_rel K _
def shlK (k : IntKind) (a b : Int) : Int := k.wrap (a * 2 ^ (min b.toNat k.bits))
def shrK (k : IntKind) (a b : Int) : Int := a / 2 ^ (min b.toNat k.bits)
def andK (k : IntKind) (a b : Int) : Int := k.wrap (BitVec.ofInt k.bits a &&& BitVec.ofInt k.bits b).toNat
def orK (k : IntKind) (a b : Int) : Int := k.wrap (BitVec.ofInt k.bits a ||| BitVec.ofInt k.bits b).toNat
def xorK (k : IntKind) (a b : Int) : Int := k.wrap (BitVec.ofInt k.bits a ^^^ BitVec.ofInt k.bits b).toNat
def andNotK (k : IntKind) (a b : Int) : Int := k.wrap (BitVec.ofInt k.bits a &&& ~~~ BitVec.ofInt k.bits b).toNat
def notK (k : IntKind) (n : Int) : Int := k.wrap (BitVec.ofInt k.bits (if k.signed then -1 else k.max) ^^^ BitVec.ofInt k.bits n).toNat
def binInt (op : BinOp) (k : IntKind) (a : Int) (k' : IntKind) (b : Int) : Option (Prop × V) :=
  match op with
  | .shl => some (0 ≤ b, .int k (shlK k a b))
  | .shr => some (0 ≤ b, .int k (shrK k a b))
  | .add => if k = k' then some (True, .int k (k.wrap (a + b))) else none
  | .sub => if k = k' then some (True, .int k (k.wrap (a - b))) else none
  | .mul => if k = k' then some (True, .int k (k.wrap (a * b))) else none
  | .quo => if k = k' then some (b ≠ 0, .int k (k.wrap (a.tdiv b))) else none
  | .rem => if k = k' then some (b ≠ 0, .int k (a.tmod b)) else none
  | .and => if k = k' then some (True, .int k (andK k a b)) else none
  | .or => if k = k' then some (True, .int k (orK k a b)) else none
  | .xor => if k = k' then some (True, .int k (xorK k a b)) else none
  | .andNot => if k = k' then some (True, .int k (andNotK k a b)) else none
  | .eql => if k = k' then some (True, .bool (decide (a = b))) else none
  | .neq => if k = k' then some (True, .bool (!decide (a = b))) else none
  | .lss => if k = k' then some (True, .bool (decide (a < b))) else none
  | .leq => if k = k' then some (True, .bool (decide (a ≤ b))) else none
  | .gtr => if k = k' then some (True, .bool (decide (b < a))) else none
  | .geq => if k = k' then some (True, .bool (decide (b ≤ a))) else none
def binStr (op : BinOp) (a b : List UInt8) : Option (Prop × V) :=
  match op with
  | .add => some (a.length + b.length ≤ 9223372036854775807, .str (a ++ b))
  | .eql => some (True, .bool (decide (a = b)))
  | .neq => some (True, .bool (!decide (a = b)))
  | .lss => some (True, .bool (Op.bytesLess a b))
  | .leq => some (True, .bool (Op.bytesLess a b || decide (a = b)))
  | .gtr => some (True, .bool (!(Op.bytesLess a b || decide (a = b))))
  | .geq => some (True, .bool (!Op.bytesLess a b))
  | _ => none
theorem fdiv_pow (a : Int) (n : Nat) : a.fdiv (2 ^ n) = a / 2 ^ n := by
  have h : (0 : Int) ≤ 2 ^ n := by exact Int.pow_nonneg (by omega)
  exact Int.fdiv_eq_ediv_of_nonneg a h
theorem binInt_sound {P : Program} {w : World} {op : BinOp} {k k' : IntKind} {a b : Int} {t : TypeId} {x y : Operand} {p : Prop} {v : V} {K : Kw} (h : binInt op k a k' b = some (p, v)) (hp : p) :
    ∃ u, (do eqGuard op t x y (.int k a) (.int k' b); binOp op t (.int k a) (.int k' b) : Sem Value).run P w = .ok u w ∧ Rel K v u := by
  have hg : ((eqGuard op t x y (.int k a) (.int k' b)) : Sem Unit).run P w = .ok () w := by
    unfold eqGuard; cases op <;> simp
  rw [Sem.run_bind, hg, Result.andThen_ok]
  cases op <;> simp only [binInt, Option.some.injEq, Prod.mk.injEq, Option.ite_none_right_eq_some] at h
  case shl | shr =>
    obtain ⟨rfl, rfl⟩ := h
    have hp' : ¬ b < 0 := by omega
    refine ⟨_, ?_, .int _ _⟩
    simp [binOp, Op.shift, hp', fdiv_pow, shlK, shrK]
  case quo | rem =>
    obtain ⟨rfl, rfl, rfl⟩ := h
    have hp' : b ≠ 0 := hp
    refine ⟨_, ?_, .int _ _⟩
    simp [binOp, Op.intDiv, hp']
  case add | sub | mul | and | or | xor | andNot =>
    obtain ⟨rfl, rfl, rfl⟩ := h
    refine ⟨_, ?_, .int _ _⟩
    simp [binOp, Op.intArith, Op.intBits, andK, orK, xorK, andNotK]
  case lss | leq | gtr | geq =>
    obtain ⟨rfl, rfl, rfl⟩ := h
    refine ⟨_, ?_, .bool _⟩
    simp [binOp, Op.intCmp]
  case eql =>
    obtain ⟨rfl, rfl, rfl⟩ := h
    refine ⟨_, ?_, .bool _⟩
    by_cases e : a = b <;> simp [binOp, Op.intCmp, e]
  case neq =>
    obtain ⟨rfl, rfl, rfl⟩ := h
    refine ⟨_, ?_, .bool _⟩
    by_cases e : a = b <;> simp [binOp, Op.intCmp, e]
theorem binStr_sound {P : Program} {w : World} {op : BinOp} {a b : List UInt8} {t : TypeId} {x y : Operand} {p : Prop} {v : V} {K : Kw} (h : binStr op a b = some (p, v)) (hp : p) :
    ∃ u, (do eqGuard op t x y (.string ⟨a.toArray⟩) (.string ⟨b.toArray⟩); binOp op t (.string ⟨a.toArray⟩) (.string ⟨b.toArray⟩) : Sem Value).run P w = .ok u w ∧ Rel K v u := by
  have hg : ((eqGuard op t x y (.string ⟨a.toArray⟩) (.string ⟨b.toArray⟩)) : Sem Unit).run P w = .ok () w := by
    unfold eqGuard; cases op <;> simp
  rw [Sem.run_bind, hg, Result.andThen_ok]
  have ha : (ByteArray.mk a.toArray).toList = a := ByteArray.toList_mk a
  have hb : (ByteArray.mk b.toArray).toList = b := ByteArray.toList_mk b
  have hd : (a == b) = decide (a = b) := by by_cases e : a = b <;> simp [e]
  cases op <;> simp only [binStr, Option.some.injEq, Prod.mk.injEq, reduceCtorEq] at h
  all_goals obtain ⟨rfl, rfl⟩ := h
  case add =>
    refine ⟨.string ⟨(a ++ b).toArray⟩, ?_, .str _⟩
    have hs : ¬ (IntKind.i64.max < (a.length : Int) + (b.length : Int)) := by simp [IntKind.max, IntKind.signed, IntKind.bits]; omega
    simp only [binOp, Op.stringOp, ByteArray.size, List.size_toArray, gt_iff_lt, Int.natCast_add, hs, if_false, Sem.run_pure]
    have e : (ByteArray.mk a.toArray) ++ (ByteArray.mk b.toArray) = ByteArray.mk (a ++ b).toArray := by
      apply ByteArray.ext
      simp
    rw [e]
  all_goals
    refine ⟨_, ?_, .bool _⟩
    simp [binOp, Op.stringOp, ha, hb, hd]
end Go.Proofs.YtckmcglkjfkghaaDoor.Aw
