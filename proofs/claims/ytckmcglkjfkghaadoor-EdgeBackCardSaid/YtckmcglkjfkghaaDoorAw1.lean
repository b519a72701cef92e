import Derived.Below
import Derived.Laws.OwnMore
import Derived.WalkKit
import Derived.Laws.Strings
namespace Go.Proofs.YtckmcglkjfkghaaDoor.Aw
open Go Go.RowKit
set_option linter.unusedVariables false
set_option linter.unusedSimpArgs false
inductive MKey where
  | str (l : List UInt8)
  | int (k : IntKind) (n : Int)
  deriving Inhabited, DecidableEq
inductive V where
  | any
  | undef
  | int (k : IntKind) (n : Int)
  | bool (b : Bool)
  | may (p q : Prop)
  | str (l : List UInt8)
  | raw (v : Value)
  | nils
  | zero
  | bytes (l : List UInt8) (t : Option Nat)
  | list (sz : Nat) (l : List V) (t : Option Nat)
  | agg (l : List V)
  | tuple (l : List V)
  | box (o off : Nat)
  | mrow (e : TypeId) (o off n : Nat)
  | ref (v : V)
  | fn (f : Fn) (first captured : List V)
  | vrow (e : TypeId) (sz o n : Nat)
  | mref (o : Nat)
  | iter (o : Nat)
  | iter0
  | mapc (kk : Option IntKind) (ck : Nat) (l : List (MKey × Nat × V))
  | iterc (om since : Nat) (seen : List Nat) (last : Nat)
  | loopc (r : Loop)
  deriving Inhabited
def MKey.kind : MKey → Option IntKind
  | .str _ => none
  | .int k _ => some k
def MKey.val : MKey → Value
  | .str l => .string ⟨l.toArray⟩
  | .int k n => .int k n
def V.cells : V → List V
  | .agg l => l
  | v => [v]
def _root_.Go.World.shp (w : World) (b : Nat) : Option (Option TypeId × Nat) :=
  match w.heap[b]? with
  | some (.cells c e _) => some (some e, c.size)
  | some (.deferred (some [])) => some (none, 0)
  | some (.loop _) => some (none, 1)
  | _ => none
structure Kw where
  w : World
  prot : Nat → Nat → Prop
  boxes : List (Option Nat)
  toks : List (Value × Nat × TypeId)
def Kw.rd (K : Kw) (a : Addr) (u : Value) : Prop := K.prot a.block a.off ∧ K.w.cell? a = some u
def Kw.tokOk (K : Kw) (t : Option Nat) (n : Nat) (v : Value) : Prop :=
  match t with
  | none => True
  | some k => ∃ u m e, K.toks[k]? = some (u, m, e) ∧ n ≤ m ∧ (n = m → v = u)
inductive Rel (K : Kw) : V → Value → Prop
  | any (v : Value) : Rel K .any v
  | undef : Rel K .undef Go.undef
  | int (k : IntKind) (n : Int) : Rel K (.int k n) (.int k n)
  | bool (b : Bool) : Rel K (.bool b) (.bool b)
  | may (p q : Prop) (b : Bool) (hp : b = true → p) (hq : b = false → q) : Rel K (.may p q) (.bool b)
  | str (l : List UInt8) : Rel K (.str l) (.string ⟨l.toArray⟩)
  | raw (v : Value) : Rel K (.raw v) v
  | nils : Rel K .nils (.slice none 0 0)
  | zero (A : Option Addr) : Rel K .zero (.slice A 0 0)
  | bytes (l : List UInt8) (t : Option Nat) (A : Option Addr) (c : Nat) (hc : l.length ≤ c) (hm : c ≤ maxLen)
      (hr : ∀ j (h : j < l.length), ∃ ad, A = some ad ∧ K.rd (ad.add j) (.int .u8 l[j].toNat)) (ht : K.tokOk t l.length (.slice A l.length c)) :
      Rel K (.bytes l t) (.slice A l.length c)
  | list (sz : Nat) (l : List V) (t : Option Nat) (A : Option Addr) (c : Nat) (f : Nat → Value) (hc : l.length ≤ c) (hm : c ≤ maxLen)
      (hs : ∀ v ∈ l, v.cells.length = sz) (hr : ∀ j, j < l.length * sz → (∃ ad, A = some ad ∧ K.rd (ad.add j) (f j)) ∧ (f j).oneCell' = true)
      (hf : ∀ j (h : j < (l.flatMap V.cells).length), Rel K (l.flatMap V.cells)[j] (f j)) (ht : K.tokOk t l.length (.slice A l.length c)) :
      Rel K (.list sz l t) (.slice A l.length c)
  | agg (l : List V) (vs : Array Value) (hl : vs.size = l.length) (ho : ∀ j (h : j < vs.size), vs[j].oneCell' = true) (h : ∀ j (h : j < l.length), Rel K l[j] (vs[j]'(by omega))) : Rel K (.agg l) (.agg vs)
  | tuple (l : List V) (vs : Array Value) (hl : vs.size = l.length) (h : ∀ j (h : j < l.length), Rel K l[j] (vs[j]'(by omega))) : Rel K (.tuple l) (.tuple vs)
  | box (o off b : Nat) (h : K.boxes[o]? = some (some b)) (s : TypeId × Nat) (hs : K.w.shp b = some (some s.1, s.2)) : Rel K (.box o off) (.pointer (some ⟨b, off, none⟩))
  | vrow (em : TypeId) (sz o n : Nat) (A : Option Addr) (c : Nat) (hc : n ≤ c) (hm : c ≤ maxLen) (hA : (n = 0 ∧ c = 0) ∨ ∃ b m, A = some ⟨b, 0, none⟩ ∧ K.boxes[o]? = some (some b) ∧ K.w.shp b = some (some em, m) ∧ c * sz ≤ m) : Rel K (.vrow em sz o n) (.slice A n c)
  | mref (o b : Nat) (h : K.boxes[o]? = some (some b)) : Rel K (.mref o) (.map (some b))
  | iter (o b : Nat) (h : K.boxes[o]? = some (some b)) : Rel K (.iter o) (.pointer (some ⟨b, 0, none⟩))
  | mrow (em : TypeId) (o off n : Nat) (A : Option Addr) (c : Nat) (hc : n ≤ c) (hm : c ≤ maxLen) (hA : (n = 0 ∧ c = 0) ∨ ∃ b m, A = some ⟨b, off, none⟩ ∧ K.boxes[o]? = some (some b) ∧ K.w.shp b = some (some em, m) ∧ off + c ≤ m) : Rel K (.mrow em o off n) (.slice A n c)
  | ref (v : V) (ad : Addr) (f : Nat → Value) (hr : ∀ j, j < v.cells.length → K.rd (ad.add j) (f j) ∧ (f j).oneCell' = true)
      (hf : ∀ j (h : j < v.cells.length), Rel K v.cells[j] (f j)) : Rel K (.ref v) (.pointer (some ad))
  | fn (f : Fn) (l m : List V) (vs us : Array Value) (hl : vs.size = l.length) (hm : us.size = m.length)
      (h : ∀ j (h : j < l.length), Rel K l[j] (vs[j]'(by omega))) (h' : ∀ j (h : j < m.length), Rel K m[j] (us[j]'(by omega))) : Rel K (.fn f l m) (.func f vs us)
structure Ext (K K' : Kw) : Prop where
  cell : ∀ b o, K.prot b o → K'.prot b o ∧ K'.w.cell? ⟨b, o, none⟩ = K.w.cell? ⟨b, o, none⟩
  boxes : ∀ (o b : Nat), K.boxes[o]? = some (some b) → K'.boxes[o]? = some (some b)
  toks : ∀ (k : Nat) u m e, K.toks[k]? = some (u, m, e) → ∃ u' m', K'.toks[k]? = some (u', m', e) ∧ m ≤ m' ∧ (m = m' → u' = u)
  size : ∀ (b : Nat) s, K.w.shp b = some s → K'.w.shp b = some s
theorem Ext.refl (K : Kw) : Ext K K := ⟨fun _ _ h => ⟨h, rfl⟩, fun _ _ h => h, fun _ u m _ h => ⟨u, m, h, Nat.le_refl _, fun _ => rfl⟩, fun _ _ h => h⟩
theorem Ext.trans {K K' K'' : Kw} (h : Ext K K') (g : Ext K' K'') : Ext K K'' := by
  refine ⟨fun b o hp => ?_, fun o b hb => g.boxes o b (h.boxes o b hb), fun k u m e hk => ?_, fun b s hs => g.size b s (h.size b s hs)⟩
  · obtain ⟨p1, c1⟩ := h.cell b o hp
    obtain ⟨p2, c2⟩ := g.cell b o p1
    exact ⟨p2, c2.trans c1⟩
  · obtain ⟨u1, m1, h1, l1, e1⟩ := h.toks k u m e hk
    obtain ⟨u2, m2, h2, l2, e2⟩ := g.toks k u1 m1 e h1
    refine ⟨u2, m2, h2, by omega, fun he => ?_⟩
    have a1 : m = m1 := by omega
    have a2 : m1 = m2 := by omega
    rw [e2 a2, e1 a1]
def Keeps (nb nt : Nat) (K K' : Kw) : Prop :=
  (∀ (b : Nat) s, K.w.shp b = some s → K'.w.shp b = some s) ∧
  (∀ b o, K.prot b o → K'.prot b o ∧ K'.w.cell? ⟨b, o, none⟩ = K.w.cell? ⟨b, o, none⟩) ∧ (∀ (o b : Nat), o < nb → K.boxes[o]? = some (some b) → K'.boxes[o]? = some (some b)) ∧
  ∀ (k : Nat) u m e, k < nt → K.toks[k]? = some (u, m, e) → ∃ u' m', K'.toks[k]? = some (u', m', e) ∧ m ≤ m' ∧ (m = m' → u' = u)
theorem Ext.keeps {K K' : Kw} (h : Ext K K') (nb nt : Nat) : Keeps nb nt K K' := ⟨h.size, h.cell, fun o b _ hb => h.boxes o b hb, fun k u m e _ hk => h.toks k u m e hk⟩
theorem Keeps.refl (nb nt : Nat) (K : Kw) : Keeps nb nt K K := (Ext.refl K).keeps nb nt
theorem Keeps.step {nb nt : Nat} {K0 K K' : Kw} (h : Keeps nb nt K0 K) (g : Ext K K') : Keeps nb nt K0 K' := by
  obtain ⟨h0, h1, h2, h3⟩ := h
  refine ⟨fun b s hs => g.size b s (h0 b s hs), fun b o hp => ?_, fun o b ho hb => g.boxes o b (h2 o b ho hb), fun k u m e hk0 hk => ?_⟩
  · obtain ⟨p1, c1⟩ := h1 b o hp
    obtain ⟨p2, c2⟩ := g.cell b o p1
    exact ⟨p2, c2.trans c1⟩
  · obtain ⟨u1, m1, t1, l1, e1⟩ := h3 k u m e hk0 hk
    obtain ⟨u2, m2, t2, l2, e2⟩ := g.toks k u1 m1 e t1
    refine ⟨u2, m2, t2, by omega, fun he => ?_⟩
    rw [e2 (by omega), e1 (by omega)]
theorem Keeps.ext {nb nt : Nat} {K K' : Kw} (h : Keeps nb nt K K') (hb : K.boxes.length ≤ nb) (ht : K.toks.length ≤ nt) : Ext K K' :=
  ⟨h.2.1, fun o b ho => h.2.2.1 o b (by have := (List.getElem?_eq_some_iff.1 ho).1; omega) ho, fun k u m e hk => h.2.2.2 k u m e (by have := (List.getElem?_eq_some_iff.1 hk).1; omega) hk, h.1⟩
structure Bs where
  p : Nat → Nat → Prop
  k0 : Kw
  nb : Nat
  nt : Nat
def Bs.pure (w : World) (p : Nat → Nat → Prop) : Bs := ⟨p, ⟨{ w with heap := #[] }, fun _ _ => False, [], []⟩, 0, 0⟩
theorem keeps_pure (w : World) (p : Nat → Nat → Prop) (K : Kw) : Keeps (Bs.pure w p).nb (Bs.pure w p).nt (Bs.pure w p).k0 K :=
  ⟨fun b s h => (by simp [Bs.pure, World.shp] at h), fun b o h => h.elim, fun o b ho => absurd ho (Nat.not_lt_zero _), fun k u m e hk => absurd hk (Nat.not_lt_zero _)⟩
theorem spot_none {w : World} {a : Addr} {u : Value} (h : w.cell? a = some u) : a = ⟨a.block, a.off, none⟩ := by
  obtain ⟨b, o, s⟩ := a
  unfold World.cell? at h
  split at h
  · split at h
    · cases h
    · rename_i hs
      simp at hs
      subst hs
      rfl
  · cases h
structure Ext0 (K K' : Kw) : Prop where
  cell : ∀ b o, K.prot b o → K'.prot b o ∧ K'.w.cell? ⟨b, o, none⟩ = K.w.cell? ⟨b, o, none⟩
  boxes : ∀ (o b : Nat), K.boxes[o]? = some (some b) → K'.boxes[o]? = some (some b)
  toks : ∀ (k : Nat) u m e, K.toks[k]? = some (u, m, e) → ∃ u' m', K'.toks[k]? = some (u', m', e) ∧ m ≤ m' ∧ (m = m' → u' = u)
  size : ∀ (b : Nat) e n, K.w.shp b = some (some e, n) → K'.w.shp b = some (some e, n)
theorem Ext0.trans {K K' K'' : Kw} (h : Ext0 K K') (g : Ext0 K' K'') : Ext0 K K'' := by
  refine ⟨fun b o hp => ?_, fun o b hb => g.boxes o b (h.boxes o b hb), fun k u m e hk => ?_, fun b e n hs => g.size b e n (h.size b e n hs)⟩
  · obtain ⟨p1, c1⟩ := h.cell b o hp
    obtain ⟨p2, c2⟩ := g.cell b o p1
    exact ⟨p2, c2.trans c1⟩
  · obtain ⟨u1, m1, h1, l1, e1⟩ := h.toks k u m e hk
    obtain ⟨u2, m2, h2, l2, e2⟩ := g.toks k u1 m1 e h1
    refine ⟨u2, m2, h2, by omega, fun he => ?_⟩
    rw [e2 (by omega), e1 (by omega)]
theorem Ext.to0 {K K' : Kw} (h : Ext K K') : Ext0 K K' := ⟨h.cell, h.boxes, h.toks, fun b e n hs => h.size b _ hs⟩
theorem Kw.rd.ext0 {K K' : Kw} (h : Ext0 K K') {a : Addr} {u : Value} (hr : K.rd a u) : K'.rd a u := by
  obtain ⟨hp, hc⟩ := hr
  obtain ⟨p, c⟩ := h.cell _ _ hp
  refine ⟨p, ?_⟩
  have e := spot_none hc
  rw [e] at hc ⊢
  exact c.trans hc
theorem Kw.tokOk.ext0 {K K' : Kw} (h : Ext0 K K') {t : Option Nat} {n : Nat} {v : Value} (ht : K.tokOk t n v) : K'.tokOk t n v := by
  cases t with
  | none => trivial
  | some k =>
    obtain ⟨u, m, e, hk, hn, hv⟩ := ht
    obtain ⟨u', m', hk', hm, hu⟩ := h.toks k u m e hk
    refine ⟨u', m', e, hk', by omega, fun he => ?_⟩
    rw [hv (by omega), hu (by omega)]
theorem Rel.ext0 {K K' : Kw} (h : Ext0 K K') {x : V} {v : Value} (hr : Rel K x v) : Rel K' x v := by
  induction hr with
  | any v => exact .any v
  | undef => exact .undef
  | int k n => exact .int k n
  | bool b => exact .bool b
  | may p q b hp hq => exact .may p q b hp hq
  | str l => exact .str l
  | raw v => exact .raw v
  | nils => exact .nils
  | zero A => exact .zero A
  | bytes l t A c hc hm hr ht => exact .bytes l t A c hc hm (fun j hj => let ⟨ad, e, r⟩ := hr j hj; ⟨ad, e, r.ext0 h⟩) (ht.ext0 h)
  | list sz l t A c f hc hm hs hr hf ht ih => exact .list sz l t A c f hc hm hs (fun j hj => let ⟨⟨ad, e, r⟩, o⟩ := hr j hj; ⟨⟨ad, e, r.ext0 h⟩, o⟩) ih (ht.ext0 h)
  | agg l vs hl ho hj ih => exact .agg l vs hl ho ih
  | tuple l vs hl hj ih => exact .tuple l vs hl ih
  | box o off b hb s hs => exact .box o off b (h.boxes o b hb) s (h.size _ _ _ hs)
  | vrow em sz o n A c hc hm hA => exact .vrow em sz o n A c hc hm (hA.imp id fun ⟨b, m, e1, hb, hs, hl⟩ => ⟨b, m, e1, h.boxes o b hb, h.size _ _ _ hs, hl⟩)
  | mref o b hb => exact .mref o b (h.boxes o b hb)
  | iter o b hb => exact .iter o b (h.boxes o b hb)
  | mrow em o off n A c hc hm hA => exact .mrow em o off n A c hc hm (hA.imp id fun ⟨b, m, e1, hb, hs, hl⟩ => ⟨b, m, e1, h.boxes o b hb, h.size _ _ _ hs, hl⟩)
  | ref v ad f hr hf ih => exact .ref v ad f (fun j hj => ⟨(hr j hj).1.ext0 h, (hr j hj).2⟩) ih
  | fn f l m vs us hl hm h1 h2 ih1 ih2 => exact .fn f l m vs us hl hm ih1 ih2
theorem Kw.rd.ext {K K' : Kw} (h : Ext K K') {a : Addr} {u : Value} (hr : K.rd a u) : K'.rd a u := hr.ext0 h.to0
theorem Kw.tokOk.ext {K K' : Kw} (h : Ext K K') {t : Option Nat} {n : Nat} {v : Value} (ht : K.tokOk t n v) : K'.tokOk t n v := ht.ext0 h.to0
theorem Rel.ext {K K' : Kw} (h : Ext K K') {x : V} {v : Value} (hr : Rel K x v) : Rel K' x v := hr.ext0 h.to0
def V.one : V → Bool
  | .any => false
  | .undef => false
  | .agg _ => false
  | .tuple _ => false
  | .raw u => u.oneCell'
  | _ => true
theorem Rel.one {K : Kw} {x : V} {u : Value} (h : Rel K x u) (hx : x.one = true) : u.oneCell' = true ∧ x.cells = [x] ∧ u.cells = #[u] := by
  cases h <;> first | (simp [V.one] at hx; done) | exact ⟨rfl, rfl, rfl⟩ | skip
  refine ⟨hx, rfl, ?_⟩
  cases u <;> first | rfl | (simp [V.one, Value.oneCell'] at hx; done)
def V.le : V → V → Prop
  | _, .any => True
  | .nils, .bytes l t => l = [] ∧ t = none
  | .nils, .list _ l t => l = [] ∧ t = none
  | .nils, .zero => True
  | .zero, .bytes l t => l = [] ∧ t = none
  | .zero, .list _ l t => l = [] ∧ t = none
  | .bytes l _, .bytes l' none => l = l'
  | .list sz l _, .list sz' l' none => sz = sz' ∧ l = l'
  | .bool b, .may p q => (b = true → p) ∧ (b = false → q)
  | .may p q, .may p' q' => (p → p') ∧ (q → q')
  | .tuple l, .tuple l' => leL l l'
  | .agg l, .agg l' => leL l l'
  | x, y => x = y
where leL : List V → List V → Prop
  | [], [] => True
  | x :: l, y :: l' => V.le x y ∧ leL l l'
  | _, _ => False
theorem Kw.tokOk_none (K : Kw) (n : Nat) (v : Value) : K.tokOk none n v := trivial
mutual
theorem le_rel {K : Kw} : ∀ (x y : V), V.le x y → ∀ v, Rel K x v → Rel K y v
  | x, y, h, v, hr => by
    unfold V.le at h
    split at h
    · exact .any v
    · obtain ⟨rfl, rfl⟩ := h
      cases hr
      exact .bytes [] none none 0 (by simp) (by simp) (fun j hj => absurd hj (by simp)) trivial
    · obtain ⟨rfl, rfl⟩ := h
      cases hr
      exact .list _ [] none none 0 (fun _ => Go.undef) (by simp) (by simp) (fun _ h => absurd h (by simp)) (fun j hj => absurd hj (by simp)) (fun j hj => absurd hj (by simp)) trivial
    · cases hr
      exact .zero none
    · obtain ⟨rfl, rfl⟩ := h
      cases hr with
      | zero A => exact .bytes [] none A 0 (by simp) (by simp) (fun j hj => absurd hj (by simp)) trivial
    · obtain ⟨rfl, rfl⟩ := h
      cases hr with
      | zero A => exact .list _ [] none A 0 (fun _ => Go.undef) (by simp) (by simp) (fun _ h => absurd h (by simp)) (fun j hj => absurd hj (by simp)) (fun j hj => absurd hj (by simp)) trivial
    · subst h
      cases hr with
      | bytes l t A c hc hm hr ht => exact .bytes _ none A c hc hm hr trivial
    · obtain ⟨rfl, rfl⟩ := h
      cases hr with
      | list sz l t A c f hc hm hs hr hf ht => exact .list _ _ none A c f hc hm hs hr hf trivial
    · cases hr
      exact .may _ _ _ h.1 h.2
    · cases hr with
      | may _ _ b hp hq => exact .may _ _ b (fun e => h.1 (hp e)) (fun e => h.2 (hq e))
    · rename_i l l'
      cases hr with
      | tuple l vs hl hj =>
        obtain ⟨e, r⟩ := leL_rel l l' h
        refine .tuple l' vs (by omega) fun j hj' => ?_
        have := r (fun k => if hk : k < vs.size then vs[k] else Go.undef) (fun k hk => by simpa [hl, hk] using hj k hk) j hj'
        simpa [show j < vs.size by omega] using this
    · rename_i l l'
      cases hr with
      | agg l vs hl ho hj =>
        obtain ⟨e, r⟩ := leL_rel l l' h
        refine .agg l' vs (by omega) ho fun j hj' => ?_
        have := r (fun k => if hk : k < vs.size then vs[k] else Go.undef) (fun k hk => by simpa [hl, hk] using hj k hk) j hj'
        simpa [show j < vs.size by omega] using this
    · subst h
      exact hr
theorem leL_rel {K : Kw} : ∀ (l l' : List V), V.le.leL l l' → l.length = l'.length ∧ ∀ (f : Nat → Value), (∀ j (h : j < l.length), Rel K l[j] (f j)) → ∀ j (h : j < l'.length), Rel K l'[j] (f j)
  | [], [], _ => ⟨rfl, fun _ _ _ h => absurd h (by simp)⟩
  | x :: l, y :: l', h => by
    obtain ⟨h1, h2⟩ := h
    obtain ⟨e, r⟩ := leL_rel l l' h2
    refine ⟨by simp [e], fun f hf j hj => ?_⟩
    cases j with
    | zero => exact le_rel x y h1 _ (hf 0 (by simp))
    | succ j =>
      simp only [List.length_cons] at hj
      exact r (fun k => f (k + 1)) (fun k hk => hf (k + 1) (by simp; omega)) j (by omega)
  | [], _ :: _, h => h.elim
  | _ :: _, [], h => h.elim
end
end Go.Proofs.YtckmcglkjfkghaaDoor.Aw
