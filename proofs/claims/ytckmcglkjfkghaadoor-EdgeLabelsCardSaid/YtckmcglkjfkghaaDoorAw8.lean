import Derived.Test.YtckmcglkjfkghaaDoorAw7
namespace Go.Proofs.YtckmcglkjfkghaaDoor.Aw
open Go Go.RowKit
set_option linter.unusedVariables false
set_option linter.unusedSimpArgs false
abbrev Out := Prop × V × List (List V) × List (Nat × TypeId)
def maxBytes : Nat := 140737488355328
def elemI (τ : Tys) (t : TypeId) : Option (TypeId × TyI) :=
  match kindV τ t with
  | some (.slice e) => (τ e).map fun i => (e, i)
  | _ => none
def isU8 (i : TyI) : Bool := match i.kind with | .int .u8 => true | _ => false
def notIntK (τ : Tys) (t : TypeId) : Bool := match kindV τ t with | none => false | some (.int _) => false | _ => true
def isStrK (τ : Tys) (t : TypeId) : Bool := match kindV τ t with | some .str => true | _ => false
def evAppend (τ : Tys) (L : List (List V)) (T : List (Nat × TypeId)) (t t2 : TypeId) (s x : V) : Option Out :=
  match elemI τ t with
  | some (e, i) =>
    if zeroOk i = true ∧ 0 < i.size ∧ 0 < i.bytes ∧ notIntK τ t2 = true then
      match s, x with
      | .bytes l (some k), .bytes l2 _ => if i.size = 1 then some (T[k]? = some (l.length, e) ∧ (l.length + l2.length) * i.bytes ≤ maxBytes, .bytes (l ++ l2) (some k), L, T.set k ((l ++ l2).length, e)) else none
      | .bytes l (some k), .str l2 => if i.size = 1 ∧ isStrK τ t2 = true then some (T[k]? = some (l.length, e) ∧ (l.length + l2.length) * i.bytes ≤ maxBytes, .bytes (l ++ l2) (some k), L, T.set k ((l ++ l2).length, e)) else none
      | .nils, .bytes l2 _ => if i.size = 1 then some (l2.length * i.bytes ≤ maxBytes, .bytes l2 (some T.length), L, T ++ [(l2.length, e)]) else none
      | .nils, .str l2 => if i.size = 1 ∧ isStrK τ t2 = true then some (l2.length * i.bytes ≤ maxBytes, .bytes l2 (some T.length), L, T ++ [(l2.length, e)]) else none
      | .list sz l (some k), .list sz' l2 _ => if i.size = sz ∧ sz' = sz then some (T[k]? = some (l.length, e) ∧ (l.length + l2.length) * i.bytes ≤ maxBytes, .list sz (l ++ l2) (some k), L, T.set k ((l ++ l2).length, e)) else none
      | .nils, .list sz l2 _ => if i.size = sz then some (l2.length * i.bytes ≤ maxBytes, .list sz l2 (some T.length), L, T ++ [(l2.length, e)]) else none
      | .zero, .bytes l2 _ => if i.size = 1 then some (l2.length * i.bytes ≤ maxBytes, .bytes l2 (some T.length), L, T ++ [(l2.length, e)]) else none
      | .zero, .str l2 => if i.size = 1 ∧ isStrK τ t2 = true then some (l2.length * i.bytes ≤ maxBytes, .bytes l2 (some T.length), L, T ++ [(l2.length, e)]) else none
      | .zero, .list sz l2 _ => if i.size = sz then some (l2.length * i.bytes ≤ maxBytes, .list sz l2 (some T.length), L, T ++ [(l2.length, e)]) else none
      | _, _ => none
    else none
  | none => none
def Eff (P : Program) (B : World) (p0 : Bs) (K : Kw) (s : Sem Value) (v : V) (L' : List (List V)) (T' : List (Nat × TypeId)) : Prop :=
  ∃ K' u, s.run P K.w = .ok u K'.w ∧ Ext K K' ∧ Mem P B p0 K' L' T' ∧ Rel K' v u
section
variable {P : Program} {τ : Tys} {B : World} {p0 : Bs} {K : Kw} {L : List (List V)} {T : List (Nat × TypeId)}
theorem elemI_spec (hτ : TyOk P τ) {t e : TypeId} {i : TyI} (h : elemI τ t = some (e, i)) : P.underlying t = some (.slice e) ∧ τ e = some i := by
  unfold elemI at h
  split at h
  · rename_i e' hk
    obtain ⟨it, hit, hk⟩ := kindV_some hk
    simp only [Option.map_eq_some_iff, Prod.mk.injEq] at h
    obtain ⟨i', hi', rfl, rfl⟩ := h
    exact ⟨hτ.slice hit hk, hi'⟩
  · cases h
theorem gives_str {w : World} (l : List UInt8) : Gives P w (.string ⟨l.toArray⟩) l.length 1 (l.map fun b => .int .u8 b.toNat) := by
  refine ⟨by simp, by simp [Builtin.lenOf, ByteArray.size], fun w' _ => ?_⟩
  simp only [Builtin.firstCells, Sem.run_pure]
  congr 1
  have : (ByteArray.mk l.toArray).extract 0 l.length = ⟨l.toArray⟩ := by
    apply ByteArray.ext
    simp [ByteArray.data_extract]
  rw [this]
  simp
theorem tok_get {k n : Nat} {e : TypeId} (h : Mem P B p0 K L T) (hT : T[k]? = some (n, e)) : ∃ v, K.toks[k]? = some (v, n, e) := by
  rw [← h.toks, List.getElem?_map, Option.map_eq_some_iff] at hT
  obtain ⟨⟨v, n', e'⟩, hk, he⟩ := hT
  cases he
  exact ⟨v, hk⟩
theorem flat_append (l l2 : List V) : (l ++ l2).flatMap V.cells = l.flatMap V.cells ++ l2.flatMap V.cells := List.flatMap_append
theorem appendNil (h : Mem P B p0 K L T) {x : Value} {m : Nat} {t t2 ty e : TypeId} {i : TypeInfo} {z : Value} {cs2 : List V} {news : List Value}
    (ht : P.underlying t = some (.slice e)) {d2 : TypeDesc} (ht2 : P.underlying t2 = some d2) (hd2 : ∀ k, d2 ≠ .int k) (hi : P.info? e = some i) (hz : i.zero = some z) (hsz : 0 < i.size) (hzs : z.cells.size = i.size)
    (hx : Gives P K.w x m i.size news) (h1 : ∀ u ∈ news, u.oneCell' = true) (hl : news.length = cs2.length)
    (hr : ∀ j (h : j < cs2.length) (h' : j < news.length), Rel K cs2[j] news[j]) (h63 : m ≤ maxLen) (hb : m * i.bytes ≤ 140737488355328) {A : Option Addr} :
    ∃ K' u, (Builtin.append_ #[t, t2] ty #[.slice A 0 0, x]).run P K.w = .ok u K'.w ∧ Ext K K' ∧ Mem P B p0 K' L (T ++ [(m, e)]) ∧ Rd K' u m i.size cs2 ∧ K'.toks[T.length]? = some (u, m, e) := by
  obtain ⟨he1, hm1⟩ := h.addTok (v := .slice A 0 0) (n := 0) (e := e) (.inl ⟨⟨_, rfl⟩, .inl rfl⟩) (fun b hb => by rw [ownB_zero] at hb; cases hb) (fun k t b _ _ hb => by rw [ownB_zero] at hb; cases hb)
  have hlen : K.toks.length = T.length := by rw [← h.toks]; simp
  have hk : (K.toks ++ [(Value.slice A 0 0, 0, e)])[T.length]? = some (Value.slice A 0 0, 0, e) := by rw [← hlen]; simp
  obtain ⟨K', u, hrun, he2, hm2, hrd, hk2⟩ := appendTok (ty := ty) (cs := []) hm1 ht ht2 hd2 hi hz hsz hzs hk (rd_zero A) hx h1 hl (fun j h h' => (hr j h h').ext he1) (by omega) (by simpa using hb)
  refine ⟨K', u, hrun, he1.trans he2, ?_, by simpa using hrd, by simpa using hk2⟩
  have e1 : (T ++ [(0, e)]).set T.length (0 + m, e) = T ++ [(m, e)] := by
    rw [List.set_append_right _ _ (Nat.le_refl _)]
    simp
  rw [← e1]
  exact hm2
theorem append_sound (hτ : TyOk P τ) (h : Mem P B p0 K L T) {t t2 ty : TypeId} {s x : V} {us ux : Value} {p : Prop} {v : V} {L' : List (List V)} {T' : List (Nat × TypeId)}
    (hev : evAppend τ L T t t2 s x = some (p, v, L', T')) (hp : p) (rs : Rel K s us) (rx : Rel K x ux) : Eff P B p0 K (Builtin.append_ #[t, t2] ty #[us, ux]) v L' T' := by
  unfold evAppend at hev
  split at hev
  · rename_i e i hei
    obtain ⟨hu, hie⟩ := elemI_spec hτ hei
    simp only [Option.ite_none_right_eq_some] at hev
    obtain ⟨⟨hz, hsz, hby, hnk⟩, hev⟩ := hev
    obtain ⟨i2, hi2⟩ : ∃ i2, τ t2 = some i2 := by
      cases hi2 : τ t2 with
      | none => simp [notIntK, kindV, hi2] at hnk
      | some i2 => exact ⟨i2, rfl⟩
    obtain ⟨d2, hd2, hk2⟩ := hτ.under hi2
    have hd2' : ∀ k, d2 ≠ .int k := fun k e => by
      subst e
      simp [notIntK, kindV, hi2, ← hk2, descK] at hnk
    obtain ⟨ti, hti, hs, hb, hzz⟩ := hτ.info hie
    obtain ⟨_, hzc, _⟩ := zeroOk_rel hz K
    have len_ok : ∀ {n : Nat}, n * i.bytes ≤ maxBytes → n ≤ maxLen ∧ n * ti.bytes ≤ 140737488355328 := fun {n} hn => by
      have : n * 1 ≤ n * i.bytes := Nat.mul_le_mul_left _ hby
      refine ⟨by simp only [maxLen, maxBytes] at *; omega, by rw [hb]; exact hn⟩
    have hsz' : 0 < ti.size := by omega
    have hzs' : i.zero.cells.size = ti.size := by omega
    split at hev
    · rename_i l k l2 t2'
      simp only [Option.ite_none_right_eq_some, Option.some.injEq, Prod.mk.injEq] at hev
      obtain ⟨h1, rfl, rfl, rfl, rfl⟩ := hev
      obtain ⟨hT, hbd⟩ := hp
      obtain ⟨b1, b2⟩ := len_ok hbd
      obtain ⟨v0, hk⟩ := tok_get h hT
      obtain ⟨rd1, tk1⟩ := rd_bytesV rs
      obtain ⟨rd2, _⟩ := rd_bytesV rx
      obtain ⟨u', m', e', hk', hn', hv'⟩ := tk1
      rw [hk] at hk'
      cases hk'
      have := hv' rfl
      subst this
      have h1' : (1 : Nat) = ti.size := by omega
      rw [h1'] at rd1 rd2
      obtain ⟨news, g1, g2, g3, g4⟩ := gives_rd (P := P) rd2
      obtain ⟨K', u, hrun, he, hm, hrd, hkk⟩ := appendTok (ty := ty) h hu hd2 hd2' hti hzz hsz' hzs' hk rd1 g1 g2 g3 g4 b1 b2
      refine ⟨K', u, hrun, he, by simpa using hm, ?_⟩
      rw [← h1', ← List.map_append] at hrd
      have hlen : l.length + l2.length = (l ++ l2).length := by simp
      rw [hlen] at hrd hkk
      exact bytesV_rd hrd ⟨u, _, e, hkk, Nat.le_refl _, fun _ => rfl⟩
    · rename_i l k l2
      simp only [Option.ite_none_right_eq_some, Option.some.injEq, Prod.mk.injEq] at hev
      obtain ⟨⟨h1, hks⟩, rfl, rfl, rfl, rfl⟩ := hev
      obtain ⟨hT, hbd⟩ := hp
      obtain ⟨b1, b2⟩ := len_ok hbd
      obtain ⟨v0, hk⟩ := tok_get h hT
      obtain ⟨rd1, tk1⟩ := rd_bytesV rs
      cases rx
      obtain ⟨u', m', e', hk', hn', hv'⟩ := tk1
      rw [hk] at hk'
      cases hk'
      have := hv' rfl
      subst this
      have h1' : (1 : Nat) = ti.size := by omega
      have g1 := gives_str (P := P) (w := K.w) l2
      rw [h1'] at rd1 g1
      obtain ⟨K', u, hrun, he, hm, hrd, hkk⟩ := appendTok (ty := ty) (cs2 := l2.map byteV) h hu hd2 hd2' hti hzz hsz' hzs' hk rd1 g1 (fun u hu => by simp at hu; obtain ⟨b, _, rfl⟩ := hu; rfl) (by simp)
        (fun j h h' => by simp only [List.getElem_map, byteV]; exact .int _ _) b1 b2
      refine ⟨K', u, hrun, he, by simpa using hm, ?_⟩
      rw [← h1', ← List.map_append] at hrd
      have hlen : l.length + l2.length = (l ++ l2).length := by simp
      rw [hlen] at hrd hkk
      exact bytesV_rd hrd ⟨u, _, e, hkk, Nat.le_refl _, fun _ => rfl⟩
    · rename_i l2 t2'
      simp only [Option.ite_none_right_eq_some, Option.some.injEq, Prod.mk.injEq] at hev
      obtain ⟨h1, rfl, rfl, rfl, rfl⟩ := hev
      obtain ⟨b1, b2⟩ := len_ok hp
      cases rs
      obtain ⟨rd2, _⟩ := rd_bytesV rx
      have h1' : (1 : Nat) = ti.size := by omega
      rw [h1'] at rd2
      obtain ⟨news, g1, g2, g3, g4⟩ := gives_rd (P := P) rd2
      obtain ⟨K', u, hrun, he, hm, hrd, hkk⟩ := appendNil (ty := ty) h hu hd2 hd2' hti hzz hsz' hzs' g1 g2 g3 g4 b1 b2
      rw [← h1'] at hrd
      exact ⟨K', u, hrun, he, hm, bytesV_rd hrd ⟨u, _, e, hkk, Nat.le_refl _, fun _ => rfl⟩⟩
    · rename_i l2
      simp only [Option.ite_none_right_eq_some, Option.some.injEq, Prod.mk.injEq] at hev
      obtain ⟨⟨h1, hks⟩, rfl, rfl, rfl, rfl⟩ := hev
      obtain ⟨b1, b2⟩ := len_ok hp
      cases rs
      cases rx
      have h1' : (1 : Nat) = ti.size := by omega
      have g1 := gives_str (P := P) (w := K.w) l2
      rw [h1'] at g1
      obtain ⟨K', u, hrun, he, hm, hrd, hkk⟩ := appendNil (ty := ty) (cs2 := l2.map byteV) h hu hd2 hd2' hti hzz hsz' hzs' g1 (fun u hu => by simp at hu; obtain ⟨b, _, rfl⟩ := hu; rfl) (by simp)
        (fun j h h' => by simp only [List.getElem_map, byteV]; exact .int _ _) b1 b2
      rw [← h1'] at hrd
      exact ⟨K', u, hrun, he, hm, bytesV_rd hrd ⟨u, _, e, hkk, Nat.le_refl _, fun _ => rfl⟩⟩
    · rename_i sz l k sz' l2 t2'
      simp only [Option.ite_none_right_eq_some, Option.some.injEq, Prod.mk.injEq] at hev
      obtain ⟨⟨h1, rfl⟩, rfl, rfl, rfl, rfl⟩ := hev
      obtain ⟨hT, hbd⟩ := hp
      obtain ⟨b1, b2⟩ := len_ok hbd
      obtain ⟨v0, hk⟩ := tok_get h hT
      obtain ⟨rd1, hs1, tk1⟩ := rd_listV rs
      obtain ⟨rd2, hs2, _⟩ := rd_listV rx
      obtain ⟨u', m', e', hk', hn', hv'⟩ := tk1
      rw [hk] at hk'
      cases hk'
      have := hv' rfl
      subst this
      have h1' : sz' = ti.size := by omega
      rw [h1'] at rd1 rd2
      obtain ⟨news, g1, g2, g3, g4⟩ := gives_rd (P := P) rd2
      obtain ⟨K', u, hrun, he, hm, hrd, hkk⟩ := appendTok (ty := ty) h hu hd2 hd2' hti hzz hsz' hzs' hk rd1 g1 g2 g3 g4 b1 b2
      refine ⟨K', u, hrun, he, by simpa using hm, ?_⟩
      rw [← h1', ← flat_append] at hrd
      have hlen : l.length + l2.length = (l ++ l2).length := by simp
      rw [hlen] at hrd hkk
      exact listV_rd hrd (fun v hv => (List.mem_append.1 hv).elim (hs1 v) (hs2 v)) ⟨u, _, e, hkk, Nat.le_refl _, fun _ => rfl⟩
    · rename_i sz l2 t2'
      simp only [Option.ite_none_right_eq_some, Option.some.injEq, Prod.mk.injEq] at hev
      obtain ⟨h1, rfl, rfl, rfl, rfl⟩ := hev
      obtain ⟨b1, b2⟩ := len_ok hp
      cases rs
      obtain ⟨rd2, hs2, _⟩ := rd_listV rx
      have h1' : sz = ti.size := by omega
      rw [h1'] at rd2
      obtain ⟨news, g1, g2, g3, g4⟩ := gives_rd (P := P) rd2
      obtain ⟨K', u, hrun, he, hm, hrd, hkk⟩ := appendNil (ty := ty) h hu hd2 hd2' hti hzz hsz' hzs' g1 g2 g3 g4 b1 b2
      rw [← h1'] at hrd
      exact ⟨K', u, hrun, he, hm, listV_rd hrd hs2 ⟨u, _, e, hkk, Nat.le_refl _, fun _ => rfl⟩⟩
    · rename_i l2 t2'
      simp only [Option.ite_none_right_eq_some, Option.some.injEq, Prod.mk.injEq] at hev
      obtain ⟨h1, rfl, rfl, rfl, rfl⟩ := hev
      obtain ⟨b1, b2⟩ := len_ok hp
      cases rs
      obtain ⟨rd2, _⟩ := rd_bytesV rx
      have h1' : (1 : Nat) = ti.size := by omega
      rw [h1'] at rd2
      obtain ⟨news, g1, g2, g3, g4⟩ := gives_rd (P := P) rd2
      obtain ⟨K', u, hrun, he, hm, hrd, hkk⟩ := appendNil (ty := ty) h hu hd2 hd2' hti hzz hsz' hzs' g1 g2 g3 g4 b1 b2
      rw [← h1'] at hrd
      exact ⟨K', u, hrun, he, hm, bytesV_rd hrd ⟨u, _, e, hkk, Nat.le_refl _, fun _ => rfl⟩⟩
    · rename_i l2
      simp only [Option.ite_none_right_eq_some, Option.some.injEq, Prod.mk.injEq] at hev
      obtain ⟨⟨h1, hks⟩, rfl, rfl, rfl, rfl⟩ := hev
      obtain ⟨b1, b2⟩ := len_ok hp
      cases rs
      cases rx
      have h1' : (1 : Nat) = ti.size := by omega
      have g1 := gives_str (P := P) (w := K.w) l2
      rw [h1'] at g1
      obtain ⟨K', u, hrun, he, hm, hrd, hkk⟩ := appendNil (ty := ty) (cs2 := l2.map byteV) h hu hd2 hd2' hti hzz hsz' hzs' g1 (fun u hu => by simp at hu; obtain ⟨b, _, rfl⟩ := hu; rfl) (by simp)
        (fun j h h' => by simp only [List.getElem_map, byteV]; exact .int _ _) b1 b2
      rw [← h1'] at hrd
      exact ⟨K', u, hrun, he, hm, bytesV_rd hrd ⟨u, _, e, hkk, Nat.le_refl _, fun _ => rfl⟩⟩
    · rename_i sz l2 t2'
      simp only [Option.ite_none_right_eq_some, Option.some.injEq, Prod.mk.injEq] at hev
      obtain ⟨h1, rfl, rfl, rfl, rfl⟩ := hev
      obtain ⟨b1, b2⟩ := len_ok hp
      cases rs
      obtain ⟨rd2, hs2, _⟩ := rd_listV rx
      have h1' : sz = ti.size := by omega
      rw [h1'] at rd2
      obtain ⟨news, g1, g2, g3, g4⟩ := gives_rd (P := P) rd2
      obtain ⟨K', u, hrun, he, hm, hrd, hkk⟩ := appendNil (ty := ty) h hu hd2 hd2' hti hzz hsz' hzs' g1 g2 g3 g4 b1 b2
      rw [← h1'] at hrd
      exact ⟨K', u, hrun, he, hm, listV_rd hrd hs2 ⟨u, _, e, hkk, Nat.le_refl _, fun _ => rfl⟩⟩
    · cases hev
  · cases hev
end
end Go.Proofs.YtckmcglkjfkghaaDoor.Aw
