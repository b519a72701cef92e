import Derived.Test.YtckmcglkjfkghaaDoorAw9
import Derived.Laws.CopyRow
import Derived.Laws.IdiomCopy
namespace Go.Proofs.YtckmcglkjfkghaaDoor.Aw
open Go Go.RowKit
set_option linter.unusedVariables false
set_option linter.unusedSimpArgs false
def srcCells (sz : Nat) : V → Option (Nat × List V)
  | .bytes l _ => if sz = 1 then some (l.length, l.map byteV) else none
  | .list sz' l _ => if sz' = sz then some (l.length, l.flatMap V.cells) else none
  | _ => none
def evAppendM (τ : Tys) (L : List (List V)) (T : List (Nat × TypeId)) (t t2 : TypeId) (s x : V) : Option Out :=
  match elemI τ t with
  | some (e, i) =>
    if zeroOk i = true ∧ 0 < i.size ∧ 0 < i.bytes ∧ notIntK τ t2 = true then
      match s, srcCells i.size x with
      | .bytes [] (some k), some (m, cs) => if i.size = 1 then some (T[k]? = some (0, e) ∧ m * i.bytes ≤ maxBytes, .mrow e L.length 0 m, L ++ [cs], T.set k (deadN, e)) else none
      | .list sz [] (some k), some (m, cs) => if i.size = sz then some (T[k]? = some (0, e) ∧ m * i.bytes ≤ maxBytes, .mrow e L.length 0 m, L ++ [cs], T.set k (deadN, e)) else none
      | .nils, some (m, cs) => some (m * i.bytes ≤ maxBytes, .mrow e L.length 0 m, L ++ [cs], T)
      | .zero, some (m, cs) => some (m * i.bytes ≤ maxBytes, .mrow e L.length 0 m, L ++ [cs], T)
      | _, _ => none
    else none
  | none => none
def makeM (τ : Tys) (t : TypeId) (l c : V) : Option (Prop × TypeId × Nat × List V) :=
  match elemI τ t, l, c with
  | some (e, i), .int _ a, .int _ b =>
    if zeroOk i = true ∧ 0 < i.size ∧ (!isU8 i || zeroU8 i) = true then
      some (0 ≤ a ∧ a ≤ b ∧ (i.bytes : Int) * b ≤ 281474976710656 ∧ b ≤ 9223372036854775807, e, a.toNat, if isU8 i then (List.replicate a.toNat (0 : UInt8)).map byteV else (List.replicate a.toNat (V.ofV i.zero)).flatMap V.cells)
    else none
  | _, _, _ => none
def evMakeM (τ : Tys) (L : List (List V)) (T : List (Nat × TypeId)) (t : TypeId) (l c : V) : Option Out :=
  (makeM τ t l c).map fun x => (x.1, .mrow x.2.1 L.length 0 x.2.2.1, L ++ [x.2.2.2], T)
def evCopy (τ : Tys) (L : List (List V)) (T : List (Nat × TypeId)) (t : TypeId) (d s : V) : Option Out :=
  match elemI τ t, d, s with
  | some (e, i), .mrow em o off n, .bytes l _ =>
    match L[o]? with
    | some cs => if i.size = 1 then some (off + n ≤ cs.length, .int .i64 (min l.length n : Nat), L.set o (setSeg cs off ((l.take n).map byteV)), T) else none
    | none => none
  | _, _, _ => none
def evMark (τ : Tys) (L : List (List V)) (T : List (Nat × TypeId)) (src dst : TypeId) (x : V) : Option Out :=
  match elemI τ src, x with
  | some (e, i), .bytes l (some k) => if src = dst ∧ isU8 i = true then some (T[k]? = some (l.length, e) ∧ 0 < l.length, .bytes l none, L, T.set k (deadN, e)) else none
  | _, _ => none
section
variable {P : Program} {τ : Tys} {B : World} {p0 : Bs} {K : Kw} {L : List (List V)} {T : List (Nat × TypeId)}
theorem srcCells_gives {sz m : Nat} {x : V} {u : Value} {cs : List V} (h : srcCells sz x = some (m, cs)) (hr : Rel K x u) :
    ∃ news, Gives P K.w u m sz news ∧ (∀ v ∈ news, v.oneCell' = true) ∧ news.length = cs.length ∧ ∀ j (h : j < cs.length) (h' : j < news.length), Rel K cs[j] news[j] := by
  unfold srcCells at h
  split at h
  · simp only [Option.ite_none_right_eq_some, Option.some.injEq, Prod.mk.injEq] at h
    obtain ⟨rfl, rfl, rfl⟩ := h
    exact gives_rd (rd_bytesV hr).1
  · simp only [Option.ite_none_right_eq_some, Option.some.injEq, Prod.mk.injEq] at h
    obtain ⟨rfl, rfl, rfl⟩ := h
    exact gives_rd (rd_listV hr).1
  · cases h
def FreeAt (P : Program) (B : World) (K : Kw) (v : Value) (e : TypeId) : Prop :=
  (∃ A, v = .slice A 0 0) ∨ ∃ g cap cur i, v = .slice (some ⟨g, 0, none⟩) 0 cap ∧ B.heap.size ≤ g ∧ K.w.heap[g]? = some (.cells cur e (0, 0)) ∧ P.info? e = some i ∧ cap ≤ maxLen ∧ cap * i.size ≤ cur.size ∧
    (∀ o, ¬ K.prot g o) ∧ some g ∉ K.boxes ∧ ∀ (k : Nat) t, K.toks[k]? = some t → ownB t.1 ≠ some g
theorem appendFree (h : Mem P B p0 K L T) {v x : Value} {m : Nat} {t t2 ty e : TypeId} {i : TypeInfo} {z : Value} {cs2 : List V} {news : List Value}
    (ht : P.underlying t = some (.slice e)) {d2 : TypeDesc} (ht2 : P.underlying t2 = some d2) (hd2 : ∀ k, d2 ≠ .int k) (hi : P.info? e = some i) (hz : i.zero = some z) (hsz : 0 < i.size) (hzs : z.cells.size = i.size)
    (hv : FreeAt P B K v e) (hx : Gives P K.w x m i.size news) (h1 : ∀ u ∈ news, u.oneCell' = true) (hl : news.length = cs2.length)
    (hr : ∀ j (h : j < cs2.length) (h' : j < news.length), Rel K cs2[j] news[j]) (h63 : m ≤ maxLen) (hb : m * i.bytes ≤ 140737488355328) :
    ∃ K' u, (Builtin.append_ #[t, t2] ty #[v, x]).run P K.w = .ok u K'.w ∧ Ext K K' ∧ Mem P B p0 K' (L ++ [cs2]) T ∧ Rel K' (.mrow e L.length 0 m) u := by
  obtain ⟨A, c, rfl, hcm, hA⟩ : ∃ A c, v = .slice A 0 c ∧ c ≤ maxLen ∧ (c = 0 ∨ ∃ g cur, A = some ⟨g, 0, none⟩ ∧ B.heap.size ≤ g ∧ K.w.heap[g]? = some (.cells cur e (0, 0)) ∧ c * i.size ≤ cur.size ∧
      (∀ o, ¬ K.prot g o) ∧ some g ∉ K.boxes ∧ ∀ (k : Nat) t, K.toks[k]? = some t → ownB t.1 ≠ some g) := by
    rcases hv with ⟨A, rfl⟩ | ⟨g, cap, cur, i', rfl, hB, hh, hi', hcm, hcs, hp, hnb, hnt⟩
    · exact ⟨A, 0, rfl, by simp, .inl rfl⟩
    · rw [hi] at hi'; cases hi'
      exact ⟨_, cap, rfl, hcm, .inr ⟨g, cur, rfl, hB, hh, hcs, hp, hnb, hnt⟩⟩
  have ho : Gives P K.w (.slice A 0 c) 0 i.size [] := by
    refine ⟨by simp, by simp [Builtin.lenOf], fun w' _ => ?_⟩
    cases A with
    | none => simp [Builtin.firstCells]
    | some a =>
      have := run_firstCells_some (P := P) w' i.size 0 a 0 c [] (by simp) (fun j v hj => by simp at hj)
      simpa using this
  have hrun := run_append_gen (ty := ty) ht ht2 hd2 hi hz hx ho (by omega) (by simpa using hb)
  have hnl := hx.1
  have hlen := h.boxes.1
  simp only [Nat.zero_add] at hrun
  by_cases hroom : m ≤ c
  · rw [if_pos hroom] at hrun
    rcases hA with rfl | ⟨g, cur, rfl, hBg, hh, hcs, hp, hnb, hnt⟩
    · have hm0 : m = 0 := by omega
      subst hm0
      have hcs2 : cs2 = [] := List.eq_nil_of_length_eq_zero (by rw [← hl, hnl]; simp)
      subst hcs2
      have hnews : news = [] := List.eq_nil_of_length_eq_zero (by simpa using hnl)
      subst hnews
      obtain ⟨he, hm⟩ := h.addHole
      exact ⟨_, .slice A 0 0, by rw [hrun]; cases A <;> simp [storeCells], he, hm, .mrow _ _ _ _ _ _ (by omega) (by simp) (.inl ⟨rfl, rfl⟩)⟩
    · have hmul : m * i.size ≤ c * i.size := Nat.mul_le_mul_right _ hroom
      have hst := run_storeCells_at (P := P) g 0 e news 0 cur K.w hh (by simp only [Nat.zero_add]; omega) h1
      simp only [Nat.zero_mul, Nat.add_zero, Nat.zero_add, List.take_zero, List.nil_append] at hst
      have hadd : (⟨g, 0, none⟩ : Addr).add (0 * i.size) = ⟨g, 0, none⟩ := by rw [Addr.add_lit]; simp
      simp only [hadd, hst, Result.andThen_ok] at hrun
      obtain ⟨he1, hm1⟩ := h.other (w' := K.w.setRow g (news ++ cur.toList.drop news.length).toArray) hBg (fun k hk => setRow_other K.w g k _ hk) (size_setRow K.w g _) rfl rfl rfl (fun o ho => absurd ho (hp o)) (shape_setRow hh (by simp; omega) g) hnb hnt
      obtain ⟨he2, hm2⟩ := hm1.addBox (b := g) (cs := cs2) (cur := (news ++ cur.toList.drop news.length).toArray) (ty := e) hBg (setRow_heap K.w g cur _ e _ hh) (by simp; omega)
        (fun j hj => by
          simp only [List.getElem_toArray, List.getElem_append, show j < news.length by omega, dite_true]
          exact ⟨(hr j hj (by omega)).ext he1, h1 _ (List.getElem_mem _)⟩) hp hnb hnt
      refine ⟨_, _, hrun, he1.trans he2, hm2, .mrow _ _ _ _ _ _ hroom hcm (.inr ⟨g, _, rfl, ?_, shape_cells (setRow_heap K.w g cur _ e _ hh), ?_⟩)⟩
      · show (K.boxes ++ [some g])[L.length]? = _
        rw [← hlen]; simp
      · have := Nat.le_mul_of_pos_right c hsz
        simp
        omega
  · rw [if_neg hroom] at hrun
    have hge := grownCap_ge K.w m c e
    have hgm := grownCap_le_maxLen K.w m c e h63
    have hB0 := h.below.size
    obtain ⟨he1, hm1⟩ := h.grow (w' := K.w.drew.alloc (.cells ([].toArray ++ news.toArray ++ Builtin.zeroCells z.cells (grownCap K.w m c e - m)) e)) (q := fun _ _ => False)
      ((Below.refl _ K.w).drew.alloc (by simp) _) (fun b o hq => hq.elim)
    obtain ⟨he2, hm2⟩ := hm1.addBox (b := K.w.heap.size) (cs := cs2) (cur := [].toArray ++ news.toArray ++ Builtin.zeroCells z.cells (grownCap K.w m c e - m)) (ty := e) hB0 (alloc_new K.w.drew _) (by simp; omega)
      (fun j hj => by
        have hj' : j < news.length := by omega
        simp only [List.nil_append, Array.getElem_append, Array.size_append, List.size_toArray, List.length_nil, Nat.zero_add, hj', dite_true, Nat.not_lt_zero, dite_false, Nat.sub_zero, List.getElem_toArray]
        exact ⟨(hr j hj hj').ext he1, h1 _ (List.getElem_mem _)⟩)
      (fun o hp => by rcases hp with hp | hp; (have := h.there _ _ hp; omega); exact hp) (fun hb => by have := h.boxes.lt hb; omega) (fun k t hk hb => by have := h.tokLt hk hb; omega)
    refine ⟨_, _, hrun, he1.trans he2, hm2, .mrow _ _ _ _ _ _ hge hgm (.inr ⟨_, _, rfl, ?_, shape_cells (alloc_new K.w.drew _), ?_⟩)⟩
    · show (K.boxes ++ [some K.w.heap.size])[L.length]? = _
      rw [← hlen]; simp
    · have := Nat.le_mul_of_pos_right (grownCap K.w m c e) hsz
      simp only [Array.size_append, List.size_toArray, size_zeroCells, hzs, List.length_nil, hnl, ← Nat.add_mul, Nat.zero_add]
      rw [show m + (grownCap K.w m c e - m) = grownCap K.w m c e by omega]
      exact this
theorem tok_free (h : Mem P B p0 K L T) {k : Nat} {v : Value} {e : TypeId} (hk : K.toks[k]? = some (v, 0, e)) :
    ∃ K', K'.w = K.w ∧ Ext K K' ∧ Mem P B p0 K' L (T.set k (deadN, e)) ∧ FreeAt P B K' v e := by
  obtain ⟨he, hm⟩ := h.killTok hk (by simp)
  refine ⟨{ K with toks := K.toks.set k (.slice none 0 0, deadN, e) }, rfl, he, hm, ?_⟩
  rcases h.tokAt k v 0 e hk with ⟨hA, _⟩ | ⟨g, cap, cur, i, rfl, hc0, hg, hh, hi, hn, hc, hs, hp⟩
  · exact .inl hA
  · refine .inr ⟨g, cap, cur, i, rfl, hg, hh, hi, hc, hs.2, fun o => hp o (by omega), h.tokBox k _ g hk (ownB_pos hc0), fun k' t hk' hb' => ?_⟩
    have hkl : k < K.toks.length := (List.getElem?_eq_some_iff.1 hk).1
    have hk2 : (K.toks.set k (Value.slice none 0 0, deadN, e))[k']? = some t := hk'
    rw [List.getElem?_set] at hk2
    by_cases e1 : k = k'
    · subst e1
      simp [hkl] at hk2
      subst hk2
      simp [ownB] at hb'
    · rw [if_neg e1] at hk2
      exact e1 (h.tokNe k k' _ t g hk hk2 (ownB_pos hc0) hb')
theorem appendM_sound (hτ : TyOk P τ) (h : Mem P B p0 K L T) {t t2 ty : TypeId} {s x : V} {us ux : Value} {p : Prop} {v : V} {L' : List (List V)} {T' : List (Nat × TypeId)}
    (hev : evAppendM τ L T t t2 s x = some (p, v, L', T')) (hp : p) (rs : Rel K s us) (rx : Rel K x ux) : Eff P B p0 K (Builtin.append_ #[t, t2] ty #[us, ux]) v L' T' := by
  unfold evAppendM at hev
  split at hev
  · rename_i e i hei
    obtain ⟨hu, hie⟩ := elemI_spec hτ hei
    simp only [Option.ite_none_right_eq_some] at hev
    obtain ⟨⟨hz, hsz, hby, hnk⟩, hev⟩ := hev
    obtain ⟨i2, hi2⟩ : ∃ i2, τ t2 = some i2 := by
      cases hi2 : τ t2 with
      | none => simp [notIntK, kindV, hi2] at hnk
      | some i2 => exact ⟨i2, rfl⟩
    obtain ⟨d2, hd2, hk2⟩ := hτ.under hi2
    have hd2' : ∀ k, d2 ≠ .int k := fun k e => by
      subst e
      simp [notIntK, kindV, hi2, ← hk2, descK] at hnk
    obtain ⟨ti, hti, hs, hb, hzz⟩ := hτ.info hie
    obtain ⟨_, hzc, _⟩ := zeroOk_rel hz K
    have len_ok : ∀ {n : Nat}, n * i.bytes ≤ maxBytes → n ≤ maxLen ∧ n * ti.bytes ≤ 140737488355328 := fun {n} hn => by
      have : n * 1 ≤ n * i.bytes := Nat.mul_le_mul_left _ hby
      refine ⟨by simp only [maxLen, maxBytes] at *; omega, by rw [hb]; exact hn⟩
    have hsz' : 0 < ti.size := by omega
    have hzs' : i.zero.cells.size = ti.size := by omega
    have tokCase : ∀ (k m : Nat) (cs : List V), srcCells i.size x = some (m, cs) → K.tokOk (some k) 0 us → T[k]? = some (0, e) → m * i.bytes ≤ maxBytes → Eff P B p0 K (Builtin.append_ #[t, t2] ty #[us, ux]) (.mrow e L.length 0 m) (L ++ [cs]) (T.set k (deadN, e)) := by
      intro k m cs hsrc htk hT hbd
      obtain ⟨b1, b2⟩ := len_ok hbd
      obtain ⟨v0, hk⟩ := tok_get h hT
      obtain ⟨u', m', e', hk', hn', hv'⟩ := htk
      rw [hk] at hk'
      cases hk'
      have := hv' rfl
      subst this
      obtain ⟨K1, hw1, he1, hm1, hf1⟩ := tok_free h hk
      obtain ⟨news, g1, g2, g3, g4⟩ := srcCells_gives (P := P) hsrc rx
      rw [hs.symm, ← hw1] at g1
      obtain ⟨K', u, hrun, he, hm, hrr⟩ := appendFree (ty := ty) hm1 hu hd2 hd2' hti hzz hsz' hzs' hf1 g1 g2 g3 (fun j h h' => (g4 j h h').ext he1) b1 b2
      rw [hw1] at hrun
      exact ⟨K', u, hrun, he1.trans he, hm, hrr⟩
    split at hev
    · rename_i k m cs hsrc
      simp only [Option.ite_none_right_eq_some, Option.some.injEq, Prod.mk.injEq] at hev
      obtain ⟨h1, rfl, rfl, rfl, rfl⟩ := hev
      exact tokCase k m cs hsrc (rd_bytesV rs).2 hp.1 hp.2
    · rename_i sz k m cs hsrc
      simp only [Option.ite_none_right_eq_some, Option.some.injEq, Prod.mk.injEq] at hev
      obtain ⟨h1, rfl, rfl, rfl, rfl⟩ := hev
      exact tokCase k m cs hsrc (rd_listV rs).2.2 hp.1 hp.2
    · rename_i m cs hsrc
      simp only [Option.some.injEq, Prod.mk.injEq] at hev
      obtain ⟨rfl, rfl, rfl, rfl⟩ := hev
      obtain ⟨b1, b2⟩ := len_ok hp
      cases rs
      obtain ⟨news, g1, g2, g3, g4⟩ := srcCells_gives (P := P) hsrc rx
      rw [hs.symm] at g1
      exact appendFree (ty := ty) h hu hd2 hd2' hti hzz hsz' hzs' (.inl ⟨_, rfl⟩) g1 g2 g3 g4 b1 b2
    · rename_i m cs hsrc
      simp only [Option.some.injEq, Prod.mk.injEq] at hev
      obtain ⟨rfl, rfl, rfl, rfl⟩ := hev
      obtain ⟨b1, b2⟩ := len_ok hp
      cases rs
      obtain ⟨news, g1, g2, g3, g4⟩ := srcCells_gives (P := P) hsrc rx
      rw [hs.symm] at g1
      exact appendFree (ty := ty) h hu hd2 hd2' hti hzz hsz' hzs' (.inl ⟨_, rfl⟩) g1 g2 g3 g4 b1 b2
    · cases hev
  · cases hev
theorem makeM_fill (hτ : TyOk P τ) (h : Mem P B p0 K L T) {o : Nat} (hole : K.boxes[o]? = some none) {t : TypeId} {l c : V} {ul uc : Value} {p : Prop} {e : TypeId} {n : Nat} {cs : List V} (hev : makeM τ t l c = some (p, e, n, cs)) (hp : p)
    (rl : Rel K l ul) (rc : Rel K c uc) : ∃ K' u, (Instr.makeSlice t ul uc).run P K.w = .ok u K'.w ∧ Ext K K' ∧ Mem P B p0 K' (L.set o cs) T ∧ Rel K' (.mrow e o 0 n) u ∧ K'.boxes = K.boxes.set o (some K.w.heap.size) := by
  unfold makeM at hev
  split at hev
  · rename_i e i k a k' b hei
    obtain ⟨hu, hie⟩ := elemI_spec hτ hei
    cases rl; cases rc
    simp only [Option.ite_none_right_eq_some, Option.some.injEq, Prod.mk.injEq] at hev
    obtain ⟨⟨hz, hsz, hz8⟩, rfl, rfl, rfl, hcs⟩ := hev
    obtain ⟨ti, hti, hs, hb, hzz⟩ := hτ.info hie
    obtain ⟨hzr, hzc, hzl⟩ := zeroOk_rel hz K
    obtain ⟨h0, h1, h2, h3⟩ := hp
    have hrun := run_make (P := P) K.w t e ti i.zero hu hti hzz k k' a b h0 h1 (by rw [hb]; exact h2) h3
    have hcs' : cs = (List.replicate a.toNat (V.ofV i.zero)).flatMap V.cells := by
      rw [← hcs]
      split
      · rename_i hu8
        have hz8 : zeroU8 i = true := by simpa [hu8] using hz8
        have hzv : V.ofV i.zero = byteV 0 := by
          unfold zeroU8 at hz8
          split at hz8
          · rename_i hz0; rw [hz0]; rfl
          · cases hz8
        rw [hzv, List.map_replicate]
        generalize a.toNat = n
        induction n with
        | zero => rfl
        | succ n ih => rw [List.replicate_succ, List.flatMap_cons, ← ih]; rfl
      · rfl
    have hfl : cs.length = a.toNat * i.size := by
      rw [hcs', flat_len i.size _ (fun x hx => by rw [List.eq_of_mem_replicate hx]; exact hzl), List.length_replicate]
    have hmul : a.toNat * i.size ≤ b.toNat * i.size := Nat.mul_le_mul_right _ (by omega)
    have hmsz : (madeCells i.zero.cells (b.toNat * ti.size)).size = b.toNat * i.size := by rw [size_madeCells, hs]
    obtain ⟨he1, hm1⟩ := h.grow (q := fun _ _ => False) (Below.push K.w (.cells (madeCells i.zero.cells (b.toNat * ti.size)) e)) (fun b o hq => hq.elim)
    obtain ⟨he2, hm2⟩ := hm1.fillHole (o := o) (b := K.w.heap.size) (cs := cs) (cur := madeCells i.zero.cells (b.toNat * ti.size)) (ty := e) hole h.below.size (alloc_new K.w _) (by omega) (fun j hj => by
        have hpos : 0 < (V.ofV i.zero).cells.length := by omega
        have hj2 : j < ((List.replicate a.toNat (V.ofV i.zero)).flatMap V.cells).length := by rw [← hcs']; exact hj
        have hg := flat_replicate a.toNat (V.ofV i.zero) j hj2 hpos
        have hm : j % (V.ofV i.zero).cells.length < (V.ofV i.zero).cells.length := Nat.mod_lt _ hpos
        have hm' : j % i.zero.cells.size < i.zero.cells.size := by rw [hzc, ← hzl]; exact hm
        rw [List.getElem?_eq_getElem hj2, List.getElem?_eq_getElem hm] at hg
        simp only [Option.some.injEq] at hg
        have hcur : (madeCells i.zero.cells (b.toNat * ti.size))[j]'(by omega) = i.zero.cells[j % i.zero.cells.size]'hm' := by
          simp only [madeCells, Array.getElem_map, Array.getElem_range]
          simp [hm']
        have hcj : cs[j] = ((List.replicate a.toNat (V.ofV i.zero)).flatMap V.cells)[j]'hj2 := by simp only [hcs']
        rw [hcj, hg, hcur]
        have := hzr.2 (j % (V.ofV i.zero).cells.length) hm (by have := hm; simp only [Array.length_toList]; omega)
        simp only [Array.getElem_toList] at this
        have h4 : Rel K ((V.ofV i.zero).cells[j % (V.ofV i.zero).cells.length]) (i.zero.cells[j % i.zero.cells.size]'hm') ∧ (i.zero.cells[j % i.zero.cells.size]'hm').oneCell' = true := by simpa only [hzl, hzc] using this
        exact ⟨h4.1.ext he1, h4.2⟩)
      (fun o hp => by rcases hp with hp | hp; (have := h.there _ _ hp; omega); exact hp) (fun hb => by have := h.boxes.lt hb; omega) (fun k t hk hb => by have := h.tokLt hk hb; omega)
    refine ⟨_, _, hrun, he1.trans he2, hm2, .mrow _ _ _ _ _ _ (by omega) (by simp only [maxLen]; omega) (.inr ⟨_, _, rfl, ?_, shape_cells (alloc_new K.w _), ?_⟩), rfl⟩
    · show (K.boxes.set o (some K.w.heap.size))[o]? = _
      rw [List.getElem?_set_self (List.getElem?_eq_some_iff.1 hole).1]
    · rw [hmsz]
      have := Nat.le_mul_of_pos_right b.toNat hsz
      omega
  · cases hev
theorem makeM_sound (hτ : TyOk P τ) (h : Mem P B p0 K L T) {t : TypeId} {l c : V} {ul uc : Value} {p : Prop} {v : V} {L' : List (List V)} {T' : List (Nat × TypeId)} (hev : evMakeM τ L T t l c = some (p, v, L', T')) (hp : p)
    (rl : Rel K l ul) (rc : Rel K c uc) : Eff P B p0 K (Instr.makeSlice t ul uc) v L' T' := by
  simp only [evMakeM, Option.map_eq_some_iff, Prod.mk.injEq] at hev
  obtain ⟨⟨p', e, n, cs⟩, hmk, rfl, rfl, rfl, rfl⟩ := hev
  obtain ⟨he1, hm1⟩ := h.addHole
  have hlen := h.boxes.1
  obtain ⟨K', u, hrun, he, hm, hr, _⟩ := makeM_fill (o := L.length) hτ hm1 (by show (K.boxes ++ [none])[L.length]? = _; rw [← hlen]; simp) hmk hp (rl.ext he1) (rc.ext he1)
  have e2 : (L ++ [[]]).set L.length cs = L ++ [cs] := by rw [List.set_append_right _ _ (Nat.le_refl _)]; simp
  rw [e2] at hm
  exact ⟨K', u, hrun, he1.trans he, hm, hr⟩
theorem copy_sound (hτ : TyOk P τ) (h : Mem P B p0 K L T) {t t2 ty : TypeId} {d s : V} {ud us : Value} {p : Prop} {v : V} {L' : List (List V)} {T' : List (Nat × TypeId)} (hev : evCopy τ L T t d s = some (p, v, L', T')) (hp : p)
    (rd : Rel K d ud) (rs : Rel K s us) : Eff P B p0 K (Builtin.copy_ #[t, t2] ty #[ud, us]) v L' T' := by
  unfold evCopy at hev
  split at hev
  · rename_i e i em o off n l tk hei
    obtain ⟨hu, hie⟩ := elemI_spec hτ hei
    obtain ⟨ti, hti, hs, hb, hzz⟩ := hτ.info hie
    split at hev
    · rename_i cs hcs
      simp only [Option.ite_none_right_eq_some, Option.some.injEq, Prod.mk.injEq] at hev
      obtain ⟨hsz, rfl, rfl, rfl, rfl⟩ := hev
      have hinfo : (P.info? e).map (·.size) = some 1 := by rw [hti]; simp [hs, hsz]
      cases rs with
      | bytes l tk A2 c2 hc2 hm2 hr2 ht2 =>
      cases rd with
      | mrow em o off n A c hc hm hA =>
      by_cases hmin : Nat.min l.length n = 0
      · have hrun := run_copy_none (P := P) K.w t t2 ty e A A2 n c l.length c2 hu hinfo hmin
        have e0 : min l.length n = 0 := hmin
        have e1 : l.take n = [] := List.eq_nil_of_length_eq_zero (by rw [List.length_take, Nat.min_comm]; exact hmin)
        have e2 : setSeg cs off ((l.take n).map byteV) = cs := by rw [e1]; simp [setSeg]
        have e3 : L.set o cs = L := by
          obtain ⟨hlt, e⟩ := List.getElem?_eq_some_iff.1 hcs
          rw [← e, List.set_getElem_self]
        rw [e2, e3, e0]
        exact ⟨K, goInt 0, hrun, Ext.refl K, h, .int _ _⟩
      · have hn0 : n ≠ 0 := fun e => hmin (by subst e; exact Nat.min_zero _)
        have hl0 : l.length ≠ 0 := fun e => hmin (by rw [e]; exact Nat.zero_min _)
        rcases hA with ⟨hA, _⟩ | ⟨b, m0, rfl, hb, hsb, _⟩
        · exact absurd hA hn0
        obtain ⟨ad, rfl, _⟩ := hr2 0 (by omega)
        obtain ⟨cur, cty, hh, hcsz, hcr⟩ := box_cells (off := off) h.boxes hcs hb hsb
        have hmn : min l.length n ≤ n := Nat.min_le_right _ _
        have hlt : ((l.take n).map fun b => Value.int .u8 (b.toNat : Int)).length = Nat.min l.length n := by
          rw [List.length_map, List.length_take]; exact Nat.min_comm _ _
        have hrun := run_copy_row (P := P) K.w t t2 ty e b off n c ad l.length c2 cur cty ((l.take n).map fun b => Value.int .u8 (b.toNat : Int)) hu hinfo hh hlt
          (fun j v hj => by
            simp only [List.getElem?_map, Option.map_eq_some_iff] at hj
            obtain ⟨bb, hbb, rfl⟩ := hj
            obtain ⟨hjl, rfl⟩ := List.getElem?_eq_some_iff.1 hbb
            have hjl' : j < l.length := by rw [List.length_take] at hjl; omega
            obtain ⟨ad', e', hrd⟩ := hr2 j hjl'
            cases e'
            rw [List.getElem_take]
            exact hrd.2)
          (by rw [hlt]; show off + min l.length n ≤ cur.size; omega) (fun v hv => by obtain ⟨_, _, rfl⟩ := List.mem_map.1 hv; rfl)
        have hlm : ((l.take n).map byteV).length = min l.length n := by rw [List.length_map, List.length_take]; exact Nat.min_comm _ _
        obtain ⟨he, hm⟩ := h.setBox (off := off) (vs := (l.take n).map fun b => Value.int .u8 (b.toNat : Int)) (new := (l.take n).map byteV) hcs hb hh (by simp) (by rw [hlm]; omega) (fun j hj => by
          simp only [List.getElem_map, byteV]
          exact ⟨.int _ _, rfl⟩)
        refine ⟨_, _, hrun, he, hm, ?_⟩
        rw [hlt]
        exact .int _ _
    · cases hev
  · cases hev
theorem mark_sound (hτ : TyOk P τ) (h : Mem P B p0 K L T) {src dst : TypeId} {x : V} {ux : Value} {p : Prop} {v : V} {L' : List (List V)} {T' : List (Nat × TypeId)} (hev : evMark τ L T src dst x = some (p, v, L', T')) (hp : p)
    (rx : Rel K x ux) : Eff P B p0 K (convert src dst ux) v L' T' := by
  unfold evMark at hev
  split at hev
  · rename_i e i l k hei
    obtain ⟨hu, hie⟩ := elemI_spec hτ hei
    simp only [Option.ite_none_right_eq_some, Option.some.injEq, Prod.mk.injEq] at hev
    obtain ⟨⟨rfl, hu8⟩, rfl, rfl, rfl, rfl⟩ := hev
    obtain ⟨hT, hpos⟩ := hp
    have hue : P.underlying e = some (.int .u8) := by
      unfold isU8 at hu8
      split at hu8
      · rename_i hk; exact hτ.int hie hk
      · cases hu8
    obtain ⟨v0, hk⟩ := tok_get h hT
    have htk := (rd_bytesV rx).2
    obtain ⟨u', m', e', hk', hn', hv'⟩ := htk
    rw [hk] at hk'
    cases hk'
    have := hv' rfl
    subst this
    obtain ⟨he1, hm1⟩ := h.killTok hk (by
      cases rx with
      | bytes l t A c hc hm hr ht => omega)
    have hsl : ∃ A c, ux = .slice A l.length c := by cases rx; exact ⟨_, _, rfl⟩
    rcases h.tokAt k _ _ e hk with ⟨⟨A0, e1⟩, _⟩ | ⟨g, cap, cur, ti, e1, hc0, hg, hh, hi, hn, hc, hs, hp⟩
    · rw [e1] at hsl
      obtain ⟨A, c, hsl⟩ := hsl
      simp only [Value.slice.injEq] at hsl
      omega
    subst e1
    have hgl : g < K.w.heap.size := (Array.getElem?_eq_some_iff.1 hh).1
    have hgv : K.w.heap[g] = .cells cur e (0, 0) := (Array.getElem?_eq_some_iff.1 hh).2
    have hsh : K.w.shape? g = some (e, cur.size) := by simp [World.shape?, hh]
    have hrun : (convert src src (.slice (some ⟨g, 0, none⟩) l.length cap)).run P K.w = .ok (.slice (some ⟨g, 0, none⟩) l.length cap) (K.w.freeze ⟨g, cur.size, none⟩ 1) := by
      simp [convert, run_underlying hu, run_underlying hue, markStringish, hsh]
    have hfz : ∀ j, (K.w.freeze ⟨g, cur.size, none⟩ 1).heap[j]? = if j = g then some (.cells cur e (cur.size, cur.size + 1)) else K.w.heap[j]? := fun j => by
      unfold World.freeze
      rw [if_neg (by decide)]
      simp only [Array.getElem?_modify]
      by_cases e1 : j = g
      · subst e1; simp [hh]
      · simp [e1, Ne.symm e1]
    obtain ⟨he2, hm2⟩ := hm1.other (w' := K.w.freeze ⟨g, cur.size, none⟩ 1) (g := g) hg (fun j hj => by rw [hfz, if_neg hj]) (by simp [World.freeze]) (by simp [World.freeze]) (by simp [World.freeze]) (by simp [World.freeze])
      (fun o _ => by
        show (K.w.freeze ⟨g, cur.size, none⟩ 1).cell? ⟨g, o, none⟩ = K.w.cell? ⟨g, o, none⟩
        simp only [World.cell?, hfz, if_true, hh]) (fun s hs => by
        have h1 : (K.w.freeze ⟨g, cur.size, none⟩ 1).heap[g]? = some (.cells cur e (cur.size, cur.size + 1)) := by rw [hfz, if_pos rfl]
        rw [shape_cells h1, ← (shape_cells hh)]; exact hs) (h.tokBox k _ g hk (ownB_pos hc0)) (fun k' t hk' hb' => by
        have hkl : k < K.toks.length := (List.getElem?_eq_some_iff.1 hk).1
        have hk2 : (K.toks.set k (Value.slice none 0 0, deadN, e))[k']? = some t := hk'
        rw [List.getElem?_set] at hk2
        by_cases e1 : k = k'
        · subst e1
          simp [hkl] at hk2
          subst hk2
          simp [ownB] at hb'
        · rw [if_neg e1] at hk2
          exact e1 (h.tokNe k k' _ t g hk hk2 (ownB_pos hc0) hb'))
    refine ⟨_, _, hrun, he1.trans he2, hm2, ?_⟩
    have hr2 := (rx.ext he1).ext he2
    exact le_rel _ (.bytes l none) (by simp [V.le]) _ hr2
  · cases hev
def evGrow (τ : Tys) (t t2 : TypeId) (s x : V) : Option (Prop × V) :=
  match elemI τ t with
  | some (e, i) =>
    if zeroOk i = true ∧ 0 < i.size ∧ 0 < i.bytes ∧ notIntK τ t2 = true then
      match s, x with
      | .nils, .bytes l _ => if i.size = 1 then some (l.length * i.bytes ≤ maxBytes, .bytes l none) else none
      | .zero, .bytes l _ => if i.size = 1 then some (l.length * i.bytes ≤ maxBytes, .bytes l none) else none
      | .nils, .list sz l _ => if i.size = sz then some (l.length * i.bytes ≤ maxBytes, .list sz l none) else none
      | .zero, .list sz l _ => if i.size = sz then some (l.length * i.bytes ≤ maxBytes, .list sz l none) else none
      | _, _ => none
    else none
  | none => none
theorem appendGrow (h : Mem P B p0 K L T) {A : Option Addr} {x : Value} {m : Nat} {t t2 ty e : TypeId} {i : TypeInfo} {z : Value} {cs2 : List V} {news : List Value}
    (ht : P.underlying t = some (.slice e)) {d2 : TypeDesc} (ht2 : P.underlying t2 = some d2) (hd2 : ∀ k, d2 ≠ .int k) (hi : P.info? e = some i) (hz : i.zero = some z) (hsz : 0 < i.size) (hzs : z.cells.size = i.size)
    (hx : Gives P K.w x m i.size news) (h1 : ∀ u ∈ news, u.oneCell' = true) (hl : news.length = cs2.length)
    (hr : ∀ j (h : j < cs2.length) (h' : j < news.length), Rel K cs2[j] news[j]) (h63 : m ≤ maxLen) (hb : m * i.bytes ≤ 140737488355328) :
    ∃ K' u, (Builtin.append_ #[t, t2] ty #[.slice A 0 0, x]).run P K.w = .ok u K'.w ∧ K'.boxes = K.boxes ∧ Ext K K' ∧ Mem P B p0 K' L T ∧ Rd K' u m i.size cs2 := by
  have ho : Gives P K.w (.slice A 0 0) 0 i.size [] := by
    refine ⟨by simp, by simp [Builtin.lenOf], fun w' _ => ?_⟩
    cases A with
    | none => simp [Builtin.firstCells]
    | some a =>
      have := run_firstCells_some (P := P) w' i.size 0 a 0 0 [] (by simp) (fun j v hj => by simp at hj)
      simpa using this
  have hrun := run_append_gen (ty := ty) ht ht2 hd2 hi hz hx ho (by omega) (by simpa using hb)
  have hnl := hx.1
  simp only [Nat.zero_add] at hrun
  by_cases hroom : m ≤ 0
  · have hm0 : m = 0 := by omega
    subst hm0
    rw [if_pos hroom] at hrun
    have hnews : news = [] := List.eq_nil_of_length_eq_zero (by simpa using hnl)
    subst hnews
    have hcs2 : cs2 = [] := List.eq_nil_of_length_eq_zero (by rw [← hl]; rfl)
    subst hcs2
    exact ⟨K, .slice A 0 0, by rw [hrun]; cases A <;> simp [storeCells], rfl, Ext.refl K, h, rd_zero A⟩
  · rw [if_neg hroom] at hrun
    have hge := grownCap_ge K.w m 0 e
    have hgm := grownCap_le_maxLen K.w m 0 e h63
    obtain ⟨he1, hm1⟩ := h.grow (w' := K.w.drew.alloc (.cells ([].toArray ++ news.toArray ++ Builtin.zeroCells z.cells (grownCap K.w m 0 e - m)) e)) (q := fun b o => b = K.w.heap.size ∧ o < m * i.size)
      ((Below.refl _ K.w).drew.alloc (by simp) _) (fun b o hq => ⟨by omega, by simp [hq.1]⟩)
    refine ⟨{ K with w := K.w.drew.alloc (.cells ([].toArray ++ news.toArray ++ Builtin.zeroCells z.cells (grownCap K.w m 0 e - m)) e), prot := fun b o => K.prot b o ∨ (b = K.w.heap.size ∧ o < m * i.size) }, _, hrun, rfl, he1, hm1, ?_⟩
    refine ⟨some ⟨K.w.heap.size, 0, none⟩, _, fun j => news.getD j Go.undef, rfl, hge, hgm, by rw [← hl, hnl], fun j hj => ?_, fun j hj => ?_⟩
    · have hjl : j < news.length := by omega
      have hgd : news.getD j Go.undef = news[j] := by simp only [List.getD_eq_getElem?_getD, List.getElem?_eq_getElem hjl, Option.getD_some]
      simp only [hgd]
      refine ⟨⟨_, rfl, ?_, ?_⟩, h1 _ (List.getElem_mem hjl)⟩
      · rw [Addr.add_lit]
        exact .inr ⟨rfl, by show 0 + j < _; omega⟩
      · rw [Addr.add_lit, Nat.zero_add]
        show (K.w.drew.alloc _).cell? ⟨K.w.drew.heap.size, j, none⟩ = _
        rw [World.cell?_alloc_new, Array.getElem?_append_left (by simp; omega)]
        simp [hjl]
    · have hjl : j < news.length := by omega
      have hgd : news.getD j Go.undef = news[j] := by simp only [List.getD_eq_getElem?_getD, List.getElem?_eq_getElem hjl, Option.getD_some]
      simp only [hgd]
      exact (hr j hj hjl).ext he1
theorem grow_sound (hτ : TyOk P τ) (h : Mem P B p0 K L T) {t t2 ty : TypeId} {s x : V} {us ux : Value} {p : Prop} {v : V} (hev : evGrow τ t t2 s x = some (p, v)) (hp : p) (rs : Rel K s us) (rx : Rel K x ux) :
    ∃ K' u, (Builtin.append_ #[t, t2] ty #[us, ux]).run P K.w = .ok u K'.w ∧ K'.boxes = K.boxes ∧ Ext K K' ∧ Mem P B p0 K' L T ∧ Rel K' v u := by
  unfold evGrow at hev
  split at hev
  · rename_i e i hei
    obtain ⟨hu, hie⟩ := elemI_spec hτ hei
    simp only [Option.ite_none_right_eq_some] at hev
    obtain ⟨⟨hz, hsz, hby, hnk⟩, hev⟩ := hev
    obtain ⟨i2, hi2⟩ : ∃ i2, τ t2 = some i2 := by
      cases hi2 : τ t2 with
      | none => simp [notIntK, kindV, hi2] at hnk
      | some i2 => exact ⟨i2, rfl⟩
    obtain ⟨d2, hd2, hk2⟩ := hτ.under hi2
    have hd2' : ∀ k, d2 ≠ .int k := fun k e => by
      subst e
      simp [notIntK, kindV, hi2, ← hk2, descK] at hnk
    obtain ⟨ti, hti, hs, hb, hzz⟩ := hτ.info hie
    obtain ⟨_, hzc, _⟩ := zeroOk_rel hz K
    have len_ok : ∀ {n : Nat}, n * i.bytes ≤ maxBytes → n ≤ maxLen ∧ n * ti.bytes ≤ 140737488355328 := fun {n} hn => by
      have : n * 1 ≤ n * i.bytes := Nat.mul_le_mul_left _ hby
      refine ⟨by simp only [maxLen, maxBytes] at *; omega, by rw [hb]; exact hn⟩
    have hsz' : 0 < ti.size := by omega
    have hzs' : i.zero.cells.size = ti.size := by omega
    have hA : ∀ {s : V}, (s = .nils ∨ s = .zero) → Rel K s us → ∃ A, us = .slice A 0 0 := by
      rintro s (rfl | rfl) rs
      · cases rs; exact ⟨_, rfl⟩
      · cases rs; exact ⟨_, rfl⟩
    have onB : ∀ (l : List UInt8) (t' : Option Nat), x = .bytes l t' → (s = .nils ∨ s = .zero) → i.size = 1 → l.length * i.bytes ≤ maxBytes →
        ∃ K' u, (Builtin.append_ #[t, t2] ty #[us, ux]).run P K.w = .ok u K'.w ∧ K'.boxes = K.boxes ∧ Ext K K' ∧ Mem P B p0 K' L T ∧ Rel K' (.bytes l none) u := by
      rintro l t' rfl hs0 h1 hbd
      obtain ⟨A, rfl⟩ := hA hs0 rs
      obtain ⟨b1, b2⟩ := len_ok hbd
      obtain ⟨rd2, _⟩ := rd_bytesV rx
      have h1' : (1 : Nat) = ti.size := by omega
      rw [h1'] at rd2
      obtain ⟨news, g1, g2, g3, g4⟩ := gives_rd (P := P) rd2
      obtain ⟨K', u, hrun, hbx, he, hm, hrd⟩ := appendGrow (ty := ty) (A := A) h hu hd2 hd2' hti hzz hsz' hzs' g1 g2 g3 g4 b1 b2
      rw [← h1'] at hrd
      exact ⟨K', u, hrun, hbx, he, hm, bytesV_rd hrd trivial⟩
    have onL : ∀ (sz : Nat) (l : List V) (t' : Option Nat), x = .list sz l t' → (s = .nils ∨ s = .zero) → i.size = sz → l.length * i.bytes ≤ maxBytes →
        ∃ K' u, (Builtin.append_ #[t, t2] ty #[us, ux]).run P K.w = .ok u K'.w ∧ K'.boxes = K.boxes ∧ Ext K K' ∧ Mem P B p0 K' L T ∧ Rel K' (.list sz l none) u := by
      rintro sz l t' rfl hs0 h1 hbd
      obtain ⟨A, rfl⟩ := hA hs0 rs
      obtain ⟨b1, b2⟩ := len_ok hbd
      obtain ⟨rd2, hs2, _⟩ := rd_listV rx
      have h1' : sz = ti.size := by omega
      rw [h1'] at rd2
      obtain ⟨news, g1, g2, g3, g4⟩ := gives_rd (P := P) rd2
      obtain ⟨K', u, hrun, hbx, he, hm, hrd⟩ := appendGrow (ty := ty) (A := A) h hu hd2 hd2' hti hzz hsz' hzs' g1 g2 g3 g4 b1 b2
      rw [← h1'] at hrd
      exact ⟨K', u, hrun, hbx, he, hm, listV_rd hrd hs2 trivial⟩
    split at hev
    · rename_i l t'
      simp only [Option.ite_none_right_eq_some, Option.some.injEq, Prod.mk.injEq] at hev
      obtain ⟨h1, rfl, rfl⟩ := hev
      exact onB l t' rfl (.inl rfl) h1 hp
    · rename_i l t'
      simp only [Option.ite_none_right_eq_some, Option.some.injEq, Prod.mk.injEq] at hev
      obtain ⟨h1, rfl, rfl⟩ := hev
      exact onB l t' rfl (.inr rfl) h1 hp
    · rename_i sz l t'
      simp only [Option.ite_none_right_eq_some, Option.some.injEq, Prod.mk.injEq] at hev
      obtain ⟨h1, rfl, rfl⟩ := hev
      exact onL sz l t' rfl (.inl rfl) h1 hp
    · rename_i sz l t'
      simp only [Option.ite_none_right_eq_some, Option.some.injEq, Prod.mk.injEq] at hev
      obtain ⟨h1, rfl, rfl⟩ := hev
      exact onL sz l t' rfl (.inr rfl) h1 hp
    · cases hev
  · cases hev
def evNone (τ : Tys) (t : TypeId) (len : Nat) (parts : List (Nat × V)) : Option (Prop × V) :=
  match elemI τ t with
  | some _ => if len = 0 ∧ parts = [] then some (True, .zero) else evLit τ t len parts
  | none => none
theorem none_sound (hτ : TyOk P τ) (h : Mem P B p0 K L T) {t : TypeId} {len : Nat} {parts : List (Nat × V)} {us : Array (Nat × Value)} {p : Prop} {v : V} (hev : evNone τ t len parts = some (p, v)) (hp : p) (he : parts.map (·.1) = us.toList.map (·.1)) (hr : ∀ j (h : j < parts.length) (h' : j < us.toList.length), Rel K parts[j].2 us.toList[j].2) :
    ∃ K' u, (Instr.buildSlice t len us).run P K.w = .ok u K'.w ∧ K'.boxes = K.boxes ∧ Ext K K' ∧ Mem P B p0 K' L T ∧ Rel K' v u := by
  unfold evNone at hev
  split at hev
  · rename_i ei hei
    obtain ⟨e, i⟩ := ei
    obtain ⟨hu, hie⟩ := elemI_spec hτ hei
    split at hev
    rotate_left
    · exact lit_sound hτ h hev hp he hr
    rename_i hl0
    obtain ⟨rfl, rfl⟩ := hl0
    simp only [Option.some.injEq, Prod.mk.injEq] at hev
    obtain ⟨_, rfl⟩ := hev
    have hus : us = #[] := by
      have : us.toList = [] := by simpa using he.symm
      simpa using this
    subst hus
    obtain ⟨he1, hm1⟩ := h.grow (q := fun _ _ => False) (Below.push K.w (.cells #[] e)) (fun b o hq => hq.elim)
    refine ⟨{ K with w := K.w.alloc (.cells #[] e), prot := fun b o => K.prot b o ∨ False }, _, ?_, rfl, he1, hm1, .zero (some ⟨K.w.heap.size, 0, none⟩)⟩
    have e1 : ∀ z : Array Value, ((Array.range 0).map (z[· % z.size]!)) = #[] := fun _ => by apply Array.ext'; simp
    simp [Instr.buildSlice, run_underlying hu, hτ.run_sizeOf hie, e1, Instr.fill, newRow]
  · cases hev
end
end Go.Proofs.YtckmcglkjfkghaaDoor.Aw
