import Derived.Test.YtckmcglkjfkghaaDoorAw8
namespace Go.Proofs.YtckmcglkjfkghaaDoor.Aw
open Go Go.RowKit
set_option linter.unusedVariables false
set_option linter.unusedSimpArgs false
def zeroU8 (i : TyI) : Bool := match i.zero with | .int .u8 0 => true | _ => false
def evMake (τ : Tys) (L : List (List V)) (T : List (Nat × TypeId)) (t : TypeId) (l c : V) : Option Out :=
  match elemI τ t, l, c with
  | some (e, i), .int _ a, .int _ b =>
    if zeroOk i = true ∧ 0 < i.size ∧ (!isU8 i || zeroU8 i) = true then
      if isU8 i then some (0 ≤ a ∧ a ≤ b ∧ (i.bytes : Int) * b ≤ 281474976710656 ∧ b ≤ 9223372036854775807, .bytes (List.replicate a.toNat 0) (some T.length), L, T ++ [((List.replicate a.toNat (0 : UInt8)).length, e)])
      else some (0 ≤ a ∧ a ≤ b ∧ (i.bytes : Int) * b ≤ 281474976710656 ∧ b ≤ 9223372036854775807, .list i.size (List.replicate a.toNat (V.ofV i.zero)) (some T.length), L, T ++ [((List.replicate a.toNat (V.ofV i.zero)).length, e)])
    else none
  | _, _, _ => none
def bytesOf : List V → Option (Prop × List UInt8)
  | [] => some (True, [])
  | .int .u8 n :: r => match bytesOf r with | some (p, l) => some ((0 ≤ n ∧ n < 256) ∧ p, UInt8.ofNat n.toNat :: l) | none => none
  | _ => none
def allOk (sz : Nat) : List V → Bool
  | [] => true
  | v :: r => v.storable && (v.cells.length == sz) && allOk sz r
def seqFrom : Nat → List Nat → Bool
  | _, [] => true
  | k, i :: r => (i == k) && seqFrom (k + 1) r
theorem seqFrom_spec : ∀ (l : List Nat) (k : Nat), seqFrom k l = true → l = List.range' k l.length
  | [], _, _ => rfl
  | i :: r, k, h => by
    simp only [seqFrom, Bool.and_eq_true, beq_iff_eq] at h
    obtain ⟨rfl, h⟩ := h
    rw [List.length_cons, List.range'_succ, ← seqFrom_spec r (i + 1) h]
def evBuildSlice (τ : Tys) (L : List (List V)) (T : List (Nat × TypeId)) (t : TypeId) (len : Nat) (parts : List (Nat × V)) : Option Out :=
  match elemI τ t with
  | some (e, i) =>
    if len = 0 ∧ parts = [] then some (True, .zero, L, T) else
    if zeroOk i = true ∧ 0 < i.size ∧ seqFrom 0 (parts.map (·.1)) = true ∧ parts.length = len ∧ len * i.size ≤ 16777216 ∧ allOk i.size (parts.map (·.2)) = true then
      if isU8 i then match bytesOf (parts.map (·.2)) with
        | some (p, l) => some (p, .bytes l (some T.length), L, T ++ [(l.length, e)])
        | none => none
      else some (True, .list i.size (parts.map (·.2)) (some T.length), L, T ++ [((parts.map (·.2)).length, e)])
    else none
  | none => none
def evLit (τ : Tys) (t : TypeId) (len : Nat) (parts : List (Nat × V)) : Option (Prop × V) :=
  match elemI τ t with
  | some (e, i) =>
    if zeroOk i = true ∧ 0 < i.size ∧ seqFrom 0 (parts.map (·.1)) = true ∧ parts.length = len ∧ len * i.size ≤ 16777216 ∧ allOk i.size (parts.map (·.2)) = true then
      if isU8 i then match bytesOf (parts.map (·.2)) with
        | some (p, l) => some (p, .bytes l none)
        | none => none
      else some (True, .list i.size (parts.map (·.2)) none)
    else none
  | none => none
def evBox (L : List (List V)) (T : List (Nat × TypeId)) (x : V) : Option Out :=
  if x.storable then some (True, .box L.length 0, L ++ [x.cells], T) else none
def evAlloc (τ : Tys) (L : List (List V)) (T : List (Nat × TypeId)) (e : TypeId) : Option Out :=
  match τ e with
  | some i => if i.zeroV.storable then some (True, .box L.length 0, L ++ [i.zeroV.cells], T) else none
  | none => none
def evStore (τ : Tys) (L : List (List V)) (T : List (Nat × TypeId)) (t : TypeId) (a x : V) : Option Out :=
  match a with
  | .box o off => match L[o]?, τ t with
    | some cs, some i => if x.storable = true ∧ x.cells.length = i.size then some (off + i.size ≤ cs.length, .undef, L.set o (setSeg cs off x.cells), T) else none
    | _, _ => none
  | _ => none
section
variable {P : Program} {τ : Tys} {B : World} {p0 : Bs} {K : Kw} {L : List (List V)} {T : List (Nat × TypeId)}
theorem Below.push (w : World) (o : Obj) : Below w.heap.size w (w.alloc o) := (Below.refl _ w).alloc (Nat.le_refl _) o
theorem newRowTok (h : Mem P B p0 K L T) {cur : Array Value} {e : TypeId} {n c : Nat} {i : TypeInfo} {cs : List V} (hi : P.info? e = some i) (hnc : n ≤ c) (hcm : c ≤ maxLen) (hsz : 0 < i.size) (hcs : cur.size = c * i.size) (hl : cs.length = n * i.size)
    (hr : ∀ j (h : j < cs.length) (h' : j < cur.size), Rel K cs[j] cur[j] ∧ cur[j].oneCell' = true) :
    ∃ K', K'.w = K.w.alloc (.cells cur e) ∧ Ext K K' ∧ Mem P B p0 K' L (T ++ [(n, e)]) ∧ Rd K' (.slice (some ⟨K.w.heap.size, 0, none⟩) n c) n i.size cs ∧ K'.toks[T.length]? = some (.slice (some ⟨K.w.heap.size, 0, none⟩) n c, n, e) := by
  obtain ⟨he1, hm1⟩ := h.grow (q := fun b o => b = K.w.heap.size ∧ o < n * i.size) (Below.push K.w (.cells cur e)) (fun b o hq => ⟨by omega, by simp [hq.1]⟩)
  have hlen : K.toks.length = T.length := by rw [← h.toks]; simp
  obtain ⟨he2, hm2⟩ := hm1.addTok (v := .slice (some ⟨K.w.heap.size, 0, none⟩) n c) (n := n) (e := e)
    (by
      by_cases hc0 : c = 0
      · subst hc0
        exact .inl ⟨⟨some ⟨K.w.heap.size, 0, none⟩, by rw [show n = 0 by omega]⟩, .inl (by omega)⟩
      · exact .inr ⟨K.w.heap.size, c, cur, i, rfl, by omega, h.below.size, alloc_new K.w _, hi, hnc, hcm, ⟨hsz, by rw [hcs]; exact Nat.le_refl _⟩, fun o ho hp => by
          rcases hp with hp | hp
          · have := h.there _ _ hp; omega
          · have := hp.2; omega⟩)
    (fun b hb hbm => by
      have hb' : b = K.w.heap.size := by unfold ownB at hb; simp only at hb; split at hb <;> simp at hb; exact hb.symm
      subst hb'; have := h.boxes.lt hbm; omega)
    (fun k t b hk hb hb2 => by
      have hb' : b = K.w.heap.size := by unfold ownB at hb2; simp only at hb2; split at hb2 <;> simp at hb2; exact hb2.symm
      subst hb'; have := h.tokLt hk hb; omega)
  refine ⟨_, rfl, he1.trans he2, hm2, ?_, by rw [← hlen]; simp⟩
  have hmul : n * i.size ≤ c * i.size := Nat.mul_le_mul_right _ hnc
  refine ⟨some ⟨K.w.heap.size, 0, none⟩, c, fun j => cur.getD j Go.undef, rfl, hnc, hcm, hl, fun j hj => ?_, fun j hj => ?_⟩
  · have hjc : j < cur.size := by omega
    have hg : cur.getD j Go.undef = cur[j] := by simp [hjc]
    simp only [hg]
    refine ⟨⟨_, rfl, ?_, ?_⟩, (hr j (by omega) hjc).2⟩
    · rw [Addr.add_lit]
      exact .inr ⟨rfl, by show 0 + j < _; omega⟩
    · rw [Addr.add_lit, Nat.zero_add]
      show (K.w.alloc _).cell? ⟨K.w.heap.size, j, none⟩ = _
      rw [World.cell?_alloc_new, Array.getElem?_eq_getElem hjc]
  · have hjc : j < cur.size := by omega
    have hg : cur.getD j Go.undef = cur[j] := by simp [hjc]
    simp only [hg]
    exact ((hr j hj hjc).1.ext he1).ext he2
theorem flat_replicate (n : Nat) (v : V) (j : Nat) (h : j < ((List.replicate n v).flatMap V.cells).length) (hp : 0 < v.cells.length) : ((List.replicate n v).flatMap V.cells)[j]? = (v.cells)[j % v.cells.length]? := by
  have hs : ∀ x ∈ List.replicate n v, x.cells.length = v.cells.length := fun x hx => by rw [List.eq_of_mem_replicate hx]
  have hl := flat_len v.cells.length _ hs
  rw [hl, List.length_replicate] at h
  have hd : j / v.cells.length < n := Nat.div_lt_of_lt_mul (by rw [Nat.mul_comm]; exact h)
  have := flat_get v.cells.length _ hs (j / v.cells.length) (j % v.cells.length) (by simpa using hd) (Nat.mod_lt _ hp)
  rw [Nat.mul_comm, Nat.div_add_mod] at this
  rw [this]
  simp
theorem make_sound (hτ : TyOk P τ) (h : Mem P B p0 K L T) {t : TypeId} {l c : V} {ul uc : Value} {p : Prop} {v : V} {L' : List (List V)} {T' : List (Nat × TypeId)} (hev : evMake τ L T t l c = some (p, v, L', T')) (hp : p)
    (rl : Rel K l ul) (rc : Rel K c uc) : Eff P B p0 K (Instr.makeSlice t ul uc) v L' T' := by
  unfold evMake at hev
  split at hev
  · rename_i e i k a k' b hei
    obtain ⟨hu, hie⟩ := elemI_spec hτ hei
    cases rl; cases rc
    simp only [Option.ite_none_right_eq_some] at hev
    obtain ⟨⟨hz, hsz, hz8⟩, hev⟩ := hev
    obtain ⟨ti, hti, hs, hb, hzz⟩ := hτ.info hie
    obtain ⟨hzr, hzc, hzl⟩ := zeroOk_rel hz K
    have key : (0 ≤ a ∧ a ≤ b ∧ (i.bytes : Int) * b ≤ 281474976710656 ∧ b ≤ 9223372036854775807) → ∃ K' u, (Instr.makeSlice t (.int k a) (.int k' b)).run P K.w = .ok u K'.w ∧ Ext K K' ∧ Mem P B p0 K' L (T ++ [(a.toNat, e)]) ∧
        Rd K' u a.toNat i.size ((List.replicate a.toNat (V.ofV i.zero)).flatMap V.cells) ∧ K'.toks[T.length]? = some (u, a.toNat, e) := by
      rintro ⟨h0, h1, h2, h3⟩
      have hrun := run_make (P := P) K.w t e ti i.zero hu hti hzz k k' a b h0 h1 (by rw [hb]; exact h2) h3
      have hfl : ((List.replicate a.toNat (V.ofV i.zero)).flatMap V.cells).length = a.toNat * i.size := by
        rw [flat_len i.size _ (fun x hx => by rw [List.eq_of_mem_replicate hx]; exact hzl), List.length_replicate]
      obtain ⟨K', hw, he, hm, hrd, hk⟩ := newRowTok h (cur := madeCells i.zero.cells (b.toNat * ti.size)) (n := a.toNat) (c := b.toNat) (cs := (List.replicate a.toNat (V.ofV i.zero)).flatMap V.cells) hti (by omega) (by simp only [maxLen]; omega) (by rw [hs]; exact hsz) (by rw [size_madeCells]) (by rw [hfl, hs]) (fun j hj hj' => by
        have hpos : 0 < (V.ofV i.zero).cells.length := by omega
        have hg := flat_replicate a.toNat (V.ofV i.zero) j hj hpos
        have hm : j % (V.ofV i.zero).cells.length < (V.ofV i.zero).cells.length := Nat.mod_lt _ hpos
        have hm' : j % i.zero.cells.size < i.zero.cells.size := by rw [hzc, ← hzl]; exact hm
        rw [List.getElem?_eq_getElem hj, List.getElem?_eq_getElem hm] at hg
        simp only [Option.some.injEq] at hg
        have hcur : (madeCells i.zero.cells (b.toNat * ti.size))[j] = i.zero.cells[j % i.zero.cells.size]'hm' := by
          simp only [madeCells, Array.getElem_map, Array.getElem_range]
          simp [hm']
        rw [hg, hcur]
        have := hzr.2 (j % (V.ofV i.zero).cells.length) hm (by have := hm; simp only [Array.length_toList]; omega)
        simp only [Array.getElem_toList] at this
        simpa only [hzl, hzc] using this)
      rw [hs] at hrd
      exact ⟨K', _, by rw [hrun, hw], he, hm, hrd, hk⟩
    split at hev
    · rename_i hu8
      simp only [Option.some.injEq, Prod.mk.injEq] at hev
      obtain ⟨rfl, rfl, rfl, rfl⟩ := hev
      obtain ⟨K', u, hrun, he, hm, hrd, hk⟩ := key hp
      have hz8 : zeroU8 i = true := by simpa [hu8] using hz8
      have hzv : V.ofV i.zero = byteV 0 := by
        unfold zeroU8 at hz8
        split at hz8
        · rename_i hz0; rw [hz0]; rfl
        · cases hz8
      have hsz1 : i.size = 1 := by rw [← hzl, hzv]; rfl
      have hfm : (List.replicate a.toNat (V.ofV i.zero)).flatMap V.cells = (List.replicate a.toNat (0 : UInt8)).map byteV := by
        rw [hzv, List.map_replicate]
        generalize a.toNat = n
        induction n with
        | zero => rfl
        | succ n ih => rw [List.replicate_succ, List.flatMap_cons, ih]; rfl
      rw [hfm, hsz1] at hrd
      have hl : a.toNat = (List.replicate a.toNat (0 : UInt8)).length := by simp
      refine ⟨K', u, hrun, he, by simpa using hm, ?_⟩
      rw [hl] at hrd hk
      simp only [List.length_replicate] at hrd hk ⊢
      exact bytesV_rd (by simpa using hrd) ⟨u, _, e, hk, by simp, fun _ => rfl⟩
    · simp only [Option.some.injEq, Prod.mk.injEq] at hev
      obtain ⟨rfl, rfl, rfl, rfl⟩ := hev
      obtain ⟨K', u, hrun, he, hm, hrd, hk⟩ := key hp
      exact ⟨K', u, hrun, he, by simpa using hm, listV_rd (by simpa using hrd) (fun x hx => by rw [List.eq_of_mem_replicate hx]; exact hzl) ⟨u, _, e, hk, by simp, fun _ => rfl⟩⟩
  · cases hev
theorem box_sound (h : Mem P B p0 K L T) {e : TypeId} {x : V} {ux : Value} {p : Prop} {v : V} {L' : List (List V)} {T' : List (Nat × TypeId)} (hev : evBox L T x = some (p, v, L', T')) (rx : Rel K x ux) :
    Eff P B p0 K (Instr.box e ux) v L' T' := by
  simp only [evBox, Option.ite_none_right_eq_some, Option.some.injEq, Prod.mk.injEq] at hev
  obtain ⟨hst, _, rfl, rfl, rfl⟩ := hev
  obtain ⟨hsz, hr⟩ := rx.stored hst
  obtain ⟨he1, hm1⟩ := h.grow (q := fun _ _ => False) (Below.push K.w (.cells ux.cells e)) (fun b o hq => hq.elim)
  obtain ⟨he2, hm2⟩ := hm1.addBox (b := K.w.heap.size) (cs := x.cells) (cur := ux.cells) (ty := e) h.below.size (alloc_new K.w _) (by omega) (fun j hj => ⟨(hr j hj (by omega)).1.ext he1, (hr j hj (by omega)).2⟩)
    (fun o hp => by rcases hp with hp | hp; (have := h.there _ _ hp; omega); exact hp) (fun hb => by have := h.boxes.lt hb; omega) (fun k t hk hb => by have := h.tokLt hk hb; omega)
  refine ⟨_, .pointer (some ⟨K.w.heap.size, 0, none⟩), ?_, he1.trans he2, hm2, .box _ _ _ ?_ (_, _) (shape_cells (alloc_new K.w (.cells ux.cells e)))⟩
  · simp [Instr.box, newVar, newRow]
  · show (K.boxes ++ [some K.w.heap.size])[L.length]? = _
    rw [← h.boxes.1]; simp
theorem alloc_sound (hτ : TyOk P τ) (h : Mem P B p0 K L T) {e : TypeId} {p : Prop} {v : V} {L' : List (List V)} {T' : List (Nat × TypeId)} (hev : evAlloc τ L T e = some (p, v, L', T')) :
    Eff P B p0 K (Instr.alloc e true (.tuple #[])) v L' T' := by
  unfold evAlloc TyI.zeroV at hev
  split at hev
  · rename_i i hi
    simp only [Option.ite_none_right_eq_some, Option.some.injEq, Prod.mk.injEq] at hev
    obtain ⟨hst, _, rfl, rfl, rfl⟩ := hev
    have hb : evBox L T (V.ofV i.zero) = some (True, .box L.length 0, L ++ [(V.ofV i.zero).cells], T) := by simp [evBox, hst]
    obtain ⟨K', u, hrun, r⟩ := box_sound (P := P) (e := e) h hb (ofV_rel K i.zero)
    refine ⟨K', u, ?_, r⟩
    rw [← hrun]
    simp [Instr.alloc, Instr.box, hτ.run_zero hi]
  · cases hev
theorem store_sound (hτ : TyOk P τ) (h : Mem P B p0 K L T) {t : TypeId} {a x : V} {ua ux : Value} {p : Prop} {v : V} {L' : List (List V)} {T' : List (Nat × TypeId)} (hev : evStore τ L T t a x = some (p, v, L', T')) (hp : p) (ra : Rel K a ua) (rx : Rel K x ux) :
    ∃ K', (Instr.storeAt t ua ux).run P K.w = .ok () K'.w ∧ Ext K K' ∧ Mem P B p0 K' L' T' ∧ v = .undef := by
  unfold evStore at hev
  split at hev
  · rename_i o off
    split at hev
    · rename_i cs i hcs hi
      simp only [Option.ite_none_right_eq_some, Option.some.injEq, Prod.mk.injEq] at hev
      obtain ⟨⟨hst, hsz⟩, rfl, rfl, rfl, rfl⟩ := hev
      have hfit := hp
      cases ra with
      | box _ _ b hb s hs =>
      obtain ⟨cur, ty, hh, hcsz, hcr⟩ := box_cells (off := off) h.boxes hcs hb hs
      obtain ⟨hl, hr⟩ := rx.storedL hst
      simp only [Array.length_toList] at hl
      obtain ⟨he, hm⟩ := h.setBox (off := off) (vs := ux.cells.toList) (new := x.cells) hcs hb hh (by simpa using hl) (by omega) (fun j hj => hr j hj (by simp; omega))
      have hone : ∀ u ∈ ux.cells.toList, u.oneCell' = true := fun u hu => by
        obtain ⟨j, hj, rfl⟩ := List.mem_iff_getElem.1 hu
        exact (hr j (by simp at hj; omega) hj).2
      have hfit' : off + 0 + ux.cells.toList.length ≤ cur.size := by rw [Array.length_toList]; omega
      have hrun := run_storeCells_at (P := P) b off ty ux.cells.toList 0 cur K.w hh hfit' hone
      simp only [Nat.add_zero] at hrun
      refine ⟨_, ?_, he, hm, rfl⟩
      have hne : ¬ ux.cells.size ≠ i.size := by omega
      simp [Instr.storeAt, Instr.sureAddr, storeVar, hτ.run_sizeOf hi, hl, hsz, hrun]
    · cases hev
  · cases hev
theorem allOk_spec {sz : Nat} : ∀ {l : List V}, allOk sz l = true → ∀ v ∈ l, v.storable = true ∧ v.cells.length = sz
  | [], _, v, hv => by cases hv
  | x :: l, h, v, hv => by
    simp only [allOk, Bool.and_eq_true, beq_iff_eq] at h
    rcases List.mem_cons.1 hv with rfl | hv
    · exact h.1
    · exact allOk_spec h.2 v hv
theorem fillV_seq (sz : Nat) : ∀ (parts : List (Nat × V)) (k : Nat) (pre suf : List V), parts.map (·.1) = List.range' k parts.length → (∀ v ∈ parts.map (·.2), v.storable = true ∧ v.cells.length = sz) → pre.length = k * sz → suf.length = parts.length * sz →
    fillV (fun i => some (i * sz, sz)) (pre ++ suf) parts = some (pre ++ (parts.map (·.2)).flatMap V.cells)
  | [], k, pre, suf, _, _, _, hs => by
    have : suf = [] := List.eq_nil_of_length_eq_zero (by simpa using hs)
    subst this
    simp [fillV]
  | (i, v) :: rest, k, pre, suf, hi, ho, hp, hs => by
    simp only [List.map_cons, List.length_cons, List.range'_succ, List.cons.injEq] at hi
    obtain ⟨rfl, hi⟩ := hi
    obtain ⟨h1, h2⟩ := ho v (by simp)
    simp only [List.length_cons, Nat.add_mul, Nat.one_mul] at hs
    have hseg : setSeg (pre ++ suf) (i * sz) v.cells = (pre ++ v.cells) ++ suf.drop sz := by
      simp only [setSeg, ← hp, List.take_left, h2, List.append_assoc]
      rw [List.drop_append, List.drop_eq_nil_of_le (by omega), List.nil_append, Nat.add_sub_cancel_left]
    unfold fillV
    simp only [h1, h2, List.length_append, true_and, show i * sz + sz ≤ pre.length + suf.length by omega, if_true, hseg]
    rw [fillV_seq sz rest (i + 1) (pre ++ v.cells) (suf.drop sz) hi (fun x hx => ho x (by simp at hx ⊢; exact .inr hx)) (by simp [h2, Nat.add_mul]; omega) (by simp; omega)]
    simp
theorem bytesOf_spec {K : Kw} : ∀ (vs : List V) (p : Prop) (l : List UInt8), bytesOf vs = some (p, l) → p → vs = l.map byteV
  | [], p, l, h, _ => by
    simp only [bytesOf, Option.some.injEq, Prod.mk.injEq] at h
    obtain ⟨_, rfl⟩ := h
    rfl
  | v :: r, p, l, h, hp => by
    cases v with
    | int k n =>
      cases k <;> simp only [bytesOf] at h <;> first | cases h | skip
      split at h
      · rename_i p' l' hr
        simp only [Option.some.injEq, Prod.mk.injEq] at h
        obtain ⟨rfl, rfl⟩ := h
        obtain ⟨⟨h0, h1⟩, hp'⟩ := hp
        rw [bytesOf_spec (K := K) r p' l' hr hp']
        simp only [List.map_cons, List.cons.injEq, and_true, byteV]
        congr 1
        have e1 : (UInt8.ofNat n.toNat).toNat = n.toNat % 256 := UInt8.toNat_ofNat' 
        rw [e1]
        omega
      · cases h
    | _ => simp [bytesOf] at h
theorem flat_bytes : ∀ l : List UInt8, (l.map byteV).flatMap V.cells = l.map byteV
  | [] => rfl
  | b :: l => by rw [List.map_cons, List.flatMap_cons, flat_bytes l]; rfl
theorem newRowFix (h : Mem P B p0 K L T) {cur : Array Value} {e : TypeId} {n c : Nat} {i : TypeInfo} {cs : List V} (hnc : n ≤ c) (hcm : c ≤ maxLen) (hcs : cur.size = c * i.size) (hl : cs.length = n * i.size)
    (hr : ∀ j (h : j < cs.length) (h' : j < cur.size), Rel K cs[j] cur[j] ∧ cur[j].oneCell' = true) :
    ∃ K', K'.w = K.w.alloc (.cells cur e) ∧ K'.boxes = K.boxes ∧ Ext K K' ∧ Mem P B p0 K' L T ∧ Rd K' (.slice (some ⟨K.w.heap.size, 0, none⟩) n c) n i.size cs := by
  obtain ⟨he1, hm1⟩ := h.grow (q := fun b o => b = K.w.heap.size ∧ o < n * i.size) (Below.push K.w (.cells cur e)) (fun b o hq => ⟨by omega, by simp [hq.1]⟩)
  refine ⟨{ K with w := K.w.alloc (.cells cur e), prot := fun b o => K.prot b o ∨ (b = K.w.heap.size ∧ o < n * i.size) }, rfl, rfl, he1, hm1, ?_⟩
  have hmul : n * i.size ≤ c * i.size := Nat.mul_le_mul_right _ hnc
  refine ⟨some ⟨K.w.heap.size, 0, none⟩, c, fun j => cur.getD j Go.undef, rfl, hnc, hcm, hl, fun j hj => ?_, fun j hj => ?_⟩
  · have hjc : j < cur.size := by omega
    have hg : cur.getD j Go.undef = cur[j] := by simp [hjc]
    simp only [hg]
    refine ⟨⟨_, rfl, ?_, ?_⟩, (hr j (by omega) hjc).2⟩
    · rw [Addr.add_lit]
      exact .inr ⟨rfl, by show 0 + j < _; omega⟩
    · rw [Addr.add_lit, Nat.zero_add]
      show (K.w.alloc _).cell? ⟨K.w.heap.size, j, none⟩ = _
      rw [World.cell?_alloc_new, Array.getElem?_eq_getElem hjc]
  · have hjc : j < cur.size := by omega
    have hg : cur.getD j Go.undef = cur[j] := by simp [hjc]
    simp only [hg]
    exact ((hr j hj hjc).1).ext he1
theorem buildSlice_sound (hτ : TyOk P τ) (h : Mem P B p0 K L T) {t : TypeId} {len : Nat} {parts : List (Nat × V)} {us : Array (Nat × Value)} {p : Prop} {v : V} {L' : List (List V)} {T' : List (Nat × TypeId)}
    (hev : evBuildSlice τ L T t len parts = some (p, v, L', T')) (hp : p) (he : parts.map (·.1) = us.toList.map (·.1)) (hr : ∀ j (h : j < parts.length) (h' : j < us.toList.length), Rel K parts[j].2 us.toList[j].2) :
    Eff P B p0 K (Instr.buildSlice t len us) v L' T' := by
  unfold evBuildSlice at hev
  split at hev
  · rename_i e i hei
    obtain ⟨hu, hie⟩ := elemI_spec hτ hei
    split at hev
    · rename_i hl0
      obtain ⟨rfl, rfl⟩ := hl0
      simp only [Option.some.injEq, Prod.mk.injEq] at hev
      obtain ⟨rfl, rfl, rfl, rfl⟩ := hev
      have hus : us = #[] := by
        have : us.toList = [] := by simpa using he.symm
        simpa using this
      subst hus
      obtain ⟨he1, hm1⟩ := h.grow (q := fun _ _ => False) (Below.push K.w (.cells #[] e)) (fun b o hq => hq.elim)
      refine ⟨_, _, ?_, he1, hm1, .zero (some ⟨K.w.heap.size, 0, none⟩)⟩
      have e1 : ∀ z : Array Value, ((Array.range 0).map (z[· % z.size]!)) = #[] := fun _ => by apply Array.ext'; simp
      simp [Instr.buildSlice, run_underlying hu, hτ.run_sizeOf hie, e1, Instr.fill, newRow]
    simp only [Option.ite_none_right_eq_some] at hev
    obtain ⟨⟨hz, hsz, hseq, hlen, hbig, hall⟩, hev⟩ := hev
    have hidx : parts.map (·.1) = List.range len := by
      have := seqFrom_spec _ _ hseq
      rw [this, List.length_map, hlen, List.range_eq_range']
    obtain ⟨ti, hti, hs, hb, hzz⟩ := hτ.info hie
    obtain ⟨hzr, hzc, hzl⟩ := zeroOk_rel hz K
    have hspec := allOk_spec hall
    have hflat : ((parts.map (·.2)).flatMap V.cells).length = len * i.size := by rw [flat_len i.size _ fun v hv => (hspec v hv).2]; simp [hlen]
    have hz0 : RelL K ((List.replicate len (V.ofV i.zero)).flatMap V.cells) ((Array.range (len * i.size)).map (i.zero.cells[· % i.zero.cells.size]!)).toList := by
      have hfl : ((List.replicate len (V.ofV i.zero)).flatMap V.cells).length = len * i.size := by
        rw [flat_len i.size _ (fun x hx => by rw [List.eq_of_mem_replicate hx]; exact hzl), List.length_replicate]
      refine ⟨by simp [hfl], fun j hj hj' => ?_⟩
      have hpos : 0 < (V.ofV i.zero).cells.length := by omega
      have hg := flat_replicate len (V.ofV i.zero) j hj hpos
      have hm : j % (V.ofV i.zero).cells.length < (V.ofV i.zero).cells.length := Nat.mod_lt _ hpos
      have hm' : j % i.zero.cells.size < i.zero.cells.size := by rw [hzc, ← hzl]; exact hm
      rw [List.getElem?_eq_getElem hj, List.getElem?_eq_getElem hm] at hg
      simp only [Option.some.injEq] at hg
      have := hzr.2 (j % (V.ofV i.zero).cells.length) hm (by have := hm; simp only [Array.length_toList]; omega)
      simp only [Array.getElem_toList] at this
      simp only [Array.toList_map, List.getElem_map, Array.toList_range, List.getElem_range]
      rw [hg]
      have hcur : i.zero.cells[j % i.zero.cells.size]! = i.zero.cells[j % i.zero.cells.size]'hm' := by simp [hm']
      rw [hcur]
      simpa only [hzl, hzc] using this
    have hfill := fillV_seq i.size parts 0 [] ((List.replicate len (V.ofV i.zero)).flatMap V.cells) (by rw [hidx, hlen]; exact List.range_eq_range') hspec (by simp) (by rw [flat_len i.size _ (fun x hx => by rw [List.eq_of_mem_replicate hx]; exact hzl), List.length_replicate, hlen])
    simp only [List.nil_append] at hfill
    obtain ⟨cs', hf, hrel⟩ := fill_sound parts us.toList _ _ _ hfill hz0 he hr
    have hcs' : cs'.size = len * i.size := by have := hrel.1; rw [hflat] at this; simpa using this
    have hrun : (Instr.buildSlice t len us).run P K.w = .ok (.slice (some ⟨K.w.heap.size, 0, none⟩) len len) (K.w.alloc (.cells cs' e)) := by
      have hbig' : ¬ (16777216 < len * i.size) := by omega
      by_cases hl0 : len * i.size = 0
      · have hl0' : len = 0 := (Nat.mul_eq_zero.1 hl0).resolve_right (by omega)
        subst hl0'
        have e0 : ((Array.range (0 * i.size)).map (i.zero.cells[· % i.zero.cells.size]!)) = #[] := by apply Array.ext'; simp
        have e1 : ∀ z : Array Value, ((Array.range 0).map (z[· % z.size]!)) = #[] := fun _ => by apply Array.ext'; simp
        rw [e0] at hf
        simp [Instr.buildSlice, run_underlying hu, hτ.run_sizeOf hie, e1, hf, newRow]
      · simp [Instr.buildSlice, run_underlying hu, hτ.run_sizeOf hie, hbig', hl0, hτ.run_zero hie, hf, newRow]
    obtain ⟨K', hw, hext, hm, hrd, hk⟩ := newRowTok h (cur := cs') (n := len) (c := len) (cs := (parts.map (·.2)).flatMap V.cells) hti (Nat.le_refl _) (by simp only [maxLen]; have : len * 1 ≤ len * i.size := Nat.mul_le_mul_left _ hsz; omega) (by rw [hs]; exact hsz) (by rw [hcs', hs]) (by rw [hflat, hs])
      (fun j hj hj' => by have := hrel.2 j hj (by simpa using hj'); rw [Array.getElem_toList] at this; exact this)
    rw [hs] at hrd
    split at hev
    · rename_i hu8
      split at hev
      · rename_i p' l hbl
        simp only [Option.some.injEq, Prod.mk.injEq] at hev
        obtain ⟨rfl, rfl, rfl, rfl⟩ := hev
        have hbs := bytesOf_spec (K := K) _ _ _ hbl hp
        have hll : l.length = len := by have := congrArg List.length hbs; simp at this; omega
        refine ⟨K', _, by rw [hrun, hw], hext, by rw [hll]; exact hm, ?_⟩
        have hsz1 : i.size = 1 ∨ len = 0 := by
          cases l with
          | nil => right; simpa using hll.symm
          | cons b l =>
            left
            have hm1 : byteV b ∈ parts.map (·.2) := by rw [hbs]; simp
            exact ((hspec _ hm1).2).symm
        have hfm : (parts.map (·.2)).flatMap V.cells = l.map byteV := by
          rw [hbs]
          exact flat_bytes l
        rw [hfm] at hrd
        rw [← hll] at hk ⊢
        refine bytesV_rd ?_ ⟨_, _, e, hk, Nat.le_refl _, fun _ => rfl⟩
        rw [← hll] at hrd
        rcases hsz1 with h1 | h1
        · rw [h1] at hrd; exact hrd
        · have hl0 : l = [] := List.eq_nil_of_length_eq_zero (by omega)
          subst hl0
          obtain ⟨A, c, f, e1, e2, e3, e4, e5, e6⟩ := hrd
          exact ⟨A, c, f, e1, e2, e3, by simp, fun j hj => absurd hj (by simp), e6⟩
      · cases hev
    · simp only [Option.some.injEq, Prod.mk.injEq] at hev
      obtain ⟨_, rfl, rfl, rfl⟩ := hev
      have hll : (parts.map (·.2)).length = len := by simp [hlen]
      refine ⟨K', _, by rw [hrun, hw], hext, by rw [hll]; exact hm, ?_⟩
      rw [← hll] at hk hrd ⊢
      exact listV_rd hrd (fun v hv => (hspec v hv).2) ⟨_, _, e, hk, Nat.le_refl _, fun _ => rfl⟩
  · cases hev
theorem lit_sound (hτ : TyOk P τ) (h : Mem P B p0 K L T) {t : TypeId} {len : Nat} {parts : List (Nat × V)} {us : Array (Nat × Value)} {p : Prop} {v : V}
    (hev : evLit τ t len parts = some (p, v)) (hp : p) (he : parts.map (·.1) = us.toList.map (·.1)) (hr : ∀ j (h : j < parts.length) (h' : j < us.toList.length), Rel K parts[j].2 us.toList[j].2) :
    ∃ K' u, (Instr.buildSlice t len us).run P K.w = .ok u K'.w ∧ K'.boxes = K.boxes ∧ Ext K K' ∧ Mem P B p0 K' L T ∧ Rel K' v u := by
  unfold evLit at hev
  split at hev
  · rename_i e i hei
    obtain ⟨hu, hie⟩ := elemI_spec hτ hei
    simp only [Option.ite_none_right_eq_some] at hev
    obtain ⟨⟨hz, hsz, hseq, hlen, hbig, hall⟩, hev⟩ := hev
    have hidx : parts.map (·.1) = List.range len := by
      have := seqFrom_spec _ _ hseq
      rw [this, List.length_map, hlen, List.range_eq_range']
    obtain ⟨ti, hti, hs, hb, hzz⟩ := hτ.info hie
    obtain ⟨hzr, hzc, hzl⟩ := zeroOk_rel hz K
    have hspec := allOk_spec hall
    have hflat : ((parts.map (·.2)).flatMap V.cells).length = len * i.size := by rw [flat_len i.size _ fun v hv => (hspec v hv).2]; simp [hlen]
    have hz0 : RelL K ((List.replicate len (V.ofV i.zero)).flatMap V.cells) ((Array.range (len * i.size)).map (i.zero.cells[· % i.zero.cells.size]!)).toList := by
      have hfl : ((List.replicate len (V.ofV i.zero)).flatMap V.cells).length = len * i.size := by
        rw [flat_len i.size _ (fun x hx => by rw [List.eq_of_mem_replicate hx]; exact hzl), List.length_replicate]
      refine ⟨by simp [hfl], fun j hj hj' => ?_⟩
      have hpos : 0 < (V.ofV i.zero).cells.length := by omega
      have hg := flat_replicate len (V.ofV i.zero) j hj hpos
      have hm : j % (V.ofV i.zero).cells.length < (V.ofV i.zero).cells.length := Nat.mod_lt _ hpos
      have hm' : j % i.zero.cells.size < i.zero.cells.size := by rw [hzc, ← hzl]; exact hm
      rw [List.getElem?_eq_getElem hj, List.getElem?_eq_getElem hm] at hg
      simp only [Option.some.injEq] at hg
      have := hzr.2 (j % (V.ofV i.zero).cells.length) hm (by have := hm; simp only [Array.length_toList]; omega)
      simp only [Array.getElem_toList] at this
      simp only [Array.toList_map, List.getElem_map, Array.toList_range, List.getElem_range]
      rw [hg]
      have hcur : i.zero.cells[j % i.zero.cells.size]! = i.zero.cells[j % i.zero.cells.size]'hm' := by simp [hm']
      rw [hcur]
      simpa only [hzl, hzc] using this
    have hfill := fillV_seq i.size parts 0 [] ((List.replicate len (V.ofV i.zero)).flatMap V.cells) (by rw [hidx, hlen]; exact List.range_eq_range') hspec (by simp) (by rw [flat_len i.size _ (fun x hx => by rw [List.eq_of_mem_replicate hx]; exact hzl), List.length_replicate, hlen])
    simp only [List.nil_append] at hfill
    obtain ⟨cs', hf, hrel⟩ := fill_sound parts us.toList _ _ _ hfill hz0 he hr
    have hcs' : cs'.size = len * i.size := by have := hrel.1; rw [hflat] at this; simpa using this
    have hrun : (Instr.buildSlice t len us).run P K.w = .ok (.slice (some ⟨K.w.heap.size, 0, none⟩) len len) (K.w.alloc (.cells cs' e)) := by
      have hbig' : ¬ (16777216 < len * i.size) := by omega
      by_cases hl0 : len * i.size = 0
      · have hl0' : len = 0 := (Nat.mul_eq_zero.1 hl0).resolve_right (by omega)
        subst hl0'
        have e0 : ((Array.range (0 * i.size)).map (i.zero.cells[· % i.zero.cells.size]!)) = #[] := by apply Array.ext'; simp
        have e1 : ∀ z : Array Value, ((Array.range 0).map (z[· % z.size]!)) = #[] := fun _ => by apply Array.ext'; simp
        rw [e0] at hf
        simp [Instr.buildSlice, run_underlying hu, hτ.run_sizeOf hie, e1, hf, newRow]
      · simp [Instr.buildSlice, run_underlying hu, hτ.run_sizeOf hie, hbig', hl0, hτ.run_zero hie, hf, newRow]
    obtain ⟨K', hw, hbx, hext, hm, hrd⟩ := newRowFix h (cur := cs') (e := e) (i := ti) (n := len) (c := len) (cs := (parts.map (·.2)).flatMap V.cells) (Nat.le_refl _) (by simp only [maxLen]; have : len * 1 ≤ len * i.size := Nat.mul_le_mul_left _ hsz; omega) (by rw [hcs', hs]) (by rw [hflat, hs])
      (fun j hj hj' => by have := hrel.2 j hj (by simpa using hj'); rw [Array.getElem_toList] at this; exact this)
    rw [hs] at hrd
    split at hev
    · rename_i hu8
      split at hev
      · rename_i p' l hbl
        simp only [Option.some.injEq, Prod.mk.injEq] at hev
        obtain ⟨rfl, rfl⟩ := hev
        have hbs := bytesOf_spec (K := K) _ _ _ hbl hp
        have hll : l.length = len := by have := congrArg List.length hbs; simp at this; omega
        refine ⟨K', _, by rw [hrun, hw], hbx, hext, hm, ?_⟩
        have hsz1 : i.size = 1 ∨ len = 0 := by
          cases l with
          | nil => right; simpa using hll.symm
          | cons b l =>
            left
            have hm1 : byteV b ∈ parts.map (·.2) := by rw [hbs]; simp
            exact ((hspec _ hm1).2).symm
        have hfm : (parts.map (·.2)).flatMap V.cells = l.map byteV := by
          rw [hbs]
          exact flat_bytes l
        rw [hfm] at hrd
        rw [← hll] at hrd ⊢
        refine bytesV_rd ?_ trivial
        rcases hsz1 with h1 | h1
        · rw [h1] at hrd; exact hrd
        · have hl0 : l = [] := List.eq_nil_of_length_eq_zero (by omega)
          subst hl0
          obtain ⟨A, c, f, e1, e2, e3, e4, e5, e6⟩ := hrd
          exact ⟨A, c, f, e1, e2, e3, by simp, fun j hj => absurd hj (by simp), e6⟩
      · cases hev
    · simp only [Option.some.injEq, Prod.mk.injEq] at hev
      obtain ⟨_, rfl⟩ := hev
      have hll : (parts.map (·.2)).length = len := by simp [hlen]
      refine ⟨K', _, by rw [hrun, hw], hbx, hext, hm, ?_⟩
      rw [← hll] at hrd ⊢
      exact listV_rd hrd (fun v hv => (hspec v hv).2) trivial
  · cases hev
end
end Go.Proofs.YtckmcglkjfkghaaDoor.Aw
