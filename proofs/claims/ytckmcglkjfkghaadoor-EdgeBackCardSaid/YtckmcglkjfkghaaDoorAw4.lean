import Derived.Test.YtckmcglkjfkghaaDoorAw3
namespace Go.Proofs.YtckmcglkjfkghaaDoor.Aw
open Go Go.RowKit
set_option linter.unusedVariables false
set_option linter.unusedSimpArgs false
theorem flat_len (sz : Nat) : ∀ (l : List V), (∀ v ∈ l, v.cells.length = sz) → (l.flatMap V.cells).length = l.length * sz
  | [], _ => by simp
  | x :: l, h => by
    rw [List.flatMap_cons, List.length_append, flat_len sz l fun v hv => h v (List.mem_cons_of_mem _ hv), h x (by simp), List.length_cons, Nat.add_mul]
    omega
theorem flat_get (sz : Nat) : ∀ (l : List V), (∀ v ∈ l, v.cells.length = sz) → ∀ (i j : Nat) (hi : i < l.length), j < sz → (l.flatMap V.cells)[i * sz + j]? = (l[i].cells)[j]?
  | [], _, i, j, hi, _ => absurd hi (by simp)
  | x :: l, h, i, j, hi, hj => by
    have hx := h x (by simp)
    rw [List.flatMap_cons]
    cases i with
    | zero => rw [List.getElem?_append_left (by simp; omega)]; simp
    | succ i =>
      have e : (i + 1) * sz + j = x.cells.length + (i * sz + j) := by rw [hx, Nat.add_mul]; omega
      rw [e, List.getElem?_append_right (by omega), Nat.add_sub_cancel_left]
      exact flat_get sz l (fun v hv => h v (List.mem_cons_of_mem _ hv)) i j (by simpa using hi) hj
theorem flat_drop (sz : Nat) : ∀ (l : List V) (n : Nat), (∀ v ∈ l, v.cells.length = sz) → (l.drop n).flatMap V.cells = (l.flatMap V.cells).drop (n * sz)
  | l, 0, _ => by simp
  | [], n + 1, _ => by simp
  | x :: l, n + 1, h => by
    have hx := h x (by simp)
    rw [List.drop_succ_cons, flat_drop sz l n fun v hv => h v (List.mem_cons_of_mem _ hv), List.flatMap_cons, Nat.add_mul, Nat.one_mul, Nat.add_comm, ← List.drop_drop, ← hx, List.drop_left]
theorem flat_take (sz : Nat) : ∀ (l : List V) (n : Nat), (∀ v ∈ l, v.cells.length = sz) → (l.take n).flatMap V.cells = (l.flatMap V.cells).take (n * sz)
  | l, 0, _ => by simp
  | [], n + 1, _ => by simp
  | x :: l, n + 1, h => by
    have hx := h x (by simp)
    rw [List.take_succ_cons, List.flatMap_cons, flat_take sz l n fun v hv => h v (List.mem_cons_of_mem _ hv), List.flatMap_cons, Nat.add_mul, Nat.one_mul, Nat.add_comm, List.take_append, hx,
      List.take_of_length_le (show x.cells.length ≤ sz + n * sz by omega), Nat.add_sub_cancel_left]
theorem Rel.bytes' {K : Kw} {l : List UInt8} {t : Option Nat} {A : Option Addr} {n c : Nat} (hn : n = l.length) (hc : n ≤ c) (hm : c ≤ maxLen)
    (hr : ∀ j (h : j < l.length), ∃ ad, A = some ad ∧ K.rd (ad.add j) (.int .u8 l[j].toNat)) (ht : K.tokOk t n (.slice A n c)) : Rel K (.bytes l t) (.slice A n c) := by
  subst hn; exact .bytes l t A c hc hm hr ht
theorem Rel.list' {K : Kw} {sz : Nat} {l : List V} {t : Option Nat} {A : Option Addr} {n c : Nat} (f : Nat → Value) (hn : n = l.length) (hc : n ≤ c) (hm : c ≤ maxLen)
    (hs : ∀ v ∈ l, v.cells.length = sz) (hr : ∀ j, j < l.length * sz → (∃ ad, A = some ad ∧ K.rd (ad.add j) (f j)) ∧ (f j).oneCell' = true)
    (hf : ∀ j (h : j < (l.flatMap V.cells).length), Rel K (l.flatMap V.cells)[j] (f j)) (ht : K.tokOk t n (.slice A n c)) : Rel K (.list sz l t) (.slice A n c) := by
  subst hn; exact .list sz l t A c f hc hm hs hr hf ht
section sound
variable {P : Program} {τ : Tys} {K : Kw} {L : List (List V)}
theorem elem_eq {t e : TypeId} (h : P.underlying t = some (.slice e)) : P.elem t = e := by simp [Program.elem, h]
theorem elem_arr {t e : TypeId} {n : Nat} (h : P.underlying t = some (.array n e)) : P.elem t = e := by simp [Program.elem, h]
theorem run_indexAt_sl {w : World} {t e : TypeId} {i : TyI} (hτ : TyOk P τ) (h : P.underlying t = some (.slice e)) (he : τ e = some i) {ad : Addr} {len cap : Nat} {k : IntKind} {j : Int} (h0 : 0 ≤ j) (h1 : j < len) :
    (Instr.indexAt t (.slice (some ad) len cap) (.int k j)).run P w = .ok (.pointer (some (ad.add (j.toNat * i.size)))) w := by
  have h' : P.underlying t = some (.slice (P.elem t)) := by rw [elem_eq h]; exact h
  rw [run_indexAt_slice (h := h'), if_pos ⟨h0, h1⟩, elem_eq h, hτ.run_sizeOf he]
  rfl
theorem indexAddr_sound (hτ : TyOk P τ) {t : TypeId} {x i : V} {p : Prop} {v : V} {vx vi : Value} (h : evIndexAddr τ t x i = some (p, v)) (hp : p) (rx : Rel K x vx) (ri : Rel K i vi) :
    ∃ u, (Instr.indexAt t vx vi).run P K.w = .ok u K.w ∧ Rel K v u := by
  unfold evIndexAddr at h
  split at h
  · rename_i e l t' k j hk
    obtain ⟨it, hit, hk⟩ := kindV_some hk
    have hu := hτ.slice hit hk
    cases ri
    cases rx with
    | bytes l t A c hc hm hr ht =>
    split at h
    · rename_i hsz
      obtain ⟨ie, hie, hsz⟩ := sizeV_pos hsz (by omega)
      simp only [Option.some.injEq, Prod.mk.injEq] at h
      obtain ⟨rfl, rfl⟩ := h
      obtain ⟨h0, h1⟩ := hp
      have hjl : j.toNat < l.length := by omega
      obtain ⟨ad, rfl, hrd⟩ := hr j.toNat hjl
      refine ⟨_, run_indexAt_sl hτ hu hie h0 h1, .ref _ _ (fun n => .int .u8 l[j.toNat].toNat) (fun n hn => ?_) (fun n hn => ?_)⟩
      · have hn0 : n = 0 := by simp [V.cells] at hn; omega
        subst hn0
        rw [hsz, Nat.mul_one, add_add, Nat.add_zero]
        exact ⟨hrd, rfl⟩
      · have hn0 : n = 0 := by simp [V.cells] at hn; omega
        subst hn0
        simp only [V.cells, List.getElem_cons_zero, List.getD_eq_getElem?_getD, List.getElem?_eq_getElem hjl, Option.getD_some]
        exact .int _ _
    · cases h
  · rename_i e sz l t' k j hk
    obtain ⟨it, hit, hk⟩ := kindV_some hk
    have hu := hτ.slice hit hk
    cases ri
    cases rx with
    | list sz l t A c f hc hm hs hr hf ht =>
    split at h
    · rename_i hsz
      obtain ⟨hsz, hpos⟩ := hsz
      obtain ⟨ie, hie, hsz⟩ := sizeV_pos hsz hpos
      simp only [Option.some.injEq, Prod.mk.injEq] at h
      obtain ⟨rfl, rfl⟩ := h
      obtain ⟨h0, h1⟩ := hp
      have hjl : j.toNat < l.length := by omega
      have hle : (j.toNat + 1) * sz ≤ l.length * sz := Nat.mul_le_mul_right _ hjl
      rw [Nat.add_mul, Nat.one_mul] at hle
      obtain ⟨⟨ad, rfl, _⟩, _⟩ := hr (j.toNat * sz) (by omega)
      have hg : l.getD j.toNat V.any = l[j.toNat] := by simp [List.getD_eq_getElem?_getD, List.getElem?_eq_getElem hjl]
      have hcl : (l.getD j.toNat V.any).cells.length = sz := by rw [hg]; exact hs _ (List.getElem_mem hjl)
      refine ⟨_, run_indexAt_sl hτ hu hie h0 h1, .ref _ _ (fun n => f (j.toNat * sz + n)) (fun n hn => ?_) (fun n hn => ?_)⟩
      · rw [hcl] at hn
        obtain ⟨⟨ad', e', hrd⟩, ho⟩ := hr (j.toNat * sz + n) (by omega)
        cases e'
        rw [hsz, add_add]
        exact ⟨hrd, ho⟩
      · rw [hcl] at hn
        have hfl := flat_len sz l hs
        have := hf (j.toNat * sz + n) (by omega)
        have hget := flat_get sz l hs j.toNat n hjl hn
        rw [List.getElem?_eq_getElem (by omega), List.getElem?_eq_getElem (by rw [hs _ (List.getElem_mem hjl)]; exact hn)] at hget
        simp only [Option.some.injEq] at hget
        simp only [hg]
        rw [← hget]
        exact this
    · cases h
  · rename_i n e o off k j hk
    obtain ⟨it, hit, hk⟩ := kindV_some hk
    have hu := hτ.array hit hk
    cases ri
    cases rx with
    | box o off b hb s hs =>
    split at h
    · rename_i hsz
      obtain ⟨ie, hie, hsz'⟩ := sizeV_pos rfl hsz
      simp only [Option.some.injEq, Prod.mk.injEq] at h
      obtain ⟨rfl, rfl⟩ := h
      obtain ⟨h0, h1⟩ := hp
      refine ⟨.pointer (some ⟨b, off + j.toNat * sizeV τ e, none⟩), ?_, .box _ _ b hb s hs⟩
      have hal : P.arrayLen t = n := by simp [Program.arrayLen, hu]
      have h' : P.underlying t = some (.array (P.arrayLen t) (P.elem t)) := by rw [elem_arr hu, hal]; exact hu
      rw [run_indexAt_array (h := h'), hal, if_pos ⟨h0, h1⟩, elem_arr hu, hτ.run_sizeOf hie]
      simp [hsz', Addr.add_lit]
    · cases h
  · rename_i e em o off n k j hk
    obtain ⟨it, hit, hk⟩ := kindV_some hk
    have hu := hτ.slice hit hk
    cases ri
    cases rx with
    | mrow em o off n A c hc hm hA =>
    split at h
    · rename_i hsz
      obtain ⟨ie, hie, hsz'⟩ := sizeV_pos rfl hsz
      simp only [Option.some.injEq, Prod.mk.injEq] at h
      obtain ⟨rfl, rfl⟩ := h
      obtain ⟨h0, h1⟩ := hp
      rcases hA with ⟨hA, _⟩ | ⟨b, m1, rfl, hb, hsh, _⟩
      · omega
      refine ⟨.pointer (some ⟨b, off + j.toNat * sizeV τ e, none⟩), ?_, .box _ _ b hb (_, _) hsh⟩
      rw [run_indexAt_sl hτ hu hie h0 h1, hsz', Addr.add_lit]
    · cases h
  · rename_i e em sz o n k j hk
    obtain ⟨it, hit, hk⟩ := kindV_some hk
    have hu := hτ.slice hit hk
    cases ri
    cases rx with
    | vrow em sz o n A c hc hm hA =>
    split at h
    · rename_i hsz
      obtain ⟨ie, hie, hsz'⟩ := sizeV_pos rfl hsz
      simp only [Option.some.injEq, Prod.mk.injEq] at h
      obtain ⟨rfl, rfl⟩ := h
      obtain ⟨h0, h1⟩ := hp
      rcases hA with ⟨hA, _⟩ | ⟨b, m1, rfl, hb, hsh, _⟩
      · omega
      refine ⟨.pointer (some ⟨b, j.toNat * sizeV τ e, none⟩), ?_, .box _ _ b hb (_, _) hsh⟩
      rw [run_indexAt_sl hτ hu hie h0 h1, hsz', Addr.add_lit, Nat.zero_add]
    · cases h
  · cases h
theorem run_load_ref (hτ : TyOk P τ) {t : TypeId} {v v' : V} {ad : Addr} {f : Nat → Value} (h : loadV τ t v = some v')
    (hr : ∀ j, j < v.cells.length → K.rd (ad.add j) (f j) ∧ (f j).oneCell' = true) (hf : ∀ j (h : j < v.cells.length), Rel K v.cells[j] (f j)) :
    ∃ u, (loadVar t ad).run P K.w = .ok u K.w ∧ Rel K v' u := by
  unfold loadV at h
  split at h
  · rename_i i hi
    split at h
    · rename_i hagg
      cases v with
      | agg l =>
        simp only [Option.ite_none_right_eq_some, Option.some.injEq] at h
        obtain ⟨hl, rfl⟩ := h
        refine ⟨.agg ((List.range l.length).map f).toArray, ?_, .agg _ _ (by simp) (fun j hj => by simpa using (hr j (by simp only [V.cells]; simpa using hj)).2) fun j hj => ?_⟩
        · have := run_loadCells (P := P) K.w ad l.length f fun j hj => (hr j hj).1.2
          simp [loadVar, hτ.run_isAgg hi, hτ.run_sizeOf hi, hagg, ← hl, this]
        · have := hf j hj
          simp only [V.cells] at this
          simpa using this
      | _ => simp at h
    · rename_i hagg
      have hv : v.cells = [v] ∧ v' = v := by cases v <;> simp at h <;> simp [V.cells, h]
      obtain ⟨hc, rfl⟩ := hv
      have h0 := hr 0 (by simp [hc])
      have h1 := hf 0 (by simp [hc])
      simp only [hc, List.getElem_cons_zero] at h1
      have hadd : ad.add 0 = ad := by simp [Addr.add]
      rw [hadd] at h0
      exact ⟨f 0, by simp [loadVar, hτ.run_isAgg hi, hagg, h0.1.2], h1⟩
  · cases h
theorem box_cells (hL : BoxesOk K L) {o off b : Nat} {cs : List V} (ho : L[o]? = some cs) (hb : K.boxes[o]? = some (some b)) {em : TypeId} {m : Nat} (hs : K.w.shp b = some (some em, m)) :
    ∃ (cur : Array Value) (ty : TypeId), K.w.heap[b]? = some (.cells cur ty (0, 0)) ∧ ∃ h : cs.length ≤ cur.size, ∀ j (hj : j < cs.length), Rel K cs[j] (cur[j]'(by omega)) ∧ (cur[j]'(by omega)).oneCell' = true := by
  rcases hL.2 o cs ho with ⟨hb', _⟩ | ⟨b', cur, ty, hb', hh, r⟩ | ⟨b', hb', hm⟩
  · rw [hb] at hb'; cases hb'
  · rw [hb] at hb'
    cases hb'
    exact ⟨cur, ty, hh, r⟩
  · rw [hb] at hb'
    cases hb'
    exact (hm.noShape hs).elim
theorem convL_sound (hτ : TyOk P τ) (hL : BoxesOk K L) {src dst : TypeId} {x : V} {p : Prop} {v : V} {vx : Value} (h : evConvL τ L src dst x = some (p, v)) (hp : p) (rx : Rel K x vx) :
    ∃ u, (convert src dst vx).run P K.w = .ok u K.w ∧ Rel K v u := by
  unfold evConvL at h
  split at h
  · rename_i o off n
    split at h
    · rename_i hk
      obtain ⟨i, hi, hk⟩ := kindV_some hk
      split at h
      · rename_i hb
        obtain ⟨e, he, he'⟩ := isBytes_spec hτ hb
        split at h
        · rename_i cs hcs
          simp only [Option.some.injEq, Prod.mk.injEq] at h
          obtain ⟨rfl, rfl⟩ := h
          obtain ⟨hfit, hbytes⟩ := hp
          generalize hl : ((cs.drop off).take n).map unbyte = l at hbytes
          have hln : l.length = n := by rw [← hl]; simp; omega
          cases rx with
          | mrow em o off n A c hc hm hA =>
          have hrun : (Conv.bytesToString (.slice A n c)).run P K.w = .ok (.string ⟨l.toArray⟩) K.w := by
            rw [← hln]
            refine rd_cells fun j hj => ?_
            rcases hA with ⟨hA, _⟩ | ⟨b, m1, rfl, hbx, hsh, _⟩
            · omega
            obtain ⟨cur, ty, hh, hsz, hr⟩ := box_cells (off := off) hL hcs hbx hsh
            refine ⟨_, rfl, ?_⟩
            rw [Addr.add_lit]
            have hcj : cs[off + j]'(by omega) = byteV l[j] := by
              have h1 : (l.map byteV)[j]? = ((cs.drop off).take n)[j]? := by rw [hbytes]
              rw [List.getElem?_map, List.getElem?_eq_getElem hj, List.getElem?_take_of_lt (by omega), List.getElem?_drop, List.getElem?_eq_getElem (show off + j < cs.length by omega)] at h1
              simpa using h1.symm
            rw [cell_of_row K.w b (off + j) cur ty (0, 0) hh, Array.getElem?_eq_getElem (by omega)]
            have h2 := (hr (off + j) (by omega)).1
            rw [hcj] at h2
            simp only [byteV] at h2
            cases hv : cur[off + j]'(by omega) <;> rw [hv] at h2 <;> cases h2
            rfl
          exact ⟨_, by rw [run_convert_bytes_string K.w src dst e A n c he he' (hτ.str hi hk), hrun], .str _⟩
        · cases h
      · cases h
    · cases h
  · rename_i sz o n
    split at h
    · rename_i hk
      obtain ⟨i, hi, hk⟩ := kindV_some hk
      split at h
      · rename_i hb
        obtain ⟨e, he, he'⟩ := isBytes_spec hτ hb
        split at h
        · rename_i cs hcs
          simp only [Option.some.injEq, Prod.mk.injEq] at h
          obtain ⟨rfl, rfl⟩ := h
          obtain ⟨hfit, hbytes⟩ := hp
          generalize hl : (cs.take n).map unbyte = l at hbytes
          have hln : l.length = n := by rw [← hl]; simp; omega
          cases rx with
          | vrow em sz o n A c hc hm hA =>
          have hrun : (Conv.bytesToString (.slice A n c)).run P K.w = .ok (.string ⟨l.toArray⟩) K.w := by
            rw [← hln]
            refine rd_cells fun j hj => ?_
            rcases hA with ⟨hA, _⟩ | ⟨b, m1, rfl, hbx, hsh, _⟩
            · omega
            obtain ⟨cur, ty, hh, hsz, hr⟩ := box_cells (off := 0) hL hcs hbx hsh
            refine ⟨_, rfl, ?_⟩
            rw [Addr.add_lit, Nat.zero_add]
            have hcj : cs[j]'(by omega) = byteV l[j] := by
              have h1 : (l.map byteV)[j]? = (cs.take n)[j]? := by rw [hbytes]
              rw [List.getElem?_map, List.getElem?_eq_getElem hj, List.getElem?_take_of_lt (by omega), List.getElem?_eq_getElem (show j < cs.length by omega)] at h1
              simpa using h1.symm
            rw [cell_of_row K.w b j cur ty (0, 0) hh, Array.getElem?_eq_getElem (by omega)]
            have h2 := (hr j (by omega)).1
            rw [hcj] at h2
            simp only [byteV] at h2
            cases hv : cur[j]'(by omega) <;> rw [hv] at h2 <;> cases h2
            rfl
          exact ⟨_, by rw [run_convert_bytes_string K.w src dst e A n c he he' (hτ.str hi hk), hrun], .str _⟩
        · cases h
      · cases h
    · cases h
  · exact conv_sound hτ h rx
theorem partV_spec {t : TypeId} {l : List V} {off : Nat} {v : V} (h : partV τ t l off = some v) :
    ∃ i, τ t = some i ∧ ((i.isAgg = true ∧ off + i.size ≤ l.length ∧ v = .agg ((l.drop off).take i.size)) ∨ (i.isAgg = false ∧ l[off]? = some v ∧ v.cells = [v])) := by
  unfold partV at h
  split at h
  · rename_i i hi
    refine ⟨i, hi, ?_⟩
    split at h
    · rename_i ha
      simp only [Option.ite_none_right_eq_some, Option.some.injEq] at h
      exact .inl ⟨ha, h.1, h.2.symm⟩
    · rename_i ha
      unfold cellV at h
      split at h
      · cases h
      · rename_i hno
        refine .inr ⟨by simpa using ha, h, ?_⟩
        cases v <;> first | rfl | exact absurd h (hno _)
  · cases h
theorem run_part (hτ : TyOk P τ) {t : TypeId} {l : List V} {vs : Array Value} {off : Nat} {v : V} (h : partV τ t l off = some v) (hl : vs.size = l.length) (ho : ∀ j (h : j < vs.size), vs[j].oneCell' = true)
    (hr : ∀ j (h : j < l.length), Rel K l[j] (vs[j]'(by omega))) : ∃ u, (part t vs off).run P K.w = .ok u K.w ∧ Rel K v u := by
  obtain ⟨i, hi, ⟨ha, hle, rfl⟩ | ⟨ha, hv, hvc⟩⟩ := partV_spec h
  · refine ⟨.agg (vs.extract off (off + i.size)), by simp [part, hτ.run_isAgg hi, hτ.run_sizeOf hi, ha], .agg _ _ (by simp; omega) (fun j hj => by simp only [Array.size_extract] at hj; simpa using ho (off + j) (by omega)) fun j hj => ?_⟩
    simp only [List.length_take, List.length_drop] at hj
    have := hr (off + j) (by omega)
    simpa using this
  · obtain ⟨hlt, rfl⟩ := List.getElem?_eq_some_iff.1 hv
    refine ⟨vs[off]'(by omega), ?_, hr off hlt⟩
    have : vs[off]? = some (vs[off]'(by omega)) := Array.getElem?_eq_getElem (by omega)
    simp [part, hτ.run_isAgg hi, ha, this]
theorem loadR_sound (hτ : TyOk P τ) (hL : BoxesOk K L) {t : TypeId} {a : V} {p : Prop} {v : V} {va : Value} (h : evLoadR τ L t a = some (p, v)) (ra : Rel K a va) :
    ∃ u, (Instr.loadAt t va).run P K.w = .ok u K.w ∧ Rel K v u := by
  unfold evLoadR at h
  split at h
  · cases ra with
    | ref v0 ad f hr hf =>
    simp only [Option.map_eq_some_iff, Prod.mk.injEq] at h
    obtain ⟨v', hv', _, rfl⟩ := h
    obtain ⟨u, hu, r⟩ := run_load_ref (P := P) hτ hv' hr hf
    exact ⟨u, by simp [Instr.loadAt, Instr.sureAddr, hu], r⟩
  · rename_i o off
    cases ra with
    | box _ _ b hb s hs =>
    split at h
    · rename_i cs hcs
      simp only [Option.map_eq_some_iff, Prod.mk.injEq] at h
      obtain ⟨v', hv', _, rfl⟩ := h
      obtain ⟨cur, ty, hh, hsz, hr⟩ := box_cells (off := off) hL hcs hb hs
      obtain ⟨i, hi, ⟨ha, hle, rfl⟩ | ⟨ha, hv, hvc⟩⟩ := partV_spec hv'
      · have hc : ∀ j, j < i.size → K.w.cell? ((⟨b, off, none⟩ : Addr).add j) = some (cur.getD (off + j) Go.undef) := by
          intro j hj
          rw [Addr.add_lit, cell_of_row K.w b (off + j) cur ty (0, 0) hh, Array.getElem?_eq_getElem (by omega)]
          simp [show off + j < cur.size by omega]
        refine ⟨.agg ((List.range i.size).map fun j => cur.getD (off + j) Go.undef).toArray, ?_, .agg _ _ (by simp; omega) (fun j hj => ?_) fun j hj => ?_⟩
        rotate_left
        · simp only [List.size_toArray, List.length_map, List.length_range] at hj
          have := (hr (off + j) (by omega)).2
          simpa [show off + j < cur.size by omega] using this
        rotate_left
        · have := run_loadCells (P := P) K.w ⟨b, off, none⟩ i.size _ hc
          simp [Instr.loadAt, Instr.sureAddr, loadVar, hτ.run_isAgg hi, hτ.run_sizeOf hi, ha, this]
        · simp only [List.length_take, List.length_drop] at hj
          have := (hr (off + j) (by omega)).1
          simpa [show off + j < cur.size by omega] using this
      · obtain ⟨hlt, rfl⟩ := List.getElem?_eq_some_iff.1 hv
        refine ⟨cur[off]'(by omega), ?_, (hr off hlt).1⟩
        have : K.w.cell? ⟨b, off, none⟩ = some (cur[off]'(by omega)) := by rw [cell_of_row K.w b off cur ty (0, 0) hh, Array.getElem?_eq_getElem (by omega)]
        simp [Instr.loadAt, Instr.sureAddr, loadVar, hτ.run_isAgg hi, ha, this]
    · cases h
  · cases h
theorem loadBox_part {t : TypeId} {cs : List V} {off : Nat} {p : Prop} {v : V} (h : loadBox τ t cs off = some (p, v)) (hp : p) : partV τ t cs off = some v := by
  unfold loadBox at h
  unfold partV
  split at h
  · rename_i i hi
    split at h
    · rename_i ha
      simp only [Option.some.injEq, Prod.mk.injEq] at h
      obtain ⟨rfl, rfl⟩ := h
      rw [if_pos ha, if_pos hp]
    · rename_i ha
      rw [if_neg ha]
      cases hag : (cs.getD off i.zeroV).isAgg <;> rw [hag] at h
      · simp only [cond_false, Option.some.injEq, Prod.mk.injEq] at h
        obtain ⟨rfl, rfl⟩ := h
        have hg : cs.getD off i.zeroV = cs[off] := by simp [List.getD_eq_getElem?_getD, List.getElem?_eq_getElem hp]
        unfold cellV
        rw [List.getElem?_eq_getElem hp]
        rw [hg] at hag ⊢
        split
        · rename_i l hl
          simp only [Option.some.injEq] at hl
          rw [hl] at hag
          cases hag
        · rfl
      · cases h
  · cases h
theorem load_sound (hτ : TyOk P τ) (hL : BoxesOk K L) {t : TypeId} {a : V} {p : Prop} {v : V} {va : Value} (h : evLoad τ L t a = some (p, v)) (hp : p) (ra : Rel K a va) :
    ∃ u, (Instr.loadAt t va).run P K.w = .ok u K.w ∧ Rel K v u := by
  unfold evLoad at h
  split at h
  · exact loadR_sound (p := p) hτ hL (by unfold evLoadR; exact h) ra
  · rename_i o off
    split at h
    · rename_i cs hcs
      refine loadR_sound (p := True) hτ hL ?_ ra
      unfold evLoadR
      simp only [hcs, loadBox_part h hp, Option.map_some]
    · cases h
  · cases h
theorem run_fieldAt (hτ : TyOk P τ) {s ft : TypeId} {i ie : TyI} {fs : List (Nat × TypeId)} {f off : Nat} {w : World} {ad : Addr} (hi : τ s = some i) (hk : i.kind = .struct fs) (hf : fs[f]? = some (off, ft)) (he : τ ft = some ie) (hne : ie.size ≠ 0) :
    (Instr.fieldAt s (.pointer (some ad)) f).run P w = .ok (.pointer (some (ad.add off))) w := by
  obtain ⟨fl, hu, hfl⟩ := hτ.struct hi hk
  subst hfl
  simp only [List.getElem?_map, Option.map_eq_some_iff, Array.getElem?_toList, Prod.mk.injEq] at hf
  obtain ⟨fd, hfd, rfl, rfl⟩ := hf
  simp [Instr.fieldAt, run_underlying hu, hfd, Instr.sureAddr, fieldPlace, hτ.run_sizeOf he, hne]
theorem fieldAddr_sound (hτ : TyOk P τ) {s : TypeId} {x : V} {f : Nat} {p : Prop} {v : V} {vx : Value} (h : evFieldAddr τ s x f = some (p, v)) (rx : Rel K x vx) :
    ∃ u, (Instr.fieldAt s vx f).run P K.w = .ok u K.w ∧ Rel K v u := by
  unfold evFieldAddr at h
  split at h
  · rename_i fs l hk
    obtain ⟨i, hi, hk⟩ := kindV_some hk
    split at h
    · rename_i off ft hf
      split at h
      · cases h
      · rename_i hne
        obtain ⟨ie, he, hsz⟩ := sizeV_pos (τ := τ) (t := ft) rfl (by omega)
        simp only [Option.map_eq_some_iff, Prod.mk.injEq] at h
        obtain ⟨v', hv', _, rfl⟩ := h
        cases rx with
        | ref v0 ad g hr hg =>
        refine ⟨_, run_fieldAt hτ hi hk hf he (by omega), ?_⟩
        obtain ⟨i', hi', ⟨ha, hle, rfl⟩ | ⟨ha, hv, hvc⟩⟩ := partV_spec hv'
        · refine .ref _ _ (fun j => g (off + j)) (fun j hj => ?_) (fun j hj => ?_)
          · simp only [V.cells, List.length_take, List.length_drop] at hj
            rw [add_add]
            exact hr (off + j) (by simp only [V.cells]; omega)
          · simp only [V.cells, List.length_take, List.length_drop] at hj
            have := hg (off + j) (by simp only [V.cells]; omega)
            simpa [V.cells] using this
        · obtain ⟨hlt, rfl⟩ := List.getElem?_eq_some_iff.1 hv
          have h1 := hg off hlt
          have h0 := hr off hlt
          refine .ref _ _ (fun j => g off) (fun j hj => ?_) (fun j hj => ?_)
          · have : j = 0 := by rw [hvc] at hj; simpa using hj
            subst this
            rw [add_add]
            exact h0
          · have : j = 0 := by rw [hvc] at hj; simpa using hj
            subst this
            simp only [hvc, List.getElem_cons_zero]
            exact h1
    · cases h
  · rename_i fs o off0 hk
    obtain ⟨i, hi, hk⟩ := kindV_some hk
    split at h
    · rename_i off ft hf
      split at h
      · cases h
      · rename_i hne
        obtain ⟨ie, he, hsz⟩ := sizeV_pos (τ := τ) (t := ft) rfl (by omega)
        simp only [Option.some.injEq, Prod.mk.injEq] at h
        obtain ⟨_, rfl⟩ := h
        cases rx with
        | box o off1 b hb s hs =>
        exact ⟨_, run_fieldAt hτ hi hk hf he (by omega), by rw [Addr.add_lit]; exact .box _ _ b hb s hs⟩
    · cases h
  · cases h
theorem field_sound (hτ : TyOk P τ) {t : TypeId} {x : V} {f : Nat} {p : Prop} {v : V} {vx : Value} (h : evField τ t x f = some (p, v)) (rx : Rel K x vx) :
    ∃ u, (Instr.field t vx f).run P K.w = .ok u K.w ∧ Rel K v u := by
  unfold evField at h
  split at h
  · rename_i fs l hk
    obtain ⟨i, hi, hk⟩ := kindV_some hk
    split at h
    · rename_i off ft hf
      simp only [Option.map_eq_some_iff, Prod.mk.injEq] at h
      obtain ⟨v', hv', _, rfl⟩ := h
      cases rx with
      | agg l vs hl ho hr =>
      obtain ⟨fl, hu, hfl⟩ := hτ.struct hi hk
      subst hfl
      simp only [List.getElem?_map, Option.map_eq_some_iff, Array.getElem?_toList, Prod.mk.injEq] at hf
      obtain ⟨fd, hfd, rfl, rfl⟩ := hf
      obtain ⟨u, hu', r⟩ := run_part (P := P) hτ hv' hl ho hr
      exact ⟨u, by simp [Instr.field, run_underlying hu, hfd, asAgg, hu'], r⟩
    · cases h
  · cases h
theorem index_sound (hτ : TyOk P τ) {t : TypeId} {x i : V} {p : Prop} {v : V} {vx vi : Value} (h : evIndex τ t x i = some (p, v)) (hp : p) (rx : Rel K x vx) (ri : Rel K i vi) :
    ∃ u, (Instr.index t vx vi).run P K.w = .ok u K.w ∧ Rel K v u := by
  unfold evIndex at h
  split at h
  · rename_i l k j hk
    obtain ⟨it, hit, hk⟩ := kindV_some hk
    cases ri; cases rx
    simp only [Option.some.injEq, Prod.mk.injEq] at h
    obtain ⟨rfl, rfl⟩ := h
    obtain ⟨h0, h1⟩ := hp
    have hjl : j.toNat < l.length := by omega
    refine ⟨_, ?_, .int _ _⟩
    have hz : (ByteArray.mk l.toArray).size = l.length := by simp [ByteArray.size]
    rw [run_index_string (h := hτ.str hit hk), dif_pos ⟨h0, by rw [hz]; exact h1⟩]
    simp [List.getD_eq_getElem?_getD, List.getElem?_eq_getElem hjl, ByteArray.getElem_eq_getElem_data]
  · rename_i n e l k j hk
    obtain ⟨it, hit, hk⟩ := kindV_some hk
    have hu := hτ.array hit hk
    cases ri
    cases rx with
    | agg l vs hl ho hr =>
    simp only [Option.ite_none_right_eq_some, Option.map_eq_some_iff, Prod.mk.injEq] at h
    obtain ⟨⟨h0, h1⟩, v', hv', _, rfl⟩ := h
    obtain ⟨ie, hie, _⟩ := partV_spec hv'
    obtain ⟨u, hu', r⟩ := run_part (P := P) hτ hv' hl ho hr
    have hs : sizeV τ e = ie.size := by simp [sizeV, hie]
    rw [hs] at hu'
    exact ⟨u, by simp [Instr.index, asIntOf, run_underlying hu, h0, h1, hτ.run_sizeOf hie, hu'], r⟩
  · cases h
theorem cut_bytes {l : List UInt8} {A : Option Addr} {n c a b : Nat} (hn : n = l.length) (hc : n ≤ c) (hm : c ≤ maxLen) (hab : a ≤ b) (hb : b ≤ n)
    (hr : ∀ j (h : j < l.length), ∃ ad, A = some ad ∧ K.rd (ad.add j) (.int .u8 l[j].toNat)) :
    Rel K (.bytes ((l.take b).drop a) none) (.slice (if c = a then A else A.map (·.add (a * 1))) (b - a) (c - a)) := by
  refine .bytes' (by simp; omega) (by omega) (by omega) (fun j hj => ?_) trivial
  simp only [List.length_drop, List.length_take] at hj
  obtain ⟨ad, rfl, hrd⟩ := hr (a + j) (by omega)
  rw [if_neg (by omega), Nat.mul_one]
  refine ⟨_, rfl, ?_⟩
  rw [add_add]
  simpa using hrd
theorem cut_list {sz : Nat} {l : List V} {A : Option Addr} {n c a b : Nat} {f : Nat → Value} (hn : n = l.length) (hc : n ≤ c) (hm : c ≤ maxLen) (hab : a ≤ b) (hb : b ≤ n)
    (hs : ∀ v ∈ l, v.cells.length = sz) (hr : ∀ j, j < l.length * sz → (∃ ad, A = some ad ∧ K.rd (ad.add j) (f j)) ∧ (f j).oneCell' = true)
    (hf : ∀ j (h : j < (l.flatMap V.cells).length), Rel K (l.flatMap V.cells)[j] (f j)) :
    Rel K (.list sz ((l.take b).drop a) none) (.slice (if c = a then A else A.map (·.add (a * sz))) (b - a) (c - a)) := by
  have hle : b * sz ≤ l.length * sz := Nat.mul_le_mul_right _ (by omega)
  have hlen : ((l.take b).drop a).length = b - a := by simp; omega
  have hs1 : ∀ v ∈ l.take b, v.cells.length = sz := fun v hv => hs v (List.mem_of_mem_take hv)
  have hfl : ((l.take b).drop a).flatMap V.cells = ((l.flatMap V.cells).take (b * sz)).drop (a * sz) := by rw [flat_drop sz _ _ hs1, flat_take sz _ _ hs]
  refine .list' (fun j => f (a * sz + j)) hlen.symm (by omega) (by omega) (fun v hv => hs1 v (List.mem_of_mem_drop hv)) (fun j hj => ?_) (fun j hj => ?_) trivial
  · rw [hlen, Nat.sub_mul] at hj
    obtain ⟨⟨ad, rfl, hrd⟩, ho⟩ := hr (a * sz + j) (by omega)
    have hne : ¬ c = a := fun e => by
      have : b - a = 0 := by omega
      rw [← Nat.sub_mul, this] at hj
      omega
    rw [if_neg hne]
    exact ⟨⟨_, rfl, by rw [add_add]; exact hrd⟩, ho⟩
  · have hj' := hj
    rw [flat_len sz _ (fun v hv => hs1 v (List.mem_of_mem_drop hv)), hlen, Nat.sub_mul] at hj'
    have hl := flat_len sz l hs
    have := hf (a * sz + j) (by omega)
    simpa [hfl] using this
def Bnd (lo : Option V) (lo' : Option Value) (dflt a : Nat) : Prop := (lo = none ∧ lo' = none ∧ a = dflt) ∨ ∃ k, lo = some (.int k a) ∧ lo' = some (.int k a)
theorem bnd_none {d : Nat} : Bnd none none d d := .inl ⟨rfl, rfl, rfl⟩
theorem bnd_some {k : IntKind} {z : Int} {d : Nat} (h : 0 ≤ z) : Bnd (some (.int k z)) (some (.int k z)) d z.toNat := .inr ⟨k, by simp [Int.toNat_of_nonneg h]⟩
theorem run_bounds {isS : Bool} {len cap a b : Nat} {lo hi : Option V} {lo' hi' : Option Value} {w : World} (hlo : Bnd lo lo' 0 a) (hhi : Bnd hi hi' len b) (hab : a ≤ b) (hb : b ≤ cap) :
    (Instr.sliceBounds isS len cap lo' hi' none).run P w = .ok (a, b, cap) w := by
  rcases hlo with ⟨_, rfl, rfl⟩ | ⟨k, _, rfl⟩ <;> rcases hhi with ⟨_, rfl, rfl⟩ | ⟨k', _, rfl⟩ <;>
    simp [Instr.sliceBounds, run_sliceBound, hab, hb]
theorem sliceV_spec {x : V} {n : Nat} {lo hi : Option V} {lo' hi' : Option Value} {p : Prop} {v : V} (h : sliceV x lo hi = some (p, v)) (hp : p)
    (rlo : ∀ a, lo = some a → ∃ u, lo' = some u ∧ Rel K a u) (rlo0 : lo = none → lo' = none) (rhi : ∀ a, hi = some a → ∃ u, hi' = some u ∧ Rel K a u) (rhi0 : hi = none → hi' = none)
    (hn : lenV x = some n) : ∃ a b : Nat, Bnd lo lo' 0 a ∧ Bnd hi hi' n b ∧ a ≤ b ∧ b ≤ n ∧
      ((∃ l, x = .str l ∧ v = .str ((l.take b).drop a)) ∨ (∃ l k, x = .bytes l k ∧ v = .bytes ((l.take b).drop a) none) ∨ (∃ sz l k, x = .list sz l k ∧ v = .list sz ((l.take b).drop a) none)) := by
  have num : ∀ {o : Option V} {o' : Option Value} {k : IntKind} {z : Int}, o = some (.int k z) → (∀ a, o = some a → ∃ u, o' = some u ∧ Rel K a u) → o' = some (.int k z) := by
    intro o o' k z e r
    obtain ⟨u, hu, hr⟩ := r _ e
    cases hr
    exact hu
  unfold sliceV at h
  split at h
  all_goals first
    | cases h; done
    | skip
  all_goals
    simp only [Option.some.injEq, Prod.mk.injEq] at h
    obtain ⟨rfl, rfl⟩ := h
    simp only [lenV, Option.some.injEq] at hn
    subst hn
  case h_1 | h_5 | h_9 =>
    rw [rlo0 rfl, rhi0 rfl]
    exact ⟨0, _, bnd_none, bnd_none, by omega, by omega, by first | (simp; done) | exact .inr (.inr ⟨_, _, _, rfl, by simp⟩)⟩
  case h_2 | h_6 | h_10 =>
    rw [num rfl rlo, rhi0 rfl]
    obtain ⟨h0, h1⟩ := hp
    exact ⟨_, _, bnd_some h0, bnd_none, by omega, by omega, by first | (simp; done) | exact .inr (.inr ⟨_, _, _, rfl, by simp⟩)⟩
  case h_3 | h_7 | h_11 =>
    rw [rlo0 rfl, num rfl rhi]
    obtain ⟨h0, h1⟩ := hp
    exact ⟨0, _, bnd_none, bnd_some h0, by omega, by omega, by first | (simp; done) | exact .inr (.inr ⟨_, _, _, rfl, by simp⟩)⟩
  case h_4 | h_8 | h_12 =>
    rw [num rfl rlo, num rfl rhi]
    obtain ⟨h0, h1, h2⟩ := hp
    exact ⟨_, _, bnd_some h0, bnd_some (by omega), by omega, by omega, by first | (simp; done) | exact .inr (.inr ⟨_, _, _, rfl, by simp⟩)⟩
theorem sliceM_spec {em : TypeId} {o off n : Nat} {lo hi : Option V} {lo' hi' : Option Value} {p : Prop} {v : V} (h : sliceM em o off n lo hi = some (p, v)) (hp : p)
    (rlo : ∀ a, lo = some a → ∃ u, lo' = some u ∧ Rel K a u) (rlo0 : lo = none → lo' = none) (rhi : ∀ a, hi = some a → ∃ u, hi' = some u ∧ Rel K a u) (rhi0 : hi = none → hi' = none) :
    ∃ a b : Nat, Bnd lo lo' 0 a ∧ Bnd hi hi' n b ∧ a ≤ b ∧ b ≤ n ∧ v = .mrow em o (off + a) (b - a) := by
  have hlo : ∀ (k : IntKind) (a : Int), lo = some (.int k a) → lo' = some (.int k a) := by
    intro k a e
    obtain ⟨u, e1, r⟩ := rlo _ e
    cases r
    exact e1
  have hhi : ∀ (k : IntKind) (a : Int), hi = some (.int k a) → hi' = some (.int k a) := by
    intro k a e
    obtain ⟨u, e1, r⟩ := rhi _ e
    cases r
    exact e1
  unfold sliceM at h
  split at h
  · cases h
    exact ⟨0, n, .inl ⟨rfl, rlo0 rfl, rfl⟩, .inl ⟨rfl, rhi0 rfl, rfl⟩, by omega, by omega, rfl⟩
  · rename_i k a
    cases h
    exact ⟨a.toNat, n, by rw [hlo k a rfl]; exact bnd_some (by omega), .inl ⟨rfl, rhi0 rfl, rfl⟩, by omega, by omega, rfl⟩
  · rename_i k b
    cases h
    exact ⟨0, b.toNat, .inl ⟨rfl, rlo0 rfl, rfl⟩, by rw [hhi k b rfl]; exact bnd_some (by omega), by omega, by omega, rfl⟩
  · rename_i k a k' b
    cases h
    exact ⟨a.toNat, b.toNat, by rw [hlo k a rfl]; exact bnd_some (by omega), by rw [hhi k' b rfl]; exact bnd_some (by omega), by omega, by omega, rfl⟩
  · cases h
theorem slice_sound (hτ : TyOk P τ) {t : TypeId} {x : V} {lo hi : Option V} {lo' hi' : Option Value} {p : Prop} {v : V} {vx : Value} (h : evSlice τ t x lo hi = some (p, v)) (hp : p) (rx : Rel K x vx)
    (rlo : ∀ a, lo = some a → ∃ u, lo' = some u ∧ Rel K a u) (rlo0 : lo = none → lo' = none) (rhi : ∀ a, hi = some a → ∃ u, hi' = some u ∧ Rel K a u) (rhi0 : hi = none → hi' = none) :
    ∃ u, (Instr.sliceAt t vx lo' hi' none).run P K.w = .ok u K.w ∧ Rel K v u := by
  unfold evSlice at h
  split at h
  · rename_i e l k hk
    obtain ⟨it, hit, hk⟩ := kindV_some hk
    have hu := hτ.slice hit hk
    simp only [Option.ite_none_right_eq_some] at h
    obtain ⟨hsz, h⟩ := h
    obtain ⟨ie, hie, hsz⟩ := sizeV_pos hsz (by omega)
    cases rx with
    | bytes l t A c hc hm hr ht =>
    obtain ⟨a, b, ha, hb, hab, hbn, h3⟩ := sliceV_spec (n := l.length) h hp rlo rlo0 rhi rhi0 rfl
    obtain ⟨l', k', e1, rfl⟩ : ∃ l' k', V.bytes l k = .bytes l' k' ∧ v = .bytes ((l'.take b).drop a) none := by
      rcases h3 with ⟨l', e1, _⟩ | h3 | ⟨sz, l', k', e1, _⟩
      · cases e1
      · exact h3
      · cases e1
    cases e1
    refine ⟨_, ?_, cut_bytes rfl hc hm hab hbn hr⟩
    rw [run_sliceAt_slice (h := by rw [elem_eq hu]; exact hu)]
    have hbd := run_bounds (P := P) (isS := true) (cap := c) (w := K.w) ha hb hab (by omega)
    simp only [Instr.slice, Sem.run_bind, run_underlying hu, Result.andThen_ok, hbd, hτ.run_sizeOf hie, hsz, Sem.run_pure]
  · rename_i e sz l k hk
    obtain ⟨it, hit, hk⟩ := kindV_some hk
    have hu := hτ.slice hit hk
    simp only [Option.ite_none_right_eq_some] at h
    obtain ⟨⟨hsz, hpos⟩, h⟩ := h
    obtain ⟨ie, hie, hsz⟩ := sizeV_pos hsz hpos
    cases rx with
    | list sz l t A c f hc hm hs hr hf ht =>
    obtain ⟨a, b, ha, hb, hab, hbn, h3⟩ := sliceV_spec (n := l.length) h hp rlo rlo0 rhi rhi0 rfl
    obtain ⟨sz', l', k', e1, rfl⟩ : ∃ sz' l' k', V.list sz l k = .list sz' l' k' ∧ v = .list sz' ((l'.take b).drop a) none := by
      rcases h3 with ⟨l', e1, _⟩ | ⟨l', k', e1, _⟩ | h3
      · cases e1
      · cases e1
      · exact h3
    cases e1
    refine ⟨_, ?_, cut_list rfl hc hm hab hbn hs hr hf⟩
    rw [run_sliceAt_slice (h := by rw [elem_eq hu]; exact hu)]
    have hbd := run_bounds (P := P) (isS := true) (cap := c) (w := K.w) ha hb hab (by omega)
    simp only [Instr.slice, Sem.run_bind, run_underlying hu, Result.andThen_ok, hbd, hτ.run_sizeOf hie, hsz, Sem.run_pure]
  · rename_i l hk
    obtain ⟨it, hit, hk⟩ := kindV_some hk
    have hu := hτ.str hit hk
    cases rx
    obtain ⟨a, b, ha, hb, hab, hbn, h3⟩ := sliceV_spec (n := l.length) h hp rlo rlo0 rhi rhi0 rfl
    obtain ⟨l', e1, rfl⟩ : ∃ l', V.str l = .str l' ∧ v = .str ((l'.take b).drop a) := by
      rcases h3 with h3 | ⟨l', k', e1, _⟩ | ⟨sz, l', k', e1, _⟩
      · exact h3
      · cases e1
      · cases e1
    cases e1
    have hz : (ByteArray.mk l.toArray).size = l.length := by simp [ByteArray.size]
    have key : (ByteArray.mk l.toArray).extract a b = ⟨((l.take b).drop a).toArray⟩ := by
      apply ByteArray.ext
      simp [ByteArray.data_extract, List.drop_take]
    refine ⟨_, ?_, .str _⟩
    rw [run_sliceAt_string (h := hu)]
    have hbd := run_bounds (P := P) (isS := false) (w := K.w) ha hb hab hbn
    simp [Instr.slice, run_underlying hu, hz, hbd, key]
  · rename_i e em o off n hk
    obtain ⟨it, hit, hk⟩ := kindV_some hk
    have hu := hτ.slice hit hk
    simp only [Option.ite_none_right_eq_some] at h
    obtain ⟨hsz, h⟩ := h
    obtain ⟨ie, hie, hsz⟩ := sizeV_pos hsz (by omega)
    cases rx with
    | mrow em o off n A c hc hm hA =>
    obtain ⟨a, b, ha, hb, hab, hbn, rfl⟩ := sliceM_spec h hp rlo rlo0 rhi rhi0
    refine ⟨.slice (if c = a then A else A.map (·.add (a * 1))) (b - a) (c - a), ?_, .mrow _ _ _ _ _ _ (by omega) (by omega) ?_⟩
    · rw [run_sliceAt_slice (h := by rw [elem_eq hu]; exact hu)]
      have hbd := run_bounds (P := P) (isS := true) (cap := c) (w := K.w) ha hb hab (by omega)
      simp only [Instr.slice, Sem.run_bind, run_underlying hu, Result.andThen_ok, hbd, hτ.run_sizeOf hie, hsz, Sem.run_pure]
    · by_cases hca : c = a
      · exact .inl ⟨by omega, by omega⟩
      · rcases hA with ⟨h1, h2⟩ | ⟨b', m, rfl, hbx, hsh, hle⟩
        · exact absurd h2 (by omega)
        · refine .inr ⟨b', m, ?_, hbx, hsh, by omega⟩
          rw [if_neg hca, Nat.mul_one]
          simp only [Option.map_some, Addr.add]
          by_cases ha0 : a = 0
          · subst ha0; rfl
          · rw [if_neg ha0]
  · rename_i e em sz o n hk
    obtain ⟨it, hit, hk⟩ := kindV_some hk
    have hu := hτ.slice hit hk
    cases rx with
    | vrow em sz o n A c hc hm hA =>
    have go : ∀ (b : Nat), Bnd hi hi' n b → lo = none → b ≤ n → sizeV τ e = sz → 0 < sz → v = .vrow em sz o b → ∃ u, (Instr.sliceAt t (.slice A n c) lo' hi' none).run P K.w = .ok u K.w ∧ Rel K v u := by
      intro b hb hlo hbn hsz hpos hv
      subst hv
      obtain ⟨ie, hie, hsz⟩ := sizeV_pos hsz hpos
      refine ⟨.slice A b c, ?_, .vrow _ _ _ _ _ _ (by omega) hm (hA.imp (fun h => ⟨by omega, h.2⟩) id)⟩
      rw [run_sliceAt_slice (h := by rw [elem_eq hu]; exact hu)]
      have hbd := run_bounds (P := P) (isS := true) (cap := c) (w := K.w) (lo := lo) (lo' := lo') (a := 0) (b := b) (.inl ⟨hlo, rlo0 hlo, rfl⟩) hb (Nat.zero_le _) (by omega)
      simp only [Instr.slice, Sem.run_bind, run_underlying hu, Result.andThen_ok, hbd, hτ.run_sizeOf hie, hsz, Sem.run_pure, Nat.zero_mul, Nat.sub_zero]
      by_cases hc0 : c = 0
      · rw [if_pos hc0]
      · rw [if_neg hc0]
        cases A with
        | none => rfl
        | some a => simp [Addr.add]
    split at h
    · rename_i k b
      simp only [Option.ite_none_right_eq_some, Option.some.injEq, Prod.mk.injEq] at h
      obtain ⟨⟨h1, h2⟩, rfl, rfl⟩ := h
      obtain ⟨u, e1, r⟩ := rhi _ rfl
      cases r
      refine go b.toNat ?_ rfl (by omega) h1 h2 rfl
      rw [e1]
      exact bnd_some hp.1
    · simp only [Option.ite_none_right_eq_some, Option.some.injEq, Prod.mk.injEq] at h
      obtain ⟨⟨h1, h2⟩, _, rfl⟩ := h
      exact go n (.inl ⟨rfl, rhi0 rfl, rfl⟩) rfl (Nat.le_refl _) h1 h2 rfl
    · cases h
  · rename_i e hk
    obtain ⟨it, hit, hk⟩ := kindV_some hk
    have hu := hτ.slice hit hk
    cases rx with
    | nils =>
    split at h
    · rename_i k b
      simp only [Option.ite_none_right_eq_some, Option.some.injEq, Prod.mk.injEq] at h
      obtain ⟨⟨h1, h2⟩, rfl, rfl⟩ := h
      obtain ⟨u, e1, r⟩ := rhi _ rfl
      cases r
      have hb : Bnd (some (V.int k b)) hi' 0 b.toNat := by
        rw [e1]
        exact bnd_some hp.1
      have hb0 : b.toNat = 0 := by have := hp.2; omega
      rw [hb0] at hb
      obtain ⟨ie, hie, hsz⟩ := sizeV_pos rfl h2
      refine ⟨.slice none 0 0, ?_, .nils⟩
      rw [run_sliceAt_slice (h := by rw [elem_eq hu]; exact hu)]
      have hbd := run_bounds (P := P) (isS := true) (cap := 0) (w := K.w) (lo := none) (lo' := lo') (a := 0) (b := 0) (.inl ⟨rfl, rlo0 rfl, rfl⟩) hb (Nat.zero_le _) (by omega)
      simp [Instr.slice, Sem.run_bind, run_underlying hu, Result.andThen_ok, hbd, hτ.run_sizeOf hie, hsz, Sem.run_pure]
    · cases h
  · cases h
theorem keyKind_spec (hτ : TyOk P τ) {t : TypeId} {kk : Option IntKind} (h : keyKind τ t = some kk) : ∃ d, P.underlying t = some d ∧ ∀ k : MKey, k.kind = kk → MapKept.IsKey d k.val := by
  unfold keyKind at h
  split at h
  · rename_i hk
    obtain ⟨i, hi, hk⟩ := kindV_some hk
    cases h
    refine ⟨_, hτ.str hi hk, fun k e => ?_⟩
    cases k with
    | str l => trivial
    | int k n => cases e
  · rename_i k hk
    obtain ⟨i, hi, hk⟩ := kindV_some hk
    cases h
    refine ⟨_, hτ.int hi hk, fun k e => ?_⟩
    cases k with
    | str l => cases e
    | int k n => cases e; exact rfl
  · cases h
theorem MKey.val_inj {a b : MKey} (h : a.val = b.val) : a = b := by
  cases a <;> cases b <;> simp_all [MKey.val]
theorem keyV_spec {kk : Option IntKind} {v : V} {k : MKey} {u : Value} (h : keyV kk v = some k) (hr : Rel K v u) : u = k.val ∧ k.kind = kk := by
  unfold keyV at h
  split at h
  · cases h; cases hr; exact ⟨rfl, rfl⟩
  · rename_i k0 k' n
    cases hd : decide (k' = k0) <;> rw [hd] at h
    · cases h
    · simp only [cond_true, Option.some.injEq] at h
      subst h
      obtain rfl := of_decide_eq_true hd
      cases hr
      exact ⟨rfl, rfl⟩
  · cases h
theorem mapI_spec (hτ : TyOk P τ) {t : TypeId} {kk : Option IntKind} {z : V} (h : mapI τ t = some (kk, z)) : ∃ kt vt i d, P.underlying t = some (.map kt vt) ∧ P.underlying kt = some d ∧ (∀ k : MKey, k.kind = kk → MapKept.IsKey d k.val) ∧ τ vt = some i ∧ z = i.zeroV := by
  unfold mapI at h
  split at h
  · rename_i kt vt hk
    obtain ⟨i, hi, hk⟩ := kindV_some hk
    have hu : P.underlying t = some (.map kt vt) := by
      obtain ⟨d, hd, hk'⟩ := hτ.under hi
      rw [hd]
      rw [hk] at hk'
      cases d <;> simp [descK] at hk'
      obtain ⟨rfl, rfl⟩ := hk'
      rfl
    split at h
    · rename_i kk' iv hkk hvt
      cases h
      obtain ⟨d, hd, hkey⟩ := keyKind_spec hτ hkk
      exact ⟨kt, vt, iv, d, hu, hd, hkey, hvt, rfl⟩
    · cases h
  · cases h
theorem map_block (hL : BoxesOk K L) {o : Nat} {kk : Option IntKind} {ck : Nat} {l : List (MKey × Nat × V)} (ho : L[o]? = some [.mapc kk ck l]) {u : Value} (hr : Rel K (.mref o) u) :
    ∃ b es, u = .map (some b) ∧ K.boxes[o]? = some (some b) ∧ K.w.heap[b]? = some (.map es ck) ∧ MRel K kk l es ck := by
  cases hr with
  | mref o b hb =>
  rcases hL.2 o _ ho with ⟨hb', _⟩ | ⟨b', cur, ty, hb', hh, hsz, hcr⟩ | ⟨b', hb', hm⟩
  · rw [hb] at hb'; cases hb'
  · have := (hcr 0 (by simp)).1
    simp only [List.getElem_cons_zero] at this
    cases this
  · rw [hb] at hb'
    cases hb'
    rcases hm with ⟨es, ck', h1, (h2 | h2) | ⟨kk', l', h2, h3⟩⟩ | ⟨m, s, sn, la, h1, (h2 | h2) | ⟨h2, _⟩ | ⟨om, bm, h2, _⟩⟩ | ⟨r, h1, (h2 | h2) | h2⟩
    all_goals (first | (cases h2; done) | skip)
    cases h2
    exact ⟨b, es, rfl, hb, h1, h3⟩
theorem erel_find {d : TypeDesc} {k : MKey} (hk : MapKept.IsKey d k.val) : ∀ {l : List (MKey × Nat × V)} {es : List MapEntry} (i : Nat), ERel K l es → (∀ x ∈ l, MapKept.IsKey d x.1.val) →
    (mfind l k = none ∧ Instr.findNow d k.val es i = some none ∧ ∀ x ∈ es, x.key ≠ k.val) ∨ ∃ j e v, mfind l k = some v ∧ Instr.findNow d k.val es i = some (some (i + j, e.val)) ∧ es[j]? = some e ∧ e.key = k.val ∧ Rel K v e.val
  | [], [], i, _, _ => .inl ⟨rfl, rfl, by simp⟩
  | x :: l, e :: es, i, ⟨⟨h1, h2, h3⟩, h⟩, hkk => by
    obtain ⟨r, hr, hiff⟩ := MapKept.sameNow_of_keys (a := k.val) (b := e.key) hk (by rw [h1]; exact hkk x (by simp))
    by_cases hx : x.1 = k
    · have hrt : r = true := hiff.2 (by rw [h1, hx])
      exact .inr ⟨0, e, x.2.2, by simp [mfind, hx], by simp [Instr.findNow, hr, hrt], rfl, by rw [h1, hx], h3⟩
    · have hrf : r = false := by
        cases r with
        | false => rfl
        | true => exact absurd (MKey.val_inj ((hiff.1 rfl).trans h1)).symm hx
      have hne : e.key ≠ k.val := fun q => hx (MKey.val_inj (h1.symm.trans q))
      rcases erel_find hk (i + 1) h (fun y hy => hkk y (List.mem_cons_of_mem _ hy)) with ⟨g1, g2, g3⟩ | ⟨j, e', v, g1, g2, g3, g4, g5⟩
      · exact .inl ⟨by simp [mfind, hx, g1], by simp [Instr.findNow, hr, hrf, g2], fun y hy => by
          rcases List.mem_cons.1 hy with rfl | hy
          · exact hne
          · exact g3 y hy⟩
      · exact .inr ⟨j + 1, e', v, by simp [mfind, hx, g1], by simp [Instr.findNow, hr, hrf, g2]; omega, by simpa using g3, g4, g5⟩
  | [], _ :: _, _, h, _ => h.elim
  | _ :: _, [], _, h, _ => h.elim
theorem okV_rel {ok : Bool} {z : V} {r : Option V} {u : Value} (h : Rel K (r.getD z) u) : Rel K (okV ok z r) (if ok then .tuple #[u, .bool r.isSome] else u) := by
  cases ok
  · exact h
  · refine .tuple _ _ rfl fun j hj => ?_
    rcases j with _ | _ | j
    · exact h
    · exact .bool _
    · simp at hj; omega
theorem lookup_sound (hτ : TyOk P τ) (hL : BoxesOk K L) {t : TypeId} {x i : V} {ok : Bool} {p : Prop} {v : V} {vx vi : Value} (h : evLookup τ L t x i ok = some (p, v)) (rx : Rel K x vx) (ri : Rel K i vi) :
    ∃ u, (Instr.lookup t vx vi ok).run P K.w = .ok u K.w ∧ Rel K v u := by
  unfold evLookup at h
  split at h
  · rename_i kk z hmi
    obtain ⟨kt, vt, iv, d, hu, hd, hkey, hvt, rfl⟩ := mapI_spec hτ hmi
    split at h
    · rename_i k l hkv hmo
      cases h
      obtain ⟨rfl, hkk⟩ := keyV_spec hkv ri
      have hik := hkey k hkk
      have hz := hτ.run_zero (w := K.w) hvt
      unfold mapOf at hmo
      split at hmo
      · cases hmo
        cases rx
        refine ⟨_, ?_, okV_rel (K := K) (r := none) (u := iv.zero) (ofV_rel K iv.zero)⟩
        have hf : Instr.findNow d k.val [] 0 = some none := rfl
        simp [Instr.lookup, run_underlying hu, MapKept.run_checkKey hd hik, MapKept.run_findKey hd hf, hz, Result.andThen]
      · rename_i o
        split at hmo
        · rename_i kk' ck l' ho
          cases hdk : decide (kk' = kk) <;> rw [hdk] at hmo
          · cases hmo
          obtain rfl := of_decide_eq_true hdk
          cases hmo
          obtain ⟨b, es, rfl, hb, hh, hst, hks, her⟩ := map_block hL ho rx
          rcases erel_find hik 0 her (fun y hy => hkey _ (hks y hy)) with ⟨g1, g2, _⟩ | ⟨j, e, v, g1, g2, g3, g4, g5⟩
          · refine ⟨_, ?_, okV_rel (K := K) (u := iv.zero) (by rw [g1]; exact ofV_rel K iv.zero)⟩
            simp [Instr.lookup, run_underlying hu, MapKept.run_getObj_map hh, MapKept.run_checkKey hd hik, MapKept.run_findKey hd g2, hz, Result.andThen, g1]
          · refine ⟨_, ?_, okV_rel (K := K) (u := e.val) (by rw [g1]; exact g5)⟩
            simp [Instr.lookup, run_underlying hu, MapKept.run_getObj_map hh, MapKept.run_checkKey hd hik, MapKept.run_findKey hd g2, Result.andThen, g1]
        · cases hmo
      · cases hmo
    · cases h
  · cases h
theorem erel_len : ∀ {l : List (MKey × Nat × V)} {es : List MapEntry}, ERel K l es → es.length = l.length
  | [], [], _ => rfl
  | _ :: _, _ :: _, ⟨_, h⟩ => by simp [erel_len h]
  | [], _ :: _, h => h.elim
  | _ :: _, [], h => h.elim
theorem lenL_sound (hτ : TyOk P τ) (hL : BoxesOk K L) {t ty : TypeId} {x : V} {p : Prop} {v : V} {vx : Value} (h : evLenL τ L t x = some (p, v)) (rx : Rel K x vx) :
    ∃ u, (Builtin.len_ #[t] ty #[vx]).run P K.w = .ok u K.w ∧ Rel K v u := by
  unfold evLenL at h
  split at h
  · rename_i kk z hmi
    obtain ⟨kt, vt, iv, d, hu, hd, hkey, hvt, rfl⟩ := mapI_spec hτ hmi
    split at h
    · rename_i l hmo
      cases h
      refine ⟨_, ?_, .int _ _⟩
      unfold mapOf at hmo
      split at hmo
      · cases hmo
        cases rx
        simp [Builtin.len_, run_underlying hu, goInt, Result.andThen]
      · rename_i o
        split at hmo
        · rename_i kk' ck l' ho
          cases hdk : decide (kk' = kk) <;> rw [hdk] at hmo
          · cases hmo
          obtain rfl := of_decide_eq_true hdk
          cases hmo
          obtain ⟨b, es, rfl, hb, hh, hst, hks, her⟩ := map_block hL ho rx
          have := erel_len her
          simp only [Array.length_toList] at this
          simp [Builtin.len_, run_underlying hu, MapKept.run_getObj_map hh, goInt, Result.andThen, this]
        · cases hmo
      · cases hmo
    · cases h
  · exact len_sound hτ h rx
theorem erel_stamp {s : Nat} : ∀ {l : List (MKey × Nat × V)} {es : List MapEntry} {x : MKey × Nat × V}, ERel K l es → mstamp l s = some x → ∃ e, es.find? (fun e => e.born == s) = some e ∧ e ∈ es ∧ e.born = s ∧ e.key = x.1.val ∧ Rel K x.2.2 e.val
  | [], [], x, _, h => by cases h
  | y :: l, e :: es, x, ⟨⟨h1, h2, h3⟩, h⟩, hs => by
    unfold mstamp at hs
    cases hb : y.2.1 == s <;> rw [hb] at hs
    · obtain ⟨e', g1, g2, g3, g4⟩ := erel_stamp h hs
      exact ⟨e', by rw [List.find?_cons, h2, hb]; exact g1, List.mem_cons_of_mem _ g2, g3, g4⟩
    · cases hs
      exact ⟨e, by rw [List.find?_cons, h2, hb], by simp, by rw [h2]; simpa using hb, h1, h3⟩
  | [], _ :: _, _, h, _ => h.elim
  | _ :: _, [], _, h, _ => h.elim
theorem iter_block (hL : BoxesOk K L) {o om since last : Nat} {seen : List Nat} (ho : L[o]? = some [.iterc om since seen last]) {u : Value} (hr : Rel K (.iter o) u) :
    ∃ b bm, u = .pointer (some ⟨b, 0, none⟩) ∧ K.boxes[o]? = some (some b) ∧ K.w.heap[b]? = some (.mapIter (some bm) since seen.toArray last) ∧ K.boxes[om]? = some (some bm) := by
  cases hr with
  | iter o b hb =>
  rcases hL.2 o _ ho with ⟨hb', _⟩ | ⟨b', cur, ty, hb', hh, hsz, hcr⟩ | ⟨b', hb', hm⟩
  · rw [hb] at hb'; cases hb'
  · have := (hcr 0 (by simp)).1
    simp only [List.getElem_cons_zero] at this
    cases this
  · rw [hb] at hb'
    cases hb'
    rcases hm with ⟨es, ck', h1, (h2 | h2) | ⟨kk', l', h2, h3⟩⟩ | ⟨m, s, sn, la, h1, (h2 | h2) | ⟨h2, _⟩ | ⟨om', bm, h2, h3, h4⟩⟩ | ⟨r, h1, (h2 | h2) | h2⟩
    all_goals (first | (cases h2; done) | skip)
    cases h2
    subst h3
    exact ⟨b, bm, rfl, hb, by simpa using h1, h4⟩
theorem toV_rel (k : MKey) : Rel K k.toV k.val := by cases k <;> constructor
theorem entry_sound (hL : BoxesOk K L) {x : V} {p : Prop} {v : V} {vx : Value} (h : evEntry L x = some (p, v)) (hp : p) (rx : Rel K x vx) :
    ∃ u, (Instr.entry vx).run P K.w = .ok u K.w ∧ Rel K v u := by
  unfold evEntry at h
  split at h
  · rename_i o
    split at h
    · rename_i om since seen last ho
      obtain ⟨b, bm, rfl, hb, hh, hbm⟩ := iter_block hL ho rx
      split at h
      · rename_i kk ck l hom
        obtain ⟨b', es, e1, hb', hh', hst, hks, her⟩ := map_block hL hom (.mref om bm hbm)
        cases e1
        split at h
        · rename_i s hs
          split at h
          · rename_i e he
            cases h
            subst hp
            obtain ⟨e', g1, g2, g3, g4, g5⟩ := erel_stamp her he
            have hback : seen.toArray.back? = some s := by simp [List.back?_toArray, hs]
            refine ⟨.tuple #[e'.key, e'.val], ?_, .tuple _ _ rfl fun j hj => ?_⟩
            · have hf : es.find? (fun x => x.born == s) = some e' := by rw [← Array.find?_toList]; exact g1
              simp only [Instr.entry, getObj, Sem.run_bind, Sem.run, hh, hh', Result.andThen, hback, bne_self_eq_false, Bool.false_eq_true, if_false, hf]
              rfl
            · rcases j with _ | _ | j
              · simp only [List.getElem_cons_zero, List.getElem_toArray]; rw [g4]; exact toV_rel _
              · exact g5
              · simp at hj; omega
          · cases h
        · cases h
      · cases h
    · cases h
  · cases h
theorem nilCheck_sound {x : V} {p : Prop} {v : V} {o : Oper} {ρ : Operand → Value} {y : Operand} (hop : o.op = .nilCheck y) (h : evNilCheck x = some (p, v)) (rx : Rel K x (ρ y)) :
    ∃ u, (execOp ρ o).run P K.w = .ok (.value u) K.w ∧ Rel K v u := by
  unfold execOp
  rw [hop]
  simp only
  unfold evNilCheck at h
  split at h
  · cases h
    generalize ρ y = u at rx
    have hr := rx
    cases rx
    exact ⟨_, rfl, hr⟩
  · cases h
    generalize ρ y = u at rx
    have hr := rx
    cases rx
    exact ⟨_, rfl, hr⟩
  · cases h
    generalize ρ y = u at rx
    have hr := rx
    cases rx
    exact ⟨_, rfl, hr⟩
  · cases h
theorem rel_map {ev : Operand → V} {ρ : Operand → Value} (hρ : ∀ x, Rel K (ev x) (ρ x)) (xs : Array Operand) :
    (xs.map ρ).size = (xs.toList.map ev).length ∧ ∀ j (h : j < (xs.toList.map ev).length), Rel K (xs.toList.map ev)[j] ((xs.map ρ)[j]'(by simpa using h)) := by
  refine ⟨by simp, fun j h => ?_⟩
  simpa using hρ _
theorem slice3_sound (hτ : TyOk P τ) {t : TypeId} {x lo hi mx : V} {p : Prop} {v : V} {vx vl vh vm : Value} (h : evSlice3 τ t x lo hi mx = some (p, v)) (hp : p) (rx : Rel K x vx) (rl : Rel K lo vl) (rh : Rel K hi vh) (rm : Rel K mx vm) :
    ∃ u, (Instr.sliceAt t vx (some vl) (some vh) (some vm)).run P K.w = .ok u K.w ∧ Rel K v u := by
  unfold evSlice3 at h
  split at h
  · rename_i e l k k1 a k2 b k3 m hk
    obtain ⟨it, hit, hk⟩ := kindV_some hk
    have hu := hτ.slice hit hk
    simp only [Option.ite_none_right_eq_some, Option.some.injEq, Prod.mk.injEq] at h
    obtain ⟨hsz, rfl, rfl⟩ := h
    obtain ⟨ie, hie, hsz⟩ := sizeV_pos hsz (by omega)
    obtain ⟨⟨h0, h1⟩, h2, h3⟩ := hp
    cases rx with
    | bytes l t A c hc hm hr ht =>
    cases rl
    cases rh
    cases rm
    obtain ⟨a, rfl⟩ : ∃ a' : Nat, a = a' := ⟨a.toNat, by omega⟩
    obtain ⟨b, rfl⟩ : ∃ b' : Nat, b = b' := ⟨b.toNat, by omega⟩
    obtain ⟨m, rfl⟩ : ∃ m' : Nat, m = m' := ⟨m.toNat, by omega⟩
    have hml : (l.take m).length = m := by simp; omega
    have hrel := cut_bytes (K := K) (l := l.take m) (A := A) (n := m) (c := m) (a := a) (b := b) hml.symm (Nat.le_refl _) (by omega) (by omega) (by omega) (fun j hj => by
      obtain ⟨ad, e, r⟩ := hr j (by omega)
      exact ⟨ad, e, by simpa using r⟩)
    have htk : ((l.take m).take b).drop a = (l.take b).drop a := by rw [List.take_take, Nat.min_eq_left (by omega)]
    rw [htk] at hrel
    refine ⟨_, ?_, hrel⟩
    rw [run_sliceAt_slice (h := by rw [elem_eq hu]; exact hu)]
    have hbd : (Instr.sliceBounds true l.length c (some (.int k1 a)) (some (.int k2 b)) (some (.int k3 m))).run P K.w = .ok (a, b, m) K.w := by
      have e1 : (a : Int) ≤ (b : Int) := by omega
      have e2 : (b : Int) ≤ (m : Int) := by omega
      have e3 : (m : Int) ≤ (c : Int) := by omega
      simp [Instr.sliceBounds, run_sliceBound, show a ≤ b by omega, show b ≤ m by omega, show m ≤ c by omega]
    simp only [Instr.slice, Sem.run_bind, run_underlying hu, Result.andThen_ok, hbd, hτ.run_sizeOf hie, hsz, Sem.run_pure]
  · cases h
theorem evalPure_sound (hτ : TyOk P τ) (hL : BoxesOk K L) {ev : Operand → V} {ρ : Operand → Value} (hρ : ∀ x, Rel K (ev x) (ρ x)) {o : Oper} {p : Prop} {v : V}
    (h : evalPure τ L ev o.op = some (p, v)) (hp : p) : ∃ u, (execOp ρ o).run P K.w = .ok (.value u) K.w ∧ Rel K v u := by
  have up : ∀ {s : Sem Value} {v : V}, (∃ u, s.run P K.w = .ok u K.w ∧ Rel K v u) → ∃ u, (do pure (.value (← s)) : Sem Next).run P K.w = .ok (.value u) K.w ∧ Rel K v u := by
    rintro s v ⟨u, h, r⟩
    exact ⟨u, by simp [h], r⟩
  unfold evalPure at h
  split at h
  case h_1 | h_2 =>
    rename_i x hop
    simp only [Option.some.injEq, Prod.mk.injEq] at h
    obtain ⟨_, rfl⟩ := h
    unfold execOp
    rw [hop]
    exact ⟨_, rfl, hρ x⟩
  case h_3 => rename_i c a b hop; unfold execOp; rw [hop]; exact pick_sound h (hρ c) (hρ a) (hρ b)
  case h_4 => rename_i op t x y _ hop; unfold execOp; rw [hop]; exact up (bin_sound hτ h hp (hρ x) (hρ y))
  case h_5 => rename_i op _ x hop; unfold execOp; rw [hop]; exact up (un_sound h (hρ x))
  case h_6 => rename_i src dst x hop; unfold execOp; rw [hop]; exact up (convL_sound hτ hL h hp (hρ x))
  case h_7 => rename_i t i hop; unfold execOp; rw [hop]; exact up (extract_sound h (hρ t))
  case h_8 =>
    rename_i c hop
    unfold execOp; rw [hop]
    split at h
    · rename_i x t hc ha ht
      have ha' : c.args = #[x] := by rw [← Array.toList_inj]; simpa using ha
      have ht' : c.argTypes = #[t] := by rw [← Array.toList_inj]; simpa using ht
      simp only [resolve, hc, ha', ht', invoke, builtin]
      simpa using up (lenL_sound (ty := o.type) hτ hL h (hρ x))
    · rename_i _ x y hc ha
      have ha' : c.args = #[x, y] := by rw [← Array.toList_inj]; simpa using ha
      simp only [resolve, hc, ha', invoke, builtin]
      simpa using up (min_sound (ts := c.argTypes) (ty := o.type) h (hρ x) (hρ y))
    · rename_i _ x y hc ha
      have ha' : c.args = #[x, y] := by rw [← Array.toList_inj]; simpa using ha
      simp only [resolve, hc, ha', invoke, builtin]
      simpa using up (max_sound (ts := c.argTypes) (ty := o.type) h (hρ x) (hρ y))
    · cases h
  case h_9 => rename_i t x i hop; unfold execOp; rw [hop]; exact up (indexAddr_sound hτ h hp (hρ x) (hρ i))
  case h_10 => rename_i t x hop; unfold execOp; rw [hop]; exact up (load_sound hτ hL h hp (hρ x))
  case h_11 => rename_i t x f hop; unfold execOp; rw [hop]; exact up (fieldAddr_sound hτ h (hρ x))
  case h_12 => rename_i t x f hop; unfold execOp; rw [hop]; exact up (field_sound hτ h (hρ x))
  case h_13 => rename_i t x i hop; unfold execOp; rw [hop]; exact up (index_sound hτ h hp (hρ x) (hρ i))
  case h_14 =>
    rename_i t x lo hi hop
    unfold execOp; rw [hop]
    refine up (slice_sound hτ h hp (hρ x) (fun a ha => ?_) (fun ha => ?_) (fun a ha => ?_) (fun ha => ?_))
    · cases lo with
      | none => cases ha
      | some l => simp at ha; subst ha; exact ⟨_, rfl, hρ l⟩
    · cases lo with
      | none => rfl
      | some l => cases ha
    · cases hi with
      | none => cases ha
      | some l => simp at ha; subst ha; exact ⟨_, rfl, hρ l⟩
    · cases hi with
      | none => rfl
      | some l => cases ha
  case h_15 =>
    rename_i f first captured hop
    unfold execOp; rw [hop]
    simp only [Option.some.injEq, Prod.mk.injEq] at h
    obtain ⟨_, rfl⟩ := h
    obtain ⟨e1, r1⟩ := rel_map hρ first
    obtain ⟨e2, r2⟩ := rel_map hρ captured
    exact up ⟨_, rfl, .fn f _ _ _ _ e1 e2 r1 r2⟩
  case h_16 => rename_i x hop; exact nilCheck_sound hop h (hρ x)
  case h_17 => rename_i t x i ok hop; unfold execOp; rw [hop]; exact up (lookup_sound hτ hL h (hρ x) (hρ i))
  case h_18 => rename_i x hop; unfold execOp; rw [hop]; exact up (entry_sound hL h hp (hρ x))
  case h_19 => rename_i t x lo hi mx hop; unfold execOp; rw [hop]; exact up (slice3_sound hτ h hp (hρ x) (hρ lo) (hρ hi) (hρ mx))
  case h_20 => cases h
end sound
end Go.Proofs.YtckmcglkjfkghaaDoor.Aw
