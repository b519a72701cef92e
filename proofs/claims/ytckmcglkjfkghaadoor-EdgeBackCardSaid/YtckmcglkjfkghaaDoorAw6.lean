import Derived.Test.YtckmcglkjfkghaaDoorAw5
namespace Go.Proofs.YtckmcglkjfkghaaDoor.Aw
open Go Go.RowKit
set_option linter.unusedVariables false
set_option linter.unusedSimpArgs false
def Rd (K : Kw) (u : Value) (n sz : Nat) (cs : List V) : Prop :=
  ∃ A c, ∃ f : Nat → Value, u = .slice A n c ∧ n ≤ c ∧ c ≤ maxLen ∧ cs.length = n * sz ∧
    (∀ j, j < n * sz → (∃ ad, A = some ad ∧ K.rd (ad.add j) (f j)) ∧ (f j).oneCell' = true) ∧ ∀ j (h : j < cs.length), Rel K cs[j] (f j)
section
variable {P : Program} {τ : Tys} {B : World} {p0 : Bs} {K K' : Kw} {L : List (List V)} {T : List (Nat × TypeId)}
theorem Rd.ext (he : Ext K K') {u : Value} {n sz : Nat} {cs : List V} (h : Rd K u n sz cs) : Rd K' u n sz cs := by
  obtain ⟨A, c, f, hu, hn, hc, hl, hr, hf⟩ := h
  exact ⟨A, c, f, hu, hn, hc, hl, fun j hj => let ⟨⟨ad, e, r⟩, o⟩ := hr j hj; ⟨⟨ad, e, r.ext he⟩, o⟩, fun j hj => (hf j hj).ext he⟩
theorem rd_bytesV {l : List UInt8} {t : Option Nat} {u : Value} (h : Rel K (.bytes l t) u) : Rd K u l.length 1 (l.map byteV) ∧ K.tokOk t l.length u := by
  cases h with
  | bytes l t A c hc hm hr ht =>
  refine ⟨⟨A, c, fun j => .int .u8 (l.getD j 0).toNat, rfl, hc, hm, by simp, fun j hj => ?_, fun j hj => ?_⟩, ht⟩
  · have hj' : j < l.length := by omega
    obtain ⟨ad, e, r⟩ := hr j hj'
    refine ⟨⟨ad, e, ?_⟩, rfl⟩
    simpa [List.getD_eq_getElem?_getD, List.getElem?_eq_getElem hj'] using r
  · have hj' : j < l.length := by simpa using hj
    simp only [List.getElem_map, byteV, List.getD_eq_getElem?_getD, List.getElem?_eq_getElem hj', Option.getD_some]
    exact .int _ _
theorem bytesV_rd {l : List UInt8} {t : Option Nat} {u : Value} (h : Rd K u l.length 1 (l.map byteV)) (ht : K.tokOk t l.length u) : Rel K (.bytes l t) u := by
  obtain ⟨A, c, f, rfl, hn, hc, hl, hr, hf⟩ := h
  refine .bytes l t A c hn hc (fun j hj => ?_) ht
  obtain ⟨⟨ad, e, r⟩, _⟩ := hr j (by omega)
  have h1 := hf j (by simpa using hj)
  simp only [List.getElem_map, byteV] at h1
  cases hfj : f j <;> rw [hfj] at h1 <;> cases h1
  rw [hfj] at r
  exact ⟨ad, e, r⟩
theorem rd_listV {sz : Nat} {l : List V} {t : Option Nat} {u : Value} (h : Rel K (.list sz l t) u) : Rd K u l.length sz (l.flatMap V.cells) ∧ (∀ v ∈ l, v.cells.length = sz) ∧ K.tokOk t l.length u := by
  cases h with
  | list sz l t A c f hc hm hs hr hf ht => exact ⟨⟨A, c, f, rfl, hc, hm, flat_len sz l hs, hr, hf⟩, hs, ht⟩
theorem listV_rd {sz : Nat} {l : List V} {t : Option Nat} {u : Value} (h : Rd K u l.length sz (l.flatMap V.cells)) (hs : ∀ v ∈ l, v.cells.length = sz) (ht : K.tokOk t l.length u) : Rel K (.list sz l t) u := by
  obtain ⟨A, c, f, rfl, hn, hc, hl, hr, hf⟩ := h
  exact .list sz l t A c f hn hc hs hr hf ht
theorem rd_nils {u : Value} {sz : Nat} (h : Rel K .nils u) : Rd K u 0 sz [] := by
  cases h
  exact ⟨none, 0, fun _ => Go.undef, rfl, by simp, by simp, by simp, fun j hj => absurd hj (by simp), fun j hj => absurd hj (by simp)⟩
theorem rd_zero (A : Option Addr) {sz : Nat} : Rd K (.slice A 0 0) 0 sz [] :=
  ⟨A, 0, fun _ => Go.undef, rfl, by simp, by simp, by simp, fun j hj => absurd hj (by simp), fun j hj => absurd hj (by simp)⟩
def Gives (P : Program) (w : World) (x : Value) (m size : Nat) (news : List Value) : Prop :=
  news.length = m * size ∧ (Builtin.lenOf x).run P w = .ok m w ∧ ∀ w' : World, w'.heap = w.heap → (Builtin.firstCells size m x).run P w' = .ok news.toArray w'
theorem run_append_gen {w : World} {t t2 ty e : TypeId} {i : TypeInfo} {z : Value} (ht : P.underlying t = some (.slice e)) {d2 : TypeDesc} (ht2 : P.underlying t2 = some d2) (hd2 : ∀ k, d2 ≠ .int k) (hi : P.info? e = some i) (hz : i.zero = some z)
    {A : Option Addr} {n c m : Nat} {olds news : List Value} {x : Value} (hx : Gives P w x m i.size news) (ho : Gives P w (.slice A n c) n i.size olds) (h63 : n + m ≤ maxLen) (hb : (n + m) * i.bytes ≤ 140737488355328) :
    (Builtin.append_ #[t, t2] ty #[.slice A n c, x]).run P w =
      if n + m ≤ c then (match A with
        | some a => ((storeCells (a.add (n * i.size)) news).run P w).andThen fun _ w' => .ok (.slice A (n + m) c) w'
        | none => .ok (.slice A (n + m) c) w)
      else .ok (.slice (some ⟨w.heap.size, 0, none⟩) (n + m) (grownCap w (n + m) c e))
        (w.drew.alloc (.cells (olds.toArray ++ news.toArray ++ Builtin.zeroCells z.cells (grownCap w (n + m) c e - (n + m))) e)) := by
  obtain ⟨hnl, hlen, hfirst⟩ := hx
  obtain ⟨hol, _, hold⟩ := ho
  have hf0 : (Builtin.firstCells i.size m x).run P w = .ok news.toArray w := hfirst w rfl
  have hf1 : (Builtin.firstCells i.size m x).run P w.drew = .ok news.toArray w.drew := hfirst w.drew rfl
  have ho1 : (Builtin.firstCells i.size n (.slice A n c)).run P w.drew = .ok olds.toArray w.drew := hold w.drew rfl
  have hz' : (match d2 with | .int _ => true | _ => false) = false := by
    cases d2 <;> first | rfl | exact absurd rfl (hd2 _)
  simp only [maxLen] at h63
  by_cases hroom : n + m ≤ c
  · simp only [hroom, if_true]
    cases A <;> simp [Builtin.append_, run_underlying ht, run_underlying ht2, hz', sizeOf, typeInfo, hi, hlen, hroom, hf0]
  · have h63' : ¬ (9223372036854775807 < ((n : Int) + (m : Int))) := by omega
    have h48 := growslice_fits (old := c) (need := n + m) (by omega) hb
    have h48' : ¬ (281474976710656 < Builtin.nextslicecap (n + m) c * i.bytes) := by omega
    simp only [hroom, if_false]
    simp [Builtin.append_, run_underlying ht, run_underlying ht2, hz', sizeOf, typeInfo, zeroValue, hi, hz, hlen, hroom, h63', h48', Question.forced, hf1, ho1, newRow, grownCap]
    congr 2
    apply Array.ext'
    simp
theorem gives_rd {u : Value} {n sz : Nat} {cs : List V} (h : Rd K u n sz cs) : ∃ news, Gives P K.w u n sz news ∧ (∀ v ∈ news, v.oneCell' = true) ∧ news.length = cs.length ∧ ∀ j (h : j < cs.length) (h' : j < news.length), Rel K cs[j] news[j] := by
  obtain ⟨A, c, f, rfl, hn, hc, hl, hr, hf⟩ := h
  refine ⟨(List.range (n * sz)).map f, ⟨by simp, by simp [Builtin.lenOf], fun w' hw' => ?_⟩, fun v hv => ?_, by simp [hl], fun j hj hj' => by simpa using hf j hj⟩
  · cases A with
    | none =>
      have h0 : n * sz = 0 := by
        rcases Nat.eq_zero_or_pos (n * sz) with h0 | h0
        · exact h0
        · obtain ⟨⟨ad, e, _⟩, _⟩ := hr 0 h0; cases e
      simp [h0, Builtin.firstCells]
    | some ad =>
      refine run_firstCells_some (P := P) w' sz n ad n c _ (by simp) fun j v hj => ?_
      simp only [List.getElem?_map, Option.map_eq_some_iff, List.getElem?_range] at hj
      obtain ⟨j', hj', rfl⟩ := hj
      have hlt : j < n * sz := by
        rcases Nat.lt_or_ge j (n * sz) with h1 | h1
        · exact h1
        · rw [List.getElem?_eq_none (by simpa using h1)] at hj'; cases hj'
      rw [List.getElem?_eq_getElem (by simpa using hlt)] at hj'
      simp at hj'
      subst hj'
      obtain ⟨⟨ad', e, r⟩, _⟩ := hr j hlt
      cases e
      have h2 := r.2
      unfold World.cell? at h2 ⊢
      rw [hw']
      exact h2
  · simp only [List.mem_map, List.mem_range] at hv
    obtain ⟨j, hj, rfl⟩ := hv
    exact (hr j hj).2
theorem appendTok (h : Mem P B p0 K L T) {k : Nat} {v x : Value} {n m : Nat} {t t2 ty e : TypeId} {i : TypeInfo} {z : Value} {cs cs2 : List V} {news : List Value}
    (ht : P.underlying t = some (.slice e)) {d2 : TypeDesc} (ht2 : P.underlying t2 = some d2) (hd2 : ∀ k, d2 ≠ .int k) (hi : P.info? e = some i) (hz : i.zero = some z) (hsz : 0 < i.size) (hzs : z.cells.size = i.size)
    (hk : K.toks[k]? = some (v, n, e)) (hv : Rd K v n i.size cs) (hx : Gives P K.w x m i.size news) (h1 : ∀ u ∈ news, u.oneCell' = true) (hl : news.length = cs2.length)
    (hr : ∀ j (h : j < cs2.length) (h' : j < news.length), Rel K cs2[j] news[j]) (h63 : n + m ≤ maxLen) (hb : (n + m) * i.bytes ≤ 140737488355328) :
    ∃ K' u, (Builtin.append_ #[t, t2] ty #[v, x]).run P K.w = .ok u K'.w ∧ Ext K K' ∧ Mem P B p0 K' L (T.set k (n + m, e)) ∧ Rd K' u (n + m) i.size (cs ++ cs2) ∧ K'.toks[k]? = some (u, n + m, e) := by
  have hTk : T[k]? = some (n, e) := by rw [← h.toks]; simp [hk]
  obtain ⟨olds, ho, hone, hol, hor⟩ := gives_rd (P := P) hv
  have hv' := hv
  obtain ⟨A, c, f, rfl, hnc, hcm, hcl, hrd, hf⟩ := hv
  have hrun := run_append_gen (ty := ty) ht ht2 hd2 hi hz hx ho h63 hb
  have hnl := hx.1
  by_cases hm : m = 0
  · subst hm
    have hnews : news = [] := List.eq_nil_of_length_eq_zero (by simpa using hnl)
    have hcs2 : cs2 = [] := List.eq_nil_of_length_eq_zero (by rw [← hl, hnews]; rfl)
    subst hnews hcs2
    have hT : T.set k (n, e) = T := by
      rw [List.getElem?_eq_some_iff] at hTk
      obtain ⟨hlt, he⟩ := hTk
      rw [← he, List.set_getElem_self]
    refine ⟨K, .slice A n c, ?_, Ext.refl K, by rw [Nat.add_zero, hT]; exact h, by simpa using hv', hk⟩
    rw [hrun]
    cases A <;> simp [hnc, storeCells]
  by_cases hroom : n + m ≤ c
  · rw [if_pos hroom] at hrun
    rcases h.tokAt k _ n e hk with ⟨⟨A0, e1⟩, _⟩ | ⟨g, cap, cur, i', e1, hc00, hBg, hh, hi', hncap, hcapm, hcs, hp⟩
    · cases e1
      omega
    cases e1
    rw [hi] at hi'
    cases hi'
    have hmul : (n + m) * i.size ≤ c * i.size := Nat.mul_le_mul_right _ hroom
    rw [Nat.add_mul] at hmul
    have hst := run_storeCells_at (P := P) g (n * i.size) e news 0 cur K.w hh (by simp only [Nat.add_zero]; omega) h1
    simp only [Nat.add_zero] at hst
    simp only [Addr.add_lit, Nat.zero_add, hst, Result.andThen_ok] at hrun
    have hstep := h.setTok (w' := K.w.setRow g (cur.toList.take (n * i.size) ++ news ++ cur.toList.drop (n * i.size + news.length)).toArray) (v' := .slice (some ⟨g, 0, none⟩) (n + m) c) (g' := g) (c' := c) (m := n + m)
      (cur' := (cur.toList.take (n * i.size) ++ news ++ cur.toList.drop (n * i.size + news.length)).toArray) (i := i) hk rfl hc00 (by omega) (fun e => by omega) (fun b _ hne => setRow_other K.w g b _ (fun e => hne (by rw [ownB_pos hc00, e])))
      (fun g1 o hg1 hpo => ?_) (by simp) rfl rfl rfl (.inl (ownB_pos hc00)) (setRow_heap K.w g cur _ e _ hh) hi hroom hcapm ⟨hsz, by simp; omega⟩ (fun b s hs => shape_setRow hh (by simp; omega) b s hs)
    · obtain ⟨he, hm'⟩ := hstep
      have hkl : k < K.toks.length := (List.getElem?_eq_some_iff.1 hk).1
      refine ⟨_, _, hrun, he, hm', ?_, by simp [hkl]⟩
      obtain ⟨A', c', f', e1, hn1, hc1, hl1, hr1, hf1⟩ := hv'.ext he
      cases e1
      refine ⟨some ⟨g, 0, none⟩, c, fun j => if j < n * i.size then f' j else news.getD (j - n * i.size) Go.undef, rfl, hroom, hcapm, by simp [hl1, ← hl, hnl, Nat.add_mul], fun j hj => ?_, fun j hj => ?_⟩
      · by_cases c1 : j < n * i.size
        · simp only [c1, if_true]
          obtain ⟨⟨ad, e1, r⟩, o⟩ := hr1 j c1
          exact ⟨⟨ad, e1, r⟩, o⟩
        · rw [Nat.add_mul] at hj
          have hjn : j - n * i.size < news.length := by omega
          have hgd : news.getD (j - n * i.size) Go.undef = news[j - n * i.size] := by simp [List.getD_eq_getElem?_getD, List.getElem?_eq_getElem hjn]
          simp only [c1, if_false, hgd]
          refine ⟨⟨_, rfl, ?_⟩, h1 _ (List.getElem_mem hjn)⟩
          refine ⟨?_, ?_⟩
          · rw [Addr.add_lit]
            refine .inr ⟨rfl, ?_⟩
            show 0 + j < (n + m) * i.size
            rw [Nat.add_mul]; omega
          · rw [Addr.add_lit, Nat.zero_add]
            rw [cell_of_row _ g j _ e (0, 0) (setRow_heap K.w g cur _ e _ hh)]
            rw [List.getElem?_toArray, List.getElem?_append_left (by simp; omega), List.getElem?_append_right (by simp; omega)]
            simp only [List.length_take, Array.length_toList, Nat.min_eq_left (show n * i.size ≤ cur.size by omega)]
            exact List.getElem?_eq_getElem hjn
      · simp only [List.length_append] at hj
        by_cases c1 : j < n * i.size
        · simp only [c1, if_true]
          rw [List.getElem_append_left (by omega)]
          exact hf1 j (by omega)
        · have hjn : j - n * i.size < news.length := by omega
          have hgd : news.getD (j - n * i.size) Go.undef = news[j - n * i.size] := by simp [List.getD_eq_getElem?_getD, List.getElem?_eq_getElem hjn]
          simp only [c1, if_false, hgd]
          rw [List.getElem_append_right (by omega)]
          simp only [hl1]
          exact (hr (j - n * i.size) (by omega) hjn).ext he
    · rw [ownB_pos hc00] at hg1
      simp at hg1
      subst hg1
      have hlt : o < n * i.size := by
        rcases Nat.lt_or_ge o (n * i.size) with h2 | h2
        · exact h2
        · exact absurd hpo (hp o h2)
      rw [cell_of_row _ g o _ e (0, 0) (setRow_heap K.w g cur _ e _ hh), cell_of_row K.w g o cur e (0, 0) hh]
      rw [List.getElem?_toArray, List.append_assoc, List.getElem?_append_left (by simp; omega), List.getElem?_take_of_lt hlt]
      simp
  · rw [if_neg hroom] at hrun
    have hge := grownCap_ge K.w (n + m) c e
    have hgm := grownCap_le_maxLen K.w (n + m) c e h63
    have hmul : (n + m) * i.size ≤ grownCap K.w (n + m) c e * i.size := Nat.mul_le_mul_right _ hge
    have hcsz : (olds.toArray ++ news.toArray ++ Builtin.zeroCells z.cells (grownCap K.w (n + m) c e - (n + m))).size = grownCap K.w (n + m) c e * i.size := by
      simp only [Array.size_append, List.size_toArray, size_zeroCells, hzs, ho.1, hnl, ← Nat.add_mul]
      congr 1
      omega
    have hstep := h.setTok (w' := K.w.drew.alloc (.cells (olds.toArray ++ news.toArray ++ Builtin.zeroCells z.cells (grownCap K.w (n + m) c e - (n + m))) e)) (v' := .slice (some ⟨K.w.heap.size, 0, none⟩) (n + m) (grownCap K.w (n + m) c e)) (g' := K.w.heap.size) (m := n + m) (i := i) hk rfl (by omega)
      (by omega) (fun e => by omega) (fun b hbl _ => alloc_old K.w.drew _ b hbl) (fun g1 o hg1 hpo => World.cell?_of_block (w := K.w) (alloc_old K.w.drew _ g1 (h.tokLt hk hg1))) (by simp) rfl rfl rfl (.inr ⟨Nat.le_refl _, by simp⟩)
      (alloc_new K.w.drew _) hi hge hgm ⟨hsz, by rw [hcsz]; exact Nat.le_refl _⟩ (shape_drew K.w _)
    obtain ⟨he, hm'⟩ := hstep
    have hkl : k < K.toks.length := (List.getElem?_eq_some_iff.1 hk).1
    refine ⟨_, _, hrun, he, hm', ?_, by simp [hkl]⟩
    have hget : ∀ j, j < (n + m) * i.size → ((olds ++ news).getD j Go.undef = (olds ++ news)[j]?.getD Go.undef) := fun j _ => by simp [List.getD_eq_getElem?_getD]
    have hall : ∀ u ∈ olds ++ news, u.oneCell' = true := fun u hu => by
      rcases List.mem_append.1 hu with hu | hu
      · exact hone u hu
      · exact h1 u hu
    have hlen : (olds ++ news).length = (n + m) * i.size := by rw [List.length_append, ho.1, hnl, Nat.add_mul]
    refine ⟨some ⟨K.w.heap.size, 0, none⟩, _, fun j => (olds ++ news).getD j Go.undef, rfl, hge, hgm, by rw [List.length_append, hcl, ← hl, hnl, Nat.add_mul], fun j hj => ?_, fun j hj => ?_⟩
    · have hjl : j < (olds ++ news).length := by omega
      have hgd : (olds ++ news).getD j Go.undef = (olds ++ news)[j] := by simp only [List.getD_eq_getElem?_getD, List.getElem?_eq_getElem hjl, Option.getD_some]
      simp only [hgd]
      refine ⟨⟨_, rfl, ?_, ?_⟩, hall _ (List.getElem_mem hjl)⟩
      · rw [Addr.add_lit]
        exact .inr ⟨rfl, by show 0 + j < _; omega⟩
      · rw [Addr.add_lit, Nat.zero_add]
        show (K.w.drew.alloc _).cell? ⟨K.w.drew.heap.size, j, none⟩ = _
        rw [World.cell?_alloc_new, Array.getElem?_append_left (by simp only [Array.size_append, List.size_toArray]; rw [List.length_append] at hjl; exact hjl)]
        rw [← List.getElem?_eq_getElem hjl]
        simp
    · have hjl : j < (olds ++ news).length := by simp only [List.length_append] at hj ⊢; omega
      have hgd : (olds ++ news).getD j Go.undef = (olds ++ news)[j] := by simp only [List.getD_eq_getElem?_getD, List.getElem?_eq_getElem hjl, Option.getD_some]
      simp only [hgd]
      by_cases c1 : j < cs.length
      · rw [List.getElem_append_left c1, List.getElem_append_left (by omega)]
        exact (hor j c1 (by omega)).ext he
      · simp only [List.length_append] at hj
        rw [List.getElem_append_right (by omega), List.getElem_append_right (by omega)]
        have := (hr (j - cs.length) (by omega) (by omega)).ext he
        simpa only [hol] using this
end
end Go.Proofs.YtckmcglkjfkghaaDoor.Aw
