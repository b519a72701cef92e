import Derived.Shelf.SlIter.Nil
import Derived.Shelf.SortM.Plain
import Derived.Shelf.SortM.SortNone
import Derived.Ground.GgzProg
import Derived.Ground.SlgmProg
import Derived.Shelf.SlMaps.Clone
import Derived.Ground.SlmcProg
import Derived.Test.YtpncnionnfomeaaProg
import Derived.Test.YtpncnionnfomeaaDiskP
import Derived.Test.YtpncnionnfomeaaAwS
import Derived.KernelRfl
namespace Go.Proofs.Ytpncnionnfomeaa.DiskK
open Go Go.Proofs Go.Proofs.Ytpncnionnfomeaa.Aw Go.RowKit Go.Maps Go.Sort Go.Shelf
set_option linter.unusedSimpArgs false
set_option linter.unusedVariables false
def cloneMP : PM := fun args L T K => (∃ o kk ck l, args = [.mref o] ∧ L[o]? = some [.mapc kk ck l] ∧ K (.mref L.length) (L ++ [[.mapc kk ck l]]) T) ∨ (args = [.raw (.map none)] ∧ K (.raw (.map none)) L T)
theorem cloneM_ok : PSound Try.prog 46 cloneMP := by
  intro B p0 K L T args vs Kont hm hk hsz hrel
  rcases hk with ⟨o, kk, ck, l, rfl, hl, hk⟩ | ⟨rfl, hk⟩
  · obtain ⟨x, rfl⟩ : ∃ x, vs = #[x] := by
      have h1 : vs.size = 1 := hsz
      exact ⟨vs[0], by apply Array.ext; simp [h1]; intro i h2 h3; simp at h3; subst h3; rfl⟩
    have r0 := hrel 0 (by simp) (by simp)
    simp only [List.getElem_cons_zero, List.getElem_toArray] at r0
    obtain ⟨b, es, rfl, hb, hh, hr, hat⟩ := map_at hm hl r0
    refine (AnyW.maps_Clone Try.dClone b es ck K.w hh).mono ?_
    rintro e w' ⟨rfl, rfl⟩
    obtain ⟨K', hw, he, hm', hb'⟩ := newMap hm (obj := .map es ck) (cs := [.mapc kk ck l]) (fun K' hx hK' => .inl ⟨_, _, hK', .inr ⟨_, _, rfl, hr.ext hx⟩⟩)
    exact ⟨_, K', _, _, T, rfl, hw, he, hm', .mref _ _ hb', hk⟩
  · obtain ⟨x, rfl⟩ : ∃ x, vs = #[x] := by
      have h1 : vs.size = 1 := hsz
      exact ⟨vs[0], by apply Array.ext; simp [h1]; intro i h2 h3; simp at h3; subst h3; rfl⟩
    have r0 := hrel 0 (by simp) (by simp)
    simp only [List.getElem_cons_zero, List.getElem_toArray] at r0
    cases r0
    refine (AnyW.maps_Clone_nil Try.dClone K.w).mono ?_
    rintro e w' ⟨rfl, rfl⟩
    exact ⟨_, K, _, L, T, rfl, rfl, Ext.refl K, hm, .raw _, hk⟩
theorem row_base {w : World} {a a' : Nat} {e : TypeId} {sz : Nat} {v : Value} {n : Nat} {xs : List Value} (h : w.ownsRow a e sz v n xs) (ha : a' ≤ a) : w.ownsRow a' e sz v n xs := by
  obtain ⟨h1, h2⟩ := h
  refine ⟨h1, h2.imp id ?_⟩
  rintro ⟨g, cap, cur, q1, q2, q3⟩
  exact ⟨g, cap, cur, q1, by omega, q3⟩
theorem sorts (m : Nat) : AnyZ.SortsIn Try.prog Try.dSorted_ren Fence.wide m :=
  ⟨fun blk off cap ss W hH hblk hsz => callsIn_wide.2 (AnyM.slices_Sort_string Try.dSort blk off cap ss W hH hblk hsz), fun p cap W => callsIn_wide.2 (AnyM.slices_Sort_string_none Try.dSort p cap W)⟩
set_option maxHeartbeats 1000000 in
theorem rising_calls {H : Type} (b nn : Nat) (D0 : DataW H) (R : Value → Option (DataW H × List MemPlace)) (w : World) (hown : w.ownsMap Try.prog 9 R b nn D0) (hmax : Maps.size D0 ≤ maxLen) (hbytes : Maps.size D0 * 16 ≤ 140737488355328) :
    Calls Try.prog 47 #[.map (some b)] w fun e w' => ∃ (v : Value) (ss : List (List UInt8)), e = .returned v ∧ ss.Perm (strKeys D0) ∧
      w'.ownsRow w.heap.size 9 1 v ss.length ((ss.mergeSort (fun x y => decide (x ≤ y))).map encStr) ∧ Below w.heap.size w w' := by
  have hbl := hown.lt
  have hseq : SeqGives Fence.wide 2 Try.prog 104 #[.pointer (some ⟨w.heap.size, 0, none⟩)] encStr (fun ss => ss.Perm (strKeys D0)) (Maps.size D0) (w.alloc (.cells #[.map (some b)] 74)) :=
    AnyZ.keys_gives (ρ := Try.dKeys_ren) { Try.dKeys with } Fence.wide _ trivial rfl (by omega) w.heap.size b nn D0 _ (by simp) (by simp) (by
      obtain ⟨es, clock, hb, Ft, hs, hD⟩ := hown
      exact ⟨es, clock, (Below.heap_alloc _ _ b hbl).trans hb, Ft, hs, hD⟩)
  refine (callsIn_wide (n := 6)).1 (callsIn_of_wp Try.func47 rfl trivial ?_ rfl)
  simp only [Try.ntmps47, List.size_toArray, List.length_cons, List.length_nil, Nat.reduceAdd, Nat.reduceSub, Array.replicate_succ, Array.replicate_zero, List.push_toArray, List.append_toArray, List.nil_append, List.cons_append]
  have hfK : Fence.wide.fn 86 := trivial
  have hfS : Fence.wide.fn 85 := trivial
  gi_wp2_with (first
    | (gi_at_call 86; refine (AnyZ.keys_in Try.dKeys Fence.wide 5 trivial rfl _ _).mono ?_; rintro e w' ⟨rfl, rfl⟩)
    | (gi_at_call 85; refine (AnyZ.sorted_in Try.dSorted Fence.wide 5 trivial trivial trivial trivial rfl (by omega) (sorts _) (enters_of Try.func103 (by kernel_rfl) rfl) 104 _ trivial (enters_of Try.func104 (by kernel_rfl) rfl) _ _ hmax hbytes _ hseq).mono ?_; rintro e w' ⟨v, ss, rfl, hS, hrow, hnil, hb⟩))
  go_ret
  exact ⟨v, ss, rfl, hS, row_base hrow (by simp), ((Below.refl _ w).alloc (Nat.le_refl _) _).trans (hb.mono (by simp))⟩
set_option maxHeartbeats 1000000 in
theorem rising_nil (w : World) :
    Calls Try.prog 47 #[.map none] w fun e w' => ∃ (v : Value), e = .returned v ∧ w'.ownsRow w.heap.size 9 1 v 0 [] ∧ Below w.heap.size w w' := by
  have hseq : SeqGives Fence.wide 2 Try.prog 104 #[.pointer (some ⟨w.heap.size, 0, none⟩)] encStr (fun ss : List (List UInt8) => ss = []) 0 (w.alloc (.cells #[.map none] 74)) :=
    AnyZ.keys_gives_nil (ρ := Try.dKeys_ren) { Try.dKeys with } Fence.wide _ trivial rfl w.heap.size _ (by simp) (by simp)
  refine (callsIn_wide (n := 6)).1 (callsIn_of_wp Try.func47 rfl trivial ?_ rfl)
  simp only [Try.ntmps47, List.size_toArray, List.length_cons, List.length_nil, Nat.reduceAdd, Nat.reduceSub, Array.replicate_succ, Array.replicate_zero, List.push_toArray, List.append_toArray, List.nil_append, List.cons_append]
  have hfK : Fence.wide.fn 86 := trivial
  have hfS : Fence.wide.fn 85 := trivial
  gi_wp2_with (first
    | (gi_at_call 86; refine (AnyZ.keys_in Try.dKeys Fence.wide 5 trivial rfl _ _).mono ?_; rintro e w' ⟨rfl, rfl⟩)
    | (gi_at_call 85; refine (AnyZ.sorted_in Try.dSorted Fence.wide 5 trivial trivial trivial trivial rfl (by omega) (sorts _) (enters_of Try.func103 (by kernel_rfl) rfl) 104 _ trivial (enters_of Try.func104 (by kernel_rfl) rfl) _ 0 (Nat.zero_le _) (by omega) _ hseq).mono ?_; rintro e w' ⟨v, ss, rfl, hS, hrow, hnil, hb⟩))
  go_ret
  subst hS
  exact ⟨v, rfl, by
    have h3 := row_base (a' := w.heap.size) hrow (by simp)
    simp only [List.mergeSort_nil, List.map_nil, List.length_nil] at h3
    exact h3, ((Below.refl _ w).alloc (Nat.le_refl _) _).trans (hb.mono (by simp))⟩
theorem add_zero' (g j : Nat) : (⟨g, 0, none⟩ : Addr).add j = ⟨g, j, none⟩ := by
  unfold Addr.add
  split
  · rename_i h; subst h; rfl
  · simp
theorem erel_len {K : Kw} : ∀ {l : List (MKey × Nat × V)} {es : List MapEntry}, ERel K l es → es.length = l.length
  | [], [], _ => rfl
  | _ :: _, _ :: _, ⟨_, h⟩ => by simp [erel_len h]
theorem erel_mem {K : Kw} : ∀ {l : List (MKey × Nat × V)} {es : List MapEntry}, ERel K l es → ∀ e ∈ es, ∃ x ∈ l, e.key = x.1.val
  | [], [], _, e, h => by cases h
  | x :: _, _ :: _, ⟨⟨h1, _⟩, h⟩, e, he => by
    rcases List.mem_cons.1 he with rfl | he
    · exact ⟨x, by simp, h1⟩
    · obtain ⟨y, hy, h2⟩ := erel_mem h e he
      exact ⟨y, List.mem_cons_of_mem _ hy, h2⟩
abbrev RK : Value → Option (DataW Unit × List MemPlace) := fun _ => some (.lit (.bool true), [])
def keyB : MKey → List UInt8
  | .str n => n
  | .int _ _ => []
theorem ukS : Try.prog.underlying 9 = some .string := by kernel_rfl
theorem key_str {n : List UInt8} (h : n.length ≤ 1000) : keyOf Try.prog 9 (.string ⟨n.toArray⟩) = some (.string n) := by
  unfold keyOf
  have h : (⟨n.toArray⟩ : ByteArray).size ≤ maxLen := by show n.toArray.size ≤ _; rw [List.size_toArray]; unfold maxLen; omega
  simp only [ukS, mapKey, h, if_true]
theorem strs_of {K : Kw} : ∀ {l : List (MKey × Nat × V)} {es : List MapEntry}, ERel K l es → (∀ x ∈ l, ∃ n, x.1 = .str n ∧ n.length ≤ 1000) → (es.map (Go.WideElems.rg (H := Unit) Try.prog 9 RK)).map (fun p => strOf p.1) = l.map fun x => keyB x.1
  | [], [], _, _ => rfl
  | x :: l, e :: es, ⟨⟨h1, _⟩, h⟩, hk => by
    obtain ⟨n, hn, hl⟩ := hk x (by simp)
    simp only [List.map_cons]
    rw [strs_of h fun y hy => hk y (List.mem_cons_of_mem _ hy)]
    have hkey : keyOf Try.prog 9 e.key = some (.string n) := by rw [h1, hn]; exact key_str hl
    have : Go.WideElems.rd (H := Unit) Try.prog 9 RK e = some (.string n, .lit (.bool true)) := by unfold Go.WideElems.rd; rw [hkey]; rfl
    have h5 : strOf (Go.WideElems.rg (H := Unit) Try.prog 9 RK e).1 = keyB x.1 := by
      rw [Go.WideElems.rg_of this, hn]
      rfl
    rw [h5]
theorem owns_of {K : Kw} {kk : Option IntKind} {l : List (MKey × Nat × V)} {es : Array MapEntry} {ck b : Nat} (hb : K.w.heap[b]? = some (.map es ck)) (hr : MRel K kk l es ck) (hk : ∀ x ∈ l, ∃ n, x.1 = .str n ∧ n.length ≤ 1000) (hl : l.length ≤ 1099511627776) :
    ∃ D0 : DataW Unit, K.w.ownsMap Try.prog 9 RK b l.length D0 ∧ Maps.size D0 = l.length ∧ (strKeys D0).Perm (l.map fun x => keyB x.1) := by
  obtain ⟨hs, _, he⟩ := hr
  have hsz : es.size = l.length := by rw [← Array.length_toList]; exact erel_len he
  refine ⟨.map ((es.toList.map (Go.WideElems.rg Try.prog 9 RK)).foldr DataW.insert []), ⟨es, ck, hb, ⟨by unfold maxLen; omega, hs, fun x hx => ?_⟩, by omega, rfl⟩, ?_, ?_⟩
  · obtain ⟨y, hy, h1⟩ := erel_mem he x hx
    obtain ⟨n, hn, hln⟩ := hk y hy
    refine ⟨(.string n, .lit (.bool true)), ?_⟩
    unfold Go.WideElems.rd
    rw [h1, hn]
    rw [show (MKey.str n).val = .string ⟨n.toArray⟩ from rfl, key_str hln]
    rfl
  · rw [Maps.size_eq, (Go.WideShapes.sorted_perm _).length_eq, List.length_map, Array.length_toList, hsz]
  · rw [← strs_of he hk]
    exact (Go.WideShapes.sorted_perm _).map _
def risingP : PM := fun args L T K => (∃ (o : Nat) (kk : Option IntKind) (ck : Nat) (l : List (MKey × Nat × V)) (ns : List (List UInt8)), args = [.mref o] ∧ L[o]? = some [.mapc kk ck l] ∧ (l.map (·.1)).Perm (ns.map .str) ∧ (∀ n ∈ ns, n.length ≤ 1000) ∧ ns.Pairwise (fun x y => x ≤ y) ∧ ns.length ≤ 1099511627776 ∧ K (.list 1 (ns.map .str) none) L T) ∨ (args = [.raw (.map none)] ∧ K (.list 1 [] none) L T)
theorem sorted_eq {ss ns : List (List UInt8)} (hp : ss.Perm ns) (hs : ns.Pairwise (fun x y => x ≤ y)) : ss.mergeSort (fun x y => decide (x ≤ y)) = ns := by
  rw [mergeSort_of_perm hp]
  exact List.mergeSort_of_pairwise (hs.imp fun h => by simpa using h)
theorem row_rel {B : World} {p0 : Bs} {K : Kw} {L : LL} {T : TT} (hm : Mem Try.prog B p0 K L T) {w' : World} (hB : Below K.w.heap.size K.w w') {v : Value} {ns : List (List UInt8)} {e : TypeId} (hrow : w'.ownsRow K.w.heap.size e 1 v ns.length (ns.map encStr)) :
    ∃ K', K'.w = w' ∧ Ext K K' ∧ Mem Try.prog B p0 K' L T ∧ Rel K' (.list 1 (ns.map .str) none) v := by
  obtain ⟨he, hm'⟩ := hm.grow (q := fun b o => K.w.heap.size ≤ b ∧ b < w'.heap.size) hB (fun b o h => h)
  refine ⟨_, rfl, he, hm', ?_⟩
  have hfl : ∀ l : List (List UInt8), (l.map V.str).flatMap V.cells = l.map V.str := by
    intro l
    induction l with
    | nil => rfl
    | cons x l ih => simp only [List.map_cons, List.flatMap_cons, ih]; rfl
  obtain ⟨h1, h2⟩ := hrow
  rcases h2 with ⟨rfl, hz⟩ | ⟨g, cap, cur, rfl, hg, hh, hc, hcm, hsz, hcur⟩
  · have : ns = [] := List.eq_nil_of_length_eq_zero hz
    subst this
    exact .list 1 [] none none 0 (fun _ => .bool false) (by simp) (by simp) (by simp) (by simp) (by simp) trivial
  · have hcell : ∀ j (hj : j < ns.length), cur[j]? = some (encStr ns[j]) := fun j hj => by
      have := congrArg (·[j]?) hcur
      simp only [Nat.mul_one, List.getElem?_map] at this
      rw [List.getElem?_take_of_lt hj, List.getElem?_eq_getElem hj] at this
      simpa using this
    have hcl : ∀ j (hj : j < ns.length), w'.cell? ((⟨g, 0, none⟩ : Addr).add j) = some (encStr (ns.getD j [])) := fun j hj => by
      rw [add_zero']
      simp only [World.cell?, hh]
      rw [if_neg (by simp), hcell j hj, List.getD_eq_getElem?_getD, List.getElem?_eq_getElem hj]
      rfl
    have := Rel.list (K := { K with w := w', prot := fun b o => K.prot b o ∨ (K.w.heap.size ≤ b ∧ b < w'.heap.size) }) 1 (ns.map .str) none (some ⟨g, 0, none⟩) cap (fun j => encStr (ns.getD j [])) (by simpa using hc) hcm (by simp [V.cells])
      (fun j hj => ⟨⟨_, rfl, .inr ⟨by rw [add_zero']; exact hg, by rw [add_zero']; exact (Array.getElem?_eq_some_iff.1 hh).1⟩, hcl j (by simpa using hj)⟩, rfl⟩) (fun j hj => ?_) trivial
    · simpa using this
    · have hj' : j < ns.length := by rw [hfl, List.length_map] at hj; exact hj
      simp only [hfl, List.getElem_map]
      rw [List.getD_eq_getElem?_getD, List.getElem?_eq_getElem hj']
      exact .str _
theorem rising_ok : PSound Try.prog 47 risingP := by
  intro B p0 K L T args vs Kont hm hk hsz hrel
  have hone : ∀ x, args = [x] → ∃ u, vs = #[u] ∧ Rel K x u := fun x e => by
    subst e
    have h1 : vs.size = 1 := hsz
    refine ⟨vs[0], by apply Array.ext; simp [h1]; intro i h2 h3; simp at h3; subst h3; rfl, ?_⟩
    exact hrel 0 (by simp) (by omega)
  rcases hk with ⟨o, kk, ck, l, ns, rfl, hl, hp, hlen, hs, hcnt, hk⟩ | ⟨rfl, hk⟩
  · obtain ⟨u, rfl, r0⟩ := hone _ rfl
    obtain ⟨b, es, rfl, hb, hh, hr, hat⟩ := map_at hm hl r0
    have hll : l.length = ns.length := by simpa using hp.length_eq
    have hkeys : ∀ x ∈ l, ∃ n, x.1 = .str n ∧ n.length ≤ 1000 := fun x hx => by
      have := hp.subset (List.mem_map.2 ⟨x, hx, rfl⟩)
      obtain ⟨n, hn, he⟩ := List.mem_map.1 this
      exact ⟨n, he.symm, hlen n hn⟩
    obtain ⟨D0, hown, hsize, hsk⟩ := owns_of hh hr hkeys (by omega)
    have hsk2 : (strKeys D0).Perm ns := by
      refine hsk.trans ?_
      have := hp.map keyB
      simp only [List.map_map] at this
      have e : ns.map (keyB ∘ MKey.str) = ns := by
        have e2 := List.map_congr_left (l := ns) (f := keyB ∘ MKey.str) (g := id) fun _ _ => rfl
        rw [e2, List.map_id]
      rw [e] at this
      exact this
    refine (rising_calls b _ D0 RK K.w hown (by unfold maxLen; omega) (by omega)).mono ?_
    rintro e w' ⟨v, ss, rfl, hS, hrow, hB⟩
    have hpn := hS.trans hsk2
    rw [sorted_eq hpn hs, hpn.length_eq] at hrow
    obtain ⟨K', h1, h2, h3, h4⟩ := row_rel hm hB hrow
    exact ⟨v, K', _, L, T, rfl, h1, h2, h3, h4, hk⟩
  · obtain ⟨u, rfl, r0⟩ := hone _ rfl
    cases r0
    refine (rising_nil K.w).mono ?_
    rintro e w' ⟨v, rfl, hrow, hB⟩
    obtain ⟨K', h1, h2, h3, h4⟩ := row_rel (ns := []) hm hB hrow
    exact ⟨v, K', _, L, T, rfl, h1, h2, h3, h4, hk⟩
end Go.Proofs.Ytpncnionnfomeaa.DiskK
