import Derived.Test.YthlmfalfnpjndaaAwX
import Derived.Test.YthlmfalfnpjndaaLineL1
namespace Go.Proofs.Ythlmfalfnpjndaa.Line
open Go Go.Proofs Go.Proofs.Ythlmfalfnpjndaa.Aw Go.Proofs.Ythlmfalfnpjndaa.LineM Go.Proofs.Ythlmfalfnpjndaa.Num Go.Proofs.Ythlmfalfnpjndaa.LibB Go.RowKit
set_option linter.unusedSimpArgs false
set_option linter.unusedVariables false
theorem list_bytes {K : Kw} {l : List UInt8} {u : Value} (h : Rel K (.list 1 (l.map byteV) none) u) : Rel K (.bytes l none) u := by
  generalize hz : l.map byteV = z at h
  cases h with
  | list _ _ _ A c f hc hm hs hr hf ht =>
    have hl : z.length = l.length := by rw [← hz, List.length_map]
    have hfl : z.flatMap V.cells = l.map byteV := by rw [← hz]; exact flat_bytes l
    have := Rel.bytes (K := K) l none A c (by omega) hm (fun j hj => by
      obtain ⟨⟨ad, e, hrd⟩, _⟩ := hr j (by omega)
      have h1 := hf j (by rw [hfl, List.length_map]; exact hj)
      have h2 : (z.flatMap V.cells)[j]'(by rw [hfl, List.length_map]; exact hj) = byteV l[j] := by simp [hfl]
      rw [h2] at h1
      generalize hx : f j = x at *
      unfold byteV at h1
      cases h1
      exact ⟨ad, e, hrd⟩) trivial
    rw [← hl] at this
    exact this
theorem mrow_bytes {K : Kw} {L : List (List V)} (hL : BoxesOk K L) {em : TypeId} {o n : Nat} {u : Value} (h : Rel K (.mrow em o 0 n) u) {cs : List V} (hcs : L[o]? = some cs) {l : List UInt8} (hl : l.length = n) (hfit : n ≤ cs.length) (hb : cs.take n = l.map byteV) : Rel (K.still L) (.bytes l none) u := by
  have h' : Rel K (.vrow em 1 o n) u := by
    cases h with
    | mrow _ _ _ _ A c hc hm hA => exact .vrow _ _ _ _ A c hc hm (hA.imp id fun ⟨b, m, e1, hb, hs, hl⟩ => ⟨b, m, e1, hb, hs, by omega⟩)
  refine list_bytes (rows_rel hL h' ⟨0, cs, hcs, by omega, by rw [List.length_map]; exact hl, ?_, ?_, ?_⟩)
  · intro y hy
    obtain ⟨z, _, rfl⟩ := List.mem_map.1 hy
    rfl
  · rw [flat_bytes, strip0, Nat.mul_one, hb]; simp
  · intro y hy
    obtain ⟨z, _, rfl⟩ := List.mem_map.1 hy
    simp [byteV, V.clean]
def bareS : PM := fun args L T K => match args with
  | [.agg [.int .i64 a, .bytes b _]] => (0 ≤ a ∧ a ≤ 4611686018427387904 ∧ b.length ≤ 1099511627776) ∧ K (.bool (bareF b)) L T
  | [.agg [.int .i64 a, .mrow _ o 0 n]] => match L[o]? with
    | some cs => (0 ≤ a ∧ a ≤ 4611686018427387904 ∧ n ≤ 1099511627776 ∧ n ≤ cs.length ∧ ((cs.take n).map unbyte).map byteV = cs.take n) ∧ K (.bool (bareF ((cs.take n).map unbyte))) L T
    | none => False
  | _ => False
theorem bareS_ok : PSound Try.prog 16 bareS := by
  intro B p0 K L T args vs Kont hm hk hsz hrel
  have key : ∀ (a : Int) (b : List UInt8) (u : Value), vs = #[u] → Rel (K.still L) (.agg [.int .i64 a, .bytes b none]) u → (0 ≤ a ∧ a ≤ 4611686018427387904 ∧ b.length ≤ 1099511627776) → Kont (.bool (bareF b)) L T →
      Calls Try.prog 16 vs K.w fun e w' => ∃ v K' r L' T', e = .returned v ∧ K'.w = w' ∧ Ext K K' ∧ Mem Try.prog B p0 K' L' T' ∧ Rel K' r v ∧ Kont r L' T' := by
    intro a b u hv hr hp hk
    have hfull : ∀ b o, K.full L b o → b < K.w.heap.size := by
      rintro b o (hb | ⟨i, cs, hb, _, _⟩)
      · exact hm.there b o hb
      · exact hm.boxes.lt (List.mem_of_getElem? hb)
    refine (bare_ok K.w (K.full L) [.agg [.int .i64 a, .bytes b none]] vs _ _ _ hfull rfl hp (by rw [hv]; rfl) (fun j hj hj' => by
      have : j = 0 := by simpa using hj
      subst this
      subst hv
      exact hr)).mono fun e w' ⟨u, K', he, hw, hmK, hr⟩ => ?_
    obtain ⟨he1, hm1⟩ := hm.grow (q := fun _ _ => False) hmK.below (fun b o hq => hq.elim)
    exact ⟨u, { K with w := K'.w, prot := fun b o => K.prot b o ∨ False }, .bool (bareF b), L, T, he, hw, he1, hm1, Rel.plain hr (by simp [V.plain]), hk⟩
  have one : ∀ v, args = [v] → ∃ u, vs = #[u] ∧ Rel K v u := by
    intro v hv
    subst hv
    have h1 : vs.size = 1 := hsz
    refine ⟨vs[0], by apply Array.ext; simp [h1]; intro i h2 h3; simp at h3; subst h3; rfl, ?_⟩
    exact hrel 0 (by simp) (by omega)
  unfold bareS at hk
  split at hk
  · rename_i a b t
    obtain ⟨hp, hk⟩ := hk
    obtain ⟨u, hu, hr⟩ := one _ rfl
    refine key a b u hu ?_ hp hk
    have h2 := Rel.strip 2 2 (Nat.le_refl _) _ _ hr
    exact Rel.clean (K2 := K.still L) (fun a u hr => ⟨.inl hr.1, hr.2⟩) h2 (by simp [V.strip, V.clean])
  · rename_i a em o n
    split at hk
    · rename_i cs hcs
      obtain ⟨⟨h0, h1, h2, hfit, hb⟩, hk⟩ := hk
      obtain ⟨u, hu, hr⟩ := one _ rfl
      refine key a _ u hu ?_ ⟨h0, h1, by rw [List.length_map, List.length_take]; omega⟩ hk
      cases hr with
      | agg _ us hl ho hj =>
        have hj1 := hj 1 (by simp)
        have hj0 := hj 0 (by simp)
        refine .agg _ us hl ho fun j hj' => ?_
        match j, hj' with
        | 0, _ => exact Rel.clean (K2 := K.still L) (fun a u hr => ⟨.inl hr.1, hr.2⟩) hj0 (by simp [V.clean])
        | 1, _ => exact mrow_bytes hm.boxes hj1 hcs (by rw [List.length_map, List.length_take]; omega) hfit hb.symm
    · exact hk.elim
  · exact hk.elim
def G14 : Fns := { fn := fun f => G12.fn f, mu := fun d => bif d == 21 then .row else .no, hp := fun f => if f = 16 then some bareS else G12.hp f, ord := fun i => none, it := fun f => G12.it f }
theorem G14_fn (f : FuncId) : G14.fn f = (G12.fn f) := rfl
theorem G14_mu (d : Tmp) : G14.mu d = (bif d == 21 then .row else .no) := rfl
theorem G14_hp (f : FuncId) : G14.hp f = (if f = 16 then some bareS else G12.hp f) := rfl
theorem G14_ord (i : Nat) : G14.ord i = (none) := rfl
theorem G14_it (f : FuncId) : G14.it f = (G12.it f) := rfl
theorem G14_hy (b : Nat) : G14.hy b = none := rfl
theorem G14ok : FnsOk Try.prog G14 := FnsOk.same (FnsOk.consP G12ok _ _ bareS_ok Try.func16 (by decide) (fun h => by cases h)) rfl rfl
attribute [bitvec_to_nat] G14_fn G14_mu G14_hp G14_ord G14_it G14_hy
def alt (i : Nat) : UInt8 := if i % 2 = 0 then 32 else 9
def rowB (k i : Nat) : List UInt8 := (List.range k).map fun j => if j < i then alt j else 0
theorem rowB_len (k i : Nat) : (rowB k i).length = k := by simp [rowB]
theorem rowB_zero (k : Nat) : rowB k 0 = List.replicate k 0 := by
  apply List.ext_getElem
  · simp [rowB]
  · intro j h1 h2; simp [rowB]
theorem rowB_set {k i : Nat} (h : i < k) : (rowB k i).set i (alt i) = rowB k (i + 1) := by
  apply List.ext_getElem
  · simp [rowB]
  · intro j h1 h2
    rw [List.getElem_set]
    simp only [rowB, List.getElem_map, List.getElem_range]
    by_cases e : i = j
    · subst e; simp
    · rw [if_neg e]
      by_cases hj : j < i
      · rw [if_pos hj, if_pos (by omega)]
      · rw [if_neg hj, if_neg (by omega)]
theorem rowB_blank (k : Nat) : ∀ c ∈ rowB k k, isBl c = true := by
  intro c hc
  simp only [rowB, List.mem_map, List.mem_range] at hc
  obtain ⟨j, hj, rfl⟩ := hc
  rw [if_pos hj]
  unfold alt
  split <;> rfl
theorem alt_get (i : Nat) : ([32, 9] : List UInt8).getD (i % 2) 0 = alt i := by
  unfold alt
  rcases Nat.mod_two_eq_zero_or_one i with h | h <;> rw [h] <;> rfl
theorem min200 (x : List UInt8) : ∃ m : Nat, (if 200 < (x.length : Int) then (200 : Int) else (x.length : Int)) = (m : Int) ∧ m ≤ 200 ∧ m ≤ x.length := by
  split
  · exact ⟨200, rfl, by omega, by omega⟩
  · exact ⟨x.length, rfl, by omega, by omega⟩
def lineBareM : FM
  | [.bytes b _, .int .u8 n] => some (0 ≤ n ∧ n ≤ 255, .bool true, [])
  | _ => none
set_option maxHeartbeats 8000000 in
set_option maxRecDepth 100000 in
theorem lineBare_ok : FSound Try.prog 8 lineBareM := by
  refine fsound tysOk G14ok mix Try.func8 rfl ?_
  intro args p r fr hm hp
  unfold lineBareM at hm
  split at hm
  · rename_i b t n
    cases hm
    obtain ⟨h0, h1⟩ := hp
    obtain ⟨n, rfl⟩ := Int.eq_ofNat_of_zero_le h0
    obtain ⟨m, hm, hm1, hm2⟩ := min200 b
    obtain ⟨k, hk⟩ : ∃ k, k = n % 9 := ⟨_, rfl⟩
    have hkw : IntKind.i64.wrap ((n : Int).tmod 9) = (k : Int) := by
      rw [Int.tmod_eq_emod_of_nonneg (by omega), i64w (by omega) (by omega)]; omega
    obtain ⟨x, hx⟩ : ∃ x, x = b.take m := ⟨_, rfl⟩
    have hxl : x.length ≤ 200 := by rw [hx, List.length_take]; omega
    simp (maxSteps:=2000000) only[bitvec_to_nat,seval,↓tcd,Try.f8,shownM,hm,hkw,Int.toNat_natCast,← hx]
    refine ⟨⟨by omega, by omega⟩, ⟨by omega, by omega, by omega, by omega⟩, ?_⟩
    rw [← rowB_zero]
    refine awpLoop_intro (α := {q : Nat × TT // q.1 ≤ k}) (fun q => ⟨[.any, .any, .any, .any, .any, .bool true, .bytes x none, .mrow 5 0 0 k, .any, .any, .any, .any, .any, .any, .any, .any, .any, .any, .any, .any, .any, .any, .any, .int .i64 (k : Int), .int .i64 (q.1.1 : Int), .any, .any, .any, .any, .any, .any, .any, .any, .any, .any, .any, .any, .any, .any, .any, .any, .any, .any, .any, .any, .any, .any, .any, .any, .any, .any, .any, .any, .any, .any, .any, .any, .any, .any, .any, .any, .any, .any, .any, .any, .any, .any, .any, .any, .any, .any, .any, .any, .any, .any, .any, .any, .any, .any, .any, .any], [(rowB k q.1.1).map byteV], q.1.2⟩) (fun q => k - q.1.1) ⟨(0, []), Nat.zero_le _⟩ ?_ ?_ (fun q => ⟨Nat.zero_le _, Nat.zero_le _⟩)
    · simp (maxSteps:=2000000) only[bitvec_to_nat,seval,↓tcd]
    · rintro ⟨⟨i, T1⟩, hi⟩
      simp only at hi
      by_cases hlt : i < k
      · have hd : decide ((i : Int) < (k : Int)) = true := decide_eq_true (by omega)
        have hi2 : (i : Int).tmod 2 = ((i % 2 : Nat) : Int) := by rw [Int.tmod_eq_emod_of_nonneg (by omega)]; omega
        simp (maxSteps:=2000000) only[bitvec_to_nat,seval,↓tcd,Try.f8,hd,Int.toNat_natCast,hi2,alt_get]
        have hrl := rowB_len k i
        have hset : List.take i ((rowB k i).map byteV) ++ [V.int IntKind.u8 ((alt i).toNat : Int)] ++ List.drop (i + 1) ((rowB k i).map byteV) = (rowB k (i + 1)).map byteV := by
          rw [← rowB_set hlt, List.map_set, List.set_eq_take_append_cons_drop, if_pos (by rw [List.length_map]; omega), List.append_assoc]
          rfl
        rw [hset, i64w (by omega) (by omega)]
        refine ⟨⟨by omega, by omega⟩, ⟨by omega, by omega⟩, by rw [List.length_map]; omega, ⟨⟨(i + 1, T1 ++ [(2, 5)]), by simp only; omega⟩, ?_, by simp only; omega⟩⟩
        simp (maxSteps:=2000000) only[bitvec_to_nat,seval,↓tcd]
        all_goals simp
      · have hd : decide ((i : Int) < (k : Int)) = false := decide_eq_false (by omega)
        have e : i = k := by omega
        subst e
        have hrl := rowB_len i i
        have htk : ((rowB i i).map byteV).take i = (rowB i i).map byteV := List.take_of_length_le (by rw [List.length_map]; omega)
        simp (maxSteps:=2000000) only[bitvec_to_nat,seval,↓tcd,Try.f8,hd,Int.toNat_natCast,bareS,htk,unbyte_map,List.length_map,hrl]
        have hb := rowB_blank i
        have f1 := bareF_blanks (rowB i i) x hb
        have f2 : bareF (rowB i i ++ [35] ++ x) = true := by
          rw [List.append_assoc, bareF_blanks _ _ hb]
          exact bareF_head (by rfl) x
        have f3 : bareF (rowB i i ++ [119] ++ x) = false := by
          rw [List.append_assoc, bareF_blanks _ _ hb]
          exact bareF_head (by rfl) x
        have f4 : bareF (rowB i i) = true := by
          have := bareF_blanks (rowB i i) [] hb
          rw [List.append_nil] at this
          rw [this]; rfl
        rw [f1, f2, f3, f4]
        have l1 : (rowB i i ++ x).length = i + x.length := by rw [List.length_append, hrl]
        have l2 : ∀ c : UInt8, (rowB i i ++ [c]).length = i + 1 := fun c => by rw [List.length_append, hrl]; rfl
        have l3 : ∀ c : UInt8, (rowB i i ++ [c] ++ x).length = i + 1 + x.length := fun c => by rw [List.length_append, l2]
        rw [l1, l2, l2, l3, l3]
        have hik : i ≤ 8 := by omega
        refine ⟨⟨Nat.le_refl _, mb _ (by omega)⟩, mb _ (by omega), by omega, ⟨Nat.le_refl _, mb _ (by omega)⟩, ⟨?_, mb _ (by omega)⟩, ⟨?_, mb _ (by omega)⟩, by omega, ⟨Nat.le_refl _, mb _ (by omega)⟩, ⟨?_, mb _ (by omega)⟩, ⟨?_, mb _ (by omega)⟩, by omega, by omega, ?_⟩
        · simp [List.set_append, List.getElem?_append]
        · simp [List.set_append, List.getElem?_append]
        · simp [List.set_append, List.getElem?_append]
        · simp [List.set_append, List.getElem?_append]
        · simp [awpIf]
          try omega
  · cases hm
end Go.Proofs.Ythlmfalfnpjndaa.Line
