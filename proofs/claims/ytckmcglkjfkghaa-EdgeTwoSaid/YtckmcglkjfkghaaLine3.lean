import Derived.Test.YtckmcglkjfkghaaAwX
import Derived.Test.YtckmcglkjfkghaaLine2
namespace Go.Proofs.Ytckmcglkjfkghaa.Line
open Go Go.Proofs Go.Proofs.Ytckmcglkjfkghaa.Aw Go.Proofs.Ytckmcglkjfkghaa.LineM Go.Proofs.Ytckmcglkjfkghaa.Num Go.Proofs.Ytckmcglkjfkghaa.LibB
set_option linter.unusedSimpArgs false
set_option linter.unusedVariables false
def cutM : FM
  | [.bytes b _, .int .i64 f, .int .i64 t] => some (0 ≤ f ∧ f ≤ t ∧ t ≤ b.length ∧ b.length ≤ 1099511627776, lv (f.toNat, trim ((b.take t.toNat).drop f.toNat)), [])
  | _ => none
theorem trim_13 {b : List UInt8} {f t : Nat} (h1 : f < t) (h2 : t ≤ b.length) : trim ((b.take t).drop f) = if b.getD (t - 1) 0 = 13 then (b.take (t - 1)).drop f else (b.take t).drop f := by
  obtain ⟨t, rfl⟩ : ∃ k, t = k + 1 := ⟨t - 1, by omega⟩
  have hg : b.getD t 0 = b[t] := by simp [List.getD_eq_getElem?_getD, List.getElem?_eq_getElem (show t < b.length by omega)]
  have e : (b.take (t + 1)).drop f = (b.take t).drop f ++ [b[t]] := by
    rw [List.take_succ_eq_append_getElem (by omega), List.drop_append, List.length_take, show f - min t b.length = 0 by omega]
    rfl
  simp only [Nat.add_sub_cancel]
  rw [e, hg]
  by_cases h : b[t] = 13
  · rw [if_pos h, h, trim_snoc]
  · rw [if_neg h, trim_other _ h]
def listM : FM
  | [.bytes b _] => some (b.length ≤ 1099511627776, .list 2 ((linesF 0 b).map lv) none, [])
  | _ => none
def G7 : Fns := { fn := fun f => G6.fn f, mu := fun d => .no, hp := fun f => G6.hp f, ord := fun i => none, it := fun f => G6.it f }
theorem G7_fn (f : FuncId) : G7.fn f = (G6.fn f) := rfl
theorem G7_mu (d : Tmp) : G7.mu d = (.no) := rfl
theorem G7_hp (f : FuncId) : G7.hp f = (G6.hp f) := rfl
theorem G7_ord (i : Nat) : G7.ord i = (none) := rfl
theorem G7_it (f : FuncId) : G7.it f = (G6.it f) := rfl
theorem G7_hy (b : Nat) : G7.hy b = none := rfl
theorem G7ok : FnsOk Try.prog G7 := FnsOk.same G6ok rfl rfl
attribute [bitvec_to_nat] G7_fn G7_mu G7_hp G7_ord G7_it G7_hy
def G7a : Fns := { fn := fun f => G7.fn f, mu := fun d => bif d == 3 then .nil 41 else .no, hp := fun f => G7.hp f, ord := fun i => none, it := fun f => G7.it f }
theorem G7a_fn (f : FuncId) : G7a.fn f = (G7.fn f) := rfl
theorem G7a_mu (d : Tmp) : G7a.mu d = (bif d == 3 then .nil 41 else .no) := rfl
theorem G7a_hp (f : FuncId) : G7a.hp f = (G7.hp f) := rfl
theorem G7a_ord (i : Nat) : G7a.ord i = (none) := rfl
theorem G7a_it (f : FuncId) : G7a.it f = (G7.it f) := rfl
theorem G7a_hy (b : Nat) : G7a.hy b = none := rfl
theorem G7aok : FnsOk Try.prog G7a := FnsOk.same G7ok rfl rfl
attribute [bitvec_to_nat] G7a_fn G7a_mu G7a_hp G7a_ord G7a_it G7a_hy
def sameM : FM
  | [.list 2 l _, .list 2 m _] => some (l = (l.map unlv).map lv ∧ m = (m.map unlv).map lv ∧ l.length ≤ 1099511627776, .bool (decide (l.map unlv = m.map unlv)), [])
  | _ => none
def blankM : FM
  | [.int .u8 c] => some (0 ≤ c ∧ c < 256, .bool (isBl (UInt8.ofNat c.toNat)), [])
  | _ => none
theorem blank_ok : FSound Try.prog 22 blankM := by
  refine fsound tysOk G7ok mix Try.func22 rfl ?_
  intro args p r fr hm hp
  unfold blankM at hm
  split at hm
  · rename_i c
    cases hm
    obtain ⟨h0, h1⟩ := hp
    obtain ⟨c, rfl⟩ := Int.eq_ofNat_of_zero_le h0
    simp (maxSteps:=2000000) only[bitvec_to_nat,seval,↓tcd,Try.f22]
    rw [isBl_def, Int.toNat_natCast, UInt8.toNat_ofNat', Nat.mod_eq_of_lt (by omega)]
    refine awpIf_intro (fun h => ?_) (fun h => ?_)
    · rw [h]; rfl
    · rw [h]; rfl
  · cases hm
def WAt (L : List (List V)) (T : List (Nat × TypeId)) (ls : List Ln) (v : V) : Prop :=
  (ls = [] ∧ v = .nils) ∨ ∃ o ws x cs tok, v = .vrow 26 2 o (ws.length + 1) ∧ ls = ws ++ [x] ∧ 0 < o ∧ L[o]? = some cs ∧ (ws.length + 1) * 2 ≤ cs.length ∧
    (cs.take (ws.length * 2)).map (V.strip 1) = (ws.map lv).flatMap V.cells ∧ cs.getD (ws.length * 2) .nils = .int .i64 (x.1 : Int) ∧ cs.getD (ws.length * 2 + 1) .nils = .bytes x.2 (some tok) ∧ T[tok]? = some (x.2.length, 5)
theorem wat_all {ws : List Ln} {x : Ln} {cs : List V} {tok : Nat} (hf : (ws.length + 1) * 2 ≤ cs.length) (h1 : (cs.take (ws.length * 2)).map (V.strip 1) = (ws.map lv).flatMap V.cells)
    (h2 : cs.getD (ws.length * 2) .nils = .int .i64 (x.1 : Int)) (h3 : cs.getD (ws.length * 2 + 1) .nils = .bytes x.2 (some tok)) : (cs.take ((ws.length + 1) * 2)).map (V.strip 1) = ((ws ++ [x]).map lv).flatMap V.cells := by
  have e1 : cs[ws.length * 2]? = some (.int .i64 (x.1 : Int)) := by rw [List.getElem?_eq_getElem (by omega)]; rw [List.getD_eq_getElem?_getD, List.getElem?_eq_getElem (by omega)] at h2; simpa using h2
  have e2 : cs[ws.length * 2 + 1]? = some (.bytes x.2 (some tok)) := by rw [List.getElem?_eq_getElem (by omega)]; rw [List.getD_eq_getElem?_getD, List.getElem?_eq_getElem (by omega)] at h3; simpa using h3
  rw [show (ws.length + 1) * 2 = ws.length * 2 + 1 + 1 by omega, List.take_add_one, List.take_add_one, e1, e2, List.map_append, List.map_append, List.map_append, h1, List.flatMap_append]
  simp [lv, V.cells, V.strip]
theorem wat_ret {L : LL} {T : TT} {ls : List Ln} {v : V} (h : WAt L T ls v) : RetV L v (.list 2 (ls.map lv) none) := by
  rcases h with ⟨rfl, rfl⟩ | ⟨o, ws, x, cs, tok, rfl, rfl, _, ho, hf, h1, h2, h3, _⟩
  · exact ⟨0, ⟨rfl, rfl⟩, by simp [V.clean]⟩
  · refine ⟨(ws ++ [x]).map lv, rfl, 1, cs, ho, hf, by simp, ?_, (wat_all hf h1 h2 h3).symm, lv_clean _⟩
    intro y hy
    simp only [List.mem_map] at hy
    obtain ⟨z, _, rfl⟩ := hy
    rfl
theorem wat_put {L : LL} {T : TT} {o : Nat} {ws : List Ln} {p : Nat} {w : List UInt8} {cs : List V} {tok : Nat} (ho0 : 0 < o) (ho : L[o]? = some cs) (hf : (ws.length + 1) * 2 ≤ cs.length) (h1 : (cs.take (ws.length * 2)).map (V.strip 1) = (ws.map lv).flatMap V.cells)
    (h2 : cs.getD (ws.length * 2) .nils = .int .i64 (p : Int)) (ht : T[tok]? = some (w.length, 5)) :
    WAt (L.set o (cs.take (ws.length * 2 + 1) ++ [.bytes w (some tok)] ++ cs.drop (ws.length * 2 + 1 + 1))) T (ws ++ [(p, w)]) (.vrow 26 2 o (ws.length + 1)) := by
  have hol := (List.getElem?_eq_some_iff.1 ho).1
  have hl : (cs.take (ws.length * 2 + 1)).length = ws.length * 2 + 1 := by rw [List.length_take]; omega
  refine .inr ⟨o, ws, (p, w), _, tok, rfl, rfl, ho0, List.getElem?_set_self hol, by simp only [List.length_append, List.length_cons, List.length_nil, List.length_drop, hl]; omega, ?_, ?_, ?_, ht⟩
  · rw [List.append_assoc, List.take_append_of_le_length (by omega), List.take_take, show min (ws.length * 2) (ws.length * 2 + 1) = ws.length * 2 by omega]
    exact h1
  · rw [List.append_assoc, List.getD_eq_getElem?_getD, List.getElem?_append_left (by omega), List.getElem?_take_of_lt (by omega), ← List.getD_eq_getElem?_getD]
    exact h2
  · rw [List.append_assoc, List.getD_eq_getElem?_getD, List.getElem?_append_right (by omega), hl]
    simp
theorem wat_more {L : LL} {T : TT} {o : Nat} {ws : List Ln} {x : Ln} {p : Nat} {w : List UInt8} {cs c2 : List V} {tok tok2 : Nat} (ho0 : 0 < o) (ho : L[o]? = some c2) (hf : (ws.length + 1) * 2 ≤ cs.length) (h1 : (cs.take (ws.length * 2)).map (V.strip 1) = (ws.map lv).flatMap V.cells)
    (h2 : cs.getD (ws.length * 2) .nils = .int .i64 (x.1 : Int)) (h3 : cs.getD (ws.length * 2 + 1) .nils = .bytes x.2 (some tok2)) (hr : List V) (hc : c2 = cs.take ((ws.length + 1) * 2) ++ [.int .i64 (p : Int), .nils] ++ hr) (ht : T[tok]? = some (w.length, 5)) :
    WAt (L.set o (c2.take ((ws.length + 1) * 2 + 1) ++ [.bytes w (some tok)] ++ c2.drop ((ws.length + 1) * 2 + 1 + 1))) T (ws ++ [x] ++ [(p, w)]) (.vrow 26 2 o (ws.length + 1 + 1)) := by
  have hl : (cs.take ((ws.length + 1) * 2)).length = (ws.length + 1) * 2 := by rw [List.length_take]; omega
  have e : (ws ++ [x]).length = ws.length + 1 := by simp
  have := wat_put (L := L) (T := T) (o := o) (ws := ws ++ [x]) (p := p) (w := w) (cs := c2) (tok := tok) ho0 ho (by rw [hc, e]; simp only [List.length_append, hl, List.length_cons, List.length_nil]; omega) (by
    rw [hc, e, List.append_assoc, List.take_left' hl]
    exact wat_all hf h1 h2 h3) (by
    rw [hc, e, List.append_assoc, List.getD_eq_getElem?_getD, List.getElem?_append_right (by omega), hl]
    simp) ht
  rwa [e] at this
theorem wat_first {L : LL} {T : TT} {p : Nat} {w : List UInt8} {tok : Nat} (hl : 0 < L.length) (ht : T[tok]? = some (w.length, 5)) : WAt (L ++ [[.int .i64 (p : Int), .bytes w (some tok)]]) T ([] ++ [(p, w)]) (.vrow 26 2 L.length 1) :=
  .inr ⟨L.length, [], (p, w), [.int .i64 (p : Int), .bytes w (some tok)], tok, rfl, rfl, hl, by simp, by simp, rfl, rfl, rfl, ht⟩
def G8 : Fns := { fn := fun f => if f = 22 then some blankM else G7.fn f, mu := fun d => .no, hp := fun f => G7.hp f, ord := fun i => none, it := fun f => G7.it f }
theorem G8_fn (f : FuncId) : G8.fn f = (if f = 22 then some blankM else G7.fn f) := rfl
theorem G8_mu (d : Tmp) : G8.mu d = (.no) := rfl
theorem G8_hp (f : FuncId) : G8.hp f = (G7.hp f) := rfl
theorem G8_ord (i : Nat) : G8.ord i = (none) := rfl
theorem G8_it (f : FuncId) : G8.it f = (G7.it f) := rfl
theorem G8_hy (b : Nat) : G8.hy b = none := rfl
theorem G8ok : FnsOk Try.prog G8 := FnsOk.same (FnsOk.cons G7ok _ _ blank_ok Try.func22 (by decide) (fun h => by cases h)) rfl rfl
attribute [bitvec_to_nat] G8_fn G8_mu G8_hp G8_ord G8_it G8_hy
def G8w : Fns := { fn := fun f => G8.fn f, mu := fun d => bif d == 37 then .grow else bif d == 53 then .seq else bif d == 54 then .seq else .no, hp := fun f => G8.hp f, ord := fun i => if i = 9 then some [(0, 0), (1, 0), (2, 0), (3, 0), (4, 0), (5, 0), (6, 3), (7, 0), (9, 0), (8, 2), (10, 0), (11, 0), (12, 1), (13, 4), (14, 0), (15, 0), (16, 4)] else none, it := fun f => G8.it f }
theorem G8w_fn (f : FuncId) : G8w.fn f = (G8.fn f) := rfl
theorem G8w_mu (d : Tmp) : G8w.mu d = (bif d == 37 then .grow else bif d == 53 then .seq else bif d == 54 then .seq else .no) := rfl
theorem G8w_hp (f : FuncId) : G8w.hp f = (G8.hp f) := rfl
theorem G8w_ord (i : Nat) : G8w.ord i = (if i = 9 then some [(0, 0), (1, 0), (2, 0), (3, 0), (4, 0), (5, 0), (6, 3), (7, 0), (9, 0), (8, 2), (10, 0), (11, 0), (12, 1), (13, 4), (14, 0), (15, 0), (16, 4)] else none) := rfl
theorem G8w_it (f : FuncId) : G8w.it f = (G8.it f) := rfl
theorem G8w_hy (b : Nat) : G8w.hy b = none := rfl
theorem G8wok : FnsOk Try.prog G8w := FnsOk.same G8ok rfl rfl
attribute [bitvec_to_nat] G8w_fn G8w_mu G8w_hp G8w_ord G8w_it G8w_hy
set_option maxHeartbeats 4000000 in
set_option maxRecDepth 100000 in
theorem rwords_ok : FSound Try.prog 15 wordsM := by
  refine fsoundV tysOk G8wok mix Try.func15 rfl ?_
  intro args p r fr hm hp
  unfold wordsM at hm
  split at hm
  · rename_i a b t
    cases hm
    obtain ⟨h0, h1, h2⟩ := hp
    obtain ⟨a, rfl⟩ := Int.eq_ofNat_of_zero_le h0
    refine ⟨rfl, ?_⟩
    simp (maxSteps:=2000000) only[bitvec_to_nat,seval,↓tcd,Try.f15,blankM]
    refine awpLoop_intro (α := {q : (Nat × List Ln) × V × LL × TT // (q.1.1 ≤ b.length ∧ q.1.2.length ≤ q.1.1 ∧ ∀ x ∈ q.1.2, x.2.length ≤ q.1.1) ∧ Mid a b q.1.1 q.1.2 ∧ WAt q.2.2.1 q.2.2.2 q.1.2 q.2.1 ∧ q.2.2.1[0]? = some [.int .i64 (a : Int), .bytes b none]})
      (fun q => ⟨[.any, .box 0 0, .any, q.1.2.1, .int .i64 (q.1.1.1 : Int), .any, .any, .any, .any, .any, .any, .any, .any, .any, .any, .any, .any, .any, .any, .any, .any, .any, .any, .any, .any, .any, .any, .any, .any, .any, .any, .any, .any, .any, .any, .any, .any, .any, .any, .any, .any, .any, .any, .any, .any, .any, .any, .any, .any, .any, .any, .any, .any, .any, .any, .any, .any, .any], q.1.2.2.1, q.1.2.2.2⟩) (fun q => b.length - q.1.1.1)
      ⟨((0, []), .nils, [[.int .i64 (a : Int), .bytes b none]], []), by simp, mid_zero _ _, .inl ⟨rfl, rfl⟩, rfl⟩ ?_ ?_ (fun q => ⟨Nat.zero_le _, Nat.zero_le _⟩)
    · simp (maxSteps:=2000000) only[bitvec_to_nat,seval,↓tcd,leLL_refl]
      all_goals simp
    · rintro ⟨⟨⟨i, ls⟩, out, L1, T1⟩, ⟨hi, hls, hsm⟩, hmid, hat, hl0⟩
      simp only at hi hls hsm hmid hat hl0
      by_cases hlt : i < b.length
      · have hd : decide ((i : Int) < (b.length : Int)) = true := decide_eq_true (by omega)
        have hg : b.getD i 0 = b[i] := by simp [List.getD_eq_getElem?_getD, List.getElem?_eq_getElem hlt]
        have hcl := (b[i]).toNat_lt
        by_cases hbl : isBl b[i] = true
        · simp (maxSteps:=2000000) only[bitvec_to_nat,seval,↓tcd,Try.f15,blankM,Int.toNat_natCast,hl0,hd,hg,hbl,UInt8.ofNat_toNat]
          rw [i64w (by omega) (by omega)]
          refine ⟨⟨by omega, by omega⟩, ⟨by omega, by omega⟩, ⟨((i + 1, ls), out, L1, T1), ⟨by simp only; omega, by simp only; omega, fun x hx => Nat.le_succ_of_le (hsm x hx)⟩, mid_blank hmid hlt hbl, hat, hl0⟩, ?_, by simp only; omega⟩
          simp (maxSteps:=2000000) only[bitvec_to_nat,seval,↓tcd,leLL_refl]
          exact ⟨le_self _, by simp⟩
        · have hbl : isBl b[i] = false := by simpa using hbl
          have hw1 : 0 < i → IntKind.i64.wrap ((i : Int) - 1) = ((i - 1 : Nat) : Int) := fun h => by rw [i64w (by omega) (by omega)]; omega
          cases hiw : inWord b i with
          | true =>
            have hi0 : 0 < i := by unfold inWord at hiw; simp at hiw; exact hiw.1
            have hpr : isBl (b.getD (i - 1) 0) = false := by unfold inWord at hiw; simp at hiw; simpa using hiw.2
            have hd0 : decide ((i : Int) = 0) = false := decide_eq_false (by omega)
            rcases hat with ⟨rfl, _⟩ | ⟨o, ws, x, cs, tok, rfl, rfl, ho0, ho, hfit, hw3, hw4, hw5, htk⟩
            · exact absurd rfl (mid_some hmid hiw)
            · have hw6 : IntKind.i64.wrap (((ws.length + 1 : Nat) : Int) - 1) = (ws.length : Int) := by
                simp only [List.length_append, List.length_cons, List.length_nil] at hls
                rw [i64w (by omega) (by omega)]; omega
              simp (maxSteps:=2000000) only[bitvec_to_nat,seval,↓tcd,Try.f15,blankM,Int.toNat_natCast,hl0,hd,hg,hbl,UInt8.ofNat_toNat,hd0,(hw1 hi0),hpr,ho,hw6,hw4,hw5,htk]
              have hil : i < b.length := hlt
              have hxl : x.2.length ≤ i := hsm x (by simp)
              have htl := (List.getElem?_eq_some_iff.1 htk).1
              rw [i64w (by omega) (by omega)]
              refine ⟨⟨by omega, by omega⟩, ⟨by omega, by omega⟩, ⟨by omega, by omega⟩, ⟨by omega, by have := (b.getD (i - 1) 0).toNat_lt; omega⟩, by kernel_rfl, ⟨by omega, by omega⟩, by omega, ⟨by omega, by omega⟩, ⟨by omega, by omega⟩, by omega, ⟨by rw [List.getElem?_append_left htl]; exact htk, mb _ (by omega)⟩, ⟨by omega, by omega⟩, by omega, ?_⟩
              refine ⟨⟨((i + 1, ws ++ [(x.1, x.2 ++ [b[i]])]), _, _, _), ⟨by simp only; omega, by simp only [List.length_append, List.length_cons, List.length_nil] at hls ⊢; omega, fun y hy => (by
                simp only [List.mem_append, List.mem_singleton] at hy
                rcases hy with hy | rfl
                · exact Nat.le_succ_of_le (hsm y (by simp [hy]))
                · simp; exact hxl)⟩, mid_more hmid hlt hbl hiw, wat_put (tok := tok) ho0 ho hfit hw3 hw4 (T := (T1 ++ [(1, 5)]).set tok ((x.2 ++ [b[i]]).length, 5)) (List.getElem?_set_self (by simp; omega)), by rw [List.getElem?_set_ne (by omega)]; exact hl0⟩, ?_, by simp only; omega⟩
              simp (maxSteps:=2000000) only[bitvec_to_nat,seval,↓tcd,leLL_refl]
              all_goals simp
          | false =>
            have hsm2 : ∀ x ∈ ls ++ [(a + i, [b[i]])], x.2.length ≤ i + 1 := fun y hy => by
              simp only [List.mem_append, List.mem_singleton] at hy
              rcases hy with hy | rfl
              · exact Nat.le_succ_of_le (hsm y hy)
              · simp
            have hlen2 : (ls ++ [(a + i, [b[i]])]).length ≤ i + 1 := by simp; omega
            have hmid2 := mid_new hmid hlt hbl hiw
            have hwa : IntKind.i64.wrap ((a : Int) + (i : Int)) = ((a + i : Nat) : Int) := by rw [i64w (by omega) (by omega)]; omega
            have hwi : IntKind.i64.wrap ((i : Int) + 1) = ((i + 1 : Nat) : Int) := by rw [i64w (by omega) (by omega)]; omega
            have hl0n := (List.getElem?_eq_some_iff.1 hl0).1
            have hpb : 0 < i → isBl (b.getD (i - 1) 0) = true := fun h => by unfold inWord at hiw; simpa [h] using hiw
            rcases hat with ⟨rfl, rfl⟩ | ⟨o, ws, x, cs, tok, rfl, rfl, ho0, ho, hfit, hw3, hw4, hw5, htk⟩
            · have hA : (L1 ++ [[V.int .i64 ((a + i : Nat) : Int), V.nils]])[0]? = some [V.int .i64 (a : Int), V.bytes b none] := by rw [List.getElem?_append_left (by omega)]; exact hl0
              have hB : (L1 ++ [[V.int .i64 ((a + i : Nat) : Int), V.nils]])[L1.length]? = some [V.int .i64 ((a + i : Nat) : Int), V.nils] := by simp
              have w0 : IntKind.i64.wrap 0 = 0 := by rw [i64w (by omega) (by omega)]
              by_cases hi0 : i = 0
              · have hd0 : decide ((i : Int) = 0) = true := decide_eq_true (by omega)
                simp (maxSteps:=2000000) only[bitvec_to_nat,seval,↓tcd,Try.f15,blankM,Int.toNat_natCast,hl0,hd,hg,hbl,UInt8.ofNat_toNat,hwa,hwi,hA,hB,w0,hd0,List.flatMap_cons,List.flatMap_nil]
                refine ⟨⟨by omega, by omega⟩, ⟨by omega, by omega⟩, mb _ (by omega), by kernel_rfl, ⟨by omega, by omega⟩, ⟨by omega, by omega⟩, mb _ (by omega), ?_⟩
                refine ⟨⟨((i + 1, [] ++ [(a + i, [b[i]])]), _, _, T1 ++ [(1, 26)] ++ [(1, 5)] ++ [(1, 5)]), ⟨by simp only; omega, hlen2, hsm2⟩, hmid2, wat_first (w := [b[i]]) hl0n (tok := (T1 ++ [(1, 26)] ++ [(1, 5)]).length) (by rw [List.getElem?_append_right (Nat.le_refl _)]; simp), by rw [List.getElem?_append_left (by omega)]; exact hl0⟩, ?_, by simp only; omega⟩
                simp (maxSteps:=2000000) only[bitvec_to_nat,seval,↓tcd,leLL_refl]
                all_goals simp
              · have hd0 : decide ((i : Int) = 0) = false := decide_eq_false (by omega)
                simp (maxSteps:=2000000) only[bitvec_to_nat,seval,↓tcd,Try.f15,blankM,Int.toNat_natCast,hl0,hd,hg,hbl,UInt8.ofNat_toNat,hwa,hwi,hA,hB,w0,hd0,(hw1 (Nat.pos_of_ne_zero hi0)),(hpb (Nat.pos_of_ne_zero hi0)),List.flatMap_cons,List.flatMap_nil]
                refine ⟨⟨by omega, by omega⟩, ⟨by omega, by omega⟩, ⟨by omega, by omega⟩, ⟨by omega, by have := (b.getD (i - 1) 0).toNat_lt; omega⟩, mb _ (by omega), by kernel_rfl, ⟨by omega, by omega⟩, ⟨by omega, by omega⟩, mb _ (by omega), ?_⟩
                refine ⟨⟨((i + 1, [] ++ [(a + i, [b[i]])]), _, _, T1 ++ [(1, 26)] ++ [(1, 5)] ++ [(1, 5)]), ⟨by simp only; omega, hlen2, hsm2⟩, hmid2, wat_first (w := [b[i]]) hl0n (tok := (T1 ++ [(1, 26)] ++ [(1, 5)]).length) (by rw [List.getElem?_append_right (Nat.le_refl _)]; simp), by rw [List.getElem?_append_left (by omega)]; exact hl0⟩, ?_, by simp only; omega⟩
                simp (maxSteps:=2000000) only[bitvec_to_nat,seval,↓tcd,leLL_refl]
                all_goals simp
            · have hi0 : 0 < i := by simp at hls; omega
              have hd0 : decide ((i : Int) = 0) = false := decide_eq_false (by omega)
              have hw6 : IntKind.i64.wrap (((ws.length + 1 + 1 : Nat) : Int) - 1) = ((ws.length + 1 : Nat) : Int) := by
                simp only [List.length_append, List.length_cons, List.length_nil] at hls
                rw [i64w (by omega) (by omega)]; omega
              have hol := (List.getElem?_eq_some_iff.1 ho).1
              have hl : (cs.take ((ws.length + 1) * 2)).length = (ws.length + 1) * 2 := by rw [List.length_take]; omega
              have hg2 : ∀ r : List V, (cs.take ((ws.length + 1) * 2) ++ [V.int .i64 ((a + i : Nat) : Int), V.nils] ++ r).getD ((ws.length + 1) * 2 + 1) V.nils = V.nils := fun r => by
                rw [List.append_assoc, List.getD_eq_getElem?_getD, List.getElem?_append_right (by omega), hl]
                simp
              obtain ⟨cm, hcm⟩ : ∃ c, c = cs.take ((ws.length + 1) * 2) ++ [V.int .i64 ((a + i : Nat) : Int), V.nils] := ⟨_, rfl⟩
              obtain ⟨cp, hcp⟩ : ∃ c, c = cm ++ cs.drop ((ws.length + 1) * 2 + 2) := ⟨_, rfl⟩
              have hp2 : cp.getD ((ws.length + 1) * 2 + 1) V.nils = V.nils := by rw [hcp, hcm]; exact hg2 _
              have hm2 : cm.getD ((ws.length + 1) * 2 + 1) V.nils = V.nils := by rw [hcm]; have := hg2 []; rwa [List.append_nil] at this
              have hml : (ws.length + 1) * 2 + 2 = cm.length := by rw [hcm]; simp only [List.length_append, hl, List.length_cons, List.length_nil]
              have hpl : (ws.length + 1) * 2 + 2 ≤ cp.length := by rw [hcp, List.length_append]; omega
              have hP1 : (L1.set o cp)[o]? = some cp := List.getElem?_set_self hol
              have hP0 : (L1.set o cp)[0]? = some [V.int .i64 (a : Int), V.bytes b none] := by rw [List.getElem?_set_ne (by omega)]; exact hl0
              have hM1 : (L1 ++ [cm])[L1.length]? = some cm := by simp
              have hM0 : (L1 ++ [cm])[0]? = some [V.int .i64 (a : Int), V.bytes b none] := by rw [List.getElem?_append_left (by omega)]; exact hl0
              simp (maxSteps:=2000000) only[bitvec_to_nat,seval,↓tcd,Try.f15,blankM,Int.toNat_natCast,hl0,hd,hg,hbl,UInt8.ofNat_toNat,hwa,hwi,hd0,(hw1 hi0),(hpb hi0),List.flatMap_cons,List.flatMap_nil,ho,hw6,← hcp,← hcm,hp2,hm2,hP1,hP0,hM1,hM0]
              have hcne : ¬ cs = [] := by intro e; rw [e] at hfit; simp at hfit
              have hbx := (b.getD (i - 1) 0).toNat_lt
              have hwl : ws.length + 1 ≤ i := by simpa using hls
              refine ⟨⟨by omega, by omega⟩, ⟨by omega, by omega⟩, ⟨by omega, by omega⟩, ⟨by omega, by omega⟩, ⟨hfit, hcne, mb _ (by omega)⟩, ?_, ?_⟩
              · refine ⟨by kernel_rfl, ⟨by omega, by omega⟩, by omega, ⟨by omega, by omega⟩, ⟨by omega, by omega⟩, by omega, mb _ (by omega), ⟨by omega, by omega⟩, by omega, ?_⟩
                have hW := wat_more (T := T1 ++ [(1, 26)] ++ [(1, 5)] ++ [(1, 5)]) (w := [b[i]]) (tok := (T1 ++ [(1, 26)] ++ [(1, 5)]).length) ho0 hP1 hfit hw3 hw4 hw5 (cs.drop ((ws.length + 1) * 2 + 2)) (by rw [hcp, hcm]) (by rw [List.getElem?_append_right (Nat.le_refl _)]; simp)
                rw [List.set_set] at hW
                refine ⟨⟨((i + 1, ws ++ [x] ++ [(a + i, [b[i]])]), _, _, T1 ++ [(1, 26)] ++ [(1, 5)] ++ [(1, 5)]), ⟨by simp only; omega, hlen2, hsm2⟩, hmid2, hW, by rw [List.getElem?_set_ne (by omega)]; exact hl0⟩, ?_, by simp only; omega⟩
                simp (maxSteps:=2000000) only[bitvec_to_nat,seval,↓tcd,leLL_refl]
                all_goals simp
              · refine ⟨by kernel_rfl, ⟨by omega, by omega⟩, by omega, ⟨by omega, by omega⟩, ⟨by omega, by omega⟩, by omega, mb _ (by omega), ⟨by omega, by omega⟩, by omega, ?_⟩
                have hW := wat_more (T := T1 ++ [(1, 26)] ++ [(1, 5)] ++ [(1, 5)]) (w := [b[i]]) (tok := (T1 ++ [(1, 26)] ++ [(1, 5)]).length) hl0n hM1 hfit hw3 hw4 hw5 [] (by rw [hcm, List.append_nil]) (by rw [List.getElem?_append_right (Nat.le_refl _)]; simp)
                rw [List.set_append_right _ _ (Nat.le_refl _), Nat.sub_self] at hW
                refine ⟨⟨((i + 1, ws ++ [x] ++ [(a + i, [b[i]])]), _, _, T1 ++ [(1, 26)] ++ [(1, 5)] ++ [(1, 5)]), ⟨by simp only; omega, hlen2, hsm2⟩, hmid2, hW, by rw [List.getElem?_append_left (by omega)]; exact hl0⟩, ?_, by simp only; omega⟩
                simp (maxSteps:=2000000) only[bitvec_to_nat,seval,↓tcd,leLL_refl]
                all_goals simp
      · have hd : decide ((i : Int) < (b.length : Int)) = false := decide_eq_false (by omega)
        simp (maxSteps:=2000000) only[bitvec_to_nat,seval,↓tcd,Try.f15,blankM,Int.toNat_natCast,hl0,hd,retPostV]
        have e : i = b.length := by omega
        subst e
        rw [← mid_end hmid]
        exact wat_ret hat
  · cases hm
def G9 : Fns := { fn := fun f => if f = 15 then some wordsM else G8.fn f, mu := fun d => .no, hp := fun f => G8.hp f, ord := fun i => none, it := fun f => G8.it f }
theorem G9_fn (f : FuncId) : G9.fn f = (if f = 15 then some wordsM else G8.fn f) := rfl
theorem G9_mu (d : Tmp) : G9.mu d = (.no) := rfl
theorem G9_hp (f : FuncId) : G9.hp f = (G8.hp f) := rfl
theorem G9_ord (i : Nat) : G9.ord i = (none) := rfl
theorem G9_it (f : FuncId) : G9.it f = (G8.it f) := rfl
theorem G9_hy (b : Nat) : G9.hy b = none := rfl
theorem G9ok : FnsOk Try.prog G9 := FnsOk.same (FnsOk.cons G8ok _ _ rwords_ok Try.func15 (by decide) (fun h => by cases h)) rfl rfl
attribute [bitvec_to_nat] G9_fn G9_mu G9_hp G9_ord G9_it G9_hy
end Go.Proofs.Ytckmcglkjfkghaa.Line
