import Derived.Test.YtckmcglkjfkghaaDoorAwX
import Derived.Test.YtckmcglkjfkghaaDoorLine2
namespace Go.Proofs.YtckmcglkjfkghaaDoor.Line
open Go Go.Proofs Go.Proofs.YtckmcglkjfkghaaDoor.Aw Go.Proofs.YtckmcglkjfkghaaDoor.LineM Go.Proofs.YtckmcglkjfkghaaDoor.Num Go.Proofs.YtckmcglkjfkghaaDoor.LibB
set_option linter.unusedSimpArgs false
set_option linter.unusedVariables false
def cutM : FM
  | [.bytes b _, .int .i64 f, .int .i64 t] => some (0 ≤ f ∧ f ≤ t ∧ t ≤ b.length ∧ b.length ≤ 1099511627776, lv (f.toNat, trim ((b.take t.toNat).drop f.toNat)), [])
  | _ => none
theorem trim_13 {b : List UInt8} {f t : Nat} (h1 : f < t) (h2 : t ≤ b.length) : trim ((b.take t).drop f) = if b.getD (t - 1) 0 = 13 then (b.take (t - 1)).drop f else (b.take t).drop f := by
  obtain ⟨t, rfl⟩ : ∃ k, t = k + 1 := ⟨t - 1, by omega⟩
  have hg : b.getD t 0 = b[t] := by simp [List.getD_eq_getElem?_getD, List.getElem?_eq_getElem (show t < b.length by omega)]
  have e : (b.take (t + 1)).drop f = (b.take t).drop f ++ [b[t]] := by
    rw [List.take_succ_eq_append_getElem (by omega), List.drop_append, List.length_take, show f - min t b.length = 0 by omega]
    rfl
  simp only [Nat.add_sub_cancel]
  rw [e, hg]
  by_cases h : b[t] = 13
  · rw [if_pos h, h, trim_snoc]
  · rw [if_neg h, trim_other _ h]
def listM : FM
  | [.bytes b _] => some (b.length ≤ 1099511627776, .list 2 ((linesF 0 b).map lv) none, [])
  | _ => none
def G7 : Fns := { fn := fun f => G6.fn f, mu := fun d => .no, hp := fun f => G6.hp f, ord := fun i => none, it := fun f => G6.it f }
theorem G7_fn (f : FuncId) : G7.fn f = (G6.fn f) := rfl
theorem G7_mu (d : Tmp) : G7.mu d = (.no) := rfl
theorem G7_hp (f : FuncId) : G7.hp f = (G6.hp f) := rfl
theorem G7_ord (i : Nat) : G7.ord i = (none) := rfl
theorem G7_it (f : FuncId) : G7.it f = (G6.it f) := rfl
theorem G7_hy (b : Nat) : G7.hy b = none := rfl
theorem G7ok : FnsOk Tryd.prog G7 := FnsOk.same G6ok rfl rfl
attribute [bitvec_to_nat] G7_fn G7_mu G7_hp G7_ord G7_it G7_hy
def G7a : Fns := { fn := fun f => G7.fn f, mu := fun d => bif d == 3 then .nil 46 else .no, hp := fun f => G7.hp f, ord := fun i => none, it := fun f => G7.it f }
theorem G7a_fn (f : FuncId) : G7a.fn f = (G7.fn f) := rfl
theorem G7a_mu (d : Tmp) : G7a.mu d = (bif d == 3 then .nil 46 else .no) := rfl
theorem G7a_hp (f : FuncId) : G7a.hp f = (G7.hp f) := rfl
theorem G7a_ord (i : Nat) : G7a.ord i = (none) := rfl
theorem G7a_it (f : FuncId) : G7a.it f = (G7.it f) := rfl
theorem G7a_hy (b : Nat) : G7a.hy b = none := rfl
theorem G7aok : FnsOk Tryd.prog G7a := FnsOk.same G7ok rfl rfl
attribute [bitvec_to_nat] G7a_fn G7a_mu G7a_hp G7a_ord G7a_it G7a_hy
def sameM : FM
  | [.list 2 l _, .list 2 m _] => some (l = (l.map unlv).map lv ∧ m = (m.map unlv).map lv ∧ l.length ≤ 1099511627776, .bool (decide (l.map unlv = m.map unlv)), [])
  | _ => none
def blankM : FM
  | [.int .u8 c] => some (0 ≤ c ∧ c < 256, .bool (isBl (UInt8.ofNat c.toNat)), [])
  | _ => none
def WAt (L : List (List V)) (T : List (Nat × TypeId)) (ls : List Ln) (v : V) : Prop :=
  (ls = [] ∧ v = .nils) ∨ ∃ o ws x cs tok, v = .vrow 35 2 o (ws.length + 1) ∧ ls = ws ++ [x] ∧ 0 < o ∧ L[o]? = some cs ∧ (ws.length + 1) * 2 ≤ cs.length ∧
    (cs.take (ws.length * 2)).map (V.strip 1) = (ws.map lv).flatMap V.cells ∧ cs.getD (ws.length * 2) .nils = .int .i64 (x.1 : Int) ∧ cs.getD (ws.length * 2 + 1) .nils = .bytes x.2 (some tok) ∧ T[tok]? = some (x.2.length, 5)
theorem wat_all {ws : List Ln} {x : Ln} {cs : List V} {tok : Nat} (hf : (ws.length + 1) * 2 ≤ cs.length) (h1 : (cs.take (ws.length * 2)).map (V.strip 1) = (ws.map lv).flatMap V.cells)
    (h2 : cs.getD (ws.length * 2) .nils = .int .i64 (x.1 : Int)) (h3 : cs.getD (ws.length * 2 + 1) .nils = .bytes x.2 (some tok)) : (cs.take ((ws.length + 1) * 2)).map (V.strip 1) = ((ws ++ [x]).map lv).flatMap V.cells := by
  have e1 : cs[ws.length * 2]? = some (.int .i64 (x.1 : Int)) := by rw [List.getElem?_eq_getElem (by omega)]; rw [List.getD_eq_getElem?_getD, List.getElem?_eq_getElem (by omega)] at h2; simpa using h2
  have e2 : cs[ws.length * 2 + 1]? = some (.bytes x.2 (some tok)) := by rw [List.getElem?_eq_getElem (by omega)]; rw [List.getD_eq_getElem?_getD, List.getElem?_eq_getElem (by omega)] at h3; simpa using h3
  rw [show (ws.length + 1) * 2 = ws.length * 2 + 1 + 1 by omega, List.take_add_one, List.take_add_one, e1, e2, List.map_append, List.map_append, List.map_append, h1, List.flatMap_append]
  simp [lv, V.cells, V.strip]
theorem wat_ret {L : LL} {T : TT} {ls : List Ln} {v : V} (h : WAt L T ls v) : RetV L v (.list 2 (ls.map lv) none) := by
  rcases h with ⟨rfl, rfl⟩ | ⟨o, ws, x, cs, tok, rfl, rfl, _, ho, hf, h1, h2, h3, _⟩
  · exact ⟨0, ⟨rfl, rfl⟩, by simp [V.clean]⟩
  · refine ⟨(ws ++ [x]).map lv, rfl, 1, cs, ho, hf, by simp, ?_, (wat_all hf h1 h2 h3).symm, lv_clean _⟩
    intro y hy
    simp only [List.mem_map] at hy
    obtain ⟨z, _, rfl⟩ := hy
    rfl
theorem wat_put {L : LL} {T : TT} {o : Nat} {ws : List Ln} {p : Nat} {w : List UInt8} {cs : List V} {tok : Nat} (ho0 : 0 < o) (ho : L[o]? = some cs) (hf : (ws.length + 1) * 2 ≤ cs.length) (h1 : (cs.take (ws.length * 2)).map (V.strip 1) = (ws.map lv).flatMap V.cells)
    (h2 : cs.getD (ws.length * 2) .nils = .int .i64 (p : Int)) (ht : T[tok]? = some (w.length, 5)) :
    WAt (L.set o (cs.take (ws.length * 2 + 1) ++ [.bytes w (some tok)] ++ cs.drop (ws.length * 2 + 1 + 1))) T (ws ++ [(p, w)]) (.vrow 35 2 o (ws.length + 1)) := by
  have hol := (List.getElem?_eq_some_iff.1 ho).1
  have hl : (cs.take (ws.length * 2 + 1)).length = ws.length * 2 + 1 := by rw [List.length_take]; omega
  refine .inr ⟨o, ws, (p, w), _, tok, rfl, rfl, ho0, List.getElem?_set_self hol, by simp only [List.length_append, List.length_cons, List.length_nil, List.length_drop, hl]; omega, ?_, ?_, ?_, ht⟩
  · rw [List.append_assoc, List.take_append_of_le_length (by omega), List.take_take, show min (ws.length * 2) (ws.length * 2 + 1) = ws.length * 2 by omega]
    exact h1
  · rw [List.append_assoc, List.getD_eq_getElem?_getD, List.getElem?_append_left (by omega), List.getElem?_take_of_lt (by omega), ← List.getD_eq_getElem?_getD]
    exact h2
  · rw [List.append_assoc, List.getD_eq_getElem?_getD, List.getElem?_append_right (by omega), hl]
    simp
theorem wat_more {L : LL} {T : TT} {o : Nat} {ws : List Ln} {x : Ln} {p : Nat} {w : List UInt8} {cs c2 : List V} {tok tok2 : Nat} (ho0 : 0 < o) (ho : L[o]? = some c2) (hf : (ws.length + 1) * 2 ≤ cs.length) (h1 : (cs.take (ws.length * 2)).map (V.strip 1) = (ws.map lv).flatMap V.cells)
    (h2 : cs.getD (ws.length * 2) .nils = .int .i64 (x.1 : Int)) (h3 : cs.getD (ws.length * 2 + 1) .nils = .bytes x.2 (some tok2)) (hr : List V) (hc : c2 = cs.take ((ws.length + 1) * 2) ++ [.int .i64 (p : Int), .nils] ++ hr) (ht : T[tok]? = some (w.length, 5)) :
    WAt (L.set o (c2.take ((ws.length + 1) * 2 + 1) ++ [.bytes w (some tok)] ++ c2.drop ((ws.length + 1) * 2 + 1 + 1))) T (ws ++ [x] ++ [(p, w)]) (.vrow 35 2 o (ws.length + 1 + 1)) := by
  have hl : (cs.take ((ws.length + 1) * 2)).length = (ws.length + 1) * 2 := by rw [List.length_take]; omega
  have e : (ws ++ [x]).length = ws.length + 1 := by simp
  have := wat_put (L := L) (T := T) (o := o) (ws := ws ++ [x]) (p := p) (w := w) (cs := c2) (tok := tok) ho0 ho (by rw [hc, e]; simp only [List.length_append, hl, List.length_cons, List.length_nil]; omega) (by
    rw [hc, e, List.append_assoc, List.take_left' hl]
    exact wat_all hf h1 h2 h3) (by
    rw [hc, e, List.append_assoc, List.getD_eq_getElem?_getD, List.getElem?_append_right (by omega), hl]
    simp) ht
  rwa [e] at this
theorem wat_first {L : LL} {T : TT} {p : Nat} {w : List UInt8} {tok : Nat} (hl : 0 < L.length) (ht : T[tok]? = some (w.length, 5)) : WAt (L ++ [[.int .i64 (p : Int), .bytes w (some tok)]]) T ([] ++ [(p, w)]) (.vrow 35 2 L.length 1) :=
  .inr ⟨L.length, [], (p, w), [.int .i64 (p : Int), .bytes w (some tok)], tok, rfl, rfl, hl, by simp, by simp, rfl, rfl, rfl, ht⟩
def G8 : Fns := { fn := fun f => G7.fn f, mu := fun d => .no, hp := fun f => G7.hp f, ord := fun i => none, it := fun f => G7.it f }
theorem G8_fn (f : FuncId) : G8.fn f = (G7.fn f) := rfl
theorem G8_mu (d : Tmp) : G8.mu d = (.no) := rfl
theorem G8_hp (f : FuncId) : G8.hp f = (G7.hp f) := rfl
theorem G8_ord (i : Nat) : G8.ord i = (none) := rfl
theorem G8_it (f : FuncId) : G8.it f = (G7.it f) := rfl
theorem G8_hy (b : Nat) : G8.hy b = none := rfl
theorem G8ok : FnsOk Tryd.prog G8 := FnsOk.same G7ok rfl rfl
attribute [bitvec_to_nat] G8_fn G8_mu G8_hp G8_ord G8_it G8_hy
def G8w : Fns := { fn := fun f => G8.fn f, mu := fun d => bif d == 37 then .grow else bif d == 53 then .seq else bif d == 54 then .seq else .no, hp := fun f => G8.hp f, ord := fun i => none, it := fun f => G8.it f }
theorem G8w_fn (f : FuncId) : G8w.fn f = (G8.fn f) := rfl
theorem G8w_mu (d : Tmp) : G8w.mu d = (bif d == 37 then .grow else bif d == 53 then .seq else bif d == 54 then .seq else .no) := rfl
theorem G8w_hp (f : FuncId) : G8w.hp f = (G8.hp f) := rfl
theorem G8w_ord (i : Nat) : G8w.ord i = (none) := rfl
theorem G8w_it (f : FuncId) : G8w.it f = (G8.it f) := rfl
theorem G8w_hy (b : Nat) : G8w.hy b = none := rfl
theorem G8wok : FnsOk Tryd.prog G8w := FnsOk.same G8ok rfl rfl
attribute [bitvec_to_nat] G8w_fn G8w_mu G8w_hp G8w_ord G8w_it G8w_hy
def G9 : Fns := { fn := fun f => G8.fn f, mu := fun d => .no, hp := fun f => G8.hp f, ord := fun i => none, it := fun f => G8.it f }
theorem G9_fn (f : FuncId) : G9.fn f = (G8.fn f) := rfl
theorem G9_mu (d : Tmp) : G9.mu d = (.no) := rfl
theorem G9_hp (f : FuncId) : G9.hp f = (G8.hp f) := rfl
theorem G9_ord (i : Nat) : G9.ord i = (none) := rfl
theorem G9_it (f : FuncId) : G9.it f = (G8.it f) := rfl
theorem G9_hy (b : Nat) : G9.hy b = none := rfl
theorem G9ok : FnsOk Tryd.prog G9 := FnsOk.same G8ok rfl rfl
attribute [bitvec_to_nat] G9_fn G9_mu G9_hp G9_ord G9_it G9_hy
end Go.Proofs.YtckmcglkjfkghaaDoor.Line
