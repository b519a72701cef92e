import Derived.Test.YtckmcglkjfkghaaAwX
import Derived.Test.YtckmcglkjfkghaaEdge2
namespace Go.Proofs.Ytckmcglkjfkghaa.Edge
open Go Go.Proofs Go.Proofs.Ytckmcglkjfkghaa.Aw Go.Proofs.Ytckmcglkjfkghaa.Num Go.Proofs.Ytckmcglkjfkghaa.VaryM Go.Proofs.Ytckmcglkjfkghaa.LineM Go.Proofs.Ytckmcglkjfkghaa.EdgeM
open Go.Proofs.Ytckmcglkjfkghaa.Vary (fixM fixF)
open Go.Proofs.Ytckmcglkjfkghaa.Line (cloneM wordsM)
set_option linter.unusedSimpArgs false
set_option linter.unusedVariables false
def shownM : FM
  | [] => some (True, .bool true, [])
  | _ => none
def G4 : Fns := { fn := fun f => if f = 6 then some fewM else if f = 8 then some sameM else if f = 9 then some parseM else if f = 10 then some parseM else if f = 12 then some digAllM else G3.fn f, mu := fun d => .no, hp := fun f => G3.hp f, ord := fun i => none, it := fun f => G3.it f }
theorem G4_fn (f : FuncId) : G4.fn f = (if f = 6 then some fewM else if f = 8 then some sameM else if f = 9 then some parseM else if f = 10 then some parseM else if f = 12 then some digAllM else G3.fn f) := rfl
theorem G4_mu (d : Tmp) : G4.mu d = (.no) := rfl
theorem G4_hp (f : FuncId) : G4.hp f = (G3.hp f) := rfl
theorem G4_ord (i : Nat) : G4.ord i = (none) := rfl
theorem G4_it (f : FuncId) : G4.it f = (G3.it f) := rfl
theorem G4_hy (b : Nat) : G4.hy b = none := rfl
theorem G4ok : FnsOk Try.prog G4 := FnsOk.same (FnsOk.cons (FnsOk.cons (FnsOk.cons (FnsOk.cons (FnsOk.cons G3ok _ _ dig_ok Try.func12 (by decide) (fun h => by cases h)) _ _ rparse_ok Try.func10 (by decide) (fun h => by cases h)) _ _ parse_ok Try.func9 (by decide) (fun h => by cases h)) _ _ same_ok Try.func8 (by decide) (fun h => by cases h)) _ _ few_ok Try.func6 (by decide) (fun h => by cases h)) rfl rfl
attribute [bitvec_to_nat] G4_fn G4_mu G4_hp G4_ord G4_it G4_hy
set_option maxHeartbeats 1000000 in
theorem shown_ok : FSound Try.prog 7 shownM := by
  refine fsound tysOk G4ok mix Try.func7 rfl ?_
  intro args p r fr hm hp
  unfold shownM at hm
  split at hm
  · cases hm
    have e1 : labelF [50, 53, 56] true = some [0, 0, 1, 2] := by decide
    have e2 : labelF [48, 49] true = none := by decide
    have e3 : parseF 0 [97, 32, 98, 32, 99] false = ⟨false, [], [], 80, 0⟩ := by decide
    simp (maxSteps:=2000000) only[bitvec_to_nat,seval,↓tcd,Try.f7,labelM,parseM,optV,e1,e2,e3,itv,Option.isSome_none]
  · cases hm
def G5 : Fns := { fn := fun f => if f = 7 then some shownM else G4.fn f, mu := fun d => .no, hp := fun f => G4.hp f, ord := fun i => none, it := fun f => G4.it f }
theorem G5_fn (f : FuncId) : G5.fn f = (if f = 7 then some shownM else G4.fn f) := rfl
theorem G5_mu (d : Tmp) : G5.mu d = (.no) := rfl
theorem G5_hp (f : FuncId) : G5.hp f = (G4.hp f) := rfl
theorem G5_ord (i : Nat) : G5.ord i = (none) := rfl
theorem G5_it (f : FuncId) : G5.it f = (G4.it f) := rfl
theorem G5_hy (b : Nat) : G5.hy b = none := rfl
theorem G5ok : FnsOk Try.prog G5 := FnsOk.same (FnsOk.cons G4ok _ _ shown_ok Try.func7 (by decide) (fun h => by cases h)) rfl rfl
attribute [bitvec_to_nat] G5_fn G5_mu G5_hp G5_ord G5_it G5_hy
def parsesM : FM
  | [.bytes b _, .int .u64 a, .bool num] => some (0 ≤ a ∧ a ≤ 18446744073709551615, .bool true, [])
  | _ => none
set_option maxHeartbeats 1000000 in
theorem parses_ok : FSound Try.prog 3 parsesM := by
  refine fsound tysOk G5ok mix Try.func3 rfl ?_
  intro args p r fr hm hp
  unfold parsesM at hm
  split at hm
  · rename_i b t a num
    cases hm
    obtain ⟨h0, h1⟩ := hp
    obtain ⟨a, rfl⟩ := Int.eq_ofNat_of_zero_le h0
    simp (maxSteps:=2000000) only[bitvec_to_nat,seval,↓tcd,Try.f3,shownM,fewM,parseM,sameM,itv]
    have hw : IntKind.i64.wrap ((a : Int).tmod 1099511627776) = ((a % 1099511627776 : Nat) : Int) := by
      rw [Int.tmod_eq_emod_of_nonneg (by omega), i64w (by omega) (by omega)]; omega
    rw [hw]
    exact ⟨by kernel_rfl, by omega, by omega, by rw [List.length_take]; omega⟩
  · cases hm
def orderM : FM
  | [.int .u32 a, .int .u32 b] => some ((0 ≤ a ∧ a ≤ 4294967295) ∧ 0 ≤ b ∧ b ≤ 4294967295, .bool true, [])
  | _ => none
set_option maxHeartbeats 4000000 in
set_option maxRecDepth 100000 in
theorem order_ok : FSound Try.prog 4 orderM := by
  refine fsound tysOk G5ok mix Try.func4 rfl ?_
  intro args p r fr hm hp
  unfold orderM at hm
  split at hm
  · rename_i a b
    cases hm
    obtain ⟨⟨h0, h1⟩, h2, h3⟩ := hp
    obtain ⟨a, rfl⟩ := Int.eq_ofNat_of_zero_le h0
    obtain ⟨b, rfl⟩ := Int.eq_ofNat_of_zero_le h2
    have ea := label_dec (n := a) (by omega)
    have eb := label_dec (n := b) (by omega)
    have la := be_length 4 a
    have lb := be_length 4 b
    simp (maxSteps:=2000000) only[bitvec_to_nat,seval,↓tcd,Try.f4,shownM,digAllM,digM,labelM,optV,Int.toNat_natCast,ea,eb,la,lb]
    have da := decF_len 9 a (by omega)
    have db := decF_len 9 b (by omega)
    have hless : (decide ((a : Int) < (b : Int)) == Op.bytesLess (be 4 a) (be 4 b)) = true := by
      rw [be_less 4 a b (by omega) (by omega)]
      simp [Int.ofNat_lt]
    have heq : (decide ((a : Int) = (b : Int)) == decide (be 4 a = be 4 b)) = true := by
      have : (be 4 a = be 4 b) ↔ a = b := ⟨fun e => by have := congrArg (beVal 0) e; rwa [beVal_be4 (by omega), beVal_be4 (by omega)] at this, fun e => by rw [e]⟩
      have h2 : ((a : Int) = (b : Int)) ↔ a = b := by omega
      simp only [this, h2, beq_self_eq_true]
    exact ⟨⟨by omega, by omega⟩, by omega, ⟨by omega, by omega⟩, by omega, awpIf_intro (fun _ => heq) (fun h => by rw [hless] at h; cases h)⟩
  · cases hm
def wordC (c : UInt8) : UInt8 := if c = 32 ∨ c = 9 ∨ c = 10 ∨ c = 13 then 119 else c
def wordW (b : List UInt8) : List UInt8 := if b.take 32 = [] then [119] else (b.take 32).map wordC
def wordM : FM
  | [.bytes b _] => some (True, .bytes (wordW b) none, [])
  | _ => none
def G5w : Fns := { fn := fun f => G5.fn f, mu := fun d => bif d == 12 then .row else .no, hp := fun f => G5.hp f, ord := fun i => none, it := fun f => G5.it f }
theorem G5w_fn (f : FuncId) : G5w.fn f = (G5.fn f) := rfl
theorem G5w_mu (d : Tmp) : G5w.mu d = (bif d == 12 then .row else .no) := rfl
theorem G5w_hp (f : FuncId) : G5w.hp f = (G5.hp f) := rfl
theorem G5w_ord (i : Nat) : G5w.ord i = (none) := rfl
theorem G5w_it (f : FuncId) : G5w.it f = (G5.it f) := rfl
theorem G5w_hy (b : Nat) : G5w.hy b = none := rfl
theorem G5wok : FnsOk Try.prog G5w := FnsOk.same G5ok rfl rfl
attribute [bitvec_to_nat] G5w_fn G5w_mu G5w_hp G5w_ord G5w_it G5w_hy
set_option maxHeartbeats 1000000 in
theorem word_ok : FSound Try.prog 13 wordM := by
  refine fsound tysOk G5wok mix Try.func13 rfl ?_
  intro args p r fr hm hp
  unfold wordM at hm
  split at hm
  · rename_i b t
    cases hm
    simp (maxSteps:=2000000) only[bitvec_to_nat,seval,↓tcd,Try.f13]
    have e : (if (32 : Int) < (b.length : Int) then (32 : Int) else (b.length : Int)) = ((min b.length 32 : Nat) : Int) := by split <;> omega
    have hx : b.take (min b.length 32) = b.take 32 := by
      by_cases h : b.length ≤ 32
      · rw [Nat.min_eq_left h, List.take_of_length_le (Nat.le_refl _), List.take_of_length_le h]
      · rw [Nat.min_eq_right (by omega)]
    rw [e, Int.toNat_natCast, hx]
    unfold wordW
    have hxl : (b.take 32).length ≤ 32 := by rw [List.length_take]; omega
    generalize b.take 32 = x at *
    refine ⟨by omega, mb _ (by omega), awpIf_intro (fun h => ?_) (fun h => ?_)⟩ <;> simp only [decide_eq_true_eq, decide_eq_false_iff_not] at h
    · rw [if_pos (List.length_eq_zero_iff.1 (by omega))]
    · rw [if_neg (fun e => h (by rw [e]; rfl))]
      refine awpLoop_intro (α := {q : Nat × List UInt8 // q.1 ≤ x.length ∧ q.2 = (x.take q.1).map wordC ++ x.drop q.1}) (fun q => ⟨[.any, .any, .any, .mrow 5 0 0 x.length, .any, .any, .any, .any, .any, .any, .any, .any, .any, .any, .any, .any, .any, .mrow 5 0 0 x.length, .int .i64 (x.length : Nat), .int .i64 (q.1.1 : Nat), .any, .any, .any, .any, .any, .any, .any, .any, .any, .any, .any, .any, .any, .any, .any, .any, .any, .any, .any, .any, .any, .any, .any], [q.1.2.map byteV], []⟩) (fun q => x.length - q.1.1) ⟨(0, x), Nat.zero_le _, by simp⟩ ?_ ?_
      · simp (maxSteps:=2000000) only[bitvec_to_nat,seval,↓tcd]
        all_goals simp
      · rintro ⟨⟨i, y⟩, hi, hy⟩
        simp only at hi hy
        simp (maxSteps:=2000000) only[bitvec_to_nat,seval,↓tcd,Try.f13,Int.toNat_natCast,getD_byteV,take_byteV,drop_byteV,unbyte_map,List.length_map]
        have hyl : y.length = x.length := by rw [hy]; simp; omega
        refine awpIf_intro (fun h => ?_) (fun h => ?_) <;> simp only [decide_eq_true_eq, decide_eq_false_iff_not] at h
        · have hlt : i < x.length := by omega
          have hc : y.getD i 0 = x[i] := by
            rw [hy, List.getD_eq_getElem?_getD, List.getElem?_append_right (by simp; omega)]
            simp [List.getElem?_eq_getElem hlt, Nat.min_eq_left (Nat.le_of_lt hlt)]
          have keep : wordC (x[i]) = x[i] → (x.take (i + 1)).map wordC ++ x.drop (i + 1) = y := fun e => by
            rw [hy, List.take_succ_eq_append_getElem hlt, List.map_append, List.drop_eq_getElem_cons hlt]; simp [e]
          have turn : wordC (x[i]) = 119 → (x.take (i + 1)).map wordC ++ x.drop (i + 1) = y.set i 119 := fun e => by
            rw [hy, List.take_succ_eq_append_getElem hlt, List.map_append, List.set_append_right _ _ (by simp; omega)]
            simp [e, Nat.min_eq_left (Nat.le_of_lt hlt)]
            rw [List.drop_eq_getElem_cons hlt]
            rfl
          rw [hc]
          generalize x[i] = c at *
          have hset := set_byteV (l := y) (k := i) (z := 119) (by omega) (by omega) (by omega)
          rw [take_byteV, drop_byteV] at hset
          rw [hset, i64w (by omega) (by omega)]
          have h119 : UInt8.ofNat (119 : Int).toNat = 119 := rfl
          rw [h119]
          have wd : ∀ {d : UInt8}, (c.toNat : Int) = d.toNat → c = d := fun e => UInt8.toNat_inj.1 (by omega)
          have big : wordC c = 119 → ∃ a' : {q : Nat × List UInt8 // q.1 ≤ x.length ∧ q.2 = (x.take q.1).map wordC ++ x.drop q.1}, ((i : Int) + 1 = a'.1.1 ∧ V.le.leL (List.map byteV (y.set i 119)) (List.map byteV a'.1.2)) ∧ x.length - a'.1.1 < x.length - i :=
            fun e => ⟨⟨(i + 1, y.set i 119), by simp only; omega, (turn e).symm⟩, ⟨by simp, by rw [leL_self]; trivial⟩, by simp only; omega⟩
          refine ⟨⟨by omega, by omega⟩, by omega, ?_⟩
          refine awpIf_intro (fun h => ⟨⟨by omega, by omega⟩, by omega, big ?_⟩) (fun h1 => awpIf_intro (fun h => ⟨⟨by omega, by omega⟩, by omega, big ?_⟩) (fun h2 => awpIf_intro (fun h => ⟨⟨by omega, by omega⟩, by omega, big ?_⟩) (fun h3 => awpIf_intro (fun h => ⟨⟨by omega, by omega⟩, by omega, big ?_⟩) (fun h4 => ?_))))
          · simp only [decide_eq_true_eq] at h; rw [wd (d := 32) h]; rfl
          · simp only [decide_eq_true_eq] at h; rw [wd (d := 9) h]; rfl
          · simp only [decide_eq_true_eq] at h; rw [wd (d := 10) h]; rfl
          · simp only [decide_eq_true_eq] at h; rw [wd (d := 13) h]; rfl
          · simp only [decide_eq_false_iff_not] at h1 h2 h3 h4
            have hk : wordC c = c := by
              unfold wordC
              rw [if_neg]
              rintro (e | e | e | e) <;> subst e
              · exact h1 rfl
              · exact h2 rfl
              · exact h3 rfl
              · exact h4 rfl
            exact ⟨⟨(i + 1, y), by simp only; omega, (keep hk).symm⟩, ⟨by simp, by rw [leL_self]; trivial⟩, by simp only; omega⟩
        · have e : i = x.length := by omega
          rw [e, List.take_length, List.drop_length, List.append_nil] at hy
          subst hy
          exact ⟨_, by simp, by rw [List.take_of_length_le (by simp)], rfl⟩
  · cases hm
end Go.Proofs.Ytckmcglkjfkghaa.Edge
