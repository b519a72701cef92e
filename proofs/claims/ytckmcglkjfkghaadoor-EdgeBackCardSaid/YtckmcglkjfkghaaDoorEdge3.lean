import Derived.Test.YtckmcglkjfkghaaDoorAwX
import Derived.Test.YtckmcglkjfkghaaDoorEdge2
namespace Go.Proofs.YtckmcglkjfkghaaDoor.Edge
open Go Go.Proofs Go.Proofs.YtckmcglkjfkghaaDoor.Aw Go.Proofs.YtckmcglkjfkghaaDoor.Num Go.Proofs.YtckmcglkjfkghaaDoor.VaryM Go.Proofs.YtckmcglkjfkghaaDoor.LineM Go.Proofs.YtckmcglkjfkghaaDoor.EdgeM
open Go.Proofs.YtckmcglkjfkghaaDoor.Vary (fixM fixF)
open Go.Proofs.YtckmcglkjfkghaaDoor.Line (cloneM wordsM)
set_option linter.unusedSimpArgs false
set_option linter.unusedVariables false
def shownM : FM
  | [] => some (True, .bool true, [])
  | _ => none
def G4 : Fns := { fn := fun f => if f = 7 then some fewM else if f = 13 then some parseM else if f = 12 then some digAllM else G3.fn f, mu := fun d => .no, hp := fun f => G3.hp f, ord := fun i => none, it := fun f => G3.it f }
theorem G4_fn (f : FuncId) : G4.fn f = (if f = 7 then some fewM else if f = 13 then some parseM else if f = 12 then some digAllM else G3.fn f) := rfl
theorem G4_mu (d : Tmp) : G4.mu d = (.no) := rfl
theorem G4_hp (f : FuncId) : G4.hp f = (G3.hp f) := rfl
theorem G4_ord (i : Nat) : G4.ord i = (none) := rfl
theorem G4_it (f : FuncId) : G4.it f = (G3.it f) := rfl
theorem G4_hy (b : Nat) : G4.hy b = none := rfl
theorem G4ok : FnsOk Tryd.prog G4 := FnsOk.same (FnsOk.cons (FnsOk.cons (FnsOk.cons G3ok _ _ dig_ok Tryd.func12 (by decide) (fun h => by cases h)) _ _ parse_ok Tryd.func13 (by decide) (fun h => by cases h)) _ _ few_ok Tryd.func7 (by decide) (fun h => by cases h)) rfl rfl
attribute [bitvec_to_nat] G4_fn G4_mu G4_hp G4_ord G4_it G4_hy
set_option maxHeartbeats 1000000 in
theorem shown_ok : FSound Tryd.prog 11 shownM := by
  refine fsound tysOk G4ok mix Tryd.func11 rfl ?_
  intro args p r fr hm hp
  unfold shownM at hm
  split at hm
  · cases hm
    have e1 : labelF [50, 53, 56] true = some [0, 0, 1, 2] := by decide
    have e2 : labelF [48, 49] true = none := by decide
    have e3 : parseF 0 [97, 32, 98, 32, 99] false = ⟨false, [], [], 80, 0⟩ := by decide
    simp (maxSteps:=2000000) only[bitvec_to_nat,seval,↓tcd,Tryd.f11,labelM,parseM,optV,e1,e2,e3,itv,Option.isSome_none]
  · cases hm
def G5 : Fns := { fn := fun f => if f = 11 then some shownM else G4.fn f, mu := fun d => .no, hp := fun f => G4.hp f, ord := fun i => none, it := fun f => G4.it f }
theorem G5_fn (f : FuncId) : G5.fn f = (if f = 11 then some shownM else G4.fn f) := rfl
theorem G5_mu (d : Tmp) : G5.mu d = (.no) := rfl
theorem G5_hp (f : FuncId) : G5.hp f = (G4.hp f) := rfl
theorem G5_ord (i : Nat) : G5.ord i = (none) := rfl
theorem G5_it (f : FuncId) : G5.it f = (G4.it f) := rfl
theorem G5_hy (b : Nat) : G5.hy b = none := rfl
theorem G5ok : FnsOk Tryd.prog G5 := FnsOk.same (FnsOk.cons G4ok _ _ shown_ok Tryd.func11 (by decide) (fun h => by cases h)) rfl rfl
attribute [bitvec_to_nat] G5_fn G5_mu G5_hp G5_ord G5_it G5_hy
def parsesM : FM
  | [.bytes b _, .int .u64 a, .bool num] => some (0 ≤ a ∧ a ≤ 18446744073709551615, .bool true, [])
  | _ => none
def orderM : FM
  | [.int .u32 a, .int .u32 b] => some ((0 ≤ a ∧ a ≤ 4294967295) ∧ 0 ≤ b ∧ b ≤ 4294967295, .bool true, [])
  | _ => none
def wordC (c : UInt8) : UInt8 := if c = 32 ∨ c = 9 ∨ c = 10 ∨ c = 13 then 119 else c
def wordW (b : List UInt8) : List UInt8 := if b.take 32 = [] then [119] else (b.take 32).map wordC
def wordM : FM
  | [.bytes b _] => some (True, .bytes (wordW b) none, [])
  | _ => none
def G5w : Fns := { fn := fun f => G5.fn f, mu := fun d => bif d == 12 then .row else .no, hp := fun f => G5.hp f, ord := fun i => none, it := fun f => G5.it f }
theorem G5w_fn (f : FuncId) : G5w.fn f = (G5.fn f) := rfl
theorem G5w_mu (d : Tmp) : G5w.mu d = (bif d == 12 then .row else .no) := rfl
theorem G5w_hp (f : FuncId) : G5w.hp f = (G5.hp f) := rfl
theorem G5w_ord (i : Nat) : G5w.ord i = (none) := rfl
theorem G5w_it (f : FuncId) : G5w.it f = (G5.it f) := rfl
theorem G5w_hy (b : Nat) : G5w.hy b = none := rfl
theorem G5wok : FnsOk Tryd.prog G5w := FnsOk.same G5ok rfl rfl
attribute [bitvec_to_nat] G5w_fn G5w_mu G5w_hp G5w_ord G5w_it G5w_hy
end Go.Proofs.YtckmcglkjfkghaaDoor.Edge
