import Derived.Test.YtckmcglkjfkghaaAwX
import Derived.Test.YtckmcglkjfkghaaAwV
import Derived.Test.YtckmcglkjfkghaaProg
import Derived.Test.YtckmcglkjfkghaaEdgeM
import Derived.Test.YtckmcglkjfkghaaVary2
import Derived.Test.YtckmcglkjfkghaaLine3
import Derived.KernelRfl
namespace Go.Proofs.Ytckmcglkjfkghaa.Edge
open Go Go.Proofs Go.Proofs.Ytckmcglkjfkghaa.Aw Go.Proofs.Ytckmcglkjfkghaa.Num Go.Proofs.Ytckmcglkjfkghaa.VaryM Go.Proofs.Ytckmcglkjfkghaa.LineM Go.Proofs.Ytckmcglkjfkghaa.EdgeM
open Go.Proofs.Ytckmcglkjfkghaa.Vary (fixM fixF)
open Go.Proofs.Ytckmcglkjfkghaa.Line (cloneM wordsM)
set_option linter.unusedSimpArgs false
set_option linter.unusedVariables false
def I26 : TyI := ⟨.struct [(0, 3), (1, 22)], 2, 32, (.agg #[(.int .i64 0), (.slice none 0 0)])⟩
def I31 : TyI := ⟨.struct [(0, 4), (1, 22), (2, 22), (3, 29), (4, 3)], 5, 72, (.agg #[(.bool false), (.slice none 0 0), (.slice none 0 0), (.int .i64 0), (.int .i64 0)])⟩
def I40 : TyI := ⟨.array 2 22, 2, 48, (.agg #[(.slice none 0 0), (.slice none 0 0)])⟩
def tys : Tys := fun t => if t = 2 then some ⟨.int .i64, 1, 8, (.int .i64 0)⟩ else if t = 3 then some ⟨.int .i64, 1, 8, (.int .i64 0)⟩ else if t = 4 then some ⟨.bool, 1, 1, (.bool false)⟩ else if t = 5 then some ⟨.int .u8, 1, 1, (.int .u8 0)⟩ else if t = 9 then some ⟨.str, 1, 16, (.string .empty)⟩ else if t = 22 then some ⟨.slice 5, 1, 24, (.slice none 0 0)⟩ else if t = 23 then some ⟨.int .u64, 1, 8, (.int .u64 0)⟩ else if t = 26 then some I26 else if t = 29 then some ⟨.int .i64, 1, 8, (.int .i64 0)⟩ else if t = 31 then some I31 else if t = 34 then some ⟨.int .u32, 1, 4, (.int .u32 0)⟩ else if t = 40 then some I40 else if t = 41 then some ⟨.slice 26, 1, 24, (.slice none 0 0)⟩ else none
theorem tysOk : TyOk Try.prog tys := by
  refine TyOk.cons ?_ 2 _ (by kernel_rfl) (by kernel_rfl)
  refine TyOk.cons ?_ 3 _ (by kernel_rfl) (by kernel_rfl)
  refine TyOk.cons ?_ 4 _ (by kernel_rfl) (by kernel_rfl)
  refine TyOk.cons ?_ 5 _ (by kernel_rfl) (by kernel_rfl)
  refine TyOk.cons ?_ 9 _ (by kernel_rfl) (by kernel_rfl)
  refine TyOk.cons ?_ 22 _ (by kernel_rfl) (by kernel_rfl)
  refine TyOk.cons ?_ 23 _ (by kernel_rfl) (by kernel_rfl)
  refine TyOk.cons ?_ 26 _ (by kernel_rfl) (by kernel_rfl)
  refine TyOk.cons ?_ 29 _ (by kernel_rfl) (by kernel_rfl)
  refine TyOk.cons ?_ 31 _ (by kernel_rfl) (by kernel_rfl)
  refine TyOk.cons ?_ 34 _ (by kernel_rfl) (by kernel_rfl)
  refine TyOk.cons ?_ 40 _ (by kernel_rfl) (by kernel_rfl)
  refine TyOk.cons ?_ 41 _ (by kernel_rfl) (by kernel_rfl)
  exact TyOk.nil _
theorem mix : Try.prog.follows .mixedOrders = true := by kernel_rfl
theorem ty2 : tys 2 = some ⟨.int .i64, 1, 8, (.int .i64 0)⟩ := rfl
theorem tk2 : kindV tys 2 = some (.int .i64) := rfl
theorem ts2 : sizeV tys 2 = 1 := rfl
theorem ta2 : TyI.isAgg ⟨.int .i64, 1, 8, (.int .i64 0)⟩ = false := rfl
theorem tu2 : isU8 ⟨.int .i64, 1, 8, (.int .i64 0)⟩ = false := rfl
theorem tn2 : notIntK tys 2 = false := rfl
theorem tr2 : isStrK tys 2 = false := rfl
theorem tz2 : zeroOk ⟨.int .i64, 1, 8, (.int .i64 0)⟩ = true := by kernel_rfl
theorem tv2 : zeroU8 ⟨.int .i64, 1, 8, (.int .i64 0)⟩ = false := rfl
theorem td2 : TyI.zeroV ⟨.int .i64, 1, 8, (.int .i64 0)⟩ = V.ofV1 (.int .i64 0) := rfl
theorem ty3 : tys 3 = some ⟨.int .i64, 1, 8, (.int .i64 0)⟩ := rfl
theorem tk3 : kindV tys 3 = some (.int .i64) := rfl
theorem ts3 : sizeV tys 3 = 1 := rfl
theorem ta3 : TyI.isAgg ⟨.int .i64, 1, 8, (.int .i64 0)⟩ = false := rfl
theorem tu3 : isU8 ⟨.int .i64, 1, 8, (.int .i64 0)⟩ = false := rfl
theorem tn3 : notIntK tys 3 = false := rfl
theorem tr3 : isStrK tys 3 = false := rfl
theorem tz3 : zeroOk ⟨.int .i64, 1, 8, (.int .i64 0)⟩ = true := by kernel_rfl
theorem tv3 : zeroU8 ⟨.int .i64, 1, 8, (.int .i64 0)⟩ = false := rfl
theorem td3 : TyI.zeroV ⟨.int .i64, 1, 8, (.int .i64 0)⟩ = V.ofV1 (.int .i64 0) := rfl
theorem ty4 : tys 4 = some ⟨.bool, 1, 1, (.bool false)⟩ := rfl
theorem tk4 : kindV tys 4 = some (.bool) := rfl
theorem ts4 : sizeV tys 4 = 1 := rfl
theorem ta4 : TyI.isAgg ⟨.bool, 1, 1, (.bool false)⟩ = false := rfl
theorem tu4 : isU8 ⟨.bool, 1, 1, (.bool false)⟩ = false := rfl
theorem tn4 : notIntK tys 4 = true := rfl
theorem tr4 : isStrK tys 4 = false := rfl
theorem tz4 : zeroOk ⟨.bool, 1, 1, (.bool false)⟩ = true := by kernel_rfl
theorem tv4 : zeroU8 ⟨.bool, 1, 1, (.bool false)⟩ = false := rfl
theorem td4 : TyI.zeroV ⟨.bool, 1, 1, (.bool false)⟩ = V.ofV1 (.bool false) := rfl
theorem ty5 : tys 5 = some ⟨.int .u8, 1, 1, (.int .u8 0)⟩ := rfl
theorem tk5 : kindV tys 5 = some (.int .u8) := rfl
theorem ts5 : sizeV tys 5 = 1 := rfl
theorem ta5 : TyI.isAgg ⟨.int .u8, 1, 1, (.int .u8 0)⟩ = false := rfl
theorem tu5 : isU8 ⟨.int .u8, 1, 1, (.int .u8 0)⟩ = true := rfl
theorem tn5 : notIntK tys 5 = false := rfl
theorem tr5 : isStrK tys 5 = false := rfl
theorem tz5 : zeroOk ⟨.int .u8, 1, 1, (.int .u8 0)⟩ = true := by kernel_rfl
theorem tv5 : zeroU8 ⟨.int .u8, 1, 1, (.int .u8 0)⟩ = true := rfl
theorem td5 : TyI.zeroV ⟨.int .u8, 1, 1, (.int .u8 0)⟩ = V.ofV1 (.int .u8 0) := rfl
theorem ty9 : tys 9 = some ⟨.str, 1, 16, (.string .empty)⟩ := rfl
theorem tk9 : kindV tys 9 = some (.str) := rfl
theorem ts9 : sizeV tys 9 = 1 := rfl
theorem ta9 : TyI.isAgg ⟨.str, 1, 16, (.string .empty)⟩ = false := rfl
theorem tu9 : isU8 ⟨.str, 1, 16, (.string .empty)⟩ = false := rfl
theorem tn9 : notIntK tys 9 = true := rfl
theorem tr9 : isStrK tys 9 = true := rfl
theorem tz9 : zeroOk ⟨.str, 1, 16, (.string .empty)⟩ = true := by kernel_rfl
theorem tv9 : zeroU8 ⟨.str, 1, 16, (.string .empty)⟩ = false := rfl
theorem td9 : TyI.zeroV ⟨.str, 1, 16, (.string .empty)⟩ = V.ofV1 (.string .empty) := rfl
theorem ty22 : tys 22 = some ⟨.slice 5, 1, 24, (.slice none 0 0)⟩ := rfl
theorem tk22 : kindV tys 22 = some (.slice 5) := rfl
theorem ts22 : sizeV tys 22 = 1 := rfl
theorem ta22 : TyI.isAgg ⟨.slice 5, 1, 24, (.slice none 0 0)⟩ = false := rfl
theorem tb22 : isBytes tys 22 = true := rfl
theorem te22 : elemI tys 22 = some (5, ⟨.int .u8, 1, 1, (.int .u8 0)⟩) := rfl
theorem tu22 : isU8 ⟨.slice 5, 1, 24, (.slice none 0 0)⟩ = false := rfl
theorem tn22 : notIntK tys 22 = true := rfl
theorem tr22 : isStrK tys 22 = false := rfl
theorem tz22 : zeroOk ⟨.slice 5, 1, 24, (.slice none 0 0)⟩ = true := by kernel_rfl
theorem tv22 : zeroU8 ⟨.slice 5, 1, 24, (.slice none 0 0)⟩ = false := rfl
theorem td22 : TyI.zeroV ⟨.slice 5, 1, 24, (.slice none 0 0)⟩ = V.ofV1 (.slice none 0 0) := rfl
theorem ty23 : tys 23 = some ⟨.int .u64, 1, 8, (.int .u64 0)⟩ := rfl
theorem tk23 : kindV tys 23 = some (.int .u64) := rfl
theorem ts23 : sizeV tys 23 = 1 := rfl
theorem ta23 : TyI.isAgg ⟨.int .u64, 1, 8, (.int .u64 0)⟩ = false := rfl
theorem tu23 : isU8 ⟨.int .u64, 1, 8, (.int .u64 0)⟩ = false := rfl
theorem tn23 : notIntK tys 23 = false := rfl
theorem tr23 : isStrK tys 23 = false := rfl
theorem tz23 : zeroOk ⟨.int .u64, 1, 8, (.int .u64 0)⟩ = true := by kernel_rfl
theorem tv23 : zeroU8 ⟨.int .u64, 1, 8, (.int .u64 0)⟩ = false := rfl
theorem td23 : TyI.zeroV ⟨.int .u64, 1, 8, (.int .u64 0)⟩ = V.ofV1 (.int .u64 0) := rfl
theorem ty26 : tys 26 = some I26 := rfl
theorem tk26 : kindV tys 26 = some (.struct [(0, 3), (1, 22)]) := rfl
theorem ts26 : sizeV tys 26 = 2 := rfl
theorem ta26 : TyI.isAgg I26 = true := rfl
theorem tg26 : I26.size = 2 ∧ I26.kind = .struct [(0, 3), (1, 22)] ∧ I26.bytes = 32 ∧ I26.zero = (.agg #[(.int .i64 0), (.slice none 0 0)]) := ⟨rfl, rfl, rfl, rfl⟩
theorem tu26 : isU8 I26 = false := rfl
theorem tn26 : notIntK tys 26 = true := rfl
theorem tr26 : isStrK tys 26 = false := rfl
theorem tz26 : zeroOk I26 = true := by kernel_rfl
theorem tv26 : zeroU8 I26 = false := rfl
theorem tc26 : V.ofV (.agg #[(.int .i64 0), (.slice none 0 0)]) = .agg [V.ofV1 (.int .i64 0), V.ofV1 (.slice none 0 0)] := by kernel_rfl
theorem tw26 : Value.oneCell' (.agg #[(.int .i64 0), (.slice none 0 0)]) = false := rfl
theorem tx26 : (#[(.int .i64 0), (.slice none 0 0)] : Array Value).all (fun x => x.oneCell') 0 2 = true := by kernel_rfl
theorem td26 : TyI.zeroV I26 = .agg [V.ofV1 (.int .i64 0), V.ofV1 (.slice none 0 0)] := by kernel_rfl
theorem tp26_0 : placeV tys [(0, 3), (1, 22)] 0 = some (0, 1) := rfl
theorem tp26_1 : placeV tys [(0, 3), (1, 22)] 1 = some (1, 1) := rfl
theorem tq26 : ([(0, 3), (1, 22)].all (fun f => (tys f.2).isSome)) = true := rfl
theorem ty29 : tys 29 = some ⟨.int .i64, 1, 8, (.int .i64 0)⟩ := rfl
theorem tk29 : kindV tys 29 = some (.int .i64) := rfl
theorem ts29 : sizeV tys 29 = 1 := rfl
theorem ta29 : TyI.isAgg ⟨.int .i64, 1, 8, (.int .i64 0)⟩ = false := rfl
theorem tu29 : isU8 ⟨.int .i64, 1, 8, (.int .i64 0)⟩ = false := rfl
theorem tn29 : notIntK tys 29 = false := rfl
theorem tr29 : isStrK tys 29 = false := rfl
theorem tz29 : zeroOk ⟨.int .i64, 1, 8, (.int .i64 0)⟩ = true := by kernel_rfl
theorem tv29 : zeroU8 ⟨.int .i64, 1, 8, (.int .i64 0)⟩ = false := rfl
theorem td29 : TyI.zeroV ⟨.int .i64, 1, 8, (.int .i64 0)⟩ = V.ofV1 (.int .i64 0) := rfl
theorem ty31 : tys 31 = some I31 := rfl
theorem tk31 : kindV tys 31 = some (.struct [(0, 4), (1, 22), (2, 22), (3, 29), (4, 3)]) := rfl
theorem ts31 : sizeV tys 31 = 5 := rfl
theorem ta31 : TyI.isAgg I31 = true := rfl
theorem tg31 : I31.size = 5 ∧ I31.kind = .struct [(0, 4), (1, 22), (2, 22), (3, 29), (4, 3)] ∧ I31.bytes = 72 ∧ I31.zero = (.agg #[(.bool false), (.slice none 0 0), (.slice none 0 0), (.int .i64 0), (.int .i64 0)]) := ⟨rfl, rfl, rfl, rfl⟩
theorem tu31 : isU8 I31 = false := rfl
theorem tn31 : notIntK tys 31 = true := rfl
theorem tr31 : isStrK tys 31 = false := rfl
theorem tz31 : zeroOk I31 = true := by kernel_rfl
theorem tv31 : zeroU8 I31 = false := rfl
theorem tc31 : V.ofV (.agg #[(.bool false), (.slice none 0 0), (.slice none 0 0), (.int .i64 0), (.int .i64 0)]) = .agg [V.ofV1 (.bool false), V.ofV1 (.slice none 0 0), V.ofV1 (.slice none 0 0), V.ofV1 (.int .i64 0), V.ofV1 (.int .i64 0)] := by kernel_rfl
theorem tw31 : Value.oneCell' (.agg #[(.bool false), (.slice none 0 0), (.slice none 0 0), (.int .i64 0), (.int .i64 0)]) = false := rfl
theorem tx31 : (#[(.bool false), (.slice none 0 0), (.slice none 0 0), (.int .i64 0), (.int .i64 0)] : Array Value).all (fun x => x.oneCell') 0 5 = true := by kernel_rfl
theorem td31 : TyI.zeroV I31 = .agg [V.ofV1 (.bool false), V.ofV1 (.slice none 0 0), V.ofV1 (.slice none 0 0), V.ofV1 (.int .i64 0), V.ofV1 (.int .i64 0)] := by kernel_rfl
theorem tp31_0 : placeV tys [(0, 4), (1, 22), (2, 22), (3, 29), (4, 3)] 0 = some (0, 1) := rfl
theorem tp31_1 : placeV tys [(0, 4), (1, 22), (2, 22), (3, 29), (4, 3)] 1 = some (1, 1) := rfl
theorem tp31_2 : placeV tys [(0, 4), (1, 22), (2, 22), (3, 29), (4, 3)] 2 = some (2, 1) := rfl
theorem tp31_3 : placeV tys [(0, 4), (1, 22), (2, 22), (3, 29), (4, 3)] 3 = some (3, 1) := rfl
theorem tp31_4 : placeV tys [(0, 4), (1, 22), (2, 22), (3, 29), (4, 3)] 4 = some (4, 1) := rfl
theorem tq31 : ([(0, 4), (1, 22), (2, 22), (3, 29), (4, 3)].all (fun f => (tys f.2).isSome)) = true := rfl
theorem ty34 : tys 34 = some ⟨.int .u32, 1, 4, (.int .u32 0)⟩ := rfl
theorem tk34 : kindV tys 34 = some (.int .u32) := rfl
theorem ts34 : sizeV tys 34 = 1 := rfl
theorem ta34 : TyI.isAgg ⟨.int .u32, 1, 4, (.int .u32 0)⟩ = false := rfl
theorem tu34 : isU8 ⟨.int .u32, 1, 4, (.int .u32 0)⟩ = false := rfl
theorem tn34 : notIntK tys 34 = false := rfl
theorem tr34 : isStrK tys 34 = false := rfl
theorem tz34 : zeroOk ⟨.int .u32, 1, 4, (.int .u32 0)⟩ = true := by kernel_rfl
theorem tv34 : zeroU8 ⟨.int .u32, 1, 4, (.int .u32 0)⟩ = false := rfl
theorem td34 : TyI.zeroV ⟨.int .u32, 1, 4, (.int .u32 0)⟩ = V.ofV1 (.int .u32 0) := rfl
theorem ty40 : tys 40 = some I40 := rfl
theorem tk40 : kindV tys 40 = some (.array 2 22) := rfl
theorem ts40 : sizeV tys 40 = 2 := rfl
theorem ta40 : TyI.isAgg I40 = true := rfl
theorem tg40 : I40.size = 2 ∧ I40.kind = .array 2 22 ∧ I40.bytes = 48 ∧ I40.zero = (.agg #[(.slice none 0 0), (.slice none 0 0)]) := ⟨rfl, rfl, rfl, rfl⟩
theorem tu40 : isU8 I40 = false := rfl
theorem tn40 : notIntK tys 40 = true := rfl
theorem tr40 : isStrK tys 40 = false := rfl
theorem tz40 : zeroOk I40 = true := by kernel_rfl
theorem tv40 : zeroU8 I40 = false := rfl
theorem tc40 : V.ofV (.agg #[(.slice none 0 0), (.slice none 0 0)]) = .agg [V.ofV1 (.slice none 0 0), V.ofV1 (.slice none 0 0)] := by kernel_rfl
theorem tw40 : Value.oneCell' (.agg #[(.slice none 0 0), (.slice none 0 0)]) = false := rfl
theorem tx40 : (#[(.slice none 0 0), (.slice none 0 0)] : Array Value).all (fun x => x.oneCell') 0 2 = true := by kernel_rfl
theorem td40 : TyI.zeroV I40 = .agg [V.ofV1 (.slice none 0 0), V.ofV1 (.slice none 0 0)] := by kernel_rfl
theorem ty41 : tys 41 = some ⟨.slice 26, 1, 24, (.slice none 0 0)⟩ := rfl
theorem tk41 : kindV tys 41 = some (.slice 26) := rfl
theorem ts41 : sizeV tys 41 = 1 := rfl
theorem ta41 : TyI.isAgg ⟨.slice 26, 1, 24, (.slice none 0 0)⟩ = false := rfl
theorem tb41 : isBytes tys 41 = false := rfl
theorem te41 : elemI tys 41 = some (26, I26) := rfl
theorem tu41 : isU8 ⟨.slice 26, 1, 24, (.slice none 0 0)⟩ = false := rfl
theorem tn41 : notIntK tys 41 = true := rfl
theorem tr41 : isStrK tys 41 = false := rfl
theorem tz41 : zeroOk ⟨.slice 26, 1, 24, (.slice none 0 0)⟩ = true := by kernel_rfl
theorem tv41 : zeroU8 ⟨.slice 26, 1, 24, (.slice none 0 0)⟩ = false := rfl
theorem td41 : TyI.zeroV ⟨.slice 26, 1, 24, (.slice none 0 0)⟩ = V.ofV1 (.slice none 0 0) := rfl
set_option linter.defProp false in
def tcd := And.intro @r_ifTrue (And.intro @r_ifFalse (And.intro tc26 (And.intro td26 (And.intro tc31 (And.intro td31 (And.intro tc40 (td40)))))))
attribute [bitvec_to_nat] ty2 tk2 ts2 ta2 tu2 tn2 tr2 tz2 tv2 td2 ty3 tk3 ts3 ta3 tu3 tn3 tr3 tz3 tv3 td3 ty4 tk4 ts4 ta4 tu4 tn4 tr4 tz4 tv4 td4 ty5 tk5 ts5 ta5 tu5 tn5 tr5 tz5 tv5 td5 ty9 tk9 ts9 ta9 tu9 tn9 tr9 tz9 tv9 td9 ty22 tk22 ts22 ta22 tb22 te22 tu22 tn22 tr22 tz22 tv22 td22 ty23 tk23 ts23 ta23 tu23 tn23 tr23 tz23 tv23 td23 ty26 tk26 ts26 ta26 tg26 tu26 tn26 tr26 tz26 tv26 tw26 tx26 tp26_0 tp26_1 tq26 ty29 tk29 ts29 ta29 tu29 tn29 tr29 tz29 tv29 td29 ty31 tk31 ts31 ta31 tg31 tu31 tn31 tr31 tz31 tv31 tw31 tx31 tp31_0 tp31_1 tp31_2 tp31_3 tp31_4 tq31 ty34 tk34 ts34 ta34 tu34 tn34 tr34 tz34 tv34 td34 ty40 tk40 ts40 ta40 tg40 tu40 tn40 tr40 tz40 tv40 tw40 tx40 ty41 tk41 ts41 ta41 tb41 te41 tu41 tn41 tr41 tz41 tv41 td41
def G0 : Fns := { fn := fun _ => none }
theorem G0_fn (f : FuncId) : G0.fn f = none := rfl
theorem G0_mu (d : Tmp) : G0.mu d = .no := rfl
theorem G0_hp (f : FuncId) : G0.hp f = none := rfl
theorem G0_ord (i : Nat) : G0.ord i = none := rfl
theorem G0_it (f : FuncId) : G0.it f = none := rfl
theorem G0_hy (b : Nat) : G0.hy b = none := rfl
theorem G0ok : FnsOk Try.prog G0 := FnsOk.nil _ rfl rfl
attribute [bitvec_to_nat] G0_fn G0_mu G0_hp G0_ord G0_it G0_hy
def G1 : Fns := { fn := fun f => if f = 21 then some cloneM else G0.fn f, mu := fun d => .no, hp := fun f => G0.hp f, ord := fun i => none, it := fun f => G0.it f }
theorem G1_fn (f : FuncId) : G1.fn f = (if f = 21 then some cloneM else G0.fn f) := rfl
theorem G1_mu (d : Tmp) : G1.mu d = (.no) := rfl
theorem G1_hp (f : FuncId) : G1.hp f = (G0.hp f) := rfl
theorem G1_ord (i : Nat) : G1.ord i = (none) := rfl
theorem G1_it (f : FuncId) : G1.it f = (G0.it f) := rfl
theorem G1_hy (b : Nat) : G1.hy b = none := rfl
theorem G1ok : FnsOk Try.prog G1 := FnsOk.same (FnsOk.cons G0ok _ _ Line.clone_ok Try.func21 (by decide) (fun h => by cases h)) rfl rfl
attribute [bitvec_to_nat] G1_fn G1_mu G1_hp G1_ord G1_it G1_hy
def optV (o : Option (List UInt8)) : V := .tuple [.bytes (o.getD []) none, .bool o.isSome]
def plainM : FM
  | [.bytes b _] => some (b.length ≤ 1099511627776, optV (plainF b), [])
  | _ => none
theorem plain_ok : FSound Try.prog 17 plainM := by
  refine fsound tysOk G1ok mix Try.func17 rfl ?_
  intro args p r fr hm hp
  unfold plainM at hm
  split at hm
  · rename_i b t
    cases hm
    unfold optV plainF
    simp (maxSteps:=2000000) only[bitvec_to_nat,seval,↓tcd,Try.f17,cloneM]
    refine awpIf_intro (fun h => ?_) (fun h => awpIf_intro (fun h2 => ?_) (fun h2 => ?_)) <;> simp only [decide_eq_true_eq, decide_eq_false_iff_not] at *
    · rw [if_neg (by omega)]; exact ⟨rfl, rfl⟩
    · rw [if_neg (by omega)]; exact ⟨rfl, rfl⟩
    · rw [if_pos (by omega)]; exact ⟨by omega, rfl, rfl⟩
  · cases hm
theorem num_no {b : List UInt8} (h : headOk b = false) : numF b = none := by unfold numF; rw [if_neg (by simp [h])]
theorem head_no {b : List UInt8} (h : b.length < 1 ∨ 10 < b.length ∨ (1 < b.length ∧ b.getD 0 0 = 48)) : headOk b = false := decide_eq_false fun ⟨a, c, d⟩ => by
  rcases h with h | h | h
  · omega
  · omega
  · exact d h
theorem head_yes {b : List UInt8} (h1 : ¬ b.length < 1) (h2 : ¬ 10 < b.length) (h3 : ¬ 1 < b.length ∨ ¬ b.getD 0 0 = 48) : headOk b = true := decide_eq_true ⟨by omega, by omega, fun h => by rcases h3 with h3 | h3; exact h3 h.1; exact h3 h.2⟩
theorem num_bad {b : List UInt8} (h : goN 0 b = none) : numF b = none := by unfold numF; rw [h]; split <;> rfl
theorem num_ok {b : List UInt8} {n : Nat} (h1 : headOk b = true) (h : goN 0 b = some n) : numF b = if n < 4294967296 then some n else none := by unfold numF; rw [h, if_pos h1]; rfl
theorem goN_at {b : List UInt8} {i n : Nat} (hi : i < b.length) : goN n (b.drop i) = if isD (b.getD i 0) = true then goN (10 * n + ((b.getD i 0).toNat - 48)) (b.drop (i + 1)) else none := by
  rw [List.drop_eq_getElem_cons hi]
  have hg : b.getD i 0 = b[i] := by simp [List.getD_eq_getElem?_getD, List.getElem?_eq_getElem hi]
  rw [hg]; rfl
theorem is48 {c : UInt8} : (c.toNat : Int) = 48 ↔ c = 48 := ⟨fun e => UInt8.toNat_inj.1 (by have : (48 : UInt8).toNat = 48 := rfl; omega), fun e => by rw [e]; rfl⟩
theorem dig_yes {c : UInt8} (h1 : ¬ (c.toNat : Int) < 48) (h2 : ¬ 57 < (c.toNat : Int)) : isD c = true := decide_eq_true (by omega)
theorem dig_no {c : UInt8} (h : (c.toNat : Int) < 48 ∨ 57 < (c.toNat : Int)) : ¬ isD c = true := by unfold isD; simp only [decide_eq_true_eq]; omega
theorem step10 {n c i : Nat} (hn : n < 10 ^ i) (hi : i < 10) (h1 : ¬ ((c : Int) < 48)) (h2 : ¬ (57 < (c : Int))) :
    IntKind.u64.wrap (IntKind.u64.wrap (10 * (n : Int)) + IntKind.u64.wrap (IntKind.u8.wrap ((c : Int) - 48))) = ((10 * n + (c - 48) : Nat) : Int) ∧ 10 * n + (c - 48) < 10 ^ (i + 1) := by
  have h3 : 10 ^ i ≤ 10 ^ 9 := Nat.pow_le_pow_right (by omega) (by omega)
  have h4 : (10 : Nat) ^ 9 = 1000000000 := by decide
  rw [u8w (by omega) (by omega), u64w (n := 10 * (n : Int)) (by omega) (by omega), u64w (n := (c : Int) - 48) (by omega) (by omega), u64w (by omega) (by omega)]
  refine ⟨by omega, ?_⟩
  rw [Nat.pow_succ]
  omega
abbrev Dig (b : List UInt8) := {q : Nat × Nat // q.1 ≤ b.length ∧ q.2 < 10 ^ q.1 ∧ goN 0 b = goN q.2 (b.drop q.1)}
def numberM : FM
  | [.bytes b _] => some (b.length ≤ 1099511627776, .tuple [.int .u64 ((numF b).getD 0 : Nat), .bool (numF b).isSome], [])
  | _ => none
theorem number_ok : FSound Try.prog 18 numberM := by
  refine fsound tysOk G1ok mix Try.func18 rfl ?_
  intro args p r fr hm hp
  unfold numberM at hm
  split at hm
  · rename_i b t
    cases hm
    simp (maxSteps:=2000000) only[bitvec_to_nat,seval,↓tcd,Try.f18,cloneM]
    have no : headOk b = false → (0 : Int) = ((numF b).getD 0 : Nat) ∧ false = (numF b).isSome := fun h => by rw [num_no h]; exact ⟨rfl, rfl⟩
    refine awpIf_intro (fun h1 => no (head_no (.inl ?_))) (fun h1 => awpIf_intro (fun h2 => no (head_no (.inr (.inl ?_)))) (fun h2 => awpIf_intro (fun h3 => ⟨?_, awpIf_intro (fun h4 => no (head_no (.inr (.inr ?_)))) (fun h4 => ?_)⟩) (fun h3 => ?_))) <;> simp only [decide_eq_true_eq, decide_eq_false_iff_not] at *
    · omega
    · omega
    · omega
    · exact ⟨by omega, is48.1 h4⟩
    all_goals have hh : headOk b = true := head_yes (by omega) (by omega) (by first | exact .inr fun e => h4 (is48.2 e) | exact .inl (by omega))
    all_goals refine awpLoop_intro (α := Dig b) (fun q => ⟨[.any, .any, .any, .any, .int .u64 (q.1.2 : Nat), .any, .any, .any, .any, .any, .any, .any, .any, .any, .any, .any, .any, .any, .any, .any, .any, .any, .any, .any, .any, .any, .bytes b none, .int .i64 (b.length : Nat), .int .i64 (q.1.1 : Nat), .any, .any, .any, .any, .any, .any, .any, .any, .any, .any, .any, .any, .any, .any, .any, .any, .any, .any, .any], [], []⟩) (fun q => b.length - q.1.1) ⟨(0, 0), by simp, by simp, by simp⟩ ?_ ?_
    iterate 2
      · simp (maxSteps:=2000000) only[bitvec_to_nat,seval,↓tcd]
        all_goals simp
      · rintro ⟨⟨i, n⟩, hi, hn, hg⟩
        simp only at hi hn hg
        simp (maxSteps:=2000000) only[bitvec_to_nat,seval,↓tcd,Try.f18,Int.toNat_natCast]
        refine awpIf_intro (fun h => ?_) (fun h => ?_) <;> simp only [decide_eq_true_eq, decide_eq_false_iff_not] at h
        · have hlt : i < b.length := by omega
          rw [goN_at hlt] at hg
          generalize b.getD i 0 = c at *
          have bad : ¬ isD c = true → (0 : Int) = ((numF b).getD 0 : Nat) ∧ false = (numF b).isSome := fun e => by rw [num_bad (by rw [hg, if_neg e])]; exact ⟨rfl, rfl⟩
          refine ⟨⟨by omega, by omega⟩, awpIf_intro (fun h5 => bad (dig_no (.inl ?_))) (fun h5 => awpIf_intro (fun h6 => bad (dig_no (.inr ?_))) (fun h6 => ?_))⟩ <;> simp only [decide_eq_true_eq, decide_eq_false_iff_not] at h5
          · exact h5
          · exact of_decide_eq_true h6
          · simp only [decide_eq_false_iff_not] at h6
            obtain ⟨w1, w2⟩ := step10 (c := c.toNat) hn (by omega) h5 h6
            rw [if_pos (dig_yes h5 h6)] at hg
            rw [w1, i64w (by omega) (by omega)]
            exact ⟨⟨(i + 1, 10 * n + (c.toNat - 48)), by simp only; omega, w2, hg⟩, ⟨rfl, by simp⟩, by simp only; omega⟩
        · have e : i = b.length := by omega
          rw [e, List.drop_length] at hg
          have hf := num_ok hh hg
          refine awpIf_intro (fun h5 => ?_) (fun h5 => ?_) <;> simp only [decide_eq_true_eq, decide_eq_false_iff_not] at h5
          · rw [hf, if_neg (by omega)]; exact ⟨rfl, rfl⟩
          · rw [hf, if_pos (by omega)]; exact ⟨rfl, rfl⟩
  · cases hm
theorem u8wrap_in (n : Int) : 0 ≤ IntKind.u8.wrap n ∧ IntKind.u8.wrap n < 256 := by rw [u8wrap]; omega
def rfixM : FM
  | [.bytes b _, .int .u64 n, .int .i64 size] => some ((0 ≤ n ∧ n ≤ 18446744073709551615) ∧ b.length ≤ 549755813888 ∧ 1 ≤ size ∧ size ≤ 8, .bytes (b ++ be size.toNat n.toNat) (some 0), [((b ++ be size.toNat n.toNat).length, 5)])
  | _ => none
theorem div256 (n : Nat) (h : n < 18446744073709551616) : IntKind.u64.wrap ((n : Int).tdiv 256) = ((n / 256 : Nat) : Int) := by
  rw [Int.tdiv_eq_ediv_of_nonneg (by omega), u64w (by omega) (by omega)]; omega
theorem mod256 (n : Nat) : UInt8.ofNat (IntKind.u8.wrap ((n : Int).tmod 256)).toNat = UInt8.ofNat (n % 256) := by
  rw [Int.tmod_eq_emod_of_nonneg (by omega), u8wrap]
  congr 1
  omega
theorem rfix_ok : FSound Try.prog 23 rfixM := by
  refine fsound tysOk G0ok mix Try.func23 rfl ?_
  intro args p r fr hm hp
  unfold rfixM at hm
  split at hm
  · rename_i b t n size
    cases hm
    obtain ⟨⟨h0, h1⟩, h2, h3, h4⟩ := hp
    obtain ⟨m, rfl⟩ := Int.eq_ofNat_of_zero_le h0
    obtain ⟨s, rfl⟩ := Int.eq_ofNat_of_zero_le (show 0 ≤ size by omega)
    simp (maxSteps:=2000000) only[bitvec_to_nat,seval,↓tcd,Try.f23]
    have e1 : decide ((s : Int) < 1) = false := decide_eq_false (by omega)
    have e2 : decide (8 < (s : Int)) = false := decide_eq_false (by omega)
    rw [e1, e2]
    simp only [r_ifFalse]
    rw [i64w (by omega) (by omega)]
    refine ⟨mb _ (by omega), ?_⟩
    refine awpLoop_intro (α := {k : Nat // k ≤ s})
      (fun k => ⟨[.any, .int .u64 m, .any, .any, .any, .any, .any, .bytes (b ++ (be s m).take (s - k.1)) (some 0), .int .i64 ((k.1 : Int) - 1), .any, .any, .any, .any, .any, .any, .any, .any, .any, .any, .any, .any, .any, .any, .any, .any, .any, .any, .any, .any, .any, .any, .any, .any, .any, .any, .any, .any, .any, .any, .any, .any, .any], [], [((b ++ (be s m).take (s - k.1)).length, 5)]⟩) (fun k => k.1) ⟨s, by omega⟩ ?_ ?_
    · simp (maxSteps:=2000000) only[bitvec_to_nat,seval,↓tcd]
      all_goals simp
    · rintro ⟨k, hk⟩
      simp (maxSteps:=2000000) only[bitvec_to_nat,seval,↓tcd,Try.f23]
      refine awpIf_intro (fun h => ?_) (fun h => ?_) <;> simp only [decide_eq_true_eq, decide_eq_false_iff_not] at h
      · obtain ⟨k, rfl⟩ : ∃ k', k = k' + 1 := ⟨k - 1, by omega⟩
        have e3 : ((k + 1 : Nat) : Int) - 1 = (k : Int) := by omega
        rw [e3]
        refine awpLoop_intro (α := {j : Nat // j ≤ k})
          (fun j => ⟨[.any, .int .u64 m, .any, .any, .any, .any, .any, .bytes (b ++ (be s m).take (s - (k + 1))) (some 0), .int .i64 (k : Int), .int .u64 ((m / 256 ^ j.1 : Nat) : Int), .int .i64 (j.1 : Int), .any, .any, .any, .any, .any, .any, .any, .any, .any, .any, .any, .any, .any, .any, .any, .any, .any, .any, .any, .any, .any, .any, .any, .any, .any, .any, .any, .any, .any, .any, .any], [], [((b ++ (be s m).take (s - (k + 1))).length, 5)]⟩) (fun j => k - j.1) ⟨0, by omega⟩ ?_ ?_
        · simp (maxSteps:=2000000) only[bitvec_to_nat,seval,↓tcd]
          all_goals simp
        · rintro ⟨j, hj⟩
          simp (maxSteps:=2000000) only[bitvec_to_nat,seval,↓tcd]
          have hle : m / 256 ^ j ≤ m := Nat.div_le_self _ _
          have hl2 : ((be s m).take (s - (k + 1))).length = s - (k + 1) := by rw [List.length_take, be_length]; omega
          have hd : decide ((j : Int) < (k : Int)) = decide (j < k) := decide_eq_decide.2 (by omega)
          rw [hd]
          refine awpIf_intro (fun h => ?_) (fun h => ?_) <;> simp only [decide_eq_true_eq, decide_eq_false_iff_not] at h
          · rw [div256 _ (by omega), Nat.div_div_eq_div_mul, i64w (by omega) (by omega)]
            exact ⟨⟨j + 1, by omega⟩, ⟨by rw [Nat.pow_succ], by simp⟩, by simp; omega⟩
          · have hjk : j = k := by omega
            subst hjk
            rw [mod256, i64w (n := (j : Int) - 1) (by omega) (by omega)]
            refine ⟨u8wrap_in _, mb _ (by simp only [List.length_append, hl2]; omega), ⟨j, by omega⟩, ?_, by simp⟩
            have e4 : s - j = (s - (j + 1)) + 1 := by omega
            have e5 : s - 1 - (s - (j + 1)) = j := by omega
            simp only
            rw [e4, be_take s m _ (by omega), e5]
            all_goals simp
      · have hk0 : k = 0 := by omega
        subst hk0
        have ht : (be s m).take s = be s m := List.take_of_length_le (by rw [be_length]; omega)
        simp only [Int.toNat_natCast, Nat.sub_zero]
        rw [ht]
        exact ⟨0, rfl, rfl, rfl⟩
  · cases hm
def G2 : Fns := { fn := fun f => if f = 17 then some plainM else if f = 18 then some numberM else if f = 19 then some fixM else if f = 23 then some rfixM else G1.fn f, mu := fun d => .no, hp := fun f => G1.hp f, ord := fun i => none, it := fun f => G1.it f }
theorem G2_fn (f : FuncId) : G2.fn f = (if f = 17 then some plainM else if f = 18 then some numberM else if f = 19 then some fixM else if f = 23 then some rfixM else G1.fn f) := rfl
theorem G2_mu (d : Tmp) : G2.mu d = (.no) := rfl
theorem G2_hp (f : FuncId) : G2.hp f = (G1.hp f) := rfl
theorem G2_ord (i : Nat) : G2.ord i = (none) := rfl
theorem G2_it (f : FuncId) : G2.it f = (G1.it f) := rfl
theorem G2_hy (b : Nat) : G2.hy b = none := rfl
theorem G2ok : FnsOk Try.prog G2 := FnsOk.same (FnsOk.cons (FnsOk.cons (FnsOk.cons (FnsOk.cons G1ok _ _ rfix_ok Try.func23 (by decide) (fun h => by cases h)) _ _ Vary.fix_ok Try.func19 (by decide) (fun h => by cases h)) _ _ number_ok Try.func18 (by decide) (fun h => by cases h)) _ _ plain_ok Try.func17 (by decide) (fun h => by cases h)) rfl rfl
attribute [bitvec_to_nat] G2_fn G2_mu G2_hp G2_ord G2_it G2_hy
theorem retV_bytes {L : List (List V)} {l : List UInt8} {t : Option Nat} : RetV1 L (.bytes l t) (.bytes l none) := ⟨match t with | none => 0 | some k => k + 1, by cases t <;> simp [V.strip, V.le], by simp [V.clean]⟩
theorem retV_bool {L : List (List V)} {b : Bool} : RetV1 L (.bool b) (.bool b) := retV_self (by simp [V.clean]) (by simp)
theorem retV_nil {L : List (List V)} : RetV1 L .nils (.bytes [] none) := ⟨0, by simp [V.strip, V.le], by simp [V.clean]⟩
theorem retV_opt {L : List (List V)} {l : List UInt8} {t : Option Nat} {o : Option (List UInt8)} (h : o = some l) : RetV L (.tuple [.bytes l t, .bool true]) (optV o) := by subst h; exact ⟨retV_bytes, retV_bool, trivial⟩
theorem retV_none {L : List (List V)} {o : Option (List UInt8)} (h : o = none) : RetV L (.tuple [.nils, .bool false]) (optV o) := by subst h; exact ⟨retV_nil, retV_bool, trivial⟩
def labelM : FM
  | [.bytes b _, .bool num] => some (b.length ≤ 549755813888, optV (labelF b num), [])
  | _ => none
theorem label_ok : FSound Try.prog 11 labelM := by
  refine fsoundV tysOk G2ok mix Try.func11 rfl ?_
  intro args p r fr hm hp
  unfold labelM at hm
  split at hm
  · rename_i b t num
    cases hm
    refine ⟨rfl, ?_⟩
    simp (maxSteps:=2000000) only[bitvec_to_nat,seval,↓tcd,Try.f11,plainM,numberM,fixM,optV,retPostV]
    refine awpIf_intro (fun h => ?_) (fun h => ?_)
    · refine ⟨by omega, awpIf_intro (fun h2 => ?_) (fun h2 => ?_)⟩
      · obtain ⟨n, hn⟩ := Option.isSome_iff_exists.1 h2
        have hlt := numF_lt hn
        have hl : labelF b num = some (be 4 n) := by unfold labelF; rw [if_pos h, hn]; rfl
        have hf : fixF [] (((numF b).getD 0 : Nat) : Int) 4 = be 4 n := by rw [hn]; unfold fixF; rw [if_pos (by omega)]; rfl
        rw [hl, hf]
        simp only [hn, Option.getD_some]
        exact ⟨by omega, retV_opt rfl⟩
      · have hl : labelF b num = none := by unfold labelF; rw [if_pos h, show numF b = none from Option.not_isSome_iff_eq_none.1 (by simp [h2])]; rfl
        rw [hl]
        exact retV_none rfl
    · have hl : labelF b num = plainF b := by unfold labelF; rw [if_neg (by simp [h])]
      rw [hl]
      exact ⟨by omega, retV_bytes, retV_bool, trivial⟩
  · cases hm
def rlabelM : FM
  | [.bytes b _, .bool num] => some (b.length ≤ 549755813888, optV (labelF b num), [])
  | _ => none
set_option maxHeartbeats 1000000 in
theorem rlabel_ok : FSound Try.prog 16 rlabelM := by
  refine fsoundV tysOk G2ok mix Try.func16 rfl ?_
  intro args p r fr hm hp
  unfold rlabelM at hm
  split at hm
  · rename_i b t num
    cases hm
    refine ⟨rfl, ?_⟩
    simp (maxSteps:=2000000) only[bitvec_to_nat,seval,↓tcd,Try.f16,rfixM,optV,retPostV]
    refine awpIf_intro (fun hnum => ?_) (fun hnum => ?_)
    · have hl : labelF b num = (numF b).map (be 4) := by unfold labelF; rw [if_pos hnum]
      rw [hl]
      have no : numF b = none → RetV [] (.tuple [.nils, .bool false]) (optV ((numF b).map (be 4))) := fun h => retV_none (by rw [h]; rfl)
      refine awpIf_intro (fun h1 => no (num_no (head_no (.inl ?_)))) (fun h1 => awpIf_intro (fun h2 => no (num_no (head_no (.inr (.inl ?_))))) (fun h2 => ⟨?_, awpIf_intro (fun h4 => awpIf_intro (fun h3 => no (num_no (head_no (.inr (.inr ?_))))) (fun h3 => ?_)) (fun h4 => ?_)⟩)) <;> simp only [decide_eq_true_eq, decide_eq_false_iff_not] at h1
      · omega
      · simp only [decide_eq_true_eq] at h2; omega
      · omega
      · simp only [decide_eq_true_eq] at h3 h4; exact ⟨by omega, is48.1 h4⟩
      all_goals simp only [decide_eq_true_eq, decide_eq_false_iff_not] at *
      all_goals have hh : headOk b = true := head_yes (by omega) (by omega) (by first | exact .inl (by omega) | exact .inr fun e => h4 (is48.2 e))
      all_goals refine awpLoop_intro (α := Dig b) (fun q => ⟨[.bytes b none, .any, .any, .any, .any, .any, .int .u64 (q.1.2 : Nat), .int .i64 (q.1.1 : Nat), .any, .any, .any, .any, .any, .any, .any, .any, .any, .any, .any, .any, .any, .any, .any, .any, .any, .any, .any, .any, .any, .any, .any, .any, .any, .any, .any, .any, .any, .any, .any, .any, .any, .any, .any, .any, .any, .any, .any, .any, .any, .any, .any, .any, .any, .any, .any, .any, .any, .any, .any, .any, .any, .any, .any, .any, .any, .any, .any, .any, .any, .any, .any], [], []⟩) (fun q => b.length - q.1.1) ⟨(0, 0), by simp, by simp, by simp⟩ ?_ ?_
      iterate 2
        · simp (maxSteps:=2000000) only[bitvec_to_nat,seval,↓tcd]
          all_goals simp
        · rintro ⟨⟨i, n⟩, hi, hn, hg⟩
          simp only at hi hn hg
          simp (maxSteps:=2000000) only[bitvec_to_nat,seval,↓tcd,Try.f16,Int.toNat_natCast,rfixM,optV,retPostV]
          refine awpIf_intro (fun h => ?_) (fun h => ?_) <;> simp only [decide_eq_true_eq, decide_eq_false_iff_not] at h
          · have hlt : i < b.length := by omega
            rw [goN_at hlt] at hg
            generalize b.getD i 0 = c at *
            have bad : ¬ isD c = true → numF b = none := fun e => num_bad (by rw [hg, if_neg e])
            refine ⟨⟨by omega, by omega⟩, awpIf_intro (fun h5 => no (bad (dig_no (.inl ?_)))) (fun h5 => ⟨⟨by omega, by omega⟩, awpIf_intro (fun h6 => no (bad (dig_no (.inr ?_)))) (fun h6 => ?_)⟩)⟩ <;> simp only [decide_eq_true_eq, decide_eq_false_iff_not] at h5
            · exact h5
            · exact of_decide_eq_true h6
            · simp only [decide_eq_false_iff_not] at h6
              obtain ⟨w1, w2⟩ := step10 (c := c.toNat) hn (by omega) h5 h6
              rw [if_pos (dig_yes h5 h6)] at hg
              rw [Int.mul_comm, w1, i64w (by omega) (by omega)]
              exact ⟨⟨by omega, by omega⟩, ⟨(i + 1, 10 * n + (c.toNat - 48)), by simp only; omega, w2, hg⟩, ⟨rfl, by simp⟩, by simp only; omega⟩
          · have e : i = b.length := by omega
            rw [e, List.drop_length] at hg
            have hf := num_ok hh hg
            refine awpIf_intro (fun h5 => ?_) (fun h5 => ?_) <;> simp only [decide_eq_true_eq, decide_eq_false_iff_not] at h5
            · exact no (by rw [hf, if_neg (by omega)])
            · rw [hf, if_pos (by omega)]
              have hp10 : (10 : Nat) ^ i ≤ 10 ^ 10 := Nat.pow_le_pow_right (by omega) (by omega)
              exact ⟨⟨by omega, by omega⟩, retV_opt rfl⟩
    · have hl : labelF b num = plainF b := by unfold labelF; rw [if_neg (by simp [hnum])]
      rw [hl]
      unfold plainF
      refine awpIf_intro (fun h => ?_) (fun h => awpIf_intro (fun h2 => ?_) (fun h2 => ?_)) <;> simp only [decide_eq_true_eq, decide_eq_false_iff_not] at *
      · rw [if_neg (by omega)]; exact retV_none rfl
      · rw [if_neg (by omega)]; exact retV_none rfl
      · rw [if_pos (by omega)]; exact ⟨mb _ (by omega), retV_opt rfl⟩
  · cases hm
end Go.Proofs.Ytckmcglkjfkghaa.Edge
