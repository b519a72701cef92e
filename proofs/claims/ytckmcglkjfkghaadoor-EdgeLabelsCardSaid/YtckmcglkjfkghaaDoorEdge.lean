import Derived.Test.YtckmcglkjfkghaaDoorAwX
import Derived.Test.YtckmcglkjfkghaaDoorAwV
import Derived.Test.YtckmcglkjfkghaaDoorProg
import Derived.Test.YtckmcglkjfkghaaDoorEdgeM
import Derived.Test.YtckmcglkjfkghaaDoorVary2
import Derived.Test.YtckmcglkjfkghaaDoorLine3
import Derived.KernelRfl
namespace Go.Proofs.YtckmcglkjfkghaaDoor.Edge
open Go Go.Proofs Go.Proofs.YtckmcglkjfkghaaDoor.Aw Go.Proofs.YtckmcglkjfkghaaDoor.Num Go.Proofs.YtckmcglkjfkghaaDoor.VaryM Go.Proofs.YtckmcglkjfkghaaDoor.LineM Go.Proofs.YtckmcglkjfkghaaDoor.EdgeM
open Go.Proofs.YtckmcglkjfkghaaDoor.Vary (fixM fixF)
open Go.Proofs.YtckmcglkjfkghaaDoor.Line (cloneM wordsM)
set_option linter.unusedSimpArgs false
set_option linter.unusedVariables false
def I32 : TyI := ⟨.struct [(0, 4), (1, 22), (2, 22), (3, 30), (4, 3)], 5, 72, (.agg #[(.bool false), (.slice none 0 0), (.slice none 0 0), (.int .i64 0), (.int .i64 0)])⟩
def I35 : TyI := ⟨.struct [(0, 3), (1, 22)], 2, 32, (.agg #[(.int .i64 0), (.slice none 0 0)])⟩
def I45 : TyI := ⟨.array 2 22, 2, 48, (.agg #[(.slice none 0 0), (.slice none 0 0)])⟩
def tys : Tys := fun t => if t = 2 then some ⟨.int .i64, 1, 8, (.int .i64 0)⟩ else if t = 3 then some ⟨.int .i64, 1, 8, (.int .i64 0)⟩ else if t = 4 then some ⟨.bool, 1, 1, (.bool false)⟩ else if t = 5 then some ⟨.int .u8, 1, 1, (.int .u8 0)⟩ else if t = 9 then some ⟨.str, 1, 16, (.string .empty)⟩ else if t = 22 then some ⟨.slice 5, 1, 24, (.slice none 0 0)⟩ else if t = 28 then some ⟨.int .u32, 1, 4, (.int .u32 0)⟩ else if t = 30 then some ⟨.int .i64, 1, 8, (.int .i64 0)⟩ else if t = 32 then some I32 else if t = 35 then some I35 else if t = 38 then some ⟨.int .u64, 1, 8, (.int .u64 0)⟩ else if t = 45 then some I45 else if t = 46 then some ⟨.slice 35, 1, 24, (.slice none 0 0)⟩ else none
theorem tysOk : TyOk Tryd.prog tys := by
  refine TyOk.cons ?_ 2 _ (by kernel_rfl) (by kernel_rfl)
  refine TyOk.cons ?_ 3 _ (by kernel_rfl) (by kernel_rfl)
  refine TyOk.cons ?_ 4 _ (by kernel_rfl) (by kernel_rfl)
  refine TyOk.cons ?_ 5 _ (by kernel_rfl) (by kernel_rfl)
  refine TyOk.cons ?_ 9 _ (by kernel_rfl) (by kernel_rfl)
  refine TyOk.cons ?_ 22 _ (by kernel_rfl) (by kernel_rfl)
  refine TyOk.cons ?_ 28 _ (by kernel_rfl) (by kernel_rfl)
  refine TyOk.cons ?_ 30 _ (by kernel_rfl) (by kernel_rfl)
  refine TyOk.cons ?_ 32 _ (by kernel_rfl) (by kernel_rfl)
  refine TyOk.cons ?_ 35 _ (by kernel_rfl) (by kernel_rfl)
  refine TyOk.cons ?_ 38 _ (by kernel_rfl) (by kernel_rfl)
  refine TyOk.cons ?_ 45 _ (by kernel_rfl) (by kernel_rfl)
  refine TyOk.cons ?_ 46 _ (by kernel_rfl) (by kernel_rfl)
  exact TyOk.nil _
theorem mix : Tryd.prog.follows .mixedOrders = true := by kernel_rfl
theorem ty2 : tys 2 = some ⟨.int .i64, 1, 8, (.int .i64 0)⟩ := rfl
theorem tk2 : kindV tys 2 = some (.int .i64) := rfl
theorem ts2 : sizeV tys 2 = 1 := rfl
theorem ta2 : TyI.isAgg ⟨.int .i64, 1, 8, (.int .i64 0)⟩ = false := rfl
theorem tu2 : isU8 ⟨.int .i64, 1, 8, (.int .i64 0)⟩ = false := rfl
theorem tn2 : notIntK tys 2 = false := rfl
theorem tr2 : isStrK tys 2 = false := rfl
theorem tz2 : zeroOk ⟨.int .i64, 1, 8, (.int .i64 0)⟩ = true := by kernel_rfl
theorem tv2 : zeroU8 ⟨.int .i64, 1, 8, (.int .i64 0)⟩ = false := rfl
theorem td2 : TyI.zeroV ⟨.int .i64, 1, 8, (.int .i64 0)⟩ = V.ofV1 (.int .i64 0) := rfl
theorem ty3 : tys 3 = some ⟨.int .i64, 1, 8, (.int .i64 0)⟩ := rfl
theorem tk3 : kindV tys 3 = some (.int .i64) := rfl
theorem ts3 : sizeV tys 3 = 1 := rfl
theorem ta3 : TyI.isAgg ⟨.int .i64, 1, 8, (.int .i64 0)⟩ = false := rfl
theorem tu3 : isU8 ⟨.int .i64, 1, 8, (.int .i64 0)⟩ = false := rfl
theorem tn3 : notIntK tys 3 = false := rfl
theorem tr3 : isStrK tys 3 = false := rfl
theorem tz3 : zeroOk ⟨.int .i64, 1, 8, (.int .i64 0)⟩ = true := by kernel_rfl
theorem tv3 : zeroU8 ⟨.int .i64, 1, 8, (.int .i64 0)⟩ = false := rfl
theorem td3 : TyI.zeroV ⟨.int .i64, 1, 8, (.int .i64 0)⟩ = V.ofV1 (.int .i64 0) := rfl
theorem ty4 : tys 4 = some ⟨.bool, 1, 1, (.bool false)⟩ := rfl
theorem tk4 : kindV tys 4 = some (.bool) := rfl
theorem ts4 : sizeV tys 4 = 1 := rfl
theorem ta4 : TyI.isAgg ⟨.bool, 1, 1, (.bool false)⟩ = false := rfl
theorem tu4 : isU8 ⟨.bool, 1, 1, (.bool false)⟩ = false := rfl
theorem tn4 : notIntK tys 4 = true := rfl
theorem tr4 : isStrK tys 4 = false := rfl
theorem tz4 : zeroOk ⟨.bool, 1, 1, (.bool false)⟩ = true := by kernel_rfl
theorem tv4 : zeroU8 ⟨.bool, 1, 1, (.bool false)⟩ = false := rfl
theorem td4 : TyI.zeroV ⟨.bool, 1, 1, (.bool false)⟩ = V.ofV1 (.bool false) := rfl
theorem ty5 : tys 5 = some ⟨.int .u8, 1, 1, (.int .u8 0)⟩ := rfl
theorem tk5 : kindV tys 5 = some (.int .u8) := rfl
theorem ts5 : sizeV tys 5 = 1 := rfl
theorem ta5 : TyI.isAgg ⟨.int .u8, 1, 1, (.int .u8 0)⟩ = false := rfl
theorem tu5 : isU8 ⟨.int .u8, 1, 1, (.int .u8 0)⟩ = true := rfl
theorem tn5 : notIntK tys 5 = false := rfl
theorem tr5 : isStrK tys 5 = false := rfl
theorem tz5 : zeroOk ⟨.int .u8, 1, 1, (.int .u8 0)⟩ = true := by kernel_rfl
theorem tv5 : zeroU8 ⟨.int .u8, 1, 1, (.int .u8 0)⟩ = true := rfl
theorem td5 : TyI.zeroV ⟨.int .u8, 1, 1, (.int .u8 0)⟩ = V.ofV1 (.int .u8 0) := rfl
theorem ty9 : tys 9 = some ⟨.str, 1, 16, (.string .empty)⟩ := rfl
theorem tk9 : kindV tys 9 = some (.str) := rfl
theorem ts9 : sizeV tys 9 = 1 := rfl
theorem ta9 : TyI.isAgg ⟨.str, 1, 16, (.string .empty)⟩ = false := rfl
theorem tu9 : isU8 ⟨.str, 1, 16, (.string .empty)⟩ = false := rfl
theorem tn9 : notIntK tys 9 = true := rfl
theorem tr9 : isStrK tys 9 = true := rfl
theorem tz9 : zeroOk ⟨.str, 1, 16, (.string .empty)⟩ = true := by kernel_rfl
theorem tv9 : zeroU8 ⟨.str, 1, 16, (.string .empty)⟩ = false := rfl
theorem td9 : TyI.zeroV ⟨.str, 1, 16, (.string .empty)⟩ = V.ofV1 (.string .empty) := rfl
theorem ty22 : tys 22 = some ⟨.slice 5, 1, 24, (.slice none 0 0)⟩ := rfl
theorem tk22 : kindV tys 22 = some (.slice 5) := rfl
theorem ts22 : sizeV tys 22 = 1 := rfl
theorem ta22 : TyI.isAgg ⟨.slice 5, 1, 24, (.slice none 0 0)⟩ = false := rfl
theorem tb22 : isBytes tys 22 = true := rfl
theorem te22 : elemI tys 22 = some (5, ⟨.int .u8, 1, 1, (.int .u8 0)⟩) := rfl
theorem tu22 : isU8 ⟨.slice 5, 1, 24, (.slice none 0 0)⟩ = false := rfl
theorem tn22 : notIntK tys 22 = true := rfl
theorem tr22 : isStrK tys 22 = false := rfl
theorem tz22 : zeroOk ⟨.slice 5, 1, 24, (.slice none 0 0)⟩ = true := by kernel_rfl
theorem tv22 : zeroU8 ⟨.slice 5, 1, 24, (.slice none 0 0)⟩ = false := rfl
theorem td22 : TyI.zeroV ⟨.slice 5, 1, 24, (.slice none 0 0)⟩ = V.ofV1 (.slice none 0 0) := rfl
theorem ty28 : tys 28 = some ⟨.int .u32, 1, 4, (.int .u32 0)⟩ := rfl
theorem tk28 : kindV tys 28 = some (.int .u32) := rfl
theorem ts28 : sizeV tys 28 = 1 := rfl
theorem ta28 : TyI.isAgg ⟨.int .u32, 1, 4, (.int .u32 0)⟩ = false := rfl
theorem tu28 : isU8 ⟨.int .u32, 1, 4, (.int .u32 0)⟩ = false := rfl
theorem tn28 : notIntK tys 28 = false := rfl
theorem tr28 : isStrK tys 28 = false := rfl
theorem tz28 : zeroOk ⟨.int .u32, 1, 4, (.int .u32 0)⟩ = true := by kernel_rfl
theorem tv28 : zeroU8 ⟨.int .u32, 1, 4, (.int .u32 0)⟩ = false := rfl
theorem td28 : TyI.zeroV ⟨.int .u32, 1, 4, (.int .u32 0)⟩ = V.ofV1 (.int .u32 0) := rfl
theorem ty30 : tys 30 = some ⟨.int .i64, 1, 8, (.int .i64 0)⟩ := rfl
theorem tk30 : kindV tys 30 = some (.int .i64) := rfl
theorem ts30 : sizeV tys 30 = 1 := rfl
theorem ta30 : TyI.isAgg ⟨.int .i64, 1, 8, (.int .i64 0)⟩ = false := rfl
theorem tu30 : isU8 ⟨.int .i64, 1, 8, (.int .i64 0)⟩ = false := rfl
theorem tn30 : notIntK tys 30 = false := rfl
theorem tr30 : isStrK tys 30 = false := rfl
theorem tz30 : zeroOk ⟨.int .i64, 1, 8, (.int .i64 0)⟩ = true := by kernel_rfl
theorem tv30 : zeroU8 ⟨.int .i64, 1, 8, (.int .i64 0)⟩ = false := rfl
theorem td30 : TyI.zeroV ⟨.int .i64, 1, 8, (.int .i64 0)⟩ = V.ofV1 (.int .i64 0) := rfl
theorem ty32 : tys 32 = some I32 := rfl
theorem tk32 : kindV tys 32 = some (.struct [(0, 4), (1, 22), (2, 22), (3, 30), (4, 3)]) := rfl
theorem ts32 : sizeV tys 32 = 5 := rfl
theorem ta32 : TyI.isAgg I32 = true := rfl
theorem tg32 : I32.size = 5 ∧ I32.kind = .struct [(0, 4), (1, 22), (2, 22), (3, 30), (4, 3)] ∧ I32.bytes = 72 ∧ I32.zero = (.agg #[(.bool false), (.slice none 0 0), (.slice none 0 0), (.int .i64 0), (.int .i64 0)]) := ⟨rfl, rfl, rfl, rfl⟩
theorem tu32 : isU8 I32 = false := rfl
theorem tn32 : notIntK tys 32 = true := rfl
theorem tr32 : isStrK tys 32 = false := rfl
theorem tz32 : zeroOk I32 = true := by kernel_rfl
theorem tv32 : zeroU8 I32 = false := rfl
theorem tc32 : V.ofV (.agg #[(.bool false), (.slice none 0 0), (.slice none 0 0), (.int .i64 0), (.int .i64 0)]) = .agg [V.ofV1 (.bool false), V.ofV1 (.slice none 0 0), V.ofV1 (.slice none 0 0), V.ofV1 (.int .i64 0), V.ofV1 (.int .i64 0)] := by kernel_rfl
theorem tw32 : Value.oneCell' (.agg #[(.bool false), (.slice none 0 0), (.slice none 0 0), (.int .i64 0), (.int .i64 0)]) = false := rfl
theorem tx32 : (#[(.bool false), (.slice none 0 0), (.slice none 0 0), (.int .i64 0), (.int .i64 0)] : Array Value).all (fun x => x.oneCell') 0 5 = true := by kernel_rfl
theorem td32 : TyI.zeroV I32 = .agg [V.ofV1 (.bool false), V.ofV1 (.slice none 0 0), V.ofV1 (.slice none 0 0), V.ofV1 (.int .i64 0), V.ofV1 (.int .i64 0)] := by kernel_rfl
theorem tp32_0 : placeV tys [(0, 4), (1, 22), (2, 22), (3, 30), (4, 3)] 0 = some (0, 1) := rfl
theorem tp32_1 : placeV tys [(0, 4), (1, 22), (2, 22), (3, 30), (4, 3)] 1 = some (1, 1) := rfl
theorem tp32_2 : placeV tys [(0, 4), (1, 22), (2, 22), (3, 30), (4, 3)] 2 = some (2, 1) := rfl
theorem tp32_3 : placeV tys [(0, 4), (1, 22), (2, 22), (3, 30), (4, 3)] 3 = some (3, 1) := rfl
theorem tp32_4 : placeV tys [(0, 4), (1, 22), (2, 22), (3, 30), (4, 3)] 4 = some (4, 1) := rfl
theorem tq32 : ([(0, 4), (1, 22), (2, 22), (3, 30), (4, 3)].all (fun f => (tys f.2).isSome)) = true := rfl
theorem ty35 : tys 35 = some I35 := rfl
theorem tk35 : kindV tys 35 = some (.struct [(0, 3), (1, 22)]) := rfl
theorem ts35 : sizeV tys 35 = 2 := rfl
theorem ta35 : TyI.isAgg I35 = true := rfl
theorem tg35 : I35.size = 2 ∧ I35.kind = .struct [(0, 3), (1, 22)] ∧ I35.bytes = 32 ∧ I35.zero = (.agg #[(.int .i64 0), (.slice none 0 0)]) := ⟨rfl, rfl, rfl, rfl⟩
theorem tu35 : isU8 I35 = false := rfl
theorem tn35 : notIntK tys 35 = true := rfl
theorem tr35 : isStrK tys 35 = false := rfl
theorem tz35 : zeroOk I35 = true := by kernel_rfl
theorem tv35 : zeroU8 I35 = false := rfl
theorem tc35 : V.ofV (.agg #[(.int .i64 0), (.slice none 0 0)]) = .agg [V.ofV1 (.int .i64 0), V.ofV1 (.slice none 0 0)] := by kernel_rfl
theorem tw35 : Value.oneCell' (.agg #[(.int .i64 0), (.slice none 0 0)]) = false := rfl
theorem tx35 : (#[(.int .i64 0), (.slice none 0 0)] : Array Value).all (fun x => x.oneCell') 0 2 = true := by kernel_rfl
theorem td35 : TyI.zeroV I35 = .agg [V.ofV1 (.int .i64 0), V.ofV1 (.slice none 0 0)] := by kernel_rfl
theorem tp35_0 : placeV tys [(0, 3), (1, 22)] 0 = some (0, 1) := rfl
theorem tp35_1 : placeV tys [(0, 3), (1, 22)] 1 = some (1, 1) := rfl
theorem tq35 : ([(0, 3), (1, 22)].all (fun f => (tys f.2).isSome)) = true := rfl
theorem ty38 : tys 38 = some ⟨.int .u64, 1, 8, (.int .u64 0)⟩ := rfl
theorem tk38 : kindV tys 38 = some (.int .u64) := rfl
theorem ts38 : sizeV tys 38 = 1 := rfl
theorem ta38 : TyI.isAgg ⟨.int .u64, 1, 8, (.int .u64 0)⟩ = false := rfl
theorem tu38 : isU8 ⟨.int .u64, 1, 8, (.int .u64 0)⟩ = false := rfl
theorem tn38 : notIntK tys 38 = false := rfl
theorem tr38 : isStrK tys 38 = false := rfl
theorem tz38 : zeroOk ⟨.int .u64, 1, 8, (.int .u64 0)⟩ = true := by kernel_rfl
theorem tv38 : zeroU8 ⟨.int .u64, 1, 8, (.int .u64 0)⟩ = false := rfl
theorem td38 : TyI.zeroV ⟨.int .u64, 1, 8, (.int .u64 0)⟩ = V.ofV1 (.int .u64 0) := rfl
theorem ty45 : tys 45 = some I45 := rfl
theorem tk45 : kindV tys 45 = some (.array 2 22) := rfl
theorem ts45 : sizeV tys 45 = 2 := rfl
theorem ta45 : TyI.isAgg I45 = true := rfl
theorem tg45 : I45.size = 2 ∧ I45.kind = .array 2 22 ∧ I45.bytes = 48 ∧ I45.zero = (.agg #[(.slice none 0 0), (.slice none 0 0)]) := ⟨rfl, rfl, rfl, rfl⟩
theorem tu45 : isU8 I45 = false := rfl
theorem tn45 : notIntK tys 45 = true := rfl
theorem tr45 : isStrK tys 45 = false := rfl
theorem tz45 : zeroOk I45 = true := by kernel_rfl
theorem tv45 : zeroU8 I45 = false := rfl
theorem tc45 : V.ofV (.agg #[(.slice none 0 0), (.slice none 0 0)]) = .agg [V.ofV1 (.slice none 0 0), V.ofV1 (.slice none 0 0)] := by kernel_rfl
theorem tw45 : Value.oneCell' (.agg #[(.slice none 0 0), (.slice none 0 0)]) = false := rfl
theorem tx45 : (#[(.slice none 0 0), (.slice none 0 0)] : Array Value).all (fun x => x.oneCell') 0 2 = true := by kernel_rfl
theorem td45 : TyI.zeroV I45 = .agg [V.ofV1 (.slice none 0 0), V.ofV1 (.slice none 0 0)] := by kernel_rfl
theorem ty46 : tys 46 = some ⟨.slice 35, 1, 24, (.slice none 0 0)⟩ := rfl
theorem tk46 : kindV tys 46 = some (.slice 35) := rfl
theorem ts46 : sizeV tys 46 = 1 := rfl
theorem ta46 : TyI.isAgg ⟨.slice 35, 1, 24, (.slice none 0 0)⟩ = false := rfl
theorem tb46 : isBytes tys 46 = false := rfl
theorem te46 : elemI tys 46 = some (35, I35) := rfl
theorem tu46 : isU8 ⟨.slice 35, 1, 24, (.slice none 0 0)⟩ = false := rfl
theorem tn46 : notIntK tys 46 = true := rfl
theorem tr46 : isStrK tys 46 = false := rfl
theorem tz46 : zeroOk ⟨.slice 35, 1, 24, (.slice none 0 0)⟩ = true := by kernel_rfl
theorem tv46 : zeroU8 ⟨.slice 35, 1, 24, (.slice none 0 0)⟩ = false := rfl
theorem td46 : TyI.zeroV ⟨.slice 35, 1, 24, (.slice none 0 0)⟩ = V.ofV1 (.slice none 0 0) := rfl
set_option linter.defProp false in
def tcd := And.intro @r_ifTrue (And.intro @r_ifFalse (And.intro tc32 (And.intro td32 (And.intro tc35 (And.intro td35 (And.intro tc45 (td45)))))))
attribute [bitvec_to_nat] ty2 tk2 ts2 ta2 tu2 tn2 tr2 tz2 tv2 td2 ty3 tk3 ts3 ta3 tu3 tn3 tr3 tz3 tv3 td3 ty4 tk4 ts4 ta4 tu4 tn4 tr4 tz4 tv4 td4 ty5 tk5 ts5 ta5 tu5 tn5 tr5 tz5 tv5 td5 ty9 tk9 ts9 ta9 tu9 tn9 tr9 tz9 tv9 td9 ty22 tk22 ts22 ta22 tb22 te22 tu22 tn22 tr22 tz22 tv22 td22 ty28 tk28 ts28 ta28 tu28 tn28 tr28 tz28 tv28 td28 ty30 tk30 ts30 ta30 tu30 tn30 tr30 tz30 tv30 td30 ty32 tk32 ts32 ta32 tg32 tu32 tn32 tr32 tz32 tv32 tw32 tx32 tp32_0 tp32_1 tp32_2 tp32_3 tp32_4 tq32 ty35 tk35 ts35 ta35 tg35 tu35 tn35 tr35 tz35 tv35 tw35 tx35 tp35_0 tp35_1 tq35 ty38 tk38 ts38 ta38 tu38 tn38 tr38 tz38 tv38 td38 ty45 tk45 ts45 ta45 tg45 tu45 tn45 tr45 tz45 tv45 tw45 tx45 ty46 tk46 ts46 ta46 tb46 te46 tu46 tn46 tr46 tz46 tv46 td46
def G0 : Fns := { fn := fun _ => none }
theorem G0_fn (f : FuncId) : G0.fn f = none := rfl
theorem G0_mu (d : Tmp) : G0.mu d = .no := rfl
theorem G0_hp (f : FuncId) : G0.hp f = none := rfl
theorem G0_ord (i : Nat) : G0.ord i = none := rfl
theorem G0_it (f : FuncId) : G0.it f = none := rfl
theorem G0_hy (b : Nat) : G0.hy b = none := rfl
theorem G0ok : FnsOk Tryd.prog G0 := FnsOk.nil _ rfl rfl
attribute [bitvec_to_nat] G0_fn G0_mu G0_hp G0_ord G0_it G0_hy
def G1 : Fns := { fn := fun f => if f = 23 then some cloneM else G0.fn f, mu := fun d => .no, hp := fun f => G0.hp f, ord := fun i => none, it := fun f => G0.it f }
theorem G1_fn (f : FuncId) : G1.fn f = (if f = 23 then some cloneM else G0.fn f) := rfl
theorem G1_mu (d : Tmp) : G1.mu d = (.no) := rfl
theorem G1_hp (f : FuncId) : G1.hp f = (G0.hp f) := rfl
theorem G1_ord (i : Nat) : G1.ord i = (none) := rfl
theorem G1_it (f : FuncId) : G1.it f = (G0.it f) := rfl
theorem G1_hy (b : Nat) : G1.hy b = none := rfl
theorem G1ok : FnsOk Tryd.prog G1 := FnsOk.same (FnsOk.cons G0ok _ _ Line.clone_ok Tryd.func23 (by decide) (fun h => by cases h)) rfl rfl
attribute [bitvec_to_nat] G1_fn G1_mu G1_hp G1_ord G1_it G1_hy
def optV (o : Option (List UInt8)) : V := .tuple [.bytes (o.getD []) none, .bool o.isSome]
def plainM : FM
  | [.bytes b _] => some (b.length ≤ 1099511627776, optV (plainF b), [])
  | _ => none
theorem plain_ok : FSound Tryd.prog 14 plainM := by
  refine fsound tysOk G1ok mix Tryd.func14 rfl ?_
  intro args p r fr hm hp
  unfold plainM at hm
  split at hm
  · rename_i b t
    cases hm
    unfold optV plainF
    simp (maxSteps:=2000000) only[bitvec_to_nat,seval,↓tcd,Tryd.f14,cloneM]
    refine awpIf_intro (fun h => ?_) (fun h => awpIf_intro (fun h2 => ?_) (fun h2 => ?_)) <;> simp only [decide_eq_true_eq, decide_eq_false_iff_not] at *
    · rw [if_neg (by omega)]; exact ⟨rfl, rfl⟩
    · rw [if_neg (by omega)]; exact ⟨rfl, rfl⟩
    · rw [if_pos (by omega)]; exact ⟨by omega, rfl, rfl⟩
  · cases hm
theorem num_no {b : List UInt8} (h : headOk b = false) : numF b = none := by unfold numF; rw [if_neg (by simp [h])]
theorem head_no {b : List UInt8} (h : b.length < 1 ∨ 10 < b.length ∨ (1 < b.length ∧ b.getD 0 0 = 48)) : headOk b = false := decide_eq_false fun ⟨a, c, d⟩ => by
  rcases h with h | h | h
  · omega
  · omega
  · exact d h
theorem head_yes {b : List UInt8} (h1 : ¬ b.length < 1) (h2 : ¬ 10 < b.length) (h3 : ¬ 1 < b.length ∨ ¬ b.getD 0 0 = 48) : headOk b = true := decide_eq_true ⟨by omega, by omega, fun h => by rcases h3 with h3 | h3; exact h3 h.1; exact h3 h.2⟩
theorem num_bad {b : List UInt8} (h : goN 0 b = none) : numF b = none := by unfold numF; rw [h]; split <;> rfl
theorem num_ok {b : List UInt8} {n : Nat} (h1 : headOk b = true) (h : goN 0 b = some n) : numF b = if n < 4294967296 then some n else none := by unfold numF; rw [h, if_pos h1]; rfl
theorem goN_at {b : List UInt8} {i n : Nat} (hi : i < b.length) : goN n (b.drop i) = if isD (b.getD i 0) = true then goN (10 * n + ((b.getD i 0).toNat - 48)) (b.drop (i + 1)) else none := by
  rw [List.drop_eq_getElem_cons hi]
  have hg : b.getD i 0 = b[i] := by simp [List.getD_eq_getElem?_getD, List.getElem?_eq_getElem hi]
  rw [hg]; rfl
theorem is48 {c : UInt8} : (c.toNat : Int) = 48 ↔ c = 48 := ⟨fun e => UInt8.toNat_inj.1 (by have : (48 : UInt8).toNat = 48 := rfl; omega), fun e => by rw [e]; rfl⟩
theorem dig_yes {c : UInt8} (h1 : ¬ (c.toNat : Int) < 48) (h2 : ¬ 57 < (c.toNat : Int)) : isD c = true := decide_eq_true (by omega)
theorem dig_no {c : UInt8} (h : (c.toNat : Int) < 48 ∨ 57 < (c.toNat : Int)) : ¬ isD c = true := by unfold isD; simp only [decide_eq_true_eq]; omega
theorem step10 {n c i : Nat} (hn : n < 10 ^ i) (hi : i < 10) (h1 : ¬ ((c : Int) < 48)) (h2 : ¬ (57 < (c : Int))) :
    IntKind.u64.wrap (IntKind.u64.wrap (10 * (n : Int)) + IntKind.u64.wrap (IntKind.u8.wrap ((c : Int) - 48))) = ((10 * n + (c - 48) : Nat) : Int) ∧ 10 * n + (c - 48) < 10 ^ (i + 1) := by
  have h3 : 10 ^ i ≤ 10 ^ 9 := Nat.pow_le_pow_right (by omega) (by omega)
  have h4 : (10 : Nat) ^ 9 = 1000000000 := by decide
  rw [u8w (by omega) (by omega), u64w (n := 10 * (n : Int)) (by omega) (by omega), u64w (n := (c : Int) - 48) (by omega) (by omega), u64w (by omega) (by omega)]
  refine ⟨by omega, ?_⟩
  rw [Nat.pow_succ]
  omega
abbrev Dig (b : List UInt8) := {q : Nat × Nat // q.1 ≤ b.length ∧ q.2 < 10 ^ q.1 ∧ goN 0 b = goN q.2 (b.drop q.1)}
def numberM : FM
  | [.bytes b _] => some (b.length ≤ 1099511627776, .tuple [.int .u64 ((numF b).getD 0 : Nat), .bool (numF b).isSome], [])
  | _ => none
theorem number_ok : FSound Tryd.prog 15 numberM := by
  refine fsound tysOk G1ok mix Tryd.func15 rfl ?_
  intro args p r fr hm hp
  unfold numberM at hm
  split at hm
  · rename_i b t
    cases hm
    simp (maxSteps:=2000000) only[bitvec_to_nat,seval,↓tcd,Tryd.f15,cloneM]
    have no : headOk b = false → (0 : Int) = ((numF b).getD 0 : Nat) ∧ false = (numF b).isSome := fun h => by rw [num_no h]; exact ⟨rfl, rfl⟩
    refine awpIf_intro (fun h1 => no (head_no (.inl ?_))) (fun h1 => awpIf_intro (fun h2 => no (head_no (.inr (.inl ?_)))) (fun h2 => awpIf_intro (fun h3 => ⟨?_, awpIf_intro (fun h4 => no (head_no (.inr (.inr ?_)))) (fun h4 => ?_)⟩) (fun h3 => ?_))) <;> simp only [decide_eq_true_eq, decide_eq_false_iff_not] at *
    · omega
    · omega
    · omega
    · exact ⟨by omega, is48.1 h4⟩
    all_goals have hh : headOk b = true := head_yes (by omega) (by omega) (by first | exact .inr fun e => h4 (is48.2 e) | exact .inl (by omega))
    all_goals refine awpLoop_intro (α := Dig b) (fun q => ⟨[.any, .any, .any, .any, .int .u64 (q.1.2 : Nat), .any, .any, .any, .any, .any, .any, .any, .any, .any, .any, .any, .any, .any, .any, .any, .any, .any, .any, .any, .any, .any, .bytes b none, .int .i64 (b.length : Nat), .int .i64 (q.1.1 : Nat), .any, .any, .any, .any, .any, .any, .any, .any, .any, .any, .any, .any, .any, .any, .any, .any, .any, .any, .any], [], []⟩) (fun q => b.length - q.1.1) ⟨(0, 0), by simp, by simp, by simp⟩ ?_ ?_
    iterate 2
      · simp (maxSteps:=2000000) only[bitvec_to_nat,seval,↓tcd]
        all_goals simp
      · rintro ⟨⟨i, n⟩, hi, hn, hg⟩
        simp only at hi hn hg
        simp (maxSteps:=2000000) only[bitvec_to_nat,seval,↓tcd,Tryd.f15,Int.toNat_natCast]
        refine awpIf_intro (fun h => ?_) (fun h => ?_) <;> simp only [decide_eq_true_eq, decide_eq_false_iff_not] at h
        · have hlt : i < b.length := by omega
          rw [goN_at hlt] at hg
          generalize b.getD i 0 = c at *
          have bad : ¬ isD c = true → (0 : Int) = ((numF b).getD 0 : Nat) ∧ false = (numF b).isSome := fun e => by rw [num_bad (by rw [hg, if_neg e])]; exact ⟨rfl, rfl⟩
          refine ⟨⟨by omega, by omega⟩, awpIf_intro (fun h5 => bad (dig_no (.inl ?_))) (fun h5 => awpIf_intro (fun h6 => bad (dig_no (.inr ?_))) (fun h6 => ?_))⟩ <;> simp only [decide_eq_true_eq, decide_eq_false_iff_not] at h5
          · exact h5
          · exact of_decide_eq_true h6
          · simp only [decide_eq_false_iff_not] at h6
            obtain ⟨w1, w2⟩ := step10 (c := c.toNat) hn (by omega) h5 h6
            rw [if_pos (dig_yes h5 h6)] at hg
            rw [w1, i64w (by omega) (by omega)]
            exact ⟨⟨(i + 1, 10 * n + (c.toNat - 48)), by simp only; omega, w2, hg⟩, ⟨rfl, by simp⟩, by simp only; omega⟩
        · have e : i = b.length := by omega
          rw [e, List.drop_length] at hg
          have hf := num_ok hh hg
          refine awpIf_intro (fun h5 => ?_) (fun h5 => ?_) <;> simp only [decide_eq_true_eq, decide_eq_false_iff_not] at h5
          · rw [hf, if_neg (by omega)]; exact ⟨rfl, rfl⟩
          · rw [hf, if_pos (by omega)]; exact ⟨rfl, rfl⟩
  · cases hm
theorem u8wrap_in (n : Int) : 0 ≤ IntKind.u8.wrap n ∧ IntKind.u8.wrap n < 256 := by rw [u8wrap]; omega
def rfixM : FM
  | [.bytes b _, .int .u64 n, .int .i64 size] => some ((0 ≤ n ∧ n ≤ 18446744073709551615) ∧ b.length ≤ 549755813888 ∧ 1 ≤ size ∧ size ≤ 8, .bytes (b ++ be size.toNat n.toNat) (some 0), [((b ++ be size.toNat n.toNat).length, 5)])
  | _ => none
theorem div256 (n : Nat) (h : n < 18446744073709551616) : IntKind.u64.wrap ((n : Int).tdiv 256) = ((n / 256 : Nat) : Int) := by
  rw [Int.tdiv_eq_ediv_of_nonneg (by omega), u64w (by omega) (by omega)]; omega
theorem mod256 (n : Nat) : UInt8.ofNat (IntKind.u8.wrap ((n : Int).tmod 256)).toNat = UInt8.ofNat (n % 256) := by
  rw [Int.tmod_eq_emod_of_nonneg (by omega), u8wrap]
  congr 1
  omega
theorem rfix_ok : FSound Tryd.prog 17 rfixM := by
  refine fsound tysOk G0ok mix Tryd.func17 rfl ?_
  intro args p r fr hm hp
  unfold rfixM at hm
  split at hm
  · rename_i b t n size
    cases hm
    obtain ⟨⟨h0, h1⟩, h2, h3, h4⟩ := hp
    obtain ⟨m, rfl⟩ := Int.eq_ofNat_of_zero_le h0
    obtain ⟨s, rfl⟩ := Int.eq_ofNat_of_zero_le (show 0 ≤ size by omega)
    simp (maxSteps:=2000000) only[bitvec_to_nat,seval,↓tcd,Tryd.f17]
    have e1 : decide ((s : Int) < 1) = false := decide_eq_false (by omega)
    have e2 : decide (8 < (s : Int)) = false := decide_eq_false (by omega)
    rw [e1, e2]
    simp only [r_ifFalse]
    rw [i64w (by omega) (by omega)]
    refine ⟨mb _ (by omega), ?_⟩
    refine awpLoop_intro (α := {k : Nat // k ≤ s})
      (fun k => ⟨[.any, .int .u64 m, .any, .any, .any, .any, .any, .bytes (b ++ (be s m).take (s - k.1)) (some 0), .int .i64 ((k.1 : Int) - 1), .any, .any, .any, .any, .any, .any, .any, .any, .any, .any, .any, .any, .any, .any, .any, .any, .any, .any, .any, .any, .any, .any, .any, .any, .any, .any, .any, .any, .any, .any, .any, .any, .any], [], [((b ++ (be s m).take (s - k.1)).length, 5)]⟩) (fun k => k.1) ⟨s, by omega⟩ ?_ ?_
    · simp (maxSteps:=2000000) only[bitvec_to_nat,seval,↓tcd]
      all_goals simp
    · rintro ⟨k, hk⟩
      simp (maxSteps:=2000000) only[bitvec_to_nat,seval,↓tcd,Tryd.f17]
      refine awpIf_intro (fun h => ?_) (fun h => ?_) <;> simp only [decide_eq_true_eq, decide_eq_false_iff_not] at h
      · obtain ⟨k, rfl⟩ : ∃ k', k = k' + 1 := ⟨k - 1, by omega⟩
        have e3 : ((k + 1 : Nat) : Int) - 1 = (k : Int) := by omega
        rw [e3]
        refine awpLoop_intro (α := {j : Nat // j ≤ k})
          (fun j => ⟨[.any, .int .u64 m, .any, .any, .any, .any, .any, .bytes (b ++ (be s m).take (s - (k + 1))) (some 0), .int .i64 (k : Int), .int .u64 ((m / 256 ^ j.1 : Nat) : Int), .int .i64 (j.1 : Int), .any, .any, .any, .any, .any, .any, .any, .any, .any, .any, .any, .any, .any, .any, .any, .any, .any, .any, .any, .any, .any, .any, .any, .any, .any, .any, .any, .any, .any, .any, .any], [], [((b ++ (be s m).take (s - (k + 1))).length, 5)]⟩) (fun j => k - j.1) ⟨0, by omega⟩ ?_ ?_
        · simp (maxSteps:=2000000) only[bitvec_to_nat,seval,↓tcd]
          all_goals simp
        · rintro ⟨j, hj⟩
          simp (maxSteps:=2000000) only[bitvec_to_nat,seval,↓tcd]
          have hle : m / 256 ^ j ≤ m := Nat.div_le_self _ _
          have hl2 : ((be s m).take (s - (k + 1))).length = s - (k + 1) := by rw [List.length_take, be_length]; omega
          have hd : decide ((j : Int) < (k : Int)) = decide (j < k) := decide_eq_decide.2 (by omega)
          rw [hd]
          refine awpIf_intro (fun h => ?_) (fun h => ?_) <;> simp only [decide_eq_true_eq, decide_eq_false_iff_not] at h
          · rw [div256 _ (by omega), Nat.div_div_eq_div_mul, i64w (by omega) (by omega)]
            exact ⟨⟨j + 1, by omega⟩, ⟨by rw [Nat.pow_succ], by simp⟩, by simp; omega⟩
          · have hjk : j = k := by omega
            subst hjk
            rw [mod256, i64w (n := (j : Int) - 1) (by omega) (by omega)]
            refine ⟨u8wrap_in _, mb _ (by simp only [List.length_append, hl2]; omega), ⟨j, by omega⟩, ?_, by simp⟩
            have e4 : s - j = (s - (j + 1)) + 1 := by omega
            have e5 : s - 1 - (s - (j + 1)) = j := by omega
            simp only
            rw [e4, be_take s m _ (by omega), e5]
            all_goals simp
      · have hk0 : k = 0 := by omega
        subst hk0
        have ht : (be s m).take s = be s m := List.take_of_length_le (by rw [be_length]; omega)
        simp only [Int.toNat_natCast, Nat.sub_zero]
        rw [ht]
        exact ⟨0, rfl, rfl, rfl⟩
  · cases hm
def G2 : Fns := { fn := fun f => if f = 14 then some plainM else if f = 15 then some numberM else if f = 16 then some fixM else if f = 17 then some rfixM else G1.fn f, mu := fun d => .no, hp := fun f => G1.hp f, ord := fun i => none, it := fun f => G1.it f }
theorem G2_fn (f : FuncId) : G2.fn f = (if f = 14 then some plainM else if f = 15 then some numberM else if f = 16 then some fixM else if f = 17 then some rfixM else G1.fn f) := rfl
theorem G2_mu (d : Tmp) : G2.mu d = (.no) := rfl
theorem G2_hp (f : FuncId) : G2.hp f = (G1.hp f) := rfl
theorem G2_ord (i : Nat) : G2.ord i = (none) := rfl
theorem G2_it (f : FuncId) : G2.it f = (G1.it f) := rfl
theorem G2_hy (b : Nat) : G2.hy b = none := rfl
theorem G2ok : FnsOk Tryd.prog G2 := FnsOk.same (FnsOk.cons (FnsOk.cons (FnsOk.cons (FnsOk.cons G1ok _ _ rfix_ok Tryd.func17 (by decide) (fun h => by cases h)) _ _ Vary.fix_ok Tryd.func16 (by decide) (fun h => by cases h)) _ _ number_ok Tryd.func15 (by decide) (fun h => by cases h)) _ _ plain_ok Tryd.func14 (by decide) (fun h => by cases h)) rfl rfl
attribute [bitvec_to_nat] G2_fn G2_mu G2_hp G2_ord G2_it G2_hy
theorem retV_bytes {L : List (List V)} {l : List UInt8} {t : Option Nat} : RetV1 L (.bytes l t) (.bytes l none) := ⟨match t with | none => 0 | some k => k + 1, by cases t <;> simp [V.strip, V.le], by simp [V.clean]⟩
theorem retV_bool {L : List (List V)} {b : Bool} : RetV1 L (.bool b) (.bool b) := retV_self (by simp [V.clean]) (by simp)
theorem retV_nil {L : List (List V)} : RetV1 L .nils (.bytes [] none) := ⟨0, by simp [V.strip, V.le], by simp [V.clean]⟩
theorem retV_opt {L : List (List V)} {l : List UInt8} {t : Option Nat} {o : Option (List UInt8)} (h : o = some l) : RetV L (.tuple [.bytes l t, .bool true]) (optV o) := by subst h; exact ⟨retV_bytes, retV_bool, trivial⟩
theorem retV_none {L : List (List V)} {o : Option (List UInt8)} (h : o = none) : RetV L (.tuple [.nils, .bool false]) (optV o) := by subst h; exact ⟨retV_nil, retV_bool, trivial⟩
def labelM : FM
  | [.bytes b _, .bool num] => some (b.length ≤ 549755813888, optV (labelF b num), [])
  | _ => none
theorem label_ok : FSound Tryd.prog 6 labelM := by
  refine fsoundV tysOk G2ok mix Tryd.func6 rfl ?_
  intro args p r fr hm hp
  unfold labelM at hm
  split at hm
  · rename_i b t num
    cases hm
    refine ⟨rfl, ?_⟩
    simp (maxSteps:=2000000) only[bitvec_to_nat,seval,↓tcd,Tryd.f6,plainM,numberM,fixM,optV,retPostV]
    refine awpIf_intro (fun h => ?_) (fun h => ?_)
    · refine ⟨by omega, awpIf_intro (fun h2 => ?_) (fun h2 => ?_)⟩
      · obtain ⟨n, hn⟩ := Option.isSome_iff_exists.1 h2
        have hlt := numF_lt hn
        have hl : labelF b num = some (be 4 n) := by unfold labelF; rw [if_pos h, hn]; rfl
        have hf : fixF [] (((numF b).getD 0 : Nat) : Int) 4 = be 4 n := by rw [hn]; unfold fixF; rw [if_pos (by omega)]; rfl
        rw [hl, hf]
        simp only [hn, Option.getD_some]
        exact ⟨by omega, retV_opt rfl⟩
      · have hl : labelF b num = none := by unfold labelF; rw [if_pos h, show numF b = none from Option.not_isSome_iff_eq_none.1 (by simp [h2])]; rfl
        rw [hl]
        exact retV_none rfl
    · have hl : labelF b num = plainF b := by unfold labelF; rw [if_neg (by simp [h])]
      rw [hl]
      exact ⟨by omega, retV_bytes, retV_bool, trivial⟩
  · cases hm
def rlabelM : FM
  | [.bytes b _, .bool num] => some (b.length ≤ 549755813888, optV (labelF b num), [])
  | _ => none
set_option maxHeartbeats 1000000 in
theorem rlabel_ok : FSound Tryd.prog 8 rlabelM := by
  refine fsoundV tysOk G2ok mix Tryd.func8 rfl ?_
  intro args p r fr hm hp
  unfold rlabelM at hm
  split at hm
  · rename_i b t num
    cases hm
    refine ⟨rfl, ?_⟩
    simp (maxSteps:=2000000) only[bitvec_to_nat,seval,↓tcd,Tryd.f8,rfixM,optV,retPostV]
    refine awpIf_intro (fun hnum => ?_) (fun hnum => ?_)
    · have hl : labelF b num = (numF b).map (be 4) := by unfold labelF; rw [if_pos hnum]
      rw [hl]
      have no : numF b = none → RetV [] (.tuple [.nils, .bool false]) (optV ((numF b).map (be 4))) := fun h => retV_none (by rw [h]; rfl)
      refine awpIf_intro (fun h1 => no (num_no (head_no (.inl ?_)))) (fun h1 => awpIf_intro (fun h2 => no (num_no (head_no (.inr (.inl ?_))))) (fun h2 => ⟨?_, awpIf_intro (fun h4 => awpIf_intro (fun h3 => no (num_no (head_no (.inr (.inr ?_))))) (fun h3 => ?_)) (fun h4 => ?_)⟩)) <;> simp only [decide_eq_true_eq, decide_eq_false_iff_not] at h1
      · omega
      · simp only [decide_eq_true_eq] at h2; omega
      · omega
      · simp only [decide_eq_true_eq] at h3 h4; exact ⟨by omega, is48.1 h4⟩
      all_goals simp only [decide_eq_true_eq, decide_eq_false_iff_not] at *
      all_goals have hh : headOk b = true := head_yes (by omega) (by omega) (by first | exact .inl (by omega) | exact .inr fun e => h4 (is48.2 e))
      all_goals refine awpLoop_intro (α := Dig b) (fun q => ⟨[.bytes b none, .any, .any, .any, .any, .any, .int .u64 (q.1.2 : Nat), .int .i64 (q.1.1 : Nat), .any, .any, .any, .any, .any, .any, .any, .any, .any, .any, .any, .any, .any, .any, .any, .any, .any, .any, .any, .any, .any, .any, .any, .any, .any, .any, .any, .any, .any, .any, .any, .any, .any, .any, .any, .any, .any, .any, .any, .any, .any, .any, .any, .any, .any, .any, .any, .any, .any, .any, .any, .any, .any, .any, .any, .any, .any, .any, .any, .any, .any, .any, .any], [], []⟩) (fun q => b.length - q.1.1) ⟨(0, 0), by simp, by simp, by simp⟩ ?_ ?_
      iterate 2
        · simp (maxSteps:=2000000) only[bitvec_to_nat,seval,↓tcd]
          all_goals simp
        · rintro ⟨⟨i, n⟩, hi, hn, hg⟩
          simp only at hi hn hg
          simp (maxSteps:=2000000) only[bitvec_to_nat,seval,↓tcd,Tryd.f8,Int.toNat_natCast,rfixM,optV,retPostV]
          refine awpIf_intro (fun h => ?_) (fun h => ?_) <;> simp only [decide_eq_true_eq, decide_eq_false_iff_not] at h
          · have hlt : i < b.length := by omega
            rw [goN_at hlt] at hg
            generalize b.getD i 0 = c at *
            have bad : ¬ isD c = true → numF b = none := fun e => num_bad (by rw [hg, if_neg e])
            refine ⟨⟨by omega, by omega⟩, awpIf_intro (fun h5 => no (bad (dig_no (.inl ?_)))) (fun h5 => ⟨⟨by omega, by omega⟩, awpIf_intro (fun h6 => no (bad (dig_no (.inr ?_)))) (fun h6 => ?_)⟩)⟩ <;> simp only [decide_eq_true_eq, decide_eq_false_iff_not] at h5
            · exact h5
            · exact of_decide_eq_true h6
            · simp only [decide_eq_false_iff_not] at h6
              obtain ⟨w1, w2⟩ := step10 (c := c.toNat) hn (by omega) h5 h6
              rw [if_pos (dig_yes h5 h6)] at hg
              rw [Int.mul_comm, w1, i64w (by omega) (by omega)]
              exact ⟨⟨by omega, by omega⟩, ⟨(i + 1, 10 * n + (c.toNat - 48)), by simp only; omega, w2, hg⟩, ⟨rfl, by simp⟩, by simp only; omega⟩
          · have e : i = b.length := by omega
            rw [e, List.drop_length] at hg
            have hf := num_ok hh hg
            refine awpIf_intro (fun h5 => ?_) (fun h5 => ?_) <;> simp only [decide_eq_true_eq, decide_eq_false_iff_not] at h5
            · exact no (by rw [hf, if_neg (by omega)])
            · rw [hf, if_pos (by omega)]
              have hp10 : (10 : Nat) ^ i ≤ 10 ^ 10 := Nat.pow_le_pow_right (by omega) (by omega)
              exact ⟨⟨by omega, by omega⟩, retV_opt rfl⟩
    · have hl : labelF b num = plainF b := by unfold labelF; rw [if_neg (by simp [hnum])]
      rw [hl]
      unfold plainF
      refine awpIf_intro (fun h => ?_) (fun h => awpIf_intro (fun h2 => ?_) (fun h2 => ?_)) <;> simp only [decide_eq_true_eq, decide_eq_false_iff_not] at *
      · rw [if_neg (by omega)]; exact retV_none rfl
      · rw [if_neg (by omega)]; exact retV_none rfl
      · rw [if_pos (by omega)]; exact ⟨mb _ (by omega), retV_opt rfl⟩
  · cases hm
end Go.Proofs.YtckmcglkjfkghaaDoor.Edge
