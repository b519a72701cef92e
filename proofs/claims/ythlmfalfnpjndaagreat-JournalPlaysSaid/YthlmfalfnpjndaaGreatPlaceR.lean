import Derived.Test.YthlmfalfnpjndaaGreatAwX
import Derived.Test.YthlmfalfnpjndaaGreatPlaceC
import Derived.Test.YthlmfalfnpjndaaGreatRef6
namespace Go.Proofs.YthlmfalfnpjndaaGreat.PlaceR
open Go Go.Proofs Aw Num DiskM DiskA DiskK DiskC Disk DiskL
open Ref (RefAt rS opRP)
open Place (growsOk onTheWay growAll growD madeD createD syncNamesD appendD syncD removeD renameD partsD putD putAll chunks runFrom preFrom runF_cons runF_runD pre_runD chunks_len chunks_at butD runD runF runPre Do)
set_option linter.unusedSimpArgs false
set_option linter.unusedVariables false
def I55 : TyI := ⟨.struct [(0,51),(1,52),(2,52),(3,53),(4,3),(5,4),(6,4),(7,3)],8,120,(.agg #[(.slice none 0 0),(.slice none 0 0),(.slice none 0 0),(.slice none 0 0),(.int .i64 0),(.bool false),(.bool false),(.int .i64 0)])⟩
def I74 : TyI := ⟨.struct [(0,9),(1,9),(2,3)],3,40,(.agg #[(.string .empty),(.string .empty),(.int .i64 0)])⟩
def I76 : TyI := ⟨.struct [(0,32),(1,3)],2,32,(.agg #[(.slice none 0 0),(.int .i64 0)])⟩
def I78 : TyI := ⟨.struct [(0,9),(1,3)],2,24,(.agg #[(.string .empty),(.int .i64 0)])⟩
def tys : Tys := fun t => if t = 3 then some ⟨.int .i64,1,8,(.int .i64 0)⟩ else if t = 4 then some ⟨.bool,1,1,(.bool false)⟩ else if t = 5 then some ⟨.int .u8,1,1,(.int .u8 0)⟩ else if t = 9 then some ⟨.str,1,16,(.string .empty)⟩ else if t = 29 then some ⟨.ptr 55,1,8,(.pointer none)⟩ else if t = 32 then some ⟨.slice 5,1,24,(.slice none 0 0)⟩ else if t = 36 then some ⟨.int .i64,1,8,(.int .i64 0)⟩ else if t = 51 then some ⟨.slice 76,1,24,(.slice none 0 0)⟩ else if t = 52 then some ⟨.slice 78,1,24,(.slice none 0 0)⟩ else if t = 53 then some ⟨.slice 74,1,24,(.slice none 0 0)⟩ else if t = 55 then some I55 else if t = 67 then some ⟨.slice 9,1,24,(.slice none 0 0)⟩ else if t = 74 then some I74 else if t = 76 then some I76 else if t = 78 then some I78 else none
theorem tysOk : TyOk Tryz.prog tys := by
 refine TyOk.cons ?_ 3 _ (by kernel_rfl) (by kernel_rfl)
 refine TyOk.cons ?_ 4 _ (by kernel_rfl) (by kernel_rfl)
 refine TyOk.cons ?_ 5 _ (by kernel_rfl) (by kernel_rfl)
 refine TyOk.cons ?_ 9 _ (by kernel_rfl) (by kernel_rfl)
 refine TyOk.cons ?_ 29 _ (by kernel_rfl) (by kernel_rfl)
 refine TyOk.cons ?_ 32 _ (by kernel_rfl) (by kernel_rfl)
 refine TyOk.cons ?_ 36 _ (by kernel_rfl) (by kernel_rfl)
 refine TyOk.cons ?_ 51 _ (by kernel_rfl) (by kernel_rfl)
 refine TyOk.cons ?_ 52 _ (by kernel_rfl) (by kernel_rfl)
 refine TyOk.cons ?_ 53 _ (by kernel_rfl) (by kernel_rfl)
 refine TyOk.cons ?_ 55 _ (by kernel_rfl) (by kernel_rfl)
 refine TyOk.cons ?_ 67 _ (by kernel_rfl) (by kernel_rfl)
 refine TyOk.cons ?_ 74 _ (by kernel_rfl) (by kernel_rfl)
 refine TyOk.cons ?_ 76 _ (by kernel_rfl) (by kernel_rfl)
 refine TyOk.cons ?_ 78 _ (by kernel_rfl) (by kernel_rfl)
 exact TyOk.nil _
theorem mix : Tryz.prog.follows .mixedOrders = true := by kernel_rfl
theorem ty3 : tys 3 = some ⟨.int .i64,1,8,(.int .i64 0)⟩ := rfl
theorem tk3 : kindV tys 3 = some (.int .i64) := rfl
theorem ts3 : sizeV tys 3 = 1 := rfl
theorem ta3 : TyI.isAgg ⟨.int .i64,1,8,(.int .i64 0)⟩ = false := rfl
theorem tu3 : isU8 ⟨.int .i64,1,8,(.int .i64 0)⟩ = false := rfl
theorem tn3 : notIntK tys 3 = false := rfl
theorem tr3 : isStrK tys 3 = false := rfl
theorem tv3 : zeroU8 ⟨.int .i64,1,8,(.int .i64 0)⟩ = false := rfl
theorem td3 : TyI.zeroV ⟨.int .i64,1,8,(.int .i64 0)⟩ = V.ofV1 (.int .i64 0) := rfl
theorem ty4 : tys 4 = some ⟨.bool,1,1,(.bool false)⟩ := rfl
theorem tk4 : kindV tys 4 = some (.bool) := rfl
theorem ts4 : sizeV tys 4 = 1 := rfl
theorem ta4 : TyI.isAgg ⟨.bool,1,1,(.bool false)⟩ = false := rfl
theorem tu4 : isU8 ⟨.bool,1,1,(.bool false)⟩ = false := rfl
theorem tn4 : notIntK tys 4 = true := rfl
theorem tr4 : isStrK tys 4 = false := rfl
theorem tv4 : zeroU8 ⟨.bool,1,1,(.bool false)⟩ = false := rfl
theorem td4 : TyI.zeroV ⟨.bool,1,1,(.bool false)⟩ = V.ofV1 (.bool false) := rfl
theorem ty5 : tys 5 = some ⟨.int .u8,1,1,(.int .u8 0)⟩ := rfl
theorem tk5 : kindV tys 5 = some (.int .u8) := rfl
theorem ts5 : sizeV tys 5 = 1 := rfl
theorem ta5 : TyI.isAgg ⟨.int .u8,1,1,(.int .u8 0)⟩ = false := rfl
theorem tu5 : isU8 ⟨.int .u8,1,1,(.int .u8 0)⟩ = true := rfl
theorem tn5 : notIntK tys 5 = false := rfl
theorem tr5 : isStrK tys 5 = false := rfl
theorem tv5 : zeroU8 ⟨.int .u8,1,1,(.int .u8 0)⟩ = true := rfl
theorem td5 : TyI.zeroV ⟨.int .u8,1,1,(.int .u8 0)⟩ = V.ofV1 (.int .u8 0) := rfl
theorem ty9 : tys 9 = some ⟨.str,1,16,(.string .empty)⟩ := rfl
theorem tk9 : kindV tys 9 = some (.str) := rfl
theorem ts9 : sizeV tys 9 = 1 := rfl
theorem ta9 : TyI.isAgg ⟨.str,1,16,(.string .empty)⟩ = false := rfl
theorem tu9 : isU8 ⟨.str,1,16,(.string .empty)⟩ = false := rfl
theorem tn9 : notIntK tys 9 = true := rfl
theorem tr9 : isStrK tys 9 = true := rfl
theorem tv9 : zeroU8 ⟨.str,1,16,(.string .empty)⟩ = false := rfl
theorem td9 : TyI.zeroV ⟨.str,1,16,(.string .empty)⟩ = V.ofV1 (.string .empty) := rfl
theorem ty29 : tys 29 = some ⟨.ptr 55,1,8,(.pointer none)⟩ := rfl
theorem tk29 : kindV tys 29 = some (.ptr 55) := rfl
theorem ts29 : sizeV tys 29 = 1 := rfl
theorem ta29 : TyI.isAgg ⟨.ptr 55,1,8,(.pointer none)⟩ = false := rfl
theorem tu29 : isU8 ⟨.ptr 55,1,8,(.pointer none)⟩ = false := rfl
theorem tn29 : notIntK tys 29 = true := rfl
theorem tr29 : isStrK tys 29 = false := rfl
theorem tv29 : zeroU8 ⟨.ptr 55,1,8,(.pointer none)⟩ = false := rfl
theorem td29 : TyI.zeroV ⟨.ptr 55,1,8,(.pointer none)⟩ = V.ofV1 (.pointer none) := rfl
theorem ty32 : tys 32 = some ⟨.slice 5,1,24,(.slice none 0 0)⟩ := rfl
theorem tk32 : kindV tys 32 = some (.slice 5) := rfl
theorem ts32 : sizeV tys 32 = 1 := rfl
theorem ta32 : TyI.isAgg ⟨.slice 5,1,24,(.slice none 0 0)⟩ = false := rfl
theorem tb32 : isBytes tys 32 = true := rfl
theorem te32 : elemI tys 32 = some (5,⟨.int .u8,1,1,(.int .u8 0)⟩) := rfl
theorem tu32 : isU8 ⟨.slice 5,1,24,(.slice none 0 0)⟩ = false := rfl
theorem tn32 : notIntK tys 32 = true := rfl
theorem tr32 : isStrK tys 32 = false := rfl
theorem tv32 : zeroU8 ⟨.slice 5,1,24,(.slice none 0 0)⟩ = false := rfl
theorem td32 : TyI.zeroV ⟨.slice 5,1,24,(.slice none 0 0)⟩ = V.ofV1 (.slice none 0 0) := rfl
theorem ty36 : tys 36 = some ⟨.int .i64,1,8,(.int .i64 0)⟩ := rfl
theorem tk36 : kindV tys 36 = some (.int .i64) := rfl
theorem ts36 : sizeV tys 36 = 1 := rfl
theorem ta36 : TyI.isAgg ⟨.int .i64,1,8,(.int .i64 0)⟩ = false := rfl
theorem tu36 : isU8 ⟨.int .i64,1,8,(.int .i64 0)⟩ = false := rfl
theorem tn36 : notIntK tys 36 = false := rfl
theorem tr36 : isStrK tys 36 = false := rfl
theorem tv36 : zeroU8 ⟨.int .i64,1,8,(.int .i64 0)⟩ = false := rfl
theorem td36 : TyI.zeroV ⟨.int .i64,1,8,(.int .i64 0)⟩ = V.ofV1 (.int .i64 0) := rfl
theorem ty51 : tys 51 = some ⟨.slice 76,1,24,(.slice none 0 0)⟩ := rfl
theorem tk51 : kindV tys 51 = some (.slice 76) := rfl
theorem ts51 : sizeV tys 51 = 1 := rfl
theorem ta51 : TyI.isAgg ⟨.slice 76,1,24,(.slice none 0 0)⟩ = false := rfl
theorem tb51 : isBytes tys 51 = false := rfl
theorem te51 : elemI tys 51 = some (76,I76) := rfl
theorem tu51 : isU8 ⟨.slice 76,1,24,(.slice none 0 0)⟩ = false := rfl
theorem tn51 : notIntK tys 51 = true := rfl
theorem tr51 : isStrK tys 51 = false := rfl
theorem tv51 : zeroU8 ⟨.slice 76,1,24,(.slice none 0 0)⟩ = false := rfl
theorem td51 : TyI.zeroV ⟨.slice 76,1,24,(.slice none 0 0)⟩ = V.ofV1 (.slice none 0 0) := rfl
theorem ty52 : tys 52 = some ⟨.slice 78,1,24,(.slice none 0 0)⟩ := rfl
theorem tk52 : kindV tys 52 = some (.slice 78) := rfl
theorem ts52 : sizeV tys 52 = 1 := rfl
theorem ta52 : TyI.isAgg ⟨.slice 78,1,24,(.slice none 0 0)⟩ = false := rfl
theorem tb52 : isBytes tys 52 = false := rfl
theorem te52 : elemI tys 52 = some (78,I78) := rfl
theorem tu52 : isU8 ⟨.slice 78,1,24,(.slice none 0 0)⟩ = false := rfl
theorem tn52 : notIntK tys 52 = true := rfl
theorem tr52 : isStrK tys 52 = false := rfl
theorem tv52 : zeroU8 ⟨.slice 78,1,24,(.slice none 0 0)⟩ = false := rfl
theorem td52 : TyI.zeroV ⟨.slice 78,1,24,(.slice none 0 0)⟩ = V.ofV1 (.slice none 0 0) := rfl
theorem ty53 : tys 53 = some ⟨.slice 74,1,24,(.slice none 0 0)⟩ := rfl
theorem tk53 : kindV tys 53 = some (.slice 74) := rfl
theorem ts53 : sizeV tys 53 = 1 := rfl
theorem ta53 : TyI.isAgg ⟨.slice 74,1,24,(.slice none 0 0)⟩ = false := rfl
theorem tb53 : isBytes tys 53 = false := rfl
theorem te53 : elemI tys 53 = some (74,I74) := rfl
theorem tu53 : isU8 ⟨.slice 74,1,24,(.slice none 0 0)⟩ = false := rfl
theorem tn53 : notIntK tys 53 = true := rfl
theorem tr53 : isStrK tys 53 = false := rfl
theorem tv53 : zeroU8 ⟨.slice 74,1,24,(.slice none 0 0)⟩ = false := rfl
theorem td53 : TyI.zeroV ⟨.slice 74,1,24,(.slice none 0 0)⟩ = V.ofV1 (.slice none 0 0) := rfl
theorem ty55 : tys 55 = some I55 := rfl
theorem tk55 : kindV tys 55 = some (.struct [(0,51),(1,52),(2,52),(3,53),(4,3),(5,4),(6,4),(7,3)]) := rfl
theorem ts55 : sizeV tys 55 = 8 := rfl
theorem ta55 : TyI.isAgg I55 = true := rfl
theorem tu55 : isU8 I55 = false := rfl
theorem tn55 : notIntK tys 55 = true := rfl
theorem tr55 : isStrK tys 55 = false := rfl
theorem tv55 : zeroU8 I55 = false := rfl
theorem tc55 : V.ofV (.agg #[(.slice none 0 0),(.slice none 0 0),(.slice none 0 0),(.slice none 0 0),(.int .i64 0),(.bool false),(.bool false),(.int .i64 0)]) = .agg [V.ofV1 (.slice none 0 0),V.ofV1 (.slice none 0 0),V.ofV1 (.slice none 0 0),V.ofV1 (.slice none 0 0),V.ofV1 (.int .i64 0),V.ofV1 (.bool false),V.ofV1 (.bool false),V.ofV1 (.int .i64 0)] := by kernel_rfl
theorem tw55 : Value.oneCell' (.agg #[(.slice none 0 0),(.slice none 0 0),(.slice none 0 0),(.slice none 0 0),(.int .i64 0),(.bool false),(.bool false),(.int .i64 0)]) = false := rfl
theorem td55 : TyI.zeroV I55 = .agg [V.ofV1 (.slice none 0 0),V.ofV1 (.slice none 0 0),V.ofV1 (.slice none 0 0),V.ofV1 (.slice none 0 0),V.ofV1 (.int .i64 0),V.ofV1 (.bool false),V.ofV1 (.bool false),V.ofV1 (.int .i64 0)] := by kernel_rfl
theorem tp55_0 : placeV tys [(0,51),(1,52),(2,52),(3,53),(4,3),(5,4),(6,4),(7,3)] 0 = some (0,1) := rfl
theorem tp55_1 : placeV tys [(0,51),(1,52),(2,52),(3,53),(4,3),(5,4),(6,4),(7,3)] 1 = some (1,1) := rfl
theorem tp55_2 : placeV tys [(0,51),(1,52),(2,52),(3,53),(4,3),(5,4),(6,4),(7,3)] 2 = some (2,1) := rfl
theorem tp55_3 : placeV tys [(0,51),(1,52),(2,52),(3,53),(4,3),(5,4),(6,4),(7,3)] 3 = some (3,1) := rfl
theorem tp55_4 : placeV tys [(0,51),(1,52),(2,52),(3,53),(4,3),(5,4),(6,4),(7,3)] 4 = some (4,1) := rfl
theorem tp55_5 : placeV tys [(0,51),(1,52),(2,52),(3,53),(4,3),(5,4),(6,4),(7,3)] 5 = some (5,1) := rfl
theorem tp55_6 : placeV tys [(0,51),(1,52),(2,52),(3,53),(4,3),(5,4),(6,4),(7,3)] 6 = some (6,1) := rfl
theorem tp55_7 : placeV tys [(0,51),(1,52),(2,52),(3,53),(4,3),(5,4),(6,4),(7,3)] 7 = some (7,1) := rfl
theorem tq55 : ([(0,51),(1,52),(2,52),(3,53),(4,3),(5,4),(6,4),(7,3)].all (fun f => (tys f.2).isSome)) = true := rfl
theorem ty67 : tys 67 = some ⟨.slice 9,1,24,(.slice none 0 0)⟩ := rfl
theorem tk67 : kindV tys 67 = some (.slice 9) := rfl
theorem ts67 : sizeV tys 67 = 1 := rfl
theorem ta67 : TyI.isAgg ⟨.slice 9,1,24,(.slice none 0 0)⟩ = false := rfl
theorem tb67 : isBytes tys 67 = false := rfl
theorem te67 : elemI tys 67 = some (9,⟨.str,1,16,(.string .empty)⟩) := rfl
theorem tu67 : isU8 ⟨.slice 9,1,24,(.slice none 0 0)⟩ = false := rfl
theorem tn67 : notIntK tys 67 = true := rfl
theorem tr67 : isStrK tys 67 = false := rfl
theorem tv67 : zeroU8 ⟨.slice 9,1,24,(.slice none 0 0)⟩ = false := rfl
theorem td67 : TyI.zeroV ⟨.slice 9,1,24,(.slice none 0 0)⟩ = V.ofV1 (.slice none 0 0) := rfl
theorem ty74 : tys 74 = some I74 := rfl
theorem tk74 : kindV tys 74 = some (.struct [(0,9),(1,9),(2,3)]) := rfl
theorem ts74 : sizeV tys 74 = 3 := rfl
theorem ta74 : TyI.isAgg I74 = true := rfl
theorem tu74 : isU8 I74 = false := rfl
theorem tn74 : notIntK tys 74 = true := rfl
theorem tr74 : isStrK tys 74 = false := rfl
theorem tv74 : zeroU8 I74 = false := rfl
theorem tc74 : V.ofV (.agg #[(.string .empty),(.string .empty),(.int .i64 0)]) = .agg [V.ofV1 (.string .empty),V.ofV1 (.string .empty),V.ofV1 (.int .i64 0)] := by kernel_rfl
theorem tw74 : Value.oneCell' (.agg #[(.string .empty),(.string .empty),(.int .i64 0)]) = false := rfl
theorem td74 : TyI.zeroV I74 = .agg [V.ofV1 (.string .empty),V.ofV1 (.string .empty),V.ofV1 (.int .i64 0)] := by kernel_rfl
theorem tp74_0 : placeV tys [(0,9),(1,9),(2,3)] 0 = some (0,1) := rfl
theorem tp74_1 : placeV tys [(0,9),(1,9),(2,3)] 1 = some (1,1) := rfl
theorem tp74_2 : placeV tys [(0,9),(1,9),(2,3)] 2 = some (2,1) := rfl
theorem tq74 : ([(0,9),(1,9),(2,3)].all (fun f => (tys f.2).isSome)) = true := rfl
theorem ty76 : tys 76 = some I76 := rfl
theorem tk76 : kindV tys 76 = some (.struct [(0,32),(1,3)]) := rfl
theorem ts76 : sizeV tys 76 = 2 := rfl
theorem ta76 : TyI.isAgg I76 = true := rfl
theorem tu76 : isU8 I76 = false := rfl
theorem tn76 : notIntK tys 76 = true := rfl
theorem tr76 : isStrK tys 76 = false := rfl
theorem tv76 : zeroU8 I76 = false := rfl
theorem tc76 : V.ofV (.agg #[(.slice none 0 0),(.int .i64 0)]) = .agg [V.ofV1 (.slice none 0 0),V.ofV1 (.int .i64 0)] := by kernel_rfl
theorem tw76 : Value.oneCell' (.agg #[(.slice none 0 0),(.int .i64 0)]) = false := rfl
theorem td76 : TyI.zeroV I76 = .agg [V.ofV1 (.slice none 0 0),V.ofV1 (.int .i64 0)] := by kernel_rfl
theorem tp76_0 : placeV tys [(0,32),(1,3)] 0 = some (0,1) := rfl
theorem tp76_1 : placeV tys [(0,32),(1,3)] 1 = some (1,1) := rfl
theorem tq76 : ([(0,32),(1,3)].all (fun f => (tys f.2).isSome)) = true := rfl
theorem ty78 : tys 78 = some I78 := rfl
theorem tk78 : kindV tys 78 = some (.struct [(0,9),(1,3)]) := rfl
theorem ts78 : sizeV tys 78 = 2 := rfl
theorem ta78 : TyI.isAgg I78 = true := rfl
theorem tu78 : isU8 I78 = false := rfl
theorem tn78 : notIntK tys 78 = true := rfl
theorem tr78 : isStrK tys 78 = false := rfl
theorem tv78 : zeroU8 I78 = false := rfl
theorem tc78 : V.ofV (.agg #[(.string .empty),(.int .i64 0)]) = .agg [V.ofV1 (.string .empty),V.ofV1 (.int .i64 0)] := by kernel_rfl
theorem tw78 : Value.oneCell' (.agg #[(.string .empty),(.int .i64 0)]) = false := rfl
theorem td78 : TyI.zeroV I78 = .agg [V.ofV1 (.string .empty),V.ofV1 (.int .i64 0)] := by kernel_rfl
theorem tp78_0 : placeV tys [(0,9),(1,3)] 0 = some (0,1) := rfl
theorem tp78_1 : placeV tys [(0,9),(1,3)] 1 = some (1,1) := rfl
theorem tq78 : ([(0,9),(1,3)].all (fun f => (tys f.2).isSome)) = true := rfl
set_option linter.defProp false in
def tcd := And.intro @r_ifTrue (And.intro @r_ifFalse (And.intro tc55 (And.intro td55 (And.intro tc74 (And.intro td74 (And.intro tc76 (And.intro td76 (And.intro tc78 (td78)))))))))
attribute [bitvec_to_nat] ty3 tk3 ts3 ta3 tu3 tn3 tr3 tv3 td3 ty4 tk4 ts4 ta4 tu4 tn4 tr4 tv4 td4 ty5 tk5 ts5 ta5 tu5 tn5 tr5 tv5 td5 ty9 tk9 ts9 ta9 tu9 tn9 tr9 tv9 td9 ty29 tk29 ts29 ta29 tu29 tn29 tr29 tv29 td29 ty32 tk32 ts32 ta32 tb32 te32 tu32 tn32 tr32 tv32 td32 ty36 tk36 ts36 ta36 tu36 tn36 tr36 tv36 td36 ty51 tk51 ts51 ta51 tb51 te51 tu51 tn51 tr51 tv51 td51 ty52 tk52 ts52 ta52 tb52 te52 tu52 tn52 tr52 tv52 td52 ty53 tk53 ts53 ta53 tb53 te53 tu53 tn53 tr53 tv53 td53 ty55 tk55 ts55 ta55 tu55 tn55 tr55 tv55 tw55 tp55_0 tp55_1 tp55_2 tp55_3 tp55_4 tp55_5 tp55_6 tp55_7 tq55 ty67 tk67 ts67 ta67 tb67 te67 tu67 tn67 tr67 tv67 td67 ty74 tk74 ts74 ta74 tu74 tn74 tr74 tv74 tw74 tp74_0 tp74_1 tp74_2 tq74 ty76 tk76 ts76 ta76 tu76 tn76 tr76 tv76 tw76 tp76_0 tp76_1 tq76 ty78 tk78 ts78 ta78 tu78 tn78 tr78 tv78 tw78 tp78_0 tp78_1 tq78
def R0 : Fns := { fn := fun _ => none }
theorem R0_fn (f : FuncId) : R0.fn f = none := rfl
theorem R0_mu (d : Tmp) : R0.mu d = .no := rfl
theorem R0_hp (f : FuncId) : R0.hp f = none := rfl
theorem R0_ord (i : Nat) : R0.ord i = none := rfl
theorem R0_it (f : FuncId) : R0.it f = none := rfl
theorem R0_hy (b : Nat) : R0.hy b = none := rfl
theorem R0ok : FnsOk Tryz.prog R0 := FnsOk.nil _ rfl rfl
attribute [bitvec_to_nat] R0_fn R0_mu R0_hp R0_ord R0_it R0_hy
def butN : FM
 | [.int .i64 a,.int .i64 b] => some (True,.int .i64 (if a = b then 0 else a),[])
 | _ => none
theorem butN_ok : FSound Tryz.prog 64 butN := by
 refine fsound tysOk R0ok mix Tryz.func64 rfl ?_
 intro args p r fr hm hp
 unfold butN at hm
 split at hm
 · rename_i a b
   cases hm
   by_cases h : a = b
   · have hd : decide (a = b) = true := decide_eq_true h
     rw [if_pos h]
     simp (maxSteps:=2000000) only[bitvec_to_nat,seval,↓tcd,Tryz.f64,hd]
   · have hd : decide (a = b) = false := decide_eq_false h
     rw [if_neg h]
     simp (maxSteps:=2000000) only[bitvec_to_nat,seval,↓tcd,Tryz.f64,hd]
 · cases hm
def rightN : FM
 | [.str n] => some (True,.bool (decide (growsOk n)),[])
 | _ => none
theorem rightN_ok : FSound Tryz.prog 63 rightN := by
 refine fsound tysOk R0ok mix Tryz.func63 rfl ?_
 intro args p r fr hm hp
 unfold rightN at hm
 split at hm
 · rename_i n
   cases hm
   simp (maxSteps:=2000000) only[bitvec_to_nat,seval,↓tcd,Tryz.f63]
   refine awpIf_intro (fun h => ?_) (fun h => awpIf_intro (fun h2 => ?_) (fun h2 => ?_)) <;> simp only [decide_eq_true_eq,decide_eq_false_iff_not] at *
   · exact (decide_eq_false fun q => q.2 h).symm
   · by_cases e : (n.length : Int) ≤ 32
     · rw [decide_eq_true e]
       exact (decide_eq_true ⟨⟨fun h0 => by rw [h0] at h2; simp at h2,by omega⟩,h⟩).symm
     · rw [decide_eq_false e]
       exact (decide_eq_false fun q => e (by have := q.1.2; omega)).symm
   · exact (decide_eq_false fun q => h2 (by have := List.length_pos_iff.2 q.1.1; omega)).symm
 · cases hm
abbrev createRP : PM := opRP createF
abbrev syncRP : PM := opRP syncF
abbrev renameRP : PM := opRP renameF
abbrev removeRP : PM := opRP removeF
abbrev syncNamesRP : PM := opRP syncNamesF
abbrev appendRP : PM := opRP appendF
def R1 : Fns := { fn := fun f => if f = 63 then some rightN else if f = 64 then some butN else R0.fn f,mu := fun d => .no,hp := fun f => if f = 66 then some createRP else if f = 67 then some syncRP else if f = 68 then some renameRP else if f = 65 then some removeRP else if f = 69 then some syncNamesRP else if f = 22 then some appendRP else R0.hp f,ord := fun i => none,it := fun f => R0.it f }
theorem R1_fn (f : FuncId) : R1.fn f = (if f = 63 then some rightN else if f = 64 then some butN else R0.fn f) := rfl
theorem R1_mu (d : Tmp) : R1.mu d = (.no) := rfl
theorem R1_hp (f : FuncId) : R1.hp f = (if f = 66 then some createRP else if f = 67 then some syncRP else if f = 68 then some renameRP else if f = 65 then some removeRP else if f = 69 then some syncNamesRP else if f = 22 then some appendRP else R0.hp f) := rfl
theorem R1_ord (i : Nat) : R1.ord i = (none) := rfl
theorem R1_it (f : FuncId) : R1.it f = (R0.it f) := rfl
theorem R1_hy (b : Nat) : R1.hy b = none := rfl
theorem R1ok : FnsOk Tryz.prog R1 := FnsOk.same (FnsOk.consP (FnsOk.consP (FnsOk.consP (FnsOk.consP (FnsOk.consP (FnsOk.consP (FnsOk.cons (FnsOk.cons R0ok _ _ butN_ok Tryz.func64 (by decide) (fun h => by cases h)) _ _ rightN_ok Tryz.func63 (by decide) (fun h => by cases h)) _ _ Ref.appendR_ok Tryz.func22 (by decide) (fun h => by cases h)) _ _ Ref.syncNamesR_ok Tryz.func69 (by decide) (fun h => by cases h)) _ _ Ref.removeR_ok Tryz.func65 (by decide) (fun h => by cases h)) _ _ Ref.renameR_ok Tryz.func68 (by decide) (fun h => by cases h)) _ _ Ref.syncR_ok Tryz.func67 (by decide) (fun h => by cases h)) _ _ Ref.createR_ok Tryz.func66 (by decide) (fun h => by cases h)) rfl rfl
attribute [bitvec_to_nat] R1_fn R1_mu R1_hp R1_ord R1_it R1_hy
theorem opr_o {op : List V → Option (MD → MD × V)} {L : LL} {T : TT} {M : MD} {o fo : Nat} {rest : List V} {g : MD → MD × V} {K : V → LL → TT → Prop} (hg : op rest = some g) (hd : RefAt L M o fo) (hs : Small M)
 (hK : ∀ L' T' fo',RefAt L' (g M).1 o fo' → Step (rS o fo) noS L T (rS o fo') noS L' T' → K (g M).2 L' T') : opRP op (.box o 0 :: rest) L T K := ⟨M,o,fo,rest,g,rfl,hg,hd,hs,hK⟩
def growRFP : PM := fun args L T K => ∃ M o fo n b t,args = [.box o 0,.str n,.bytes b t] ∧ b.length ≤ 1099511627776 ∧ RefAt L M o fo ∧ (growAll n b).pre M ∧
 ∀ L' T' fo',RefAt L' ((growAll n b).f M).1 o fo' → Step (rS o fo) noS L T (rS o fo') noS L' T' → K (codeV ((growAll n b).f M).2) L' T'
set_option maxHeartbeats 2000000 in
theorem growRF_ok : PSound Tryz.prog 43 growRFP := by
 refine psound tysOk R1ok mix Tryz.func43 rfl ?_
 intro args L T K hm
 obtain ⟨M,o,fo,n,b,t,rfl,hb,hd,hp,hK⟩ := hm
 have d0 : decide ((0 : Int) = 0) = true := rfl
 by_cases hr : growsOk n
 · have hrd : decide (growsOk n) = true := decide_eq_true hr
   have e : (growAll n b).f M = runF [butD 4 (madeD n),appendD n b,syncD n] M := if_pos hr
   obtain ⟨⟨p1,p2⟩,p3⟩ : runPre [butD 4 (madeD n),appendD n b,syncD n] M := hp hr
   rw [e] at hK
   simp (maxSteps:=2000000) only[bitvec_to_nat,seval,↓tcd,Tryz.f43,rightN,hrd]
   refine opr_o rfl hd p1 fun L1 T1 fo1 hd1 hst1 => ?_
   obtain ⟨c1,hc1⟩ : ∃ c,(M.create n).2 = c := ⟨_,rfl⟩
   obtain ⟨M1,hM1⟩ : ∃ c,(M.create n).1 = c := ⟨_,rfl⟩
   simp only [hc1,hM1,code_V] at hd1 ⊢
   by_cases h1 : c1 = 0
   · have hd0 : decide ((c1 : Int) = 0) = true := decide_eq_true (by omega)
     simp (maxSteps:=2000000) only[bitvec_to_nat,seval,↓tcd,hd0]
     obtain ⟨p4,_⟩ := p2 (show (M.create n).2 = 0 by rw [hc1]; exact h1)
     have p4' : Small M1 := by rw [← hM1]; exact p4
     refine opr_o rfl hd1 p4' fun L2 T2 fo2 hd2 hst2 => ?_
     obtain ⟨c2,hc2⟩ : ∃ c,M1.syncNames.2 = c := ⟨_,rfl⟩
     obtain ⟨Mm,hM2⟩ : ∃ c,M1.syncNames.1 = c := ⟨_,rfl⟩
     obtain ⟨dd,hdd⟩ : ∃ d,(if c2 = 4 then 0 else c2) = d := ⟨_,rfl⟩
     have hbn : (if (c2 : Int) = 4 then (0 : Int) else (c2 : Int)) = (dd : Int) := by
      rw [← hdd]
      by_cases h : c2 = 4
      · rw [if_pos h,if_pos (by omega)]; rfl
      · rw [if_neg h,if_neg (by omega)]
     simp only [hc2,hM2,code_V] at hd2 ⊢
     simp (maxSteps:=2000000) only[bitvec_to_nat,seval,↓tcd,butN,hbn]
     have hbm : (butD 4 (madeD n)).f M = (Mm,dd) := by
      have hm : (madeD n).f M = (Mm,c2) := by
       simp only [madeD,runD,runF,createD,syncNamesD,hc1,hM1,if_pos h1,hc2,hM2]
       split
       · rename_i h; rw [h]
       · rw [← hc2,← hM2]
      simp only [butD,hm,hdd]
     have hstx := hst1.trans hst2
     have hdx := hd2
     obtain ⟨fox,hfx⟩ : ∃ x,fo2 = x := ⟨_,rfl⟩
     rw [hfx] at hstx hdx
     have hq := fun h0 => p3 (show ((butD 4 (madeD n)).f M).2 = 0 by rw [hbm]; exact h0)
     rw [hbm] at hq
     by_cases hz : dd = 0
     · have hd2 : decide ((dd : Int) = 0) = true := decide_eq_true (by omega)
       obtain ⟨q1,q2⟩ := hq hz
       simp (maxSteps:=2000000) only[bitvec_to_nat,seval,↓tcd,hd2]
       refine opr_o (if_pos hb) hdx q1 fun L3 T3 fo3 hd3 hst3 => ?_
       obtain ⟨c3,hc3⟩ : ∃ c,(Mm.append n b).2 = c := ⟨_,rfl⟩
       obtain ⟨M3,hM3⟩ : ∃ c,(Mm.append n b).1 = c := ⟨_,rfl⟩
       simp only [hc3,hM3,code_V] at hd3 ⊢
       by_cases h3 : c3 = 0
       · have hd4 : decide ((c3 : Int) = 0) = true := decide_eq_true (by omega)
         simp (maxSteps:=2000000) only[bitvec_to_nat,seval,↓tcd,hd4]
         obtain ⟨q3,_⟩ := q2 (show (Mm.append n b).2 = 0 by rw [hc3]; exact h3)
         have q3' : Small M3 := by rw [← hM3]; exact q3
         have e2 : runF [butD 4 (madeD n),appendD n b,syncD n] M = ((M3.sync n).1,(M3.sync n).2) := by
          simp only [runF,hbm,if_pos hz,appendD,syncD,hc3,hM3,if_pos h3]
          split
          · rename_i h; rw [h]
          · rfl
         rw [e2] at hK
         refine opr_o rfl hd3 q3' fun L4 T4 fo4 hd4 hst4 => ?_
         simp (maxSteps:=2000000) only[bitvec_to_nat,seval,↓tcd]
         exact ret_of ((hstx.trans hst3).trans hst4) (hK _ _ fo4 hd4 ((hstx.trans hst3).trans hst4))
       · have hd4 : decide ((c3 : Int) = 0) = false := decide_eq_false (by omega)
         simp (maxSteps:=2000000) only[bitvec_to_nat,seval,↓tcd,hd4]
         have e2 : runF [butD 4 (madeD n),appendD n b,syncD n] M = (M3,c3) := by
          simp only [runF,hbm,if_pos hz,appendD,syncD,hc3,hM3,if_neg h3]
          rw [← hc3,← hM3]
         rw [e2] at hK
         exact ret_of (hstx.trans hst3) (hK _ _ fo3 hd3 (hstx.trans hst3))
     · have hd2 : decide ((dd : Int) = 0) = false := decide_eq_false (by omega)
       simp (maxSteps:=2000000) only[bitvec_to_nat,seval,↓tcd,hd2]
       have e2 : runF [butD 4 (madeD n),appendD n b,syncD n] M = (Mm,dd) := by
        simp only [runF,hbm,if_neg hz]
       rw [e2] at hK
       exact ret_of hstx (hK _ _ fox hdx hstx)
   · have hd0 : decide ((c1 : Int) = 0) = false := decide_eq_false (by omega)
     obtain ⟨dd,hdd⟩ : ∃ d,(if c1 = 4 then 0 else c1) = d := ⟨_,rfl⟩
     have hbn : (if (c1 : Int) = 4 then (0 : Int) else (c1 : Int)) = (dd : Int) := by
      rw [← hdd]
      by_cases h : c1 = 4
      · rw [if_pos h,if_pos (by omega)]; rfl
      · rw [if_neg h,if_neg (by omega)]
     simp (maxSteps:=2000000) only[bitvec_to_nat,seval,↓tcd,hd0,butN,hbn]
     obtain ⟨Mm,hMm⟩ : ∃ x,M1 = x := ⟨_,rfl⟩
     have hbm : (butD 4 (madeD n)).f M = (Mm,dd) := by
      have hm : (madeD n).f M = (Mm,c1) := by
       simp only [madeD,runD,runF,createD,syncNamesD,hc1,hM1,if_neg h1]
       rw [← hMm,← hM1,← hc1]
      simp only [butD,hm,hdd]
     have hstx := hst1
     have hdx := hd1
     rw [hMm] at hdx
     obtain ⟨fox,hfx⟩ : ∃ x,fo1 = x := ⟨_,rfl⟩
     rw [hfx] at hstx hdx
     have hq := fun h0 => p3 (show ((butD 4 (madeD n)).f M).2 = 0 by rw [hbm]; exact h0)
     rw [hbm] at hq
     by_cases hz : dd = 0
     · have hd2 : decide ((dd : Int) = 0) = true := decide_eq_true (by omega)
       obtain ⟨q1,q2⟩ := hq hz
       simp (maxSteps:=2000000) only[bitvec_to_nat,seval,↓tcd,hd2]
       refine opr_o (if_pos hb) hdx q1 fun L3 T3 fo3 hd3 hst3 => ?_
       obtain ⟨c3,hc3⟩ : ∃ c,(Mm.append n b).2 = c := ⟨_,rfl⟩
       obtain ⟨M3,hM3⟩ : ∃ c,(Mm.append n b).1 = c := ⟨_,rfl⟩
       simp only [hc3,hM3,code_V] at hd3 ⊢
       by_cases h3 : c3 = 0
       · have hd4 : decide ((c3 : Int) = 0) = true := decide_eq_true (by omega)
         simp (maxSteps:=2000000) only[bitvec_to_nat,seval,↓tcd,hd4]
         obtain ⟨q3,_⟩ := q2 (show (Mm.append n b).2 = 0 by rw [hc3]; exact h3)
         have q3' : Small M3 := by rw [← hM3]; exact q3
         have e2 : runF [butD 4 (madeD n),appendD n b,syncD n] M = ((M3.sync n).1,(M3.sync n).2) := by
          simp only [runF,hbm,if_pos hz,appendD,syncD,hc3,hM3,if_pos h3]
          split
          · rename_i h; rw [h]
          · rfl
         rw [e2] at hK
         refine opr_o rfl hd3 q3' fun L4 T4 fo4 hd4 hst4 => ?_
         simp (maxSteps:=2000000) only[bitvec_to_nat,seval,↓tcd]
         exact ret_of ((hstx.trans hst3).trans hst4) (hK _ _ fo4 hd4 ((hstx.trans hst3).trans hst4))
       · have hd4 : decide ((c3 : Int) = 0) = false := decide_eq_false (by omega)
         simp (maxSteps:=2000000) only[bitvec_to_nat,seval,↓tcd,hd4]
         have e2 : runF [butD 4 (madeD n),appendD n b,syncD n] M = (M3,c3) := by
          simp only [runF,hbm,if_pos hz,appendD,syncD,hc3,hM3,if_neg h3]
          rw [← hc3,← hM3]
         rw [e2] at hK
         exact ret_of (hstx.trans hst3) (hK _ _ fo3 hd3 (hstx.trans hst3))
     · have hd2 : decide ((dd : Int) = 0) = false := decide_eq_false (by omega)
       simp (maxSteps:=2000000) only[bitvec_to_nat,seval,↓tcd,hd2]
       have e2 : runF [butD 4 (madeD n),appendD n b,syncD n] M = (Mm,dd) := by
        simp only [runF,hbm,if_neg hz]
       rw [e2] at hK
       exact ret_of hstx (hK _ _ fox hdx hstx)
 · have hrd : decide (growsOk n) = false := decide_eq_false hr
   simp (maxSteps:=2000000) only[bitvec_to_nat,seval,↓tcd,Tryz.f43,rightN,hrd]
   have e : (growAll n b).f M = (M,1) := if_neg hr
   rw [e] at hK
   exact ret_of (Step.refl (rS o fo) noS L T) (hK _ _ fo hd (Step.refl _ _ _ _))
def putRFP : PM := fun args L T K => ∃ M o fo n b t,args = [.box o 0,.str n,.bytes b t] ∧ b.length ≤ 1099511627776 ∧ RefAt L M o fo ∧ (putAll n b).pre M ∧
 ∀ L' T' fo',RefAt L' ((putAll n b).f M).1 o fo' → Step (rS o fo) noS L T (rS o fo') noS L' T' → K (codeV ((putAll n b).f M).2) L' T'
set_option maxHeartbeats 4000000 in
theorem putRF_ok : PSound Tryz.prog 34 putRFP := by
 refine psound tysOk R1ok mix Tryz.func34 rfl ?_
 intro args L T K hm
 obtain ⟨M,o,fo,n,b,t,rfl,hb,hd,hp,hK⟩ := hm
 by_cases hr : growsOk n
 · have hrd : decide (growsOk n) = true := decide_eq_true hr
   have e : (putAll n b).f M = (putD n b).f M := if_pos hr
   have hp' : (putD n b).pre M := hp hr
   rw [e] at hK
   obtain ⟨rest,hrest⟩ : ∃ x,[syncD onTheWay,renameD onTheWay n,syncNamesD] = x := ⟨_,rfl⟩
   obtain ⟨parts,hparts⟩ : ∃ x,(chunks b).map (appendD onTheWay) = x := ⟨_,rfl⟩
   have hrun : (putD n b).f M = runF [butD 2 (removeD onTheWay),createD onTheWay,partsD b,syncD onTheWay,renameD onTheWay n,syncNamesD] M := rfl
   obtain ⟨p1,p2⟩ : runPre [butD 2 (removeD onTheWay),createD onTheWay,partsD b,syncD onTheWay,renameD onTheWay n,syncNamesD] M := hp'
   rw [hrest] at hrun p2
   rw [hrun] at hK
   simp (maxSteps:=2000000) only[bitvec_to_nat,seval,↓tcd,Tryz.f34,rightN,hrd]
   refine opr_o rfl hd p1 fun L1 T1 fo1 hd1 hst1 => ?_
   obtain ⟨c1,hc1⟩ : ∃ c,(M.remove onTheWay).2 = c := ⟨_,rfl⟩
   obtain ⟨M1,hM1⟩ : ∃ c,(M.remove onTheWay).1 = c := ⟨_,rfl⟩
   have hot : ([116,109,112] : Name) = onTheWay := rfl
   simp only [hot,hc1,hM1,code_V] at hd1 ⊢
   obtain ⟨dd,hdd⟩ : ∃ d,(if c1 = 2 then 0 else c1) = d := ⟨_,rfl⟩
   have hbn : (if (c1 : Int) = 2 then (0 : Int) else (c1 : Int)) = (dd : Int) := by
    rw [← hdd]
    by_cases h : c1 = 2
    · rw [if_pos h,if_pos (by omega)]; rfl
    · rw [if_neg h,if_neg (by omega)]
   have hbm : (butD 2 (removeD onTheWay)).f M = (M1,dd) := by
    simp only [butD,removeD,hc1,hM1,hdd]
   rw [runF_cons,hbm] at hK
   replace p2 : preFrom (createD onTheWay :: partsD b :: rest) (M1,dd) := hbm ▸ p2
   by_cases hz : dd = 0
   · have hd2 : decide ((dd : Int) = 0) = true := decide_eq_true (by omega)
     simp (maxSteps:=2000000) only[bitvec_to_nat,seval,↓tcd,butN,hbn,hd2]
     obtain ⟨q1,q2⟩ := p2 hz
     refine opr_o rfl hd1 q1 fun L2 T2 fo2 hdx hst2 => ?_
     obtain ⟨cx,hcx⟩ : ∃ c,(M1.create onTheWay).2 = c := ⟨_,rfl⟩
     obtain ⟨Mx,hMx⟩ : ∃ c,(M1.create onTheWay).1 = c := ⟨_,rfl⟩
     simp only [hot,hcx,hMx,code_V] at hdx ⊢
     have hstx := hst1.trans hst2
     have hpx : preFrom (partsD b :: rest) (Mx,cx) := by
      have q2' : preFrom (partsD b :: rest) (M1.create onTheWay) := q2
      rw [← hMx,← hcx]; exact q2'
     have e1 : runFrom (createD onTheWay :: partsD b :: rest) (M1,dd) = runFrom (partsD b :: rest) (Mx,cx) := by
      rw [← hMx,← hcx]; exact if_pos hz
     rw [e1] at hK
     obtain ⟨fox,hfx⟩ : ∃ x,fo2 = x := ⟨_,rfl⟩
     rw [hfx] at hstx hdx
     obtain ⟨Lx,hLx⟩ : ∃ x,L2 = x := ⟨_,rfl⟩
     obtain ⟨Tx,hTx⟩ : ∃ x,T2 = x := ⟨_,rfl⟩
     rw [hLx,hTx] at hstx ⊢
     rw [hLx] at hdx
     obtain ⟨F,hF⟩ : ∃ x,runFrom (partsD b :: rest) (Mx,cx) = x := ⟨_,rfl⟩
     rw [hF] at hK
     have hF0 : F = runFrom (parts.drop 0 ++ rest) (Mx,cx) := by
      rw [← hF,List.drop_zero,← hparts]
      unfold runFrom partsD
      split
      · exact runF_runD _ _ _
      · rfl
     have hpx0 : preFrom (parts.drop 0 ++ rest) (Mx,cx) := fun h => by
      rw [List.drop_zero,← hparts]
      exact pre_runD _ _ _ (hpx h)
     have hN : parts.length = (b.length + 63) / 64 := by rw [← hparts,List.length_map,chunks_len]
     refine awpLoop_intro (α := {q : Nat × LL × TT × MD × Nat × Nat // q.1 ≤ parts.length ∧ RefAt q.2.1 q.2.2.2.1 o q.2.2.2.2.1 ∧ Step (rS o fo) noS L T (rS o q.2.2.2.2.1) noS q.2.1 q.2.2.1 ∧ F = runFrom (parts.drop q.1 ++ rest) (q.2.2.2.1,q.2.2.2.2.2) ∧ preFrom (parts.drop q.1 ++ rest) (q.2.2.2.1,q.2.2.2.2.2)})
      (fun q => ⟨[.box o 0,.str n,.bytes b none,.any,.any,.any,.int .i64 0,.int .i64 (q.1.2.2.2.2.2 : Int),.int .i64 ((64 * q.1.1 : Nat) : Int),.any,.any,.any,.any,.any,.any,.any,.any,.any,.any,.any,.any,.any,.any,.any,.any,.any,.any,.any,.any,.any,.any,.any,.any,.any,.any,.any,.any,.any,.any,.any,.any,.any,.any,.any,.any,.any,.any,.any,.any,.any,.any,.any,.any],q.1.2.1,q.1.2.2.1⟩) (fun q => parts.length - q.1.1)
      ⟨(0,Lx,Tx,Mx,fox,cx),Nat.zero_le _,hdx,hstx,hF0,hpx0⟩ ?_ ?_ (fun q => ⟨q.2.2.2.1.len,q.2.2.2.1.tlen⟩)
     · simp (maxSteps:=2000000) only[bitvec_to_nat,seval,↓tcd,leLL_self]
       all_goals simp
     · rintro ⟨⟨k,L3,T3,M3,fo3,c3⟩,hk,hd3,hst3,hF3,hp3⟩
       simp only at hk hd3 hst3 hF3 hp3
       by_cases hc : c3 = 0
       · have hcd : decide ((c3 : Int) = 0) = true := decide_eq_true (by omega)
         by_cases hlt : 64 * k < b.length
         · have hld : decide (((64 * k : Nat) : Int) < (b.length : Int)) = true := decide_eq_true (by omega)
           have hkp : k < parts.length := by omega
           have hi1 : IntKind.i64.wrap (((64 * k : Nat) : Int) + 64) = ((64 * (k + 1) : Nat) : Int) := by rw [i64w (by omega) (by omega)]; omega
           have hmin : (if (b.length : Int) < ((64 * (k + 1) : Nat) : Int) then (b.length : Int) else ((64 * (k + 1) : Nat) : Int)) = ((min (64 * (k + 1)) b.length : Nat) : Int) := by split <;> omega
           have hdr : (b.take (min (64 * (k + 1)) b.length)).drop (64 * k) = (b.drop (64 * k)).take 64 := by
            rw [List.drop_take]
            exact List.take_eq_take_iff.2 (by rw [List.length_drop]; omega)
           obtain ⟨ck,hck⟩ : ∃ x,(b.drop (64 * k)).take 64 = x := ⟨_,rfl⟩
           have hcl : ck.length ≤ 1099511627776 := by rw [← hck,List.length_take]; omega
           have hpk : parts.drop k = appendD onTheWay ck :: parts.drop (k + 1) := by
            rw [List.drop_eq_getElem_cons hkp]
            congr 1
            simp only [← hparts,List.getElem_map]
            rw [chunks_at,hck]
           rw [hpk] at hF3 hp3
           simp (maxSteps:=2000000) only[bitvec_to_nat,seval,↓tcd,hld,hcd,hi1,hmin,Int.toNat_natCast,hdr,hck]
           obtain ⟨z1,z2⟩ := hp3 hc
           refine ⟨⟨by omega,by omega,by omega⟩,opr_o (if_pos hcl) hd3 z1 fun L4 T4 fo4 hd4 hst4 => ?_⟩
           have e4 : F = runFrom (parts.drop (k + 1) ++ rest) ((M3.append onTheWay ck).1,(M3.append onTheWay ck).2) := by
            rw [hF3]; exact if_pos hc
           refine ⟨⟨(k + 1,L4,T4,(M3.append onTheWay ck).1,fo4,(M3.append onTheWay ck).2),hkp,hd4,hst3.trans hst4,e4,z2⟩,?_,by simp only; omega⟩
           simp (maxSteps:=2000000) only[bitvec_to_nat,seval,↓tcd,leLL_self,code_V]
         · have hld : decide (((64 * k : Nat) : Int) < (b.length : Int)) = false := decide_eq_false (by omega)
           have hdn : parts.drop k = [] := List.drop_eq_nil_of_le (by omega)
           rw [hdn,List.nil_append,← hrest] at hF3 hp3
           obtain ⟨z1,z2⟩ := hp3 hc
           have hF4 : F = runFrom [renameD onTheWay n,syncNamesD] (M3.sync onTheWay) := by rw [hF3]; exact if_pos hc
           simp (maxSteps:=2000000) only[bitvec_to_nat,seval,↓tcd,hld,hcd]
           refine opr_o rfl hd3 z1 fun L4 T4 fo4 hd4 hst4 => ?_
           have z2' : preFrom [renameD onTheWay n,syncNamesD] (M3.sync onTheWay) := z2
           obtain ⟨c4,hc4⟩ : ∃ c,(M3.sync onTheWay).2 = c := ⟨_,rfl⟩
           obtain ⟨M4,hM4⟩ : ∃ c,(M3.sync onTheWay).1 = c := ⟨_,rfl⟩
           have x4 : M3.sync onTheWay = (M4,c4) := by rw [← hM4,← hc4]
           simp only [hc4,hM4,code_V] at hd4 ⊢
           rw [x4] at hF4 z2'
           by_cases h4 : c4 = 0
           · have hd5 : decide ((c4 : Int) = 0) = true := decide_eq_true (by omega)
             simp (maxSteps:=2000000) only[bitvec_to_nat,seval,↓tcd,hd5]
             obtain ⟨z3,z4⟩ := z2' h4
             refine opr_o rfl hd4 z3 fun L5 T5 fo5 hd5 hst5 => ?_
             have hF5 : F = runFrom [syncNamesD] (M4.rename onTheWay n) := by rw [hF4]; exact if_pos h4
             have z4' : preFrom [syncNamesD] (M4.rename onTheWay n) := z4
             obtain ⟨c5,hc5⟩ : ∃ c,(M4.rename onTheWay n).2 = c := ⟨_,rfl⟩
             obtain ⟨M5,hM5⟩ : ∃ c,(M4.rename onTheWay n).1 = c := ⟨_,rfl⟩
             have x5 : M4.rename onTheWay n = (M5,c5) := by rw [← hM5,← hc5]
             simp only [hot,hc5,hM5,code_V] at hd5 ⊢
             rw [x5] at hF5 z4'
             by_cases h5 : c5 = 0
             · have hd6 : decide ((c5 : Int) = 0) = true := decide_eq_true (by omega)
               simp (maxSteps:=2000000) only[bitvec_to_nat,seval,↓tcd,hd6]
               obtain ⟨z5,_⟩ := z4' h5
               refine opr_o rfl hd5 z5 fun L6 T6 fo6 hd6 hst6 => ?_
               have hF6 : F = M5.syncNames := by
                rw [hF5]
                have : runFrom [syncNamesD] (M5,c5) = runFrom [] M5.syncNames := if_pos h5
                rw [this]
                unfold runFrom
                split
                · rename_i h; show (M5.syncNames.1,0) = _; rw [← h]
                · rfl
               rw [hF6] at hK
               simp (maxSteps:=2000000) only[bitvec_to_nat,seval,↓tcd]
               exact ret_of (((hst3.trans hst4).trans hst5).trans hst6) (hK _ _ fo6 hd6 (((hst3.trans hst4).trans hst5).trans hst6))
             · have hd6 : decide ((c5 : Int) = 0) = false := decide_eq_false (by omega)
               simp (maxSteps:=2000000) only[bitvec_to_nat,seval,↓tcd,hd6]
               have hF6 : F = (M5,c5) := by rw [hF5]; exact if_neg h5
               rw [hF6] at hK
               exact ret_of ((hst3.trans hst4).trans hst5) (hK _ _ fo5 hd5 ((hst3.trans hst4).trans hst5))
           · have hd5 : decide ((c4 : Int) = 0) = false := decide_eq_false (by omega)
             simp (maxSteps:=2000000) only[bitvec_to_nat,seval,↓tcd,hd5]
             have hF6 : F = (M4,c4) := by rw [hF4]; exact if_neg h4
             rw [hF6] at hK
             exact ret_of (hst3.trans hst4) (hK _ _ fo4 hd4 (hst3.trans hst4))
       · have hcd : decide ((c3 : Int) = 0) = false := decide_eq_false (by omega)
         have hFe : F = (M3,c3) := by rw [hF3]; exact if_neg hc
         rw [hFe] at hK
         by_cases hlt : 64 * k < b.length
         · have hld : decide (((64 * k : Nat) : Int) < (b.length : Int)) = true := decide_eq_true (by omega)
           simp (maxSteps:=2000000) only[bitvec_to_nat,seval,↓tcd,hld,hcd]
           exact ret_of hst3 (hK _ _ fo3 hd3 hst3)
         · have hld : decide (((64 * k : Nat) : Int) < (b.length : Int)) = false := decide_eq_false (by omega)
           simp (maxSteps:=2000000) only[bitvec_to_nat,seval,↓tcd,hld,hcd]
           exact ret_of hst3 (hK _ _ fo3 hd3 hst3)
   · have hd2 : decide ((dd : Int) = 0) = false := decide_eq_false (by omega)
     simp (maxSteps:=2000000) only[bitvec_to_nat,seval,↓tcd,butN,hbn,hd2]
     have hstx := hst1
     have hdx := hd1
     obtain ⟨cx,hcx⟩ : ∃ c,dd = c := ⟨_,rfl⟩
     obtain ⟨Mx,hMx⟩ : ∃ c,M1 = c := ⟨_,rfl⟩
     have hpx : preFrom (partsD b :: rest) (Mx,cx) := fun h => absurd (hcx.trans h) hz
     have e1 : runFrom (createD onTheWay :: partsD b :: rest) (M1,dd) = runFrom (partsD b :: rest) (Mx,cx) := by
      rw [← hMx,← hcx]; unfold runFrom; rw [if_neg hz,if_neg hz]
     rw [e1] at hK
     obtain ⟨fox,hfx⟩ : ∃ x,fo1 = x := ⟨_,rfl⟩
     rw [hfx] at hstx hdx
     obtain ⟨Lx,hLx⟩ : ∃ x,L1 = x := ⟨_,rfl⟩
     obtain ⟨Tx,hTx⟩ : ∃ x,T1 = x := ⟨_,rfl⟩
     rw [hLx,hTx] at hstx ⊢
     rw [hLx,hMx] at hdx
     rw [hcx]
     obtain ⟨F,hF⟩ : ∃ x,runFrom (partsD b :: rest) (Mx,cx) = x := ⟨_,rfl⟩
     rw [hF] at hK
     have hF0 : F = runFrom (parts.drop 0 ++ rest) (Mx,cx) := by
      rw [← hF,List.drop_zero,← hparts]
      unfold runFrom partsD
      split
      · exact runF_runD _ _ _
      · rfl
     have hpx0 : preFrom (parts.drop 0 ++ rest) (Mx,cx) := fun h => by
      rw [List.drop_zero,← hparts]
      exact pre_runD _ _ _ (hpx h)
     have hN : parts.length = (b.length + 63) / 64 := by rw [← hparts,List.length_map,chunks_len]
     refine awpLoop_intro (α := {q : Nat × LL × TT × MD × Nat × Nat // q.1 ≤ parts.length ∧ RefAt q.2.1 q.2.2.2.1 o q.2.2.2.2.1 ∧ Step (rS o fo) noS L T (rS o q.2.2.2.2.1) noS q.2.1 q.2.2.1 ∧ F = runFrom (parts.drop q.1 ++ rest) (q.2.2.2.1,q.2.2.2.2.2) ∧ preFrom (parts.drop q.1 ++ rest) (q.2.2.2.1,q.2.2.2.2.2)})
      (fun q => ⟨[.box o 0,.str n,.bytes b none,.any,.any,.any,.int .i64 0,.int .i64 (q.1.2.2.2.2.2 : Int),.int .i64 ((64 * q.1.1 : Nat) : Int),.any,.any,.any,.any,.any,.any,.any,.any,.any,.any,.any,.any,.any,.any,.any,.any,.any,.any,.any,.any,.any,.any,.any,.any,.any,.any,.any,.any,.any,.any,.any,.any,.any,.any,.any,.any,.any,.any,.any,.any,.any,.any,.any,.any],q.1.2.1,q.1.2.2.1⟩) (fun q => parts.length - q.1.1)
      ⟨(0,Lx,Tx,Mx,fox,cx),Nat.zero_le _,hdx,hstx,hF0,hpx0⟩ ?_ ?_ (fun q => ⟨q.2.2.2.1.len,q.2.2.2.1.tlen⟩)
     · simp (maxSteps:=2000000) only[bitvec_to_nat,seval,↓tcd,leLL_self]
       all_goals simp
     · rintro ⟨⟨k,L3,T3,M3,fo3,c3⟩,hk,hd3,hst3,hF3,hp3⟩
       simp only at hk hd3 hst3 hF3 hp3
       by_cases hc : c3 = 0
       · have hcd : decide ((c3 : Int) = 0) = true := decide_eq_true (by omega)
         by_cases hlt : 64 * k < b.length
         · have hld : decide (((64 * k : Nat) : Int) < (b.length : Int)) = true := decide_eq_true (by omega)
           have hkp : k < parts.length := by omega
           have hi1 : IntKind.i64.wrap (((64 * k : Nat) : Int) + 64) = ((64 * (k + 1) : Nat) : Int) := by rw [i64w (by omega) (by omega)]; omega
           have hmin : (if (b.length : Int) < ((64 * (k + 1) : Nat) : Int) then (b.length : Int) else ((64 * (k + 1) : Nat) : Int)) = ((min (64 * (k + 1)) b.length : Nat) : Int) := by split <;> omega
           have hdr : (b.take (min (64 * (k + 1)) b.length)).drop (64 * k) = (b.drop (64 * k)).take 64 := by
            rw [List.drop_take]
            exact List.take_eq_take_iff.2 (by rw [List.length_drop]; omega)
           obtain ⟨ck,hck⟩ : ∃ x,(b.drop (64 * k)).take 64 = x := ⟨_,rfl⟩
           have hcl : ck.length ≤ 1099511627776 := by rw [← hck,List.length_take]; omega
           have hpk : parts.drop k = appendD onTheWay ck :: parts.drop (k + 1) := by
            rw [List.drop_eq_getElem_cons hkp]
            congr 1
            simp only [← hparts,List.getElem_map]
            rw [chunks_at,hck]
           rw [hpk] at hF3 hp3
           simp (maxSteps:=2000000) only[bitvec_to_nat,seval,↓tcd,hld,hcd,hi1,hmin,Int.toNat_natCast,hdr,hck]
           obtain ⟨z1,z2⟩ := hp3 hc
           refine ⟨⟨by omega,by omega,by omega⟩,opr_o (if_pos hcl) hd3 z1 fun L4 T4 fo4 hd4 hst4 => ?_⟩
           have e4 : F = runFrom (parts.drop (k + 1) ++ rest) ((M3.append onTheWay ck).1,(M3.append onTheWay ck).2) := by
            rw [hF3]; exact if_pos hc
           refine ⟨⟨(k + 1,L4,T4,(M3.append onTheWay ck).1,fo4,(M3.append onTheWay ck).2),hkp,hd4,hst3.trans hst4,e4,z2⟩,?_,by simp only; omega⟩
           simp (maxSteps:=2000000) only[bitvec_to_nat,seval,↓tcd,leLL_self,code_V]
         · have hld : decide (((64 * k : Nat) : Int) < (b.length : Int)) = false := decide_eq_false (by omega)
           have hdn : parts.drop k = [] := List.drop_eq_nil_of_le (by omega)
           rw [hdn,List.nil_append,← hrest] at hF3 hp3
           obtain ⟨z1,z2⟩ := hp3 hc
           have hF4 : F = runFrom [renameD onTheWay n,syncNamesD] (M3.sync onTheWay) := by rw [hF3]; exact if_pos hc
           simp (maxSteps:=2000000) only[bitvec_to_nat,seval,↓tcd,hld,hcd]
           refine opr_o rfl hd3 z1 fun L4 T4 fo4 hd4 hst4 => ?_
           have z2' : preFrom [renameD onTheWay n,syncNamesD] (M3.sync onTheWay) := z2
           obtain ⟨c4,hc4⟩ : ∃ c,(M3.sync onTheWay).2 = c := ⟨_,rfl⟩
           obtain ⟨M4,hM4⟩ : ∃ c,(M3.sync onTheWay).1 = c := ⟨_,rfl⟩
           have x4 : M3.sync onTheWay = (M4,c4) := by rw [← hM4,← hc4]
           simp only [hc4,hM4,code_V] at hd4 ⊢
           rw [x4] at hF4 z2'
           by_cases h4 : c4 = 0
           · have hd5 : decide ((c4 : Int) = 0) = true := decide_eq_true (by omega)
             simp (maxSteps:=2000000) only[bitvec_to_nat,seval,↓tcd,hd5]
             obtain ⟨z3,z4⟩ := z2' h4
             refine opr_o rfl hd4 z3 fun L5 T5 fo5 hd5 hst5 => ?_
             have hF5 : F = runFrom [syncNamesD] (M4.rename onTheWay n) := by rw [hF4]; exact if_pos h4
             have z4' : preFrom [syncNamesD] (M4.rename onTheWay n) := z4
             obtain ⟨c5,hc5⟩ : ∃ c,(M4.rename onTheWay n).2 = c := ⟨_,rfl⟩
             obtain ⟨M5,hM5⟩ : ∃ c,(M4.rename onTheWay n).1 = c := ⟨_,rfl⟩
             have x5 : M4.rename onTheWay n = (M5,c5) := by rw [← hM5,← hc5]
             simp only [hot,hc5,hM5,code_V] at hd5 ⊢
             rw [x5] at hF5 z4'
             by_cases h5 : c5 = 0
             · have hd6 : decide ((c5 : Int) = 0) = true := decide_eq_true (by omega)
               simp (maxSteps:=2000000) only[bitvec_to_nat,seval,↓tcd,hd6]
               obtain ⟨z5,_⟩ := z4' h5
               refine opr_o rfl hd5 z5 fun L6 T6 fo6 hd6 hst6 => ?_
               have hF6 : F = M5.syncNames := by
                rw [hF5]
                have : runFrom [syncNamesD] (M5,c5) = runFrom [] M5.syncNames := if_pos h5
                rw [this]
                unfold runFrom
                split
                · rename_i h; show (M5.syncNames.1,0) = _; rw [← h]
                · rfl
               rw [hF6] at hK
               simp (maxSteps:=2000000) only[bitvec_to_nat,seval,↓tcd]
               exact ret_of (((hst3.trans hst4).trans hst5).trans hst6) (hK _ _ fo6 hd6 (((hst3.trans hst4).trans hst5).trans hst6))
             · have hd6 : decide ((c5 : Int) = 0) = false := decide_eq_false (by omega)
               simp (maxSteps:=2000000) only[bitvec_to_nat,seval,↓tcd,hd6]
               have hF6 : F = (M5,c5) := by rw [hF5]; exact if_neg h5
               rw [hF6] at hK
               exact ret_of ((hst3.trans hst4).trans hst5) (hK _ _ fo5 hd5 ((hst3.trans hst4).trans hst5))
           · have hd5 : decide ((c4 : Int) = 0) = false := decide_eq_false (by omega)
             simp (maxSteps:=2000000) only[bitvec_to_nat,seval,↓tcd,hd5]
             have hF6 : F = (M4,c4) := by rw [hF4]; exact if_neg h4
             rw [hF6] at hK
             exact ret_of (hst3.trans hst4) (hK _ _ fo4 hd4 (hst3.trans hst4))
       · have hcd : decide ((c3 : Int) = 0) = false := decide_eq_false (by omega)
         have hFe : F = (M3,c3) := by rw [hF3]; exact if_neg hc
         rw [hFe] at hK
         by_cases hlt : 64 * k < b.length
         · have hld : decide (((64 * k : Nat) : Int) < (b.length : Int)) = true := decide_eq_true (by omega)
           simp (maxSteps:=2000000) only[bitvec_to_nat,seval,↓tcd,hld,hcd]
           exact ret_of hst3 (hK _ _ fo3 hd3 hst3)
         · have hld : decide (((64 * k : Nat) : Int) < (b.length : Int)) = false := decide_eq_false (by omega)
           simp (maxSteps:=2000000) only[bitvec_to_nat,seval,↓tcd,hld,hcd]
           exact ret_of hst3 (hK _ _ fo3 hd3 hst3)
 · have hrd : decide (growsOk n) = false := decide_eq_false hr
   simp (maxSteps:=2000000) only[bitvec_to_nat,seval,↓tcd,Tryz.f34,rightN,hrd]
   have e : (putAll n b).f M = (M,1) := if_neg hr
   rw [e] at hK
   exact ret_of (Step.refl (rS o fo) noS L T) (hK _ _ fo hd (Step.refl _ _ _ _))
end Go.Proofs.YthlmfalfnpjndaaGreat.PlaceR
