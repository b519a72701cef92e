import Derived.Test.YthlmfalfnpjndaaGreatAwX
import Derived.Test.YthlmfalfnpjndaaGreatDisk2
namespace Go.Proofs.YthlmfalfnpjndaaGreat.Ref
open Go Go.Proofs Aw Num DiskM DiskA DiskC Disk
set_option linter.unusedSimpArgs false
set_option linter.unusedVariables false
def I25 : TyI := ⟨.struct [(0,3),(1,23)],2,32,(.agg #[(.int .i64 0),(.slice none 0 0)])⟩
def I55 : TyI := ⟨.struct [(0,51),(1,52),(2,52),(3,53),(4,3),(5,4),(6,4),(7,3)],8,120,(.agg #[(.slice none 0 0),(.slice none 0 0),(.slice none 0 0),(.slice none 0 0),(.int .i64 0),(.bool false),(.bool false),(.int .i64 0)])⟩
def I74 : TyI := ⟨.struct [(0,9),(1,9),(2,3)],3,40,(.agg #[(.string .empty),(.string .empty),(.int .i64 0)])⟩
def I76 : TyI := ⟨.struct [(0,32),(1,3)],2,32,(.agg #[(.slice none 0 0),(.int .i64 0)])⟩
def I78 : TyI := ⟨.struct [(0,9),(1,3)],2,24,(.agg #[(.string .empty),(.int .i64 0)])⟩
def tys : Tys := fun t => if t = 3 then some ⟨.int .i64,1,8,(.int .i64 0)⟩ else if t = 4 then some ⟨.bool,1,1,(.bool false)⟩ else if t = 5 then some ⟨.int .u8,1,1,(.int .u8 0)⟩ else if t = 9 then some ⟨.str,1,16,(.string .empty)⟩ else if t = 23 then some ⟨.slice 3,1,24,(.slice none 0 0)⟩ else if t = 25 then some I25 else if t = 29 then some ⟨.ptr 55,1,8,(.pointer none)⟩ else if t = 32 then some ⟨.slice 5,1,24,(.slice none 0 0)⟩ else if t = 36 then some ⟨.int .i64,1,8,(.int .i64 0)⟩ else if t = 51 then some ⟨.slice 76,1,24,(.slice none 0 0)⟩ else if t = 52 then some ⟨.slice 78,1,24,(.slice none 0 0)⟩ else if t = 53 then some ⟨.slice 74,1,24,(.slice none 0 0)⟩ else if t = 55 then some I55 else if t = 67 then some ⟨.slice 9,1,24,(.slice none 0 0)⟩ else if t = 74 then some I74 else if t = 76 then some I76 else if t = 78 then some I78 else if t = 113 then some ⟨.slice 4,1,24,(.slice none 0 0)⟩ else none
theorem tysOk : TyOk Tryz.prog tys := by
 refine TyOk.cons ?_ 3 _ (by kernel_rfl) (by kernel_rfl)
 refine TyOk.cons ?_ 4 _ (by kernel_rfl) (by kernel_rfl)
 refine TyOk.cons ?_ 5 _ (by kernel_rfl) (by kernel_rfl)
 refine TyOk.cons ?_ 9 _ (by kernel_rfl) (by kernel_rfl)
 refine TyOk.cons ?_ 23 _ (by kernel_rfl) (by kernel_rfl)
 refine TyOk.cons ?_ 25 _ (by kernel_rfl) (by kernel_rfl)
 refine TyOk.cons ?_ 29 _ (by kernel_rfl) (by kernel_rfl)
 refine TyOk.cons ?_ 32 _ (by kernel_rfl) (by kernel_rfl)
 refine TyOk.cons ?_ 36 _ (by kernel_rfl) (by kernel_rfl)
 refine TyOk.cons ?_ 51 _ (by kernel_rfl) (by kernel_rfl)
 refine TyOk.cons ?_ 52 _ (by kernel_rfl) (by kernel_rfl)
 refine TyOk.cons ?_ 53 _ (by kernel_rfl) (by kernel_rfl)
 refine TyOk.cons ?_ 55 _ (by kernel_rfl) (by kernel_rfl)
 refine TyOk.cons ?_ 67 _ (by kernel_rfl) (by kernel_rfl)
 refine TyOk.cons ?_ 74 _ (by kernel_rfl) (by kernel_rfl)
 refine TyOk.cons ?_ 76 _ (by kernel_rfl) (by kernel_rfl)
 refine TyOk.cons ?_ 78 _ (by kernel_rfl) (by kernel_rfl)
 refine TyOk.cons ?_ 113 _ (by kernel_rfl) (by kernel_rfl)
 exact TyOk.nil _
theorem mix : Tryz.prog.follows .mixedOrders = true := by kernel_rfl
theorem ty3 : tys 3 = some ⟨.int .i64,1,8,(.int .i64 0)⟩ := rfl
theorem tk3 : kindV tys 3 = some (.int .i64) := rfl
theorem ts3 : sizeV tys 3 = 1 := rfl
theorem ta3 : TyI.isAgg ⟨.int .i64,1,8,(.int .i64 0)⟩ = false := rfl
theorem tu3 : isU8 ⟨.int .i64,1,8,(.int .i64 0)⟩ = false := rfl
theorem tn3 : notIntK tys 3 = false := rfl
theorem tr3 : isStrK tys 3 = false := rfl
theorem tv3 : zeroU8 ⟨.int .i64,1,8,(.int .i64 0)⟩ = false := rfl
theorem td3 : TyI.zeroV ⟨.int .i64,1,8,(.int .i64 0)⟩ = V.ofV1 (.int .i64 0) := rfl
theorem ty4 : tys 4 = some ⟨.bool,1,1,(.bool false)⟩ := rfl
theorem tk4 : kindV tys 4 = some (.bool) := rfl
theorem ts4 : sizeV tys 4 = 1 := rfl
theorem ta4 : TyI.isAgg ⟨.bool,1,1,(.bool false)⟩ = false := rfl
theorem tu4 : isU8 ⟨.bool,1,1,(.bool false)⟩ = false := rfl
theorem tn4 : notIntK tys 4 = true := rfl
theorem tr4 : isStrK tys 4 = false := rfl
theorem tv4 : zeroU8 ⟨.bool,1,1,(.bool false)⟩ = false := rfl
theorem td4 : TyI.zeroV ⟨.bool,1,1,(.bool false)⟩ = V.ofV1 (.bool false) := rfl
theorem ty5 : tys 5 = some ⟨.int .u8,1,1,(.int .u8 0)⟩ := rfl
theorem tk5 : kindV tys 5 = some (.int .u8) := rfl
theorem ts5 : sizeV tys 5 = 1 := rfl
theorem ta5 : TyI.isAgg ⟨.int .u8,1,1,(.int .u8 0)⟩ = false := rfl
theorem tu5 : isU8 ⟨.int .u8,1,1,(.int .u8 0)⟩ = true := rfl
theorem tn5 : notIntK tys 5 = false := rfl
theorem tr5 : isStrK tys 5 = false := rfl
theorem tv5 : zeroU8 ⟨.int .u8,1,1,(.int .u8 0)⟩ = true := rfl
theorem td5 : TyI.zeroV ⟨.int .u8,1,1,(.int .u8 0)⟩ = V.ofV1 (.int .u8 0) := rfl
theorem ty9 : tys 9 = some ⟨.str,1,16,(.string .empty)⟩ := rfl
theorem tk9 : kindV tys 9 = some (.str) := rfl
theorem ts9 : sizeV tys 9 = 1 := rfl
theorem ta9 : TyI.isAgg ⟨.str,1,16,(.string .empty)⟩ = false := rfl
theorem tu9 : isU8 ⟨.str,1,16,(.string .empty)⟩ = false := rfl
theorem tn9 : notIntK tys 9 = true := rfl
theorem tr9 : isStrK tys 9 = true := rfl
theorem tv9 : zeroU8 ⟨.str,1,16,(.string .empty)⟩ = false := rfl
theorem td9 : TyI.zeroV ⟨.str,1,16,(.string .empty)⟩ = V.ofV1 (.string .empty) := rfl
theorem ty23 : tys 23 = some ⟨.slice 3,1,24,(.slice none 0 0)⟩ := rfl
theorem tk23 : kindV tys 23 = some (.slice 3) := rfl
theorem ts23 : sizeV tys 23 = 1 := rfl
theorem ta23 : TyI.isAgg ⟨.slice 3,1,24,(.slice none 0 0)⟩ = false := rfl
theorem tb23 : isBytes tys 23 = false := rfl
theorem te23 : elemI tys 23 = some (3,⟨.int .i64,1,8,(.int .i64 0)⟩) := rfl
theorem tu23 : isU8 ⟨.slice 3,1,24,(.slice none 0 0)⟩ = false := rfl
theorem tn23 : notIntK tys 23 = true := rfl
theorem tr23 : isStrK tys 23 = false := rfl
theorem tv23 : zeroU8 ⟨.slice 3,1,24,(.slice none 0 0)⟩ = false := rfl
theorem td23 : TyI.zeroV ⟨.slice 3,1,24,(.slice none 0 0)⟩ = V.ofV1 (.slice none 0 0) := rfl
theorem ty25 : tys 25 = some I25 := rfl
theorem tk25 : kindV tys 25 = some (.struct [(0,3),(1,23)]) := rfl
theorem ts25 : sizeV tys 25 = 2 := rfl
theorem ta25 : TyI.isAgg I25 = true := rfl
theorem tg25 : I25.size = 2 ∧ I25.kind = .struct [(0,3),(1,23)] ∧ I25.bytes = 32 ∧ I25.zero = (.agg #[(.int .i64 0),(.slice none 0 0)]) := ⟨rfl,rfl,rfl,rfl⟩
theorem tu25 : isU8 I25 = false := rfl
theorem tn25 : notIntK tys 25 = true := rfl
theorem tr25 : isStrK tys 25 = false := rfl
theorem tv25 : zeroU8 I25 = false := rfl
theorem tc25 : V.ofV (.agg #[(.int .i64 0),(.slice none 0 0)]) = .agg [V.ofV1 (.int .i64 0),V.ofV1 (.slice none 0 0)] := by kernel_rfl
theorem tw25 : Value.oneCell' (.agg #[(.int .i64 0),(.slice none 0 0)]) = false := rfl
theorem td25 : TyI.zeroV I25 = .agg [V.ofV1 (.int .i64 0),V.ofV1 (.slice none 0 0)] := by kernel_rfl
theorem tp25_0 : placeV tys [(0,3),(1,23)] 0 = some (0,1) := rfl
theorem tp25_1 : placeV tys [(0,3),(1,23)] 1 = some (1,1) := rfl
theorem tq25 : ([(0,3),(1,23)].all (fun f => (tys f.2).isSome)) = true := rfl
theorem ty29 : tys 29 = some ⟨.ptr 55,1,8,(.pointer none)⟩ := rfl
theorem tk29 : kindV tys 29 = some (.ptr 55) := rfl
theorem ts29 : sizeV tys 29 = 1 := rfl
theorem ta29 : TyI.isAgg ⟨.ptr 55,1,8,(.pointer none)⟩ = false := rfl
theorem tu29 : isU8 ⟨.ptr 55,1,8,(.pointer none)⟩ = false := rfl
theorem tn29 : notIntK tys 29 = true := rfl
theorem tr29 : isStrK tys 29 = false := rfl
theorem tv29 : zeroU8 ⟨.ptr 55,1,8,(.pointer none)⟩ = false := rfl
theorem td29 : TyI.zeroV ⟨.ptr 55,1,8,(.pointer none)⟩ = V.ofV1 (.pointer none) := rfl
theorem ty32 : tys 32 = some ⟨.slice 5,1,24,(.slice none 0 0)⟩ := rfl
theorem tk32 : kindV tys 32 = some (.slice 5) := rfl
theorem ts32 : sizeV tys 32 = 1 := rfl
theorem ta32 : TyI.isAgg ⟨.slice 5,1,24,(.slice none 0 0)⟩ = false := rfl
theorem tb32 : isBytes tys 32 = true := rfl
theorem te32 : elemI tys 32 = some (5,⟨.int .u8,1,1,(.int .u8 0)⟩) := rfl
theorem tu32 : isU8 ⟨.slice 5,1,24,(.slice none 0 0)⟩ = false := rfl
theorem tn32 : notIntK tys 32 = true := rfl
theorem tr32 : isStrK tys 32 = false := rfl
theorem tv32 : zeroU8 ⟨.slice 5,1,24,(.slice none 0 0)⟩ = false := rfl
theorem td32 : TyI.zeroV ⟨.slice 5,1,24,(.slice none 0 0)⟩ = V.ofV1 (.slice none 0 0) := rfl
theorem ty36 : tys 36 = some ⟨.int .i64,1,8,(.int .i64 0)⟩ := rfl
theorem tk36 : kindV tys 36 = some (.int .i64) := rfl
theorem ts36 : sizeV tys 36 = 1 := rfl
theorem ta36 : TyI.isAgg ⟨.int .i64,1,8,(.int .i64 0)⟩ = false := rfl
theorem tu36 : isU8 ⟨.int .i64,1,8,(.int .i64 0)⟩ = false := rfl
theorem tn36 : notIntK tys 36 = false := rfl
theorem tr36 : isStrK tys 36 = false := rfl
theorem tv36 : zeroU8 ⟨.int .i64,1,8,(.int .i64 0)⟩ = false := rfl
theorem td36 : TyI.zeroV ⟨.int .i64,1,8,(.int .i64 0)⟩ = V.ofV1 (.int .i64 0) := rfl
theorem ty51 : tys 51 = some ⟨.slice 76,1,24,(.slice none 0 0)⟩ := rfl
theorem tk51 : kindV tys 51 = some (.slice 76) := rfl
theorem ts51 : sizeV tys 51 = 1 := rfl
theorem ta51 : TyI.isAgg ⟨.slice 76,1,24,(.slice none 0 0)⟩ = false := rfl
theorem tb51 : isBytes tys 51 = false := rfl
theorem te51 : elemI tys 51 = some (76,I76) := rfl
theorem tu51 : isU8 ⟨.slice 76,1,24,(.slice none 0 0)⟩ = false := rfl
theorem tn51 : notIntK tys 51 = true := rfl
theorem tr51 : isStrK tys 51 = false := rfl
theorem tv51 : zeroU8 ⟨.slice 76,1,24,(.slice none 0 0)⟩ = false := rfl
theorem td51 : TyI.zeroV ⟨.slice 76,1,24,(.slice none 0 0)⟩ = V.ofV1 (.slice none 0 0) := rfl
theorem ty52 : tys 52 = some ⟨.slice 78,1,24,(.slice none 0 0)⟩ := rfl
theorem tk52 : kindV tys 52 = some (.slice 78) := rfl
theorem ts52 : sizeV tys 52 = 1 := rfl
theorem ta52 : TyI.isAgg ⟨.slice 78,1,24,(.slice none 0 0)⟩ = false := rfl
theorem tb52 : isBytes tys 52 = false := rfl
theorem te52 : elemI tys 52 = some (78,I78) := rfl
theorem tu52 : isU8 ⟨.slice 78,1,24,(.slice none 0 0)⟩ = false := rfl
theorem tn52 : notIntK tys 52 = true := rfl
theorem tr52 : isStrK tys 52 = false := rfl
theorem tv52 : zeroU8 ⟨.slice 78,1,24,(.slice none 0 0)⟩ = false := rfl
theorem td52 : TyI.zeroV ⟨.slice 78,1,24,(.slice none 0 0)⟩ = V.ofV1 (.slice none 0 0) := rfl
theorem ty53 : tys 53 = some ⟨.slice 74,1,24,(.slice none 0 0)⟩ := rfl
theorem tk53 : kindV tys 53 = some (.slice 74) := rfl
theorem ts53 : sizeV tys 53 = 1 := rfl
theorem ta53 : TyI.isAgg ⟨.slice 74,1,24,(.slice none 0 0)⟩ = false := rfl
theorem tb53 : isBytes tys 53 = false := rfl
theorem te53 : elemI tys 53 = some (74,I74) := rfl
theorem tu53 : isU8 ⟨.slice 74,1,24,(.slice none 0 0)⟩ = false := rfl
theorem tn53 : notIntK tys 53 = true := rfl
theorem tr53 : isStrK tys 53 = false := rfl
theorem tv53 : zeroU8 ⟨.slice 74,1,24,(.slice none 0 0)⟩ = false := rfl
theorem td53 : TyI.zeroV ⟨.slice 74,1,24,(.slice none 0 0)⟩ = V.ofV1 (.slice none 0 0) := rfl
theorem ty55 : tys 55 = some I55 := rfl
theorem tk55 : kindV tys 55 = some (.struct [(0,51),(1,52),(2,52),(3,53),(4,3),(5,4),(6,4),(7,3)]) := rfl
theorem ts55 : sizeV tys 55 = 8 := rfl
theorem ta55 : TyI.isAgg I55 = true := rfl
theorem tg55 : I55.size = 8 ∧ I55.kind = .struct [(0,51),(1,52),(2,52),(3,53),(4,3),(5,4),(6,4),(7,3)] ∧ I55.bytes = 120 ∧ I55.zero = (.agg #[(.slice none 0 0),(.slice none 0 0),(.slice none 0 0),(.slice none 0 0),(.int .i64 0),(.bool false),(.bool false),(.int .i64 0)]) := ⟨rfl,rfl,rfl,rfl⟩
theorem tu55 : isU8 I55 = false := rfl
theorem tn55 : notIntK tys 55 = true := rfl
theorem tr55 : isStrK tys 55 = false := rfl
theorem tz55 : zeroOk I55 = true := by kernel_rfl
theorem tv55 : zeroU8 I55 = false := rfl
theorem tc55 : V.ofV (.agg #[(.slice none 0 0),(.slice none 0 0),(.slice none 0 0),(.slice none 0 0),(.int .i64 0),(.bool false),(.bool false),(.int .i64 0)]) = .agg [V.ofV1 (.slice none 0 0),V.ofV1 (.slice none 0 0),V.ofV1 (.slice none 0 0),V.ofV1 (.slice none 0 0),V.ofV1 (.int .i64 0),V.ofV1 (.bool false),V.ofV1 (.bool false),V.ofV1 (.int .i64 0)] := by kernel_rfl
theorem tw55 : Value.oneCell' (.agg #[(.slice none 0 0),(.slice none 0 0),(.slice none 0 0),(.slice none 0 0),(.int .i64 0),(.bool false),(.bool false),(.int .i64 0)]) = false := rfl
theorem tx55 : (#[(.slice none 0 0),(.slice none 0 0),(.slice none 0 0),(.slice none 0 0),(.int .i64 0),(.bool false),(.bool false),(.int .i64 0)] : Array Value).all (fun x => x.oneCell') 0 8 = true := by kernel_rfl
theorem td55 : TyI.zeroV I55 = .agg [V.ofV1 (.slice none 0 0),V.ofV1 (.slice none 0 0),V.ofV1 (.slice none 0 0),V.ofV1 (.slice none 0 0),V.ofV1 (.int .i64 0),V.ofV1 (.bool false),V.ofV1 (.bool false),V.ofV1 (.int .i64 0)] := by kernel_rfl
theorem tp55_0 : placeV tys [(0,51),(1,52),(2,52),(3,53),(4,3),(5,4),(6,4),(7,3)] 0 = some (0,1) := rfl
theorem tp55_1 : placeV tys [(0,51),(1,52),(2,52),(3,53),(4,3),(5,4),(6,4),(7,3)] 1 = some (1,1) := rfl
theorem tp55_2 : placeV tys [(0,51),(1,52),(2,52),(3,53),(4,3),(5,4),(6,4),(7,3)] 2 = some (2,1) := rfl
theorem tp55_3 : placeV tys [(0,51),(1,52),(2,52),(3,53),(4,3),(5,4),(6,4),(7,3)] 3 = some (3,1) := rfl
theorem tp55_4 : placeV tys [(0,51),(1,52),(2,52),(3,53),(4,3),(5,4),(6,4),(7,3)] 4 = some (4,1) := rfl
theorem tp55_5 : placeV tys [(0,51),(1,52),(2,52),(3,53),(4,3),(5,4),(6,4),(7,3)] 5 = some (5,1) := rfl
theorem tp55_6 : placeV tys [(0,51),(1,52),(2,52),(3,53),(4,3),(5,4),(6,4),(7,3)] 6 = some (6,1) := rfl
theorem tp55_7 : placeV tys [(0,51),(1,52),(2,52),(3,53),(4,3),(5,4),(6,4),(7,3)] 7 = some (7,1) := rfl
theorem tq55 : ([(0,51),(1,52),(2,52),(3,53),(4,3),(5,4),(6,4),(7,3)].all (fun f => (tys f.2).isSome)) = true := rfl
theorem ty67 : tys 67 = some ⟨.slice 9,1,24,(.slice none 0 0)⟩ := rfl
theorem tk67 : kindV tys 67 = some (.slice 9) := rfl
theorem ts67 : sizeV tys 67 = 1 := rfl
theorem ta67 : TyI.isAgg ⟨.slice 9,1,24,(.slice none 0 0)⟩ = false := rfl
theorem tb67 : isBytes tys 67 = false := rfl
theorem te67 : elemI tys 67 = some (9,⟨.str,1,16,(.string .empty)⟩) := rfl
theorem tu67 : isU8 ⟨.slice 9,1,24,(.slice none 0 0)⟩ = false := rfl
theorem tn67 : notIntK tys 67 = true := rfl
theorem tr67 : isStrK tys 67 = false := rfl
theorem tv67 : zeroU8 ⟨.slice 9,1,24,(.slice none 0 0)⟩ = false := rfl
theorem td67 : TyI.zeroV ⟨.slice 9,1,24,(.slice none 0 0)⟩ = V.ofV1 (.slice none 0 0) := rfl
theorem ty74 : tys 74 = some I74 := rfl
theorem tk74 : kindV tys 74 = some (.struct [(0,9),(1,9),(2,3)]) := rfl
theorem ts74 : sizeV tys 74 = 3 := rfl
theorem ta74 : TyI.isAgg I74 = true := rfl
theorem tg74 : I74.size = 3 ∧ I74.kind = .struct [(0,9),(1,9),(2,3)] ∧ I74.bytes = 40 ∧ I74.zero = (.agg #[(.string .empty),(.string .empty),(.int .i64 0)]) := ⟨rfl,rfl,rfl,rfl⟩
theorem tu74 : isU8 I74 = false := rfl
theorem tn74 : notIntK tys 74 = true := rfl
theorem tr74 : isStrK tys 74 = false := rfl
theorem tz74 : zeroOk I74 = true := by kernel_rfl
theorem tv74 : zeroU8 I74 = false := rfl
theorem tc74 : V.ofV (.agg #[(.string .empty),(.string .empty),(.int .i64 0)]) = .agg [V.ofV1 (.string .empty),V.ofV1 (.string .empty),V.ofV1 (.int .i64 0)] := by kernel_rfl
theorem tw74 : Value.oneCell' (.agg #[(.string .empty),(.string .empty),(.int .i64 0)]) = false := rfl
theorem tx74 : (#[(.string .empty),(.string .empty),(.int .i64 0)] : Array Value).all (fun x => x.oneCell') 0 3 = true := by kernel_rfl
theorem td74 : TyI.zeroV I74 = .agg [V.ofV1 (.string .empty),V.ofV1 (.string .empty),V.ofV1 (.int .i64 0)] := by kernel_rfl
theorem tp74_0 : placeV tys [(0,9),(1,9),(2,3)] 0 = some (0,1) := rfl
theorem tp74_1 : placeV tys [(0,9),(1,9),(2,3)] 1 = some (1,1) := rfl
theorem tp74_2 : placeV tys [(0,9),(1,9),(2,3)] 2 = some (2,1) := rfl
theorem tq74 : ([(0,9),(1,9),(2,3)].all (fun f => (tys f.2).isSome)) = true := rfl
theorem ty76 : tys 76 = some I76 := rfl
theorem tk76 : kindV tys 76 = some (.struct [(0,32),(1,3)]) := rfl
theorem ts76 : sizeV tys 76 = 2 := rfl
theorem ta76 : TyI.isAgg I76 = true := rfl
theorem tg76 : I76.size = 2 ∧ I76.kind = .struct [(0,32),(1,3)] ∧ I76.bytes = 32 ∧ I76.zero = (.agg #[(.slice none 0 0),(.int .i64 0)]) := ⟨rfl,rfl,rfl,rfl⟩
theorem tu76 : isU8 I76 = false := rfl
theorem tn76 : notIntK tys 76 = true := rfl
theorem tr76 : isStrK tys 76 = false := rfl
theorem tz76 : zeroOk I76 = true := by kernel_rfl
theorem tv76 : zeroU8 I76 = false := rfl
theorem tc76 : V.ofV (.agg #[(.slice none 0 0),(.int .i64 0)]) = .agg [V.ofV1 (.slice none 0 0),V.ofV1 (.int .i64 0)] := by kernel_rfl
theorem tw76 : Value.oneCell' (.agg #[(.slice none 0 0),(.int .i64 0)]) = false := rfl
theorem td76 : TyI.zeroV I76 = .agg [V.ofV1 (.slice none 0 0),V.ofV1 (.int .i64 0)] := by kernel_rfl
theorem tp76_0 : placeV tys [(0,32),(1,3)] 0 = some (0,1) := rfl
theorem tp76_1 : placeV tys [(0,32),(1,3)] 1 = some (1,1) := rfl
theorem tq76 : ([(0,32),(1,3)].all (fun f => (tys f.2).isSome)) = true := rfl
theorem ty78 : tys 78 = some I78 := rfl
theorem tk78 : kindV tys 78 = some (.struct [(0,9),(1,3)]) := rfl
theorem ts78 : sizeV tys 78 = 2 := rfl
theorem ta78 : TyI.isAgg I78 = true := rfl
theorem tg78 : I78.size = 2 ∧ I78.kind = .struct [(0,9),(1,3)] ∧ I78.bytes = 24 ∧ I78.zero = (.agg #[(.string .empty),(.int .i64 0)]) := ⟨rfl,rfl,rfl,rfl⟩
theorem tu78 : isU8 I78 = false := rfl
theorem tn78 : notIntK tys 78 = true := rfl
theorem tr78 : isStrK tys 78 = false := rfl
theorem tz78 : zeroOk I78 = true := by kernel_rfl
theorem tv78 : zeroU8 I78 = false := rfl
theorem tc78 : V.ofV (.agg #[(.string .empty),(.int .i64 0)]) = .agg [V.ofV1 (.string .empty),V.ofV1 (.int .i64 0)] := by kernel_rfl
theorem tw78 : Value.oneCell' (.agg #[(.string .empty),(.int .i64 0)]) = false := rfl
theorem tx78 : (#[(.string .empty),(.int .i64 0)] : Array Value).all (fun x => x.oneCell') 0 2 = true := by kernel_rfl
theorem td78 : TyI.zeroV I78 = .agg [V.ofV1 (.string .empty),V.ofV1 (.int .i64 0)] := by kernel_rfl
theorem tp78_0 : placeV tys [(0,9),(1,3)] 0 = some (0,1) := rfl
theorem tp78_1 : placeV tys [(0,9),(1,3)] 1 = some (1,1) := rfl
theorem tq78 : ([(0,9),(1,3)].all (fun f => (tys f.2).isSome)) = true := rfl
theorem ty113 : tys 113 = some ⟨.slice 4,1,24,(.slice none 0 0)⟩ := rfl
theorem tk113 : kindV tys 113 = some (.slice 4) := rfl
theorem ts113 : sizeV tys 113 = 1 := rfl
theorem ta113 : TyI.isAgg ⟨.slice 4,1,24,(.slice none 0 0)⟩ = false := rfl
theorem tb113 : isBytes tys 113 = false := rfl
theorem te113 : elemI tys 113 = some (4,⟨.bool,1,1,(.bool false)⟩) := rfl
theorem tu113 : isU8 ⟨.slice 4,1,24,(.slice none 0 0)⟩ = false := rfl
theorem tn113 : notIntK tys 113 = true := rfl
theorem tr113 : isStrK tys 113 = false := rfl
theorem tv113 : zeroU8 ⟨.slice 4,1,24,(.slice none 0 0)⟩ = false := rfl
theorem td113 : TyI.zeroV ⟨.slice 4,1,24,(.slice none 0 0)⟩ = V.ofV1 (.slice none 0 0) := rfl
set_option linter.defProp false in
def tcd := And.intro @r_ifTrue (And.intro @r_ifFalse (And.intro tc25 (And.intro td25 (And.intro tc55 (And.intro td55 (And.intro tc74 (And.intro td74 (And.intro tc76 (And.intro td76 (And.intro tc78 (td78)))))))))))
attribute [bitvec_to_nat] ty3 tk3 ts3 ta3 tu3 tn3 tr3 tv3 td3 ty4 tk4 ts4 ta4 tu4 tn4 tr4 tv4 td4 ty5 tk5 ts5 ta5 tu5 tn5 tr5 tv5 td5 ty9 tk9 ts9 ta9 tu9 tn9 tr9 tv9 td9 ty23 tk23 ts23 ta23 tb23 te23 tu23 tn23 tr23 tv23 td23 ty25 tk25 ts25 ta25 tg25 tu25 tn25 tr25 tv25 tw25 tp25_0 tp25_1 tq25 ty29 tk29 ts29 ta29 tu29 tn29 tr29 tv29 td29 ty32 tk32 ts32 ta32 tb32 te32 tu32 tn32 tr32 tv32 td32 ty36 tk36 ts36 ta36 tu36 tn36 tr36 tv36 td36 ty51 tk51 ts51 ta51 tb51 te51 tu51 tn51 tr51 tv51 td51 ty52 tk52 ts52 ta52 tb52 te52 tu52 tn52 tr52 tv52 td52 ty53 tk53 ts53 ta53 tb53 te53 tu53 tn53 tr53 tv53 td53 ty55 tk55 ts55 ta55 tg55 tu55 tn55 tr55 tz55 tv55 tw55 tx55 tp55_0 tp55_1 tp55_2 tp55_3 tp55_4 tp55_5 tp55_6 tp55_7 tq55 ty67 tk67 ts67 ta67 tb67 te67 tu67 tn67 tr67 tv67 td67 ty74 tk74 ts74 ta74 tg74 tu74 tn74 tr74 tz74 tv74 tw74 tx74 tp74_0 tp74_1 tp74_2 tq74 ty76 tk76 ts76 ta76 tg76 tu76 tn76 tr76 tz76 tv76 tw76 tp76_0 tp76_1 tq76 ty78 tk78 ts78 ta78 tg78 tu78 tn78 tr78 tz78 tv78 tw78 tx78 tp78_0 tp78_1 tq78 ty113 tk113 ts113 ta113 tb113 te113 tu113 tn113 tr113 tv113 td113
def R0 : Fns := { fn := fun _ => none }
theorem R0_fn (f : FuncId) : R0.fn f = none := rfl
theorem R0_mu (d : Tmp) : R0.mu d = .no := rfl
theorem R0_hp (f : FuncId) : R0.hp f = none := rfl
theorem R0_ord (i : Nat) : R0.ord i = none := rfl
theorem R0_it (f : FuncId) : R0.it f = none := rfl
theorem R0_hy (b : Nat) : R0.hy b = none := rfl
theorem R0ok : FnsOk Tryz.prog R0 := FnsOk.nil _ rfl rfl
attribute [bitvec_to_nat] R0_fn R0_mu R0_hp R0_ord R0_it R0_hy
def nameV (e : Name × Nat) : V := .agg [.str e.1,.int .i64 (e.2 : Int)]
def chgV (c : Chg) : V := .agg [.str c.frm,.str c.to,.int .i64 (c.file : Int)]
def fnd (m : Names) (n : Name) : Int := match nfind m n with
 | none => -1
 | some f => (f : Int)
def findP : PM := fun args L T K => ∃ (m : Names) (n : Name),args = [.list 2 (m.map nameV) none,.str n] ∧ m.length ≤ 9223372036854775807 ∧ K (.int .i64 (fnd m n)) L T
theorem name_get {m : Names} {i : Nat} {e : Name × Nat} (h : m[i]? = some e) : (m.map nameV).getD i .any = .agg [.str e.1,.int .i64 (e.2 : Int)] := by
 rw [List.getD_eq_getElem?_getD,List.getElem?_map,h]; rfl
theorem nfind_app (a b : Names) (n : Name) : nfind (a ++ b) n = (nfind a n).orElse fun _ => nfind b n := by
 induction a with
 | nil => rfl
 | cons e r ih =>
  simp only [List.cons_append,nfind]
  split
  · rfl
  · exact ih
theorem nfind_take_succ {m : Names} {i : Nat} {e : Name × Nat} (h : m[i]? = some e) (n : Name) : nfind (m.take (i + 1)) n = (nfind (m.take i) n).orElse fun _ => if e.1 = n then some e.2 else none := by
 obtain ⟨hi,he⟩ := List.getElem?_eq_some_iff.1 h
 rw [List.take_succ_eq_append_getElem hi,nfind_app,he]
 rfl
theorem find_ok : PSound Tryz.prog 38 findP := by
 refine psound tysOk R0ok mix Tryz.func38 rfl ?_
 intro args L T K hm
 obtain ⟨m,n,rfl,hlen,hK⟩ := hm
 simp (maxSteps:=2000000) only[bitvec_to_nat,seval,↓tcd,Tryz.f38]
 refine awpLoop_intro (α := {i : Nat // i ≤ m.length ∧ nfind (m.take i) n = none}) (fun i => ⟨[.list 2 (m.map nameV) none,.str n,.any,.any,.any,.int .i64 (i.1 : Int),.any,.any,.any,.any,.any,.any,.any,.any,.any,.any,.any,.any,.any,.any,.any,.any,.any,.any],L,T⟩) (fun i => m.length - i.1) ⟨0,Nat.zero_le _,rfl⟩ ?_ ?_ (fun q => ⟨Nat.le_refl _,Nat.le_refl _⟩)
 · simp (maxSteps:=2000000) only[bitvec_to_nat,seval,↓tcd,leLL_self]
   all_goals simp
 · rintro ⟨i,hi,hn⟩
   by_cases him : i < m.length
   · have hdc : decide ((i : Int) < (m.length : Int)) = true := decide_eq_true (by omega)
     obtain ⟨e,he⟩ : ∃ e,m[i]? = some e := ⟨_,List.getElem?_eq_getElem him⟩
     have hgd := name_get he
     have hi1 : IntKind.i64.wrap ((i : Int) + 1) = ((i + 1 : Nat) : Int) := by rw [i64w (by omega) (by omega)]; omega
     have hts := nfind_take_succ he n
     rw [hn] at hts
     simp (maxSteps:=2000000) only[bitvec_to_nat,seval,↓tcd,hdc,hgd,Int.toNat_natCast,List.length_map,hi1]
     refine ⟨⟨by omega,by omega⟩,awpIf_intro (fun h1 => ?_) (fun h1 => ?_)⟩ <;> simp only [decide_eq_true_eq,decide_eq_false_iff_not] at h1
     · have hf : nfind m n = some e.2 := by
        rw [← List.take_append_drop (i + 1) m,nfind_app,hts,if_pos h1]
        rfl
       have := hK
       unfold fnd at this
       rw [hf] at this
       exact ⟨⟨by omega,by omega⟩,ret_of (Step.refl noS noS L T) this⟩
     · rw [if_neg h1] at hts
       refine ⟨⟨i + 1,him,hts⟩,⟨rfl,?_⟩,by simp only; omega⟩
       exact leLL_self L ▸ trivial
   · have hdc : decide ((i : Int) < (m.length : Int)) = false := decide_eq_false (by omega)
     have hf : nfind m n = none := by rw [List.take_of_length_le (by omega)] at hn; exact hn
     have := hK
     unfold fnd at this
     rw [hf] at this
     simp (maxSteps:=2000000) only[bitvec_to_nat,seval,↓tcd,hdc,List.length_map]
     exact ret_of (Step.refl noS noS L T) this
theorem without_take {m : Names} {i : Nat} {e : Name × Nat} (h : m[i]? = some e) (n : Name) : nwithout (m.take (i + 1)) n = nwithout (m.take i) n ++ if e.1 = n then [] else [e] := by
 obtain ⟨hi,he⟩ := List.getElem?_eq_some_iff.1 h
 rw [List.take_succ_eq_append_getElem hi,he]
 unfold nwithout
 rw [List.filter_append]
 congr 1
 by_cases h1 : e.1 = n <;> simp [h1]
def R1 : Fns := { fn := fun f => R0.fn f,mu := fun d => bif d == 5 then .nil 52 else .no,hp := fun f => R0.hp f,ord := fun i => none,it := fun f => R0.it f }
theorem R1_fn (f : FuncId) : R1.fn f = (R0.fn f) := rfl
theorem R1_mu (d : Tmp) : R1.mu d = (bif d == 5 then .nil 52 else .no) := rfl
theorem R1_hp (f : FuncId) : R1.hp f = (R0.hp f) := rfl
theorem R1_ord (i : Nat) : R1.ord i = (none) := rfl
theorem R1_it (f : FuncId) : R1.it f = (R0.it f) := rfl
theorem R1_hy (b : Nat) : R1.hy b = none := rfl
theorem R1ok : FnsOk Tryz.prog R1 := FnsOk.same R0ok rfl rfl
attribute [bitvec_to_nat] R1_fn R1_mu R1_hp R1_ord R1_it R1_hy
def withoutP : PM := fun args L T K => ∃ (m : Names) (n : Name),args = [.list 2 (m.map nameV) none,.str n] ∧ m.length ≤ 1099511627776 ∧ ∀ L' T',Step noS noS L T noS noS L' T' → K (.list 2 ((nwithout m n).map nameV) none) L' T'
theorem without_ok : PSound Tryz.prog 48 withoutP := by
 refine psound tysOk R1ok mix Tryz.func48 rfl ?_
 intro args L T K hm
 obtain ⟨m,n,rfl,hlen,hK⟩ := hm
 simp (maxSteps:=2000000) only[bitvec_to_nat,seval,↓tcd,Tryz.f48]
 refine awpLoop_intro (α := {q : Nat × LL × TT // q.1 ≤ m.length ∧ Step noS noS L T noS noS q.2.1 q.2.2 ∧ q.2.2[T.length]? = some ((nwithout (m.take q.1) n).length,78) ∧ T.length < q.2.2.length})
  (fun q => ⟨[.list 2 (m.map nameV) none,.str n,.any,.any,.any,.list 2 ((nwithout (m.take q.1.1) n).map nameV) (some T.length),.int .i64 (q.1.1 : Int),.any,.any,.any,.any,.any,.any,.any,.any,.any,.any,.any,.any,.any,.any,.any,.any,.any,.any,.any,.any,.any],q.1.2.1,q.1.2.2⟩) (fun q => m.length - q.1.1)
  ⟨(0,L,T ++ [(0,78)]),Nat.zero_le _,(Step.refl _ _ _ _).tapp _,by rw [tat_new rfl]; rfl,by simp⟩ ?_ ?_ (fun q => ⟨q.2.2.1.len,q.2.2.1.tlen⟩)
 · simp (maxSteps:=2000000) only[bitvec_to_nat,Nat.reduceAdd,Nat.reduceSub,Nat.reduceMul,Nat.reduceLT,Nat.reduceLeDiff,Nat.reduceEqDiff,Nat.reduceBEq,Nat.reduceBNe,Int.reduceToNat,Int.reduceLE,Int.reduceLT,Int.reduceEq,Int.reduceNe,Int.reduceNeg,Nat.reducePow,Int.reducePow,reduceIte,reduceCtorEq,↓tcd,leLL_self]
   exact ⟨rfl,rfl⟩
 · rintro ⟨⟨i,L2,T2⟩,hi,hs2,hT,hTl⟩
   simp only at hi hs2 hT hTl
   by_cases him : i < m.length
   · have hdc : decide ((i : Int) < (m.length : Int)) = true := decide_eq_true (by omega)
     obtain ⟨e,he⟩ : ∃ e,m[i]? = some e := ⟨_,List.getElem?_eq_getElem him⟩
     have hgd := name_get he
     have hi1 : IntKind.i64.wrap ((i : Int) + 1) = ((i + 1 : Nat) : Int) := by rw [i64w (by omega) (by omega)]; omega
     have hwt := without_take he n
     have hwl : (nwithout (m.take i) n).length ≤ 1099511627776 := by
      unfold nwithout
      refine Nat.le_trans (List.length_filter_le _ _) ?_
      rw [List.length_take]; omega
     simp (maxSteps:=2000000) only[bitvec_to_nat,seval,↓tcd,hdc,hgd,Int.toNat_natCast,List.length_map,hi1,hT,hTl]
     refine ⟨⟨by omega,by omega⟩,awpIf_intro (fun h1 => ?_) (fun h1 => ?_)⟩ <;> simp only [decide_eq_true_eq,decide_eq_false_iff_not] at h1
     · rw [if_pos h1,List.append_nil] at hwt
       refine ⟨⟨(i + 1,L2,T2),him,hs2,by simp only; rw [hwt]; exact hT,hTl⟩,?_,by simp only; omega⟩
       simp (maxSteps:=2000000) only[bitvec_to_nat,seval,↓tcd,leLL_self,hwt]
     · rw [if_neg h1] at hwt
       refine ⟨⟨by omega,by omega⟩,by unfold maxBytes; omega,⟨(i + 1,L2,(T2 ++ [(1,78)]).set T.length ((nwithout (m.take i) n).length + 1,78)),him,(hs2.tapp [(1,78)]).tset (k := T.length) (.inr (Nat.le_refl _)) _,?_,?_⟩,?_,by simp only; omega⟩
       · simp only
         rw [List.getElem?_set_self (by simp; omega),hwt]; simp
       · simp only; simp; omega
       · simp (maxSteps:=2000000) only[bitvec_to_nat,seval,↓tcd,leLL_self,hwt,List.map_append,List.length_append,List.length_map]
         all_goals first | rfl | exact ⟨rfl,rfl⟩
   · have hdc : decide ((i : Int) < (m.length : Int)) = false := decide_eq_false (by omega)
     have hie : i = m.length := by omega
     subst hie
     simp (maxSteps:=2000000) only[bitvec_to_nat,seval,↓tcd,hdc,List.take_length,List.length_map]
     exact ret_le hs2 (hK _ _ hs2) ⟨rfl,rfl⟩
theorem nins_pre {a : Names} {n : Name} (h : ∀ e ∈ a,¬ n < e.1) (b : Names) (f : Nat) : nins (a ++ b) n f = a ++ nins b n f := by
 induction a with
 | nil => rfl
 | cons x r ih =>
  simp only [List.cons_append,nins]
  rw [if_neg (h x (by simp)),ih fun e he => h e (List.mem_cons_of_mem _ he)]
def R2 : Fns := { fn := fun f => R1.fn f,mu := fun d => bif d == 8 then .nil 52 else .no,hp := fun f => if f = 48 then some withoutP else R1.hp f,ord := fun i => none,it := fun f => R1.it f }
theorem R2_fn (f : FuncId) : R2.fn f = (R1.fn f) := rfl
theorem R2_mu (d : Tmp) : R2.mu d = (bif d == 8 then .nil 52 else .no) := rfl
theorem R2_hp (f : FuncId) : R2.hp f = (if f = 48 then some withoutP else R1.hp f) := rfl
theorem R2_ord (i : Nat) : R2.ord i = (none) := rfl
theorem R2_it (f : FuncId) : R2.it f = (R1.it f) := rfl
theorem R2_hy (b : Nat) : R2.hy b = none := rfl
theorem R2ok : FnsOk Tryz.prog R2 := FnsOk.same (FnsOk.consP R1ok _ _ without_ok Tryz.func48 (by decide) (fun h => by cases h)) rfl rfl
attribute [bitvec_to_nat] R2_fn R2_mu R2_hp R2_ord R2_it R2_hy
def withP : PM := fun args L T K => ∃ (m : Names) (n : Name) (f : Nat),args = [.list 2 (m.map nameV) none,.str n,.int .i64 (f : Int)] ∧ m.length ≤ 1099511627776 ∧ ∀ L' T',Step noS noS L T noS noS L' T' → K (.list 2 ((nwith m n f).map nameV) none) L' T'
def WInv (r : Names) (n : Name) (f : Nat) (i : Nat) (put : Bool) (out : Names) : Prop := (put = true → out ++ r.drop i = nins r n f ∧ out.length ≤ i + 1) ∧ (put = false → out = r.take i ∧ ∀ e ∈ r.take i,¬ n < e.1)
set_option maxHeartbeats 1000000 in
theorem with_ok : PSound Tryz.prog 47 withP := by
 refine psound tysOk R2ok mix Tryz.func47 rfl ?_
 intro args L T K hm
 obtain ⟨m,n,f,rfl,hlen,hK⟩ := hm
 simp (maxSteps:=2000000) only[bitvec_to_nat,seval,↓tcd,Tryz.f47]
 refine ⟨m,n,rfl,by omega,fun L1 T1 hst1 => ?_⟩
 obtain ⟨r,hr⟩ : ∃ r,nwithout m n = r := ⟨_,rfl⟩
 have hrl : r.length ≤ 1099511627776 := by
  rw [← hr]; unfold nwithout
  exact Nat.le_trans (List.length_filter_le _ _) hlen
 have hnw : nwith m n f = nins r n f := by unfold nwith; rw [hr]
 rw [hr]
 refine awpLoop_intro (α := {q : Nat × Bool × Names × LL × TT // q.1 ≤ r.length ∧ WInv r n f q.1 q.2.1 q.2.2.1 ∧ Step noS noS L T noS noS q.2.2.2.1 q.2.2.2.2 ∧ q.2.2.2.2[T1.length]? = some (q.2.2.1.length,78) ∧ T1.length < q.2.2.2.2.length})
  (fun q => ⟨[.any,.str n,.int .i64 (f : Int),.any,.any,.any,.any,.list 2 (r.map nameV) none,.list 2 (q.1.2.2.1.map nameV) (some T1.length),.bool q.1.2.1,.int .i64 (q.1.1 : Int),.any,.any,.any,.any,.any,.any,.any,.any,.any,.any,.any,.any,.any,.any,.any,.any,.any,.any,.any,.any,.any,.any,.any,.any,.any,.any,.any,.any,.any,.any,.any,.any,.any,.any,.any,.any,.any,.any,.any,.any,.any,.any],q.1.2.2.2.1,q.1.2.2.2.2⟩) (fun q => r.length - q.1.1)
  ⟨(0,false,[],L1,T1 ++ [(0,78)]),Nat.zero_le _,⟨fun h => (by cases h),fun _ => ⟨rfl,fun e he => (by cases he)⟩⟩,hst1.tapp _,by rw [tat_new rfl]; rfl,by simp⟩ ?_ ?_ (fun q => ⟨q.2.2.2.1.len,q.2.2.2.1.tlen⟩)
 · simp (maxSteps:=2000000) only[bitvec_to_nat,seval,↓tcd,leLL_self]
   all_goals first | rfl | exact ⟨rfl,rfl⟩
 · rintro ⟨⟨i,put,out,L2,T2⟩,hi,hW,hs2,hT,hTl⟩
   simp only at hi hW hs2 hT hTl
   by_cases him : i < r.length
   · have hdc : decide ((i : Int) < (r.length : Int)) = true := decide_eq_true (by omega)
     obtain ⟨e,he⟩ : ∃ e,r[i]? = some e := ⟨_,List.getElem?_eq_getElem him⟩
     have hgd := name_get he
     have hi1 : IntKind.i64.wrap ((i : Int) + 1) = ((i + 1 : Nat) : Int) := by rw [i64w (by omega) (by omega)]; omega
     obtain ⟨hil,hie⟩ := List.getElem?_eq_some_iff.1 he
     have hdr : r.drop i = e :: r.drop (i + 1) := by rw [← hie]; exact List.drop_eq_getElem_cons hil
     have htk : r.take (i + 1) = r.take i ++ [e] := by rw [List.take_succ_eq_append_getElem hil,hie]
     cases put with
     | true =>
      obtain ⟨hW1,hW2⟩ := hW.1 rfl
      have hW' : WInv r n f (i + 1) true (out ++ [e]) := ⟨fun _ => ⟨by rw [← hW1,hdr]; simp,by simp; omega⟩,fun h => by cases h⟩
      simp (maxSteps:=2000000) only[bitvec_to_nat,seval,↓tcd,hdc,hgd,Int.toNat_natCast,List.length_map,hi1,hT,hTl]
      refine ⟨⟨by omega,by omega⟩,by unfold maxBytes; omega,⟨(i + 1,true,out ++ [e],L2,(T2 ++ [(1,78)]).set T1.length (out.length + 1,78)),him,hW',(hs2.tapp [(1,78)]).tset (k := T1.length) (.inr hst1.tlen) _,?_,?_⟩,?_,by simp only; omega⟩
      · simp only
        rw [List.getElem?_set_self (by simp; omega)]; simp
      · simp only; simp; omega
      · simp (maxSteps:=2000000) only[bitvec_to_nat,seval,↓tcd,leLL_self,List.map_append,List.length_append,List.length_map]
        all_goals first | rfl | exact ⟨rfl,rfl⟩
     | false =>
      obtain ⟨hW1,hW2⟩ := hW.2 rfl
      have hol : out.length ≤ i := by rw [hW1,List.length_take]; omega
      simp (maxSteps:=2000000) only[bitvec_to_nat,seval,↓tcd,hdc,hgd,Int.toNat_natCast,List.length_map,hi1,hT,hTl]
      refine ⟨⟨by omega,by omega⟩,awpIf_intro (fun h1 => ?_) (fun h1 => ?_)⟩
      · have hle : ¬ n < e.1 := by
         simp only [Bool.or_eq_true,decide_eq_true_eq,bytesLess_eq] at h1
         rcases h1 with h1 | h1
         · exact List.not_lt.2 (List.le_of_lt h1)
         · rw [h1]; exact List.lt_irrefl _
        have hW' : WInv r n f (i + 1) false (out ++ [e]) := ⟨fun h => (by cases h),fun _ => ⟨by rw [htk,hW1],fun x hx => by
         rw [htk] at hx
         rcases List.mem_append.1 hx with hx | hx
         · exact hW2 x hx
         · rw [List.mem_singleton.1 hx]; exact hle⟩⟩
        refine ⟨⟨by omega,by omega⟩,by unfold maxBytes; omega,⟨(i + 1,false,out ++ [e],L2,(T2 ++ [(1,78)]).set T1.length (out.length + 1,78)),him,hW',(hs2.tapp [(1,78)]).tset (k := T1.length) (.inr hst1.tlen) _,?_,?_⟩,?_,by simp only; omega⟩
        · simp only
          rw [List.getElem?_set_self (by simp; omega)]; simp
        · simp only; simp; omega
        · simp (maxSteps:=2000000) only[bitvec_to_nat,seval,↓tcd,leLL_self,List.map_append,List.length_append,List.length_map]
          all_goals first | rfl | exact ⟨rfl,rfl⟩
      · have hlt : n < e.1 := by
         simp only [Bool.or_eq_false_iff,decide_eq_false_iff_not,bytesLess_eq] at h1
         exact lt_or (fun h => h1.2 h) h1.1
        have hW' : WInv r n f (i + 1) true (out ++ [(n,f)] ++ [e]) := ⟨fun _ => ⟨by
         have hp := nins_pre hW2 (r.drop i) f
         rw [List.take_append_drop,hdr] at hp
         rw [hp,hW1]
         simp [nins,hlt],by simp; omega⟩,fun h => by cases h⟩
        refine ⟨by unfold maxBytes; omega,⟨by omega,by omega⟩,⟨?_,?_⟩,⟨(i + 1,true,out ++ [(n,f)] ++ [e],L2,((T2 ++ [(1,78)]).set T1.length (out.length + 1,78) ++ [(1,78)]).set T1.length (out.length + 1 + 1,78)),him,hW',(((hs2.tapp [(1,78)]).tset (k := T1.length) (.inr hst1.tlen) _).tapp [(1,78)]).tset (k := T1.length) (.inr hst1.tlen) _,?_,?_⟩,?_,by simp only; omega⟩
        · rw [List.getElem?_append_left (by simp; omega),List.getElem?_set_self (by simp; omega)]
        · simp only [List.length_append,List.length_map,List.length_singleton]; unfold maxBytes; omega
        · simp only
          rw [List.getElem?_set_self (by simp; omega)]; simp
        · simp only; simp; omega
        · simp (maxSteps:=2000000) only[bitvec_to_nat,seval,↓tcd,leLL_self,List.map_append,List.length_append,List.length_map]
          all_goals first | rfl | exact ⟨rfl,rfl⟩
   · have hdc : decide ((i : Int) < (r.length : Int)) = false := decide_eq_false (by omega)
     have hie : i = r.length := by omega
     subst hie
     cases put with
     | true =>
      obtain ⟨hW1,_⟩ := hW.1 rfl
      rw [List.drop_length,List.append_nil] at hW1
      simp (maxSteps:=2000000) only[bitvec_to_nat,seval,↓tcd,hdc,List.length_map]
      have := hK _ _ hs2
      rw [hnw,← hW1] at this
      exact ret_le hs2 this ⟨rfl,rfl⟩
     | false =>
      obtain ⟨hW1,hW2⟩ := hW.2 rfl
      rw [List.take_length] at hW1 hW2
      have hp := nins_pre hW2 [] f
      rw [List.append_nil] at hp
      simp (maxSteps:=2000000) only[bitvec_to_nat,seval,↓tcd,hdc,List.length_map,hT,hTl]
      have hs3 := (hs2.tapp [(1,78)]).tset (k := T1.length) (.inr hst1.tlen) ((out.map nameV ++ [V.agg [V.str n,V.int .i64 (f : Int)]]).length,78)
      have := hK _ _ hs3
      rw [hnw,hp,← hW1] at this
      refine ⟨by rw [hW1]; unfold maxBytes; omega,ret_le hs3 this ⟨rfl,?_⟩⟩
      simp [nins,nameV]
end Go.Proofs.YthlmfalfnpjndaaGreat.Ref
