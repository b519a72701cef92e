/-
  THE REFERENCE OF LAYER 4, BY LISTS: names.
-/
import Derived.Test.YtieeojipodefoaaAwX
import Derived.Test.YtieeojipodefoaaDisk2
namespace Go.Proofs.Ytieeojipodefoaa.Ref
open Go Go.Proofs Go.Proofs.Ytieeojipodefoaa.Aw Go.Proofs.Ytieeojipodefoaa.Num Go.Proofs.Ytieeojipodefoaa.DiskM Go.Proofs.Ytieeojipodefoaa.DiskA Go.Proofs.Ytieeojipodefoaa.DiskC Go.Proofs.Ytieeojipodefoaa.Disk
set_option linter.unusedSimpArgs false
set_option linter.unusedVariables false
def tys : Tys := fun t => if t = 3 then some ⟨.int .i64, 1, 8, (.int .i64 0)⟩ else if t = 4 then some ⟨.bool, 1, 1, (.bool false)⟩ else if t = 5 then some ⟨.int .u8, 1, 1, (.int .u8 0)⟩ else if t = 9 then some ⟨.str, 1, 16, (.string .empty)⟩ else if t = 23 then some ⟨.slice 3, 1, 24, (.slice none 0 0)⟩ else if t = 25 then some ⟨.struct [(0, 3), (1, 23)], 2, 32, (.agg #[(.int .i64 0), (.slice none 0 0)])⟩ else if t = 29 then some ⟨.ptr 81, 1, 8, (.pointer none)⟩ else if t = 32 then some ⟨.slice 5, 1, 24, (.slice none 0 0)⟩ else if t = 35 then some ⟨.int .i64, 1, 8, (.int .i64 0)⟩ else if t = 44 then some ⟨.slice 9, 1, 24, (.slice none 0 0)⟩ else if t = 77 then some ⟨.slice 91, 1, 24, (.slice none 0 0)⟩ else if t = 78 then some ⟨.slice 85, 1, 24, (.slice none 0 0)⟩ else if t = 79 then some ⟨.slice 88, 1, 24, (.slice none 0 0)⟩ else if t = 81 then some ⟨.struct [(0, 77), (1, 78), (2, 78), (3, 79), (4, 3), (5, 4), (6, 4), (7, 3)], 8, 120, (.agg #[(.slice none 0 0), (.slice none 0 0), (.slice none 0 0), (.slice none 0 0), (.int .i64 0), (.bool false), (.bool false), (.int .i64 0)])⟩ else if t = 83 then some ⟨.slice 4, 1, 24, (.slice none 0 0)⟩ else if t = 85 then some ⟨.struct [(0, 9), (1, 3)], 2, 24, (.agg #[(.string .empty), (.int .i64 0)])⟩ else if t = 88 then some ⟨.struct [(0, 9), (1, 9), (2, 3)], 3, 40, (.agg #[(.string .empty), (.string .empty), (.int .i64 0)])⟩ else if t = 91 then some ⟨.struct [(0, 32), (1, 3)], 2, 32, (.agg #[(.slice none 0 0), (.int .i64 0)])⟩ else none
theorem tysOk : TyOk Try.prog tys := by
  refine TyOk.cons ?_ 3 _ (by kernel_rfl) (by kernel_rfl)
  refine TyOk.cons ?_ 4 _ (by kernel_rfl) (by kernel_rfl)
  refine TyOk.cons ?_ 5 _ (by kernel_rfl) (by kernel_rfl)
  refine TyOk.cons ?_ 9 _ (by kernel_rfl) (by kernel_rfl)
  refine TyOk.cons ?_ 23 _ (by kernel_rfl) (by kernel_rfl)
  refine TyOk.cons ?_ 25 _ (by kernel_rfl) (by kernel_rfl)
  refine TyOk.cons ?_ 29 _ (by kernel_rfl) (by kernel_rfl)
  refine TyOk.cons ?_ 32 _ (by kernel_rfl) (by kernel_rfl)
  refine TyOk.cons ?_ 35 _ (by kernel_rfl) (by kernel_rfl)
  refine TyOk.cons ?_ 44 _ (by kernel_rfl) (by kernel_rfl)
  refine TyOk.cons ?_ 77 _ (by kernel_rfl) (by kernel_rfl)
  refine TyOk.cons ?_ 78 _ (by kernel_rfl) (by kernel_rfl)
  refine TyOk.cons ?_ 79 _ (by kernel_rfl) (by kernel_rfl)
  refine TyOk.cons ?_ 81 _ (by kernel_rfl) (by kernel_rfl)
  refine TyOk.cons ?_ 83 _ (by kernel_rfl) (by kernel_rfl)
  refine TyOk.cons ?_ 85 _ (by kernel_rfl) (by kernel_rfl)
  refine TyOk.cons ?_ 88 _ (by kernel_rfl) (by kernel_rfl)
  refine TyOk.cons ?_ 91 _ (by kernel_rfl) (by kernel_rfl)
  exact TyOk.nil _
theorem mix : Try.prog.follows .mixedOrders = true := by kernel_rfl
theorem ty3 : tys 3 = some ⟨.int .i64, 1, 8, (.int .i64 0)⟩ := rfl
theorem tk3 : kindV tys 3 = some (.int .i64) := rfl
theorem ts3 : sizeV tys 3 = 1 := rfl
theorem ta3 : TyI.isAgg ⟨.int .i64, 1, 8, (.int .i64 0)⟩ = false := rfl
theorem tu3 : isU8 ⟨.int .i64, 1, 8, (.int .i64 0)⟩ = false := rfl
theorem tn3 : notIntK tys 3 = false := rfl
theorem tr3 : isStrK tys 3 = false := rfl
theorem tz3 : zeroOk ⟨.int .i64, 1, 8, (.int .i64 0)⟩ = true := by kernel_rfl
theorem tv3 : zeroU8 ⟨.int .i64, 1, 8, (.int .i64 0)⟩ = false := rfl
theorem td3 : TyI.zeroV ⟨.int .i64, 1, 8, (.int .i64 0)⟩ = V.ofV1 (.int .i64 0) := rfl
theorem ty4 : tys 4 = some ⟨.bool, 1, 1, (.bool false)⟩ := rfl
theorem tk4 : kindV tys 4 = some (.bool) := rfl
theorem ts4 : sizeV tys 4 = 1 := rfl
theorem ta4 : TyI.isAgg ⟨.bool, 1, 1, (.bool false)⟩ = false := rfl
theorem tu4 : isU8 ⟨.bool, 1, 1, (.bool false)⟩ = false := rfl
theorem tn4 : notIntK tys 4 = true := rfl
theorem tr4 : isStrK tys 4 = false := rfl
theorem tz4 : zeroOk ⟨.bool, 1, 1, (.bool false)⟩ = true := by kernel_rfl
theorem tv4 : zeroU8 ⟨.bool, 1, 1, (.bool false)⟩ = false := rfl
theorem td4 : TyI.zeroV ⟨.bool, 1, 1, (.bool false)⟩ = V.ofV1 (.bool false) := rfl
theorem ty5 : tys 5 = some ⟨.int .u8, 1, 1, (.int .u8 0)⟩ := rfl
theorem tk5 : kindV tys 5 = some (.int .u8) := rfl
theorem ts5 : sizeV tys 5 = 1 := rfl
theorem ta5 : TyI.isAgg ⟨.int .u8, 1, 1, (.int .u8 0)⟩ = false := rfl
theorem tu5 : isU8 ⟨.int .u8, 1, 1, (.int .u8 0)⟩ = true := rfl
theorem tn5 : notIntK tys 5 = false := rfl
theorem tr5 : isStrK tys 5 = false := rfl
theorem tz5 : zeroOk ⟨.int .u8, 1, 1, (.int .u8 0)⟩ = true := by kernel_rfl
theorem tv5 : zeroU8 ⟨.int .u8, 1, 1, (.int .u8 0)⟩ = true := rfl
theorem td5 : TyI.zeroV ⟨.int .u8, 1, 1, (.int .u8 0)⟩ = V.ofV1 (.int .u8 0) := rfl
theorem ty9 : tys 9 = some ⟨.str, 1, 16, (.string .empty)⟩ := rfl
theorem tk9 : kindV tys 9 = some (.str) := rfl
theorem ts9 : sizeV tys 9 = 1 := rfl
theorem ta9 : TyI.isAgg ⟨.str, 1, 16, (.string .empty)⟩ = false := rfl
theorem tu9 : isU8 ⟨.str, 1, 16, (.string .empty)⟩ = false := rfl
theorem tn9 : notIntK tys 9 = true := rfl
theorem tr9 : isStrK tys 9 = true := rfl
theorem tz9 : zeroOk ⟨.str, 1, 16, (.string .empty)⟩ = true := by kernel_rfl
theorem tv9 : zeroU8 ⟨.str, 1, 16, (.string .empty)⟩ = false := rfl
theorem td9 : TyI.zeroV ⟨.str, 1, 16, (.string .empty)⟩ = V.ofV1 (.string .empty) := rfl
theorem ty23 : tys 23 = some ⟨.slice 3, 1, 24, (.slice none 0 0)⟩ := rfl
theorem tk23 : kindV tys 23 = some (.slice 3) := rfl
theorem ts23 : sizeV tys 23 = 1 := rfl
theorem ta23 : TyI.isAgg ⟨.slice 3, 1, 24, (.slice none 0 0)⟩ = false := rfl
theorem tb23 : isBytes tys 23 = false := rfl
theorem te23 : elemI tys 23 = some (3, ⟨.int .i64, 1, 8, (.int .i64 0)⟩) := rfl
theorem tu23 : isU8 ⟨.slice 3, 1, 24, (.slice none 0 0)⟩ = false := rfl
theorem tn23 : notIntK tys 23 = true := rfl
theorem tr23 : isStrK tys 23 = false := rfl
theorem tz23 : zeroOk ⟨.slice 3, 1, 24, (.slice none 0 0)⟩ = true := by kernel_rfl
theorem tv23 : zeroU8 ⟨.slice 3, 1, 24, (.slice none 0 0)⟩ = false := rfl
theorem td23 : TyI.zeroV ⟨.slice 3, 1, 24, (.slice none 0 0)⟩ = V.ofV1 (.slice none 0 0) := rfl
theorem ty25 : tys 25 = some ⟨.struct [(0, 3), (1, 23)], 2, 32, (.agg #[(.int .i64 0), (.slice none 0 0)])⟩ := rfl
theorem tk25 : kindV tys 25 = some (.struct [(0, 3), (1, 23)]) := rfl
theorem ts25 : sizeV tys 25 = 2 := rfl
theorem ta25 : TyI.isAgg ⟨.struct [(0, 3), (1, 23)], 2, 32, (.agg #[(.int .i64 0), (.slice none 0 0)])⟩ = true := rfl
theorem tu25 : isU8 ⟨.struct [(0, 3), (1, 23)], 2, 32, (.agg #[(.int .i64 0), (.slice none 0 0)])⟩ = false := rfl
theorem tn25 : notIntK tys 25 = true := rfl
theorem tr25 : isStrK tys 25 = false := rfl
theorem tz25 : zeroOk ⟨.struct [(0, 3), (1, 23)], 2, 32, (.agg #[(.int .i64 0), (.slice none 0 0)])⟩ = true := by kernel_rfl
theorem tv25 : zeroU8 ⟨.struct [(0, 3), (1, 23)], 2, 32, (.agg #[(.int .i64 0), (.slice none 0 0)])⟩ = false := rfl
theorem tc25 : V.ofV (.agg #[(.int .i64 0), (.slice none 0 0)]) = .agg [V.ofV1 (.int .i64 0), V.ofV1 (.slice none 0 0)] := by kernel_rfl
theorem tw25 : Value.oneCell' (.agg #[(.int .i64 0), (.slice none 0 0)]) = false := rfl
theorem tx25 : (#[(.int .i64 0), (.slice none 0 0)] : Array Value).all (fun x => x.oneCell') 0 2 = true := by kernel_rfl
theorem td25 : TyI.zeroV ⟨.struct [(0, 3), (1, 23)], 2, 32, (.agg #[(.int .i64 0), (.slice none 0 0)])⟩ = .agg [V.ofV1 (.int .i64 0), V.ofV1 (.slice none 0 0)] := by kernel_rfl
theorem tp25_0 : placeV tys [(0, 3), (1, 23)] 0 = some (0, 1) := rfl
theorem tp25_1 : placeV tys [(0, 3), (1, 23)] 1 = some (1, 1) := rfl
theorem tq25 : ([(0, 3), (1, 23)].all (fun f => (tys f.2).isSome)) = true := rfl
theorem ty29 : tys 29 = some ⟨.ptr 81, 1, 8, (.pointer none)⟩ := rfl
theorem tk29 : kindV tys 29 = some (.ptr 81) := rfl
theorem ts29 : sizeV tys 29 = 1 := rfl
theorem ta29 : TyI.isAgg ⟨.ptr 81, 1, 8, (.pointer none)⟩ = false := rfl
theorem tu29 : isU8 ⟨.ptr 81, 1, 8, (.pointer none)⟩ = false := rfl
theorem tn29 : notIntK tys 29 = true := rfl
theorem tr29 : isStrK tys 29 = false := rfl
theorem tz29 : zeroOk ⟨.ptr 81, 1, 8, (.pointer none)⟩ = true := by kernel_rfl
theorem tv29 : zeroU8 ⟨.ptr 81, 1, 8, (.pointer none)⟩ = false := rfl
theorem td29 : TyI.zeroV ⟨.ptr 81, 1, 8, (.pointer none)⟩ = V.ofV1 (.pointer none) := rfl
theorem ty32 : tys 32 = some ⟨.slice 5, 1, 24, (.slice none 0 0)⟩ := rfl
theorem tk32 : kindV tys 32 = some (.slice 5) := rfl
theorem ts32 : sizeV tys 32 = 1 := rfl
theorem ta32 : TyI.isAgg ⟨.slice 5, 1, 24, (.slice none 0 0)⟩ = false := rfl
theorem tb32 : isBytes tys 32 = true := rfl
theorem te32 : elemI tys 32 = some (5, ⟨.int .u8, 1, 1, (.int .u8 0)⟩) := rfl
theorem tu32 : isU8 ⟨.slice 5, 1, 24, (.slice none 0 0)⟩ = false := rfl
theorem tn32 : notIntK tys 32 = true := rfl
theorem tr32 : isStrK tys 32 = false := rfl
theorem tz32 : zeroOk ⟨.slice 5, 1, 24, (.slice none 0 0)⟩ = true := by kernel_rfl
theorem tv32 : zeroU8 ⟨.slice 5, 1, 24, (.slice none 0 0)⟩ = false := rfl
theorem td32 : TyI.zeroV ⟨.slice 5, 1, 24, (.slice none 0 0)⟩ = V.ofV1 (.slice none 0 0) := rfl
theorem ty35 : tys 35 = some ⟨.int .i64, 1, 8, (.int .i64 0)⟩ := rfl
theorem tk35 : kindV tys 35 = some (.int .i64) := rfl
theorem ts35 : sizeV tys 35 = 1 := rfl
theorem ta35 : TyI.isAgg ⟨.int .i64, 1, 8, (.int .i64 0)⟩ = false := rfl
theorem tu35 : isU8 ⟨.int .i64, 1, 8, (.int .i64 0)⟩ = false := rfl
theorem tn35 : notIntK tys 35 = false := rfl
theorem tr35 : isStrK tys 35 = false := rfl
theorem tz35 : zeroOk ⟨.int .i64, 1, 8, (.int .i64 0)⟩ = true := by kernel_rfl
theorem tv35 : zeroU8 ⟨.int .i64, 1, 8, (.int .i64 0)⟩ = false := rfl
theorem td35 : TyI.zeroV ⟨.int .i64, 1, 8, (.int .i64 0)⟩ = V.ofV1 (.int .i64 0) := rfl
theorem ty44 : tys 44 = some ⟨.slice 9, 1, 24, (.slice none 0 0)⟩ := rfl
theorem tk44 : kindV tys 44 = some (.slice 9) := rfl
theorem ts44 : sizeV tys 44 = 1 := rfl
theorem ta44 : TyI.isAgg ⟨.slice 9, 1, 24, (.slice none 0 0)⟩ = false := rfl
theorem tb44 : isBytes tys 44 = false := rfl
theorem te44 : elemI tys 44 = some (9, ⟨.str, 1, 16, (.string .empty)⟩) := rfl
theorem tu44 : isU8 ⟨.slice 9, 1, 24, (.slice none 0 0)⟩ = false := rfl
theorem tn44 : notIntK tys 44 = true := rfl
theorem tr44 : isStrK tys 44 = false := rfl
theorem tz44 : zeroOk ⟨.slice 9, 1, 24, (.slice none 0 0)⟩ = true := by kernel_rfl
theorem tv44 : zeroU8 ⟨.slice 9, 1, 24, (.slice none 0 0)⟩ = false := rfl
theorem td44 : TyI.zeroV ⟨.slice 9, 1, 24, (.slice none 0 0)⟩ = V.ofV1 (.slice none 0 0) := rfl
theorem ty77 : tys 77 = some ⟨.slice 91, 1, 24, (.slice none 0 0)⟩ := rfl
theorem tk77 : kindV tys 77 = some (.slice 91) := rfl
theorem ts77 : sizeV tys 77 = 1 := rfl
theorem ta77 : TyI.isAgg ⟨.slice 91, 1, 24, (.slice none 0 0)⟩ = false := rfl
theorem tb77 : isBytes tys 77 = false := rfl
theorem te77 : elemI tys 77 = some (91, ⟨.struct [(0, 32), (1, 3)], 2, 32, (.agg #[(.slice none 0 0), (.int .i64 0)])⟩) := rfl
theorem tu77 : isU8 ⟨.slice 91, 1, 24, (.slice none 0 0)⟩ = false := rfl
theorem tn77 : notIntK tys 77 = true := rfl
theorem tr77 : isStrK tys 77 = false := rfl
theorem tz77 : zeroOk ⟨.slice 91, 1, 24, (.slice none 0 0)⟩ = true := by kernel_rfl
theorem tv77 : zeroU8 ⟨.slice 91, 1, 24, (.slice none 0 0)⟩ = false := rfl
theorem td77 : TyI.zeroV ⟨.slice 91, 1, 24, (.slice none 0 0)⟩ = V.ofV1 (.slice none 0 0) := rfl
theorem ty78 : tys 78 = some ⟨.slice 85, 1, 24, (.slice none 0 0)⟩ := rfl
theorem tk78 : kindV tys 78 = some (.slice 85) := rfl
theorem ts78 : sizeV tys 78 = 1 := rfl
theorem ta78 : TyI.isAgg ⟨.slice 85, 1, 24, (.slice none 0 0)⟩ = false := rfl
theorem tb78 : isBytes tys 78 = false := rfl
theorem te78 : elemI tys 78 = some (85, ⟨.struct [(0, 9), (1, 3)], 2, 24, (.agg #[(.string .empty), (.int .i64 0)])⟩) := rfl
theorem tu78 : isU8 ⟨.slice 85, 1, 24, (.slice none 0 0)⟩ = false := rfl
theorem tn78 : notIntK tys 78 = true := rfl
theorem tr78 : isStrK tys 78 = false := rfl
theorem tz78 : zeroOk ⟨.slice 85, 1, 24, (.slice none 0 0)⟩ = true := by kernel_rfl
theorem tv78 : zeroU8 ⟨.slice 85, 1, 24, (.slice none 0 0)⟩ = false := rfl
theorem td78 : TyI.zeroV ⟨.slice 85, 1, 24, (.slice none 0 0)⟩ = V.ofV1 (.slice none 0 0) := rfl
theorem ty79 : tys 79 = some ⟨.slice 88, 1, 24, (.slice none 0 0)⟩ := rfl
theorem tk79 : kindV tys 79 = some (.slice 88) := rfl
theorem ts79 : sizeV tys 79 = 1 := rfl
theorem ta79 : TyI.isAgg ⟨.slice 88, 1, 24, (.slice none 0 0)⟩ = false := rfl
theorem tb79 : isBytes tys 79 = false := rfl
theorem te79 : elemI tys 79 = some (88, ⟨.struct [(0, 9), (1, 9), (2, 3)], 3, 40, (.agg #[(.string .empty), (.string .empty), (.int .i64 0)])⟩) := rfl
theorem tu79 : isU8 ⟨.slice 88, 1, 24, (.slice none 0 0)⟩ = false := rfl
theorem tn79 : notIntK tys 79 = true := rfl
theorem tr79 : isStrK tys 79 = false := rfl
theorem tz79 : zeroOk ⟨.slice 88, 1, 24, (.slice none 0 0)⟩ = true := by kernel_rfl
theorem tv79 : zeroU8 ⟨.slice 88, 1, 24, (.slice none 0 0)⟩ = false := rfl
theorem td79 : TyI.zeroV ⟨.slice 88, 1, 24, (.slice none 0 0)⟩ = V.ofV1 (.slice none 0 0) := rfl
theorem ty81 : tys 81 = some ⟨.struct [(0, 77), (1, 78), (2, 78), (3, 79), (4, 3), (5, 4), (6, 4), (7, 3)], 8, 120, (.agg #[(.slice none 0 0), (.slice none 0 0), (.slice none 0 0), (.slice none 0 0), (.int .i64 0), (.bool false), (.bool false), (.int .i64 0)])⟩ := rfl
theorem tk81 : kindV tys 81 = some (.struct [(0, 77), (1, 78), (2, 78), (3, 79), (4, 3), (5, 4), (6, 4), (7, 3)]) := rfl
theorem ts81 : sizeV tys 81 = 8 := rfl
theorem ta81 : TyI.isAgg ⟨.struct [(0, 77), (1, 78), (2, 78), (3, 79), (4, 3), (5, 4), (6, 4), (7, 3)], 8, 120, (.agg #[(.slice none 0 0), (.slice none 0 0), (.slice none 0 0), (.slice none 0 0), (.int .i64 0), (.bool false), (.bool false), (.int .i64 0)])⟩ = true := rfl
theorem tu81 : isU8 ⟨.struct [(0, 77), (1, 78), (2, 78), (3, 79), (4, 3), (5, 4), (6, 4), (7, 3)], 8, 120, (.agg #[(.slice none 0 0), (.slice none 0 0), (.slice none 0 0), (.slice none 0 0), (.int .i64 0), (.bool false), (.bool false), (.int .i64 0)])⟩ = false := rfl
theorem tn81 : notIntK tys 81 = true := rfl
theorem tr81 : isStrK tys 81 = false := rfl
theorem tz81 : zeroOk ⟨.struct [(0, 77), (1, 78), (2, 78), (3, 79), (4, 3), (5, 4), (6, 4), (7, 3)], 8, 120, (.agg #[(.slice none 0 0), (.slice none 0 0), (.slice none 0 0), (.slice none 0 0), (.int .i64 0), (.bool false), (.bool false), (.int .i64 0)])⟩ = true := by kernel_rfl
theorem tv81 : zeroU8 ⟨.struct [(0, 77), (1, 78), (2, 78), (3, 79), (4, 3), (5, 4), (6, 4), (7, 3)], 8, 120, (.agg #[(.slice none 0 0), (.slice none 0 0), (.slice none 0 0), (.slice none 0 0), (.int .i64 0), (.bool false), (.bool false), (.int .i64 0)])⟩ = false := rfl
theorem tc81 : V.ofV (.agg #[(.slice none 0 0), (.slice none 0 0), (.slice none 0 0), (.slice none 0 0), (.int .i64 0), (.bool false), (.bool false), (.int .i64 0)]) = .agg [V.ofV1 (.slice none 0 0), V.ofV1 (.slice none 0 0), V.ofV1 (.slice none 0 0), V.ofV1 (.slice none 0 0), V.ofV1 (.int .i64 0), V.ofV1 (.bool false), V.ofV1 (.bool false), V.ofV1 (.int .i64 0)] := by kernel_rfl
theorem tw81 : Value.oneCell' (.agg #[(.slice none 0 0), (.slice none 0 0), (.slice none 0 0), (.slice none 0 0), (.int .i64 0), (.bool false), (.bool false), (.int .i64 0)]) = false := rfl
theorem tx81 : (#[(.slice none 0 0), (.slice none 0 0), (.slice none 0 0), (.slice none 0 0), (.int .i64 0), (.bool false), (.bool false), (.int .i64 0)] : Array Value).all (fun x => x.oneCell') 0 8 = true := by kernel_rfl
theorem td81 : TyI.zeroV ⟨.struct [(0, 77), (1, 78), (2, 78), (3, 79), (4, 3), (5, 4), (6, 4), (7, 3)], 8, 120, (.agg #[(.slice none 0 0), (.slice none 0 0), (.slice none 0 0), (.slice none 0 0), (.int .i64 0), (.bool false), (.bool false), (.int .i64 0)])⟩ = .agg [V.ofV1 (.slice none 0 0), V.ofV1 (.slice none 0 0), V.ofV1 (.slice none 0 0), V.ofV1 (.slice none 0 0), V.ofV1 (.int .i64 0), V.ofV1 (.bool false), V.ofV1 (.bool false), V.ofV1 (.int .i64 0)] := by kernel_rfl
theorem tp81_0 : placeV tys [(0, 77), (1, 78), (2, 78), (3, 79), (4, 3), (5, 4), (6, 4), (7, 3)] 0 = some (0, 1) := rfl
theorem tp81_1 : placeV tys [(0, 77), (1, 78), (2, 78), (3, 79), (4, 3), (5, 4), (6, 4), (7, 3)] 1 = some (1, 1) := rfl
theorem tp81_2 : placeV tys [(0, 77), (1, 78), (2, 78), (3, 79), (4, 3), (5, 4), (6, 4), (7, 3)] 2 = some (2, 1) := rfl
theorem tp81_3 : placeV tys [(0, 77), (1, 78), (2, 78), (3, 79), (4, 3), (5, 4), (6, 4), (7, 3)] 3 = some (3, 1) := rfl
theorem tp81_4 : placeV tys [(0, 77), (1, 78), (2, 78), (3, 79), (4, 3), (5, 4), (6, 4), (7, 3)] 4 = some (4, 1) := rfl
theorem tp81_5 : placeV tys [(0, 77), (1, 78), (2, 78), (3, 79), (4, 3), (5, 4), (6, 4), (7, 3)] 5 = some (5, 1) := rfl
theorem tp81_6 : placeV tys [(0, 77), (1, 78), (2, 78), (3, 79), (4, 3), (5, 4), (6, 4), (7, 3)] 6 = some (6, 1) := rfl
theorem tp81_7 : placeV tys [(0, 77), (1, 78), (2, 78), (3, 79), (4, 3), (5, 4), (6, 4), (7, 3)] 7 = some (7, 1) := rfl
theorem tq81 : ([(0, 77), (1, 78), (2, 78), (3, 79), (4, 3), (5, 4), (6, 4), (7, 3)].all (fun f => (tys f.2).isSome)) = true := rfl
theorem ty83 : tys 83 = some ⟨.slice 4, 1, 24, (.slice none 0 0)⟩ := rfl
theorem tk83 : kindV tys 83 = some (.slice 4) := rfl
theorem ts83 : sizeV tys 83 = 1 := rfl
theorem ta83 : TyI.isAgg ⟨.slice 4, 1, 24, (.slice none 0 0)⟩ = false := rfl
theorem tb83 : isBytes tys 83 = false := rfl
theorem te83 : elemI tys 83 = some (4, ⟨.bool, 1, 1, (.bool false)⟩) := rfl
theorem tu83 : isU8 ⟨.slice 4, 1, 24, (.slice none 0 0)⟩ = false := rfl
theorem tn83 : notIntK tys 83 = true := rfl
theorem tr83 : isStrK tys 83 = false := rfl
theorem tz83 : zeroOk ⟨.slice 4, 1, 24, (.slice none 0 0)⟩ = true := by kernel_rfl
theorem tv83 : zeroU8 ⟨.slice 4, 1, 24, (.slice none 0 0)⟩ = false := rfl
theorem td83 : TyI.zeroV ⟨.slice 4, 1, 24, (.slice none 0 0)⟩ = V.ofV1 (.slice none 0 0) := rfl
theorem ty85 : tys 85 = some ⟨.struct [(0, 9), (1, 3)], 2, 24, (.agg #[(.string .empty), (.int .i64 0)])⟩ := rfl
theorem tk85 : kindV tys 85 = some (.struct [(0, 9), (1, 3)]) := rfl
theorem ts85 : sizeV tys 85 = 2 := rfl
theorem ta85 : TyI.isAgg ⟨.struct [(0, 9), (1, 3)], 2, 24, (.agg #[(.string .empty), (.int .i64 0)])⟩ = true := rfl
theorem tu85 : isU8 ⟨.struct [(0, 9), (1, 3)], 2, 24, (.agg #[(.string .empty), (.int .i64 0)])⟩ = false := rfl
theorem tn85 : notIntK tys 85 = true := rfl
theorem tr85 : isStrK tys 85 = false := rfl
theorem tz85 : zeroOk ⟨.struct [(0, 9), (1, 3)], 2, 24, (.agg #[(.string .empty), (.int .i64 0)])⟩ = true := by kernel_rfl
theorem tv85 : zeroU8 ⟨.struct [(0, 9), (1, 3)], 2, 24, (.agg #[(.string .empty), (.int .i64 0)])⟩ = false := rfl
theorem tc85 : V.ofV (.agg #[(.string .empty), (.int .i64 0)]) = .agg [V.ofV1 (.string .empty), V.ofV1 (.int .i64 0)] := by kernel_rfl
theorem tw85 : Value.oneCell' (.agg #[(.string .empty), (.int .i64 0)]) = false := rfl
theorem tx85 : (#[(.string .empty), (.int .i64 0)] : Array Value).all (fun x => x.oneCell') 0 2 = true := by kernel_rfl
theorem td85 : TyI.zeroV ⟨.struct [(0, 9), (1, 3)], 2, 24, (.agg #[(.string .empty), (.int .i64 0)])⟩ = .agg [V.ofV1 (.string .empty), V.ofV1 (.int .i64 0)] := by kernel_rfl
theorem tp85_0 : placeV tys [(0, 9), (1, 3)] 0 = some (0, 1) := rfl
theorem tp85_1 : placeV tys [(0, 9), (1, 3)] 1 = some (1, 1) := rfl
theorem tq85 : ([(0, 9), (1, 3)].all (fun f => (tys f.2).isSome)) = true := rfl
theorem ty88 : tys 88 = some ⟨.struct [(0, 9), (1, 9), (2, 3)], 3, 40, (.agg #[(.string .empty), (.string .empty), (.int .i64 0)])⟩ := rfl
theorem tk88 : kindV tys 88 = some (.struct [(0, 9), (1, 9), (2, 3)]) := rfl
theorem ts88 : sizeV tys 88 = 3 := rfl
theorem ta88 : TyI.isAgg ⟨.struct [(0, 9), (1, 9), (2, 3)], 3, 40, (.agg #[(.string .empty), (.string .empty), (.int .i64 0)])⟩ = true := rfl
theorem tu88 : isU8 ⟨.struct [(0, 9), (1, 9), (2, 3)], 3, 40, (.agg #[(.string .empty), (.string .empty), (.int .i64 0)])⟩ = false := rfl
theorem tn88 : notIntK tys 88 = true := rfl
theorem tr88 : isStrK tys 88 = false := rfl
theorem tz88 : zeroOk ⟨.struct [(0, 9), (1, 9), (2, 3)], 3, 40, (.agg #[(.string .empty), (.string .empty), (.int .i64 0)])⟩ = true := by kernel_rfl
theorem tv88 : zeroU8 ⟨.struct [(0, 9), (1, 9), (2, 3)], 3, 40, (.agg #[(.string .empty), (.string .empty), (.int .i64 0)])⟩ = false := rfl
theorem tc88 : V.ofV (.agg #[(.string .empty), (.string .empty), (.int .i64 0)]) = .agg [V.ofV1 (.string .empty), V.ofV1 (.string .empty), V.ofV1 (.int .i64 0)] := by kernel_rfl
theorem tw88 : Value.oneCell' (.agg #[(.string .empty), (.string .empty), (.int .i64 0)]) = false := rfl
theorem tx88 : (#[(.string .empty), (.string .empty), (.int .i64 0)] : Array Value).all (fun x => x.oneCell') 0 3 = true := by kernel_rfl
theorem td88 : TyI.zeroV ⟨.struct [(0, 9), (1, 9), (2, 3)], 3, 40, (.agg #[(.string .empty), (.string .empty), (.int .i64 0)])⟩ = .agg [V.ofV1 (.string .empty), V.ofV1 (.string .empty), V.ofV1 (.int .i64 0)] := by kernel_rfl
theorem tp88_0 : placeV tys [(0, 9), (1, 9), (2, 3)] 0 = some (0, 1) := rfl
theorem tp88_1 : placeV tys [(0, 9), (1, 9), (2, 3)] 1 = some (1, 1) := rfl
theorem tp88_2 : placeV tys [(0, 9), (1, 9), (2, 3)] 2 = some (2, 1) := rfl
theorem tq88 : ([(0, 9), (1, 9), (2, 3)].all (fun f => (tys f.2).isSome)) = true := rfl
theorem ty91 : tys 91 = some ⟨.struct [(0, 32), (1, 3)], 2, 32, (.agg #[(.slice none 0 0), (.int .i64 0)])⟩ := rfl
theorem tk91 : kindV tys 91 = some (.struct [(0, 32), (1, 3)]) := rfl
theorem ts91 : sizeV tys 91 = 2 := rfl
theorem ta91 : TyI.isAgg ⟨.struct [(0, 32), (1, 3)], 2, 32, (.agg #[(.slice none 0 0), (.int .i64 0)])⟩ = true := rfl
theorem tu91 : isU8 ⟨.struct [(0, 32), (1, 3)], 2, 32, (.agg #[(.slice none 0 0), (.int .i64 0)])⟩ = false := rfl
theorem tn91 : notIntK tys 91 = true := rfl
theorem tr91 : isStrK tys 91 = false := rfl
theorem tz91 : zeroOk ⟨.struct [(0, 32), (1, 3)], 2, 32, (.agg #[(.slice none 0 0), (.int .i64 0)])⟩ = true := by kernel_rfl
theorem tv91 : zeroU8 ⟨.struct [(0, 32), (1, 3)], 2, 32, (.agg #[(.slice none 0 0), (.int .i64 0)])⟩ = false := rfl
theorem tc91 : V.ofV (.agg #[(.slice none 0 0), (.int .i64 0)]) = .agg [V.ofV1 (.slice none 0 0), V.ofV1 (.int .i64 0)] := by kernel_rfl
theorem tw91 : Value.oneCell' (.agg #[(.slice none 0 0), (.int .i64 0)]) = false := rfl
theorem tx91 : (#[(.slice none 0 0), (.int .i64 0)] : Array Value).all (fun x => x.oneCell') 0 2 = true := by kernel_rfl
theorem td91 : TyI.zeroV ⟨.struct [(0, 32), (1, 3)], 2, 32, (.agg #[(.slice none 0 0), (.int .i64 0)])⟩ = .agg [V.ofV1 (.slice none 0 0), V.ofV1 (.int .i64 0)] := by kernel_rfl
theorem tp91_0 : placeV tys [(0, 32), (1, 3)] 0 = some (0, 1) := rfl
theorem tp91_1 : placeV tys [(0, 32), (1, 3)] 1 = some (1, 1) := rfl
theorem tq91 : ([(0, 32), (1, 3)].all (fun f => (tys f.2).isSome)) = true := rfl
set_option linter.defProp false in
def tcd := And.intro tc25 (And.intro td25 (And.intro tc81 (And.intro td81 (And.intro tc85 (And.intro td85 (And.intro tc88 (And.intro td88 (And.intro tc91 (td91)))))))))

attribute [bitvec_to_nat] ty3 tk3 ts3 ta3 tu3 tn3 tr3 tz3 tv3 td3 ty4 tk4 ts4 ta4 tu4 tn4 tr4 tz4 tv4 td4 ty5 tk5 ts5 ta5 tu5 tn5 tr5 tz5 tv5 td5 ty9 tk9 ts9 ta9 tu9 tn9 tr9 tz9 tv9 td9 ty23 tk23 ts23 ta23 tb23 te23 tu23 tn23 tr23 tz23 tv23 td23 ty25 tk25 ts25 ta25 tu25 tn25 tr25 tz25 tv25 tw25 tx25 tp25_0 tp25_1 tq25 ty29 tk29 ts29 ta29 tu29 tn29 tr29 tz29 tv29 td29 ty32 tk32 ts32 ta32 tb32 te32 tu32 tn32 tr32 tz32 tv32 td32 ty35 tk35 ts35 ta35 tu35 tn35 tr35 tz35 tv35 td35 ty44 tk44 ts44 ta44 tb44 te44 tu44 tn44 tr44 tz44 tv44 td44 ty77 tk77 ts77 ta77 tb77 te77 tu77 tn77 tr77 tz77 tv77 td77 ty78 tk78 ts78 ta78 tb78 te78 tu78 tn78 tr78 tz78 tv78 td78 ty79 tk79 ts79 ta79 tb79 te79 tu79 tn79 tr79 tz79 tv79 td79 ty81 tk81 ts81 ta81 tu81 tn81 tr81 tz81 tv81 tw81 tx81 tp81_0 tp81_1 tp81_2 tp81_3 tp81_4 tp81_5 tp81_6 tp81_7 tq81 ty83 tk83 ts83 ta83 tb83 te83 tu83 tn83 tr83 tz83 tv83 td83 ty85 tk85 ts85 ta85 tu85 tn85 tr85 tz85 tv85 tw85 tx85 tp85_0 tp85_1 tq85 ty88 tk88 ts88 ta88 tu88 tn88 tr88 tz88 tv88 tw88 tx88 tp88_0 tp88_1 tp88_2 tq88 ty91 tk91 ts91 ta91 tu91 tn91 tr91 tz91 tv91 tw91 tx91 tp91_0 tp91_1 tq91
def R0 : Fns := { fn := fun _ => none }
theorem R0_fn (f : FuncId) : R0.fn f = none := rfl
theorem R0_mu (d : Tmp) : R0.mu d = .no := rfl
theorem R0_hp (f : FuncId) : R0.hp f = none := rfl
theorem R0_ord (i : Nat) : R0.ord i = none := rfl
theorem R0ok : FnsOk Try.prog R0 := FnsOk.nil _ rfl rfl
attribute [bitvec_to_nat] R0_fn R0_mu R0_hp R0_ord

def nameV (e : Name × Nat) : V := .agg [.str e.1, .int .i64 (e.2 : Int)]
def chgV (c : Chg) : V := .agg [.str c.frm, .str c.to, .int .i64 (c.file : Int)]
def fnd (m : Names) (n : Name) : Int := match nfind m n with
  | none => -1
  | some f => (f : Int)
def findP : PM := fun args L T K => ∃ (m : Names) (n : Name), args = [.list 2 (m.map nameV) none, .str n] ∧ m.length ≤ 9223372036854775807 ∧ K (.int .i64 (fnd m n)) L T
theorem name_get {m : Names} {i : Nat} {e : Name × Nat} (h : m[i]? = some e) : (m.map nameV).getD i .any = .agg [.str e.1, .int .i64 (e.2 : Int)] := by
  rw [List.getD_eq_getElem?_getD, List.getElem?_map, h]; rfl
theorem nfind_app (a b : Names) (n : Name) : nfind (a ++ b) n = (nfind a n).orElse fun _ => nfind b n := by
  induction a with
  | nil => rfl
  | cons e r ih =>
    simp only [List.cons_append, nfind]
    split
    · rfl
    · exact ih
theorem nfind_take_succ {m : Names} {i : Nat} {e : Name × Nat} (h : m[i]? = some e) (n : Name) : nfind (m.take (i + 1)) n = (nfind (m.take i) n).orElse fun _ => if e.1 = n then some e.2 else none := by
  obtain ⟨hi, he⟩ := List.getElem?_eq_some_iff.1 h
  rw [List.take_succ_eq_append_getElem hi, nfind_app, he]
  rfl
theorem find_ok : PSound Try.prog 60 findP := by
  refine psound tysOk R0ok mix Try.func60 rfl ?_
  intro args L T K hm
  obtain ⟨m, n, rfl, hlen, hK⟩ := hm
  simp (maxSteps:=2000000) only[bitvec_to_nat,↓r_ifTrue,↓r_ifFalse,Nat.reduceAdd,Nat.reduceSub,Nat.reduceMul,Nat.reduceLT,Nat.reduceLeDiff,Nat.reduceEqDiff,Nat.reduceBEq,Nat.reduceBNe,Int.reduceToNat,Int.reduceLE,Int.reduceLT,Int.reduceEq,Int.reduceNe,Int.reduceNeg,Nat.reducePow,Int.reducePow,reduceIte,reduceCtorEq,↓tcd,Try.f60]
  refine awpLoop_intro (α := {i : Nat // i ≤ m.length ∧ nfind (m.take i) n = none}) (fun i => ⟨[.list 2 (m.map nameV) none, .str n, .any, .any, .any, .int .i64 (i.1 : Int), .any, .any, .any, .any, .any, .any, .any, .any, .any, .any, .any, .any, .any, .any, .any, .any, .any, .any], L, T⟩) (fun i => m.length - i.1) ⟨0, Nat.zero_le _, rfl⟩ ?_ ?_ (fun q => ⟨Nat.le_refl _, Nat.le_refl _⟩)
  · simp (maxSteps:=2000000) only[bitvec_to_nat,↓r_ifTrue,↓r_ifFalse,Nat.reduceAdd,Nat.reduceSub,Nat.reduceMul,Nat.reduceLT,Nat.reduceLeDiff,Nat.reduceEqDiff,Nat.reduceBEq,Nat.reduceBNe,Int.reduceToNat,Int.reduceLE,Int.reduceLT,Int.reduceEq,Int.reduceNe,Int.reduceNeg,Nat.reducePow,Int.reducePow,reduceIte,reduceCtorEq,↓tcd,leLL_self]
    simp
  · rintro ⟨i, hi, hn⟩
    by_cases him : i < m.length
    · have hdc : decide ((i : Int) < (m.length : Int)) = true := decide_eq_true (by omega)
      obtain ⟨e, he⟩ : ∃ e, m[i]? = some e := ⟨_, List.getElem?_eq_getElem him⟩
      have hgd := name_get he
      have hi1 : IntKind.i64.wrap ((i : Int) + 1) = ((i + 1 : Nat) : Int) := by rw [i64w (by omega) (by omega)]; omega
      have hts := nfind_take_succ he n
      rw [hn] at hts
      simp (maxSteps:=2000000) only[bitvec_to_nat,↓r_ifTrue,↓r_ifFalse,Nat.reduceAdd,Nat.reduceSub,Nat.reduceMul,Nat.reduceLT,Nat.reduceLeDiff,Nat.reduceEqDiff,Nat.reduceBEq,Nat.reduceBNe,Int.reduceToNat,Int.reduceLE,Int.reduceLT,Int.reduceEq,Int.reduceNe,Int.reduceNeg,Nat.reducePow,Int.reducePow,reduceIte,reduceCtorEq,↓tcd,hdc,hgd,Int.toNat_natCast,List.length_map,hi1]
      refine ⟨⟨by omega, by omega⟩, awpIf_intro (fun h1 => ?_) (fun h1 => ?_)⟩ <;> simp only [decide_eq_true_eq, decide_eq_false_iff_not] at h1
      · have hf : nfind m n = some e.2 := by
          rw [← List.take_append_drop (i + 1) m, nfind_app, hts, if_pos h1]
          rfl
        have := hK
        unfold fnd at this
        rw [hf] at this
        exact ⟨⟨by omega, by omega⟩, ret_of (Step.refl noS noS L T) this⟩
      · rw [if_neg h1] at hts
        refine ⟨⟨i + 1, him, hts⟩, ⟨rfl, ?_⟩, by simp only; omega⟩
        exact leLL_self L ▸ trivial
    · have hdc : decide ((i : Int) < (m.length : Int)) = false := decide_eq_false (by omega)
      have hf : nfind m n = none := by rw [List.take_of_length_le (by omega)] at hn; exact hn
      have := hK
      unfold fnd at this
      rw [hf] at this
      simp (maxSteps:=2000000) only[bitvec_to_nat,↓r_ifTrue,↓r_ifFalse,Nat.reduceAdd,Nat.reduceSub,Nat.reduceMul,Nat.reduceLT,Nat.reduceLeDiff,Nat.reduceEqDiff,Nat.reduceBEq,Nat.reduceBNe,Int.reduceToNat,Int.reduceLE,Int.reduceLT,Int.reduceEq,Int.reduceNe,Int.reduceNeg,Nat.reducePow,Int.reducePow,reduceIte,reduceCtorEq,↓tcd,hdc,List.length_map]
      exact ret_of (Step.refl noS noS L T) this
theorem without_take {m : Names} {i : Nat} {e : Name × Nat} (h : m[i]? = some e) (n : Name) : nwithout (m.take (i + 1)) n = nwithout (m.take i) n ++ if e.1 = n then [] else [e] := by
  obtain ⟨hi, he⟩ := List.getElem?_eq_some_iff.1 h
  rw [List.take_succ_eq_append_getElem hi, he]
  unfold nwithout
  rw [List.filter_append]
  congr 1
  by_cases h1 : e.1 = n <;> simp [h1]
def R1 : Fns := { fn := fun f => R0.fn f, mu := fun d => bif d == 5 then .nil 78 else .no, hp := fun f => R0.hp f, ord := fun i => none }
theorem R1_fn (f : FuncId) : R1.fn f = (R0.fn f) := rfl
theorem R1_mu (d : Tmp) : R1.mu d = (bif d == 5 then .nil 78 else .no) := rfl
theorem R1_hp (f : FuncId) : R1.hp f = (R0.hp f) := rfl
theorem R1_ord (i : Nat) : R1.ord i = (none) := rfl
theorem R1ok : FnsOk Try.prog R1 := FnsOk.same R0ok rfl rfl
attribute [bitvec_to_nat] R1_fn R1_mu R1_hp R1_ord

def withoutP : PM := fun args L T K => ∃ (m : Names) (n : Name), args = [.list 2 (m.map nameV) none, .str n] ∧ m.length ≤ 1099511627776 ∧ ∀ L' T', Step noS noS L T noS noS L' T' → K (.list 2 ((nwithout m n).map nameV) none) L' T'
theorem without_ok : PSound Try.prog 91 withoutP := by
  refine psound tysOk R1ok mix Try.func91 rfl ?_
  intro args L T K hm
  obtain ⟨m, n, rfl, hlen, hK⟩ := hm
  simp (maxSteps:=2000000) only[bitvec_to_nat,↓r_ifTrue,↓r_ifFalse,Nat.reduceAdd,Nat.reduceSub,Nat.reduceMul,Nat.reduceLT,Nat.reduceLeDiff,Nat.reduceEqDiff,Nat.reduceBEq,Nat.reduceBNe,Int.reduceToNat,Int.reduceLE,Int.reduceLT,Int.reduceEq,Int.reduceNe,Int.reduceNeg,Nat.reducePow,Int.reducePow,reduceIte,reduceCtorEq,↓tcd,Try.f91]
  refine awpLoop_intro (α := {q : Nat × LL × TT // q.1 ≤ m.length ∧ Step noS noS L T noS noS q.2.1 q.2.2 ∧ q.2.2[T.length]? = some ((nwithout (m.take q.1) n).length, 85) ∧ T.length < q.2.2.length})
    (fun q => ⟨[.list 2 (m.map nameV) none, .str n, .any, .any, .any, .list 2 ((nwithout (m.take q.1.1) n).map nameV) (some T.length), .int .i64 (q.1.1 : Int), .any, .any, .any, .any, .any, .any, .any, .any, .any, .any, .any, .any, .any, .any, .any, .any, .any, .any, .any, .any, .any], q.1.2.1, q.1.2.2⟩) (fun q => m.length - q.1.1)
    ⟨(0, L, T ++ [(0, 85)]), Nat.zero_le _, (Step.refl _ _ _ _).tapp _, by rw [tat_new rfl]; rfl, by simp⟩ ?_ ?_ (fun q => ⟨q.2.2.1.len, q.2.2.1.tlen⟩)
  · simp (maxSteps:=2000000) only[bitvec_to_nat,↓r_ifTrue,↓r_ifFalse,Nat.reduceAdd,Nat.reduceSub,Nat.reduceMul,Nat.reduceLT,Nat.reduceLeDiff,Nat.reduceEqDiff,Nat.reduceBEq,Nat.reduceBNe,Int.reduceToNat,Int.reduceLE,Int.reduceLT,Int.reduceEq,Int.reduceNe,Int.reduceNeg,Nat.reducePow,Int.reducePow,reduceIte,reduceCtorEq,↓tcd,leLL_self]
    exact ⟨rfl, rfl⟩
  · rintro ⟨⟨i, L2, T2⟩, hi, hs2, hT, hTl⟩
    simp only at hi hs2 hT hTl
    by_cases him : i < m.length
    · have hdc : decide ((i : Int) < (m.length : Int)) = true := decide_eq_true (by omega)
      obtain ⟨e, he⟩ : ∃ e, m[i]? = some e := ⟨_, List.getElem?_eq_getElem him⟩
      have hgd := name_get he
      have hi1 : IntKind.i64.wrap ((i : Int) + 1) = ((i + 1 : Nat) : Int) := by rw [i64w (by omega) (by omega)]; omega
      have hwt := without_take he n
      have hwl : (nwithout (m.take i) n).length ≤ 1099511627776 := by
        unfold nwithout
        refine Nat.le_trans (List.length_filter_le _ _) ?_
        rw [List.length_take]; omega
      simp (maxSteps:=2000000) only[bitvec_to_nat,↓r_ifTrue,↓r_ifFalse,Nat.reduceAdd,Nat.reduceSub,Nat.reduceMul,Nat.reduceLT,Nat.reduceLeDiff,Nat.reduceEqDiff,Nat.reduceBEq,Nat.reduceBNe,Int.reduceToNat,Int.reduceLE,Int.reduceLT,Int.reduceEq,Int.reduceNe,Int.reduceNeg,Nat.reducePow,Int.reducePow,reduceIte,reduceCtorEq,↓tcd,hdc,hgd,Int.toNat_natCast,List.length_map,hi1,hT,hTl]
      refine ⟨⟨by omega, by omega⟩, awpIf_intro (fun h1 => ?_) (fun h1 => ?_)⟩ <;> simp only [decide_eq_true_eq, decide_eq_false_iff_not] at h1
      · rw [if_pos h1, List.append_nil] at hwt
        refine ⟨⟨(i + 1, L2, T2), him, hs2, by simp only; rw [hwt]; exact hT, hTl⟩, ?_, by simp only; omega⟩
        simp (maxSteps:=2000000) only[bitvec_to_nat,↓r_ifTrue,↓r_ifFalse,Nat.reduceAdd,Nat.reduceSub,Nat.reduceMul,Nat.reduceLT,Nat.reduceLeDiff,Nat.reduceEqDiff,Nat.reduceBEq,Nat.reduceBNe,Int.reduceToNat,Int.reduceLE,Int.reduceLT,Int.reduceEq,Int.reduceNe,Int.reduceNeg,Nat.reducePow,Int.reducePow,reduceIte,reduceCtorEq,↓tcd,leLL_self,hwt]
      · rw [if_neg h1] at hwt
        refine ⟨⟨by omega, by omega⟩, by unfold maxBytes; omega, ⟨(i + 1, L2, (T2 ++ [(1, 85)]).set T.length ((nwithout (m.take i) n).length + 1, 85)), him, (hs2.tapp [(1, 85)]).tset (k := T.length) (.inr (Nat.le_refl _)) _, ?_, ?_⟩, ?_, by simp only; omega⟩
        · simp only
          rw [List.getElem?_set_self (by simp; omega), hwt]; simp
        · simp only; simp; omega
        · simp (maxSteps:=2000000) only[bitvec_to_nat,↓r_ifTrue,↓r_ifFalse,Nat.reduceAdd,Nat.reduceSub,Nat.reduceMul,Nat.reduceLT,Nat.reduceLeDiff,Nat.reduceEqDiff,Nat.reduceBEq,Nat.reduceBNe,Int.reduceToNat,Int.reduceLE,Int.reduceLT,Int.reduceEq,Int.reduceNe,Int.reduceNeg,Nat.reducePow,Int.reducePow,reduceIte,reduceCtorEq,↓tcd,leLL_self,hwt,List.map_append,List.length_append,List.length_map]
          all_goals first | rfl | exact ⟨rfl, rfl⟩
    · have hdc : decide ((i : Int) < (m.length : Int)) = false := decide_eq_false (by omega)
      have hie : i = m.length := by omega
      subst hie
      simp (maxSteps:=2000000) only[bitvec_to_nat,↓r_ifTrue,↓r_ifFalse,Nat.reduceAdd,Nat.reduceSub,Nat.reduceMul,Nat.reduceLT,Nat.reduceLeDiff,Nat.reduceEqDiff,Nat.reduceBEq,Nat.reduceBNe,Int.reduceToNat,Int.reduceLE,Int.reduceLT,Int.reduceEq,Int.reduceNe,Int.reduceNeg,Nat.reducePow,Int.reducePow,reduceIte,reduceCtorEq,↓tcd,hdc,List.take_length,List.length_map]
      exact ret_le hs2 (hK _ _ hs2) ⟨rfl, rfl⟩

theorem nins_pre {a : Names} {n : Name} (h : ∀ e ∈ a, ¬ n < e.1) (b : Names) (f : Nat) : nins (a ++ b) n f = a ++ nins b n f := by
  induction a with
  | nil => rfl
  | cons x r ih =>
    simp only [List.cons_append, nins]
    rw [if_neg (h x (by simp)), ih fun e he => h e (List.mem_cons_of_mem _ he)]
def R2 : Fns := { fn := fun f => R1.fn f, mu := fun d => bif d == 8 then .nil 78 else .no, hp := fun f => if f = 91 then some withoutP else R1.hp f, ord := fun i => none }
theorem R2_fn (f : FuncId) : R2.fn f = (R1.fn f) := rfl
theorem R2_mu (d : Tmp) : R2.mu d = (bif d == 8 then .nil 78 else .no) := rfl
theorem R2_hp (f : FuncId) : R2.hp f = (if f = 91 then some withoutP else R1.hp f) := rfl
theorem R2_ord (i : Nat) : R2.ord i = (none) := rfl
theorem R2ok : FnsOk Try.prog R2 := FnsOk.same (FnsOk.consP R1ok _ _ without_ok Try.func91 (by decide) (fun h => by cases h)) rfl rfl
attribute [bitvec_to_nat] R2_fn R2_mu R2_hp R2_ord

def withP : PM := fun args L T K => ∃ (m : Names) (n : Name) (f : Nat), args = [.list 2 (m.map nameV) none, .str n, .int .i64 (f : Int)] ∧ m.length ≤ 1099511627776 ∧ ∀ L' T', Step noS noS L T noS noS L' T' → K (.list 2 ((nwith m n f).map nameV) none) L' T'
/-- how far it has come -/
def WInv (r : Names) (n : Name) (f : Nat) (i : Nat) (put : Bool) (out : Names) : Prop := (put = true → out ++ r.drop i = nins r n f ∧ out.length ≤ i + 1) ∧ (put = false → out = r.take i ∧ ∀ e ∈ r.take i, ¬ n < e.1)
set_option maxHeartbeats 1000000 in
theorem with_ok : PSound Try.prog 90 withP := by
  refine psound tysOk R2ok mix Try.func90 rfl ?_
  intro args L T K hm
  obtain ⟨m, n, f, rfl, hlen, hK⟩ := hm
  simp (maxSteps:=2000000) only[bitvec_to_nat,↓r_ifTrue,↓r_ifFalse,Nat.reduceAdd,Nat.reduceSub,Nat.reduceMul,Nat.reduceLT,Nat.reduceLeDiff,Nat.reduceEqDiff,Nat.reduceBEq,Nat.reduceBNe,Int.reduceToNat,Int.reduceLE,Int.reduceLT,Int.reduceEq,Int.reduceNe,Int.reduceNeg,Nat.reducePow,Int.reducePow,reduceIte,reduceCtorEq,↓tcd,Try.f90]
  refine ⟨m, n, rfl, by omega, fun L1 T1 hst1 => ?_⟩
  obtain ⟨r, hr⟩ : ∃ r, nwithout m n = r := ⟨_, rfl⟩
  have hrl : r.length ≤ 1099511627776 := by
    rw [← hr]; unfold nwithout
    exact Nat.le_trans (List.length_filter_le _ _) hlen
  have hnw : nwith m n f = nins r n f := by unfold nwith; rw [hr]
  rw [hr]
  refine awpLoop_intro (α := {q : Nat × Bool × Names × LL × TT // q.1 ≤ r.length ∧ WInv r n f q.1 q.2.1 q.2.2.1 ∧ Step noS noS L T noS noS q.2.2.2.1 q.2.2.2.2 ∧ q.2.2.2.2[T1.length]? = some (q.2.2.1.length, 85) ∧ T1.length < q.2.2.2.2.length})
    (fun q => ⟨[.any, .str n, .int .i64 (f : Int), .any, .any, .any, .any, .list 2 (r.map nameV) none, .list 2 (q.1.2.2.1.map nameV) (some T1.length), .bool q.1.2.1, .int .i64 (q.1.1 : Int), .any, .any, .any, .any, .any, .any, .any, .any, .any, .any, .any, .any, .any, .any, .any, .any, .any, .any, .any, .any, .any, .any, .any, .any, .any, .any, .any, .any, .any, .any, .any, .any, .any, .any, .any, .any, .any, .any, .any, .any, .any, .any], q.1.2.2.2.1, q.1.2.2.2.2⟩) (fun q => r.length - q.1.1)
    ⟨(0, false, [], L1, T1 ++ [(0, 85)]), Nat.zero_le _, ⟨fun h => (by cases h), fun _ => ⟨rfl, fun e he => (by cases he)⟩⟩, hst1.tapp _, by rw [tat_new rfl]; rfl, by simp⟩ ?_ ?_ (fun q => ⟨q.2.2.2.1.len, q.2.2.2.1.tlen⟩)
  · simp (maxSteps:=2000000) only[bitvec_to_nat,↓r_ifTrue,↓r_ifFalse,Nat.reduceAdd,Nat.reduceSub,Nat.reduceMul,Nat.reduceLT,Nat.reduceLeDiff,Nat.reduceEqDiff,Nat.reduceBEq,Nat.reduceBNe,Int.reduceToNat,Int.reduceLE,Int.reduceLT,Int.reduceEq,Int.reduceNe,Int.reduceNeg,Nat.reducePow,Int.reducePow,reduceIte,reduceCtorEq,↓tcd,leLL_self]
    all_goals first | rfl | exact ⟨rfl, rfl⟩
  · rintro ⟨⟨i, put, out, L2, T2⟩, hi, hW, hs2, hT, hTl⟩
    simp only at hi hW hs2 hT hTl
    by_cases him : i < r.length
    · have hdc : decide ((i : Int) < (r.length : Int)) = true := decide_eq_true (by omega)
      obtain ⟨e, he⟩ : ∃ e, r[i]? = some e := ⟨_, List.getElem?_eq_getElem him⟩
      have hgd := name_get he
      have hi1 : IntKind.i64.wrap ((i : Int) + 1) = ((i + 1 : Nat) : Int) := by rw [i64w (by omega) (by omega)]; omega
      obtain ⟨hil, hie⟩ := List.getElem?_eq_some_iff.1 he
      have hdr : r.drop i = e :: r.drop (i + 1) := by rw [← hie]; exact List.drop_eq_getElem_cons hil
      have htk : r.take (i + 1) = r.take i ++ [e] := by rw [List.take_succ_eq_append_getElem hil, hie]
      cases put with
      | true =>
        obtain ⟨hW1, hW2⟩ := hW.1 rfl
        have hW' : WInv r n f (i + 1) true (out ++ [e]) := ⟨fun _ => ⟨by rw [← hW1, hdr]; simp, by simp; omega⟩, fun h => by cases h⟩
        simp (maxSteps:=2000000) only[bitvec_to_nat,↓r_ifTrue,↓r_ifFalse,Nat.reduceAdd,Nat.reduceSub,Nat.reduceMul,Nat.reduceLT,Nat.reduceLeDiff,Nat.reduceEqDiff,Nat.reduceBEq,Nat.reduceBNe,Int.reduceToNat,Int.reduceLE,Int.reduceLT,Int.reduceEq,Int.reduceNe,Int.reduceNeg,Nat.reducePow,Int.reducePow,reduceIte,reduceCtorEq,↓tcd,hdc,hgd,Int.toNat_natCast,List.length_map,hi1,hT,hTl]
        refine ⟨⟨by omega, by omega⟩, by unfold maxBytes; omega, ⟨(i + 1, true, out ++ [e], L2, (T2 ++ [(1, 85)]).set T1.length (out.length + 1, 85)), him, hW', (hs2.tapp [(1, 85)]).tset (k := T1.length) (.inr hst1.tlen) _, ?_, ?_⟩, ?_, by simp only; omega⟩
        · simp only
          rw [List.getElem?_set_self (by simp; omega)]; simp
        · simp only; simp; omega
        · simp (maxSteps:=2000000) only[bitvec_to_nat,↓r_ifTrue,↓r_ifFalse,Nat.reduceAdd,Nat.reduceSub,Nat.reduceMul,Nat.reduceLT,Nat.reduceLeDiff,Nat.reduceEqDiff,Nat.reduceBEq,Nat.reduceBNe,Int.reduceToNat,Int.reduceLE,Int.reduceLT,Int.reduceEq,Int.reduceNe,Int.reduceNeg,Nat.reducePow,Int.reducePow,reduceIte,reduceCtorEq,↓tcd,leLL_self,List.map_append,List.length_append,List.length_map]
          all_goals first | rfl | exact ⟨rfl, rfl⟩
      | false =>
        obtain ⟨hW1, hW2⟩ := hW.2 rfl
        have hol : out.length ≤ i := by rw [hW1, List.length_take]; omega
        simp (maxSteps:=2000000) only[bitvec_to_nat,↓r_ifTrue,↓r_ifFalse,Nat.reduceAdd,Nat.reduceSub,Nat.reduceMul,Nat.reduceLT,Nat.reduceLeDiff,Nat.reduceEqDiff,Nat.reduceBEq,Nat.reduceBNe,Int.reduceToNat,Int.reduceLE,Int.reduceLT,Int.reduceEq,Int.reduceNe,Int.reduceNeg,Nat.reducePow,Int.reducePow,reduceIte,reduceCtorEq,↓tcd,hdc,hgd,Int.toNat_natCast,List.length_map,hi1,hT,hTl]
        refine ⟨⟨by omega, by omega⟩, awpIf_intro (fun h1 => ?_) (fun h1 => ?_)⟩
        · have hle : ¬ n < e.1 := by
            simp only [Bool.or_eq_true, decide_eq_true_eq, bytesLess_eq] at h1
            rcases h1 with h1 | h1
            · exact List.not_lt.2 (List.le_of_lt h1)
            · rw [h1]; exact List.lt_irrefl _
          have hW' : WInv r n f (i + 1) false (out ++ [e]) := ⟨fun h => (by cases h), fun _ => ⟨by rw [htk, hW1], fun x hx => by
            rw [htk] at hx
            rcases List.mem_append.1 hx with hx | hx
            · exact hW2 x hx
            · rw [List.mem_singleton.1 hx]; exact hle⟩⟩
          refine ⟨⟨by omega, by omega⟩, by unfold maxBytes; omega, ⟨(i + 1, false, out ++ [e], L2, (T2 ++ [(1, 85)]).set T1.length (out.length + 1, 85)), him, hW', (hs2.tapp [(1, 85)]).tset (k := T1.length) (.inr hst1.tlen) _, ?_, ?_⟩, ?_, by simp only; omega⟩
          · simp only
            rw [List.getElem?_set_self (by simp; omega)]; simp
          · simp only; simp; omega
          · simp (maxSteps:=2000000) only[bitvec_to_nat,↓r_ifTrue,↓r_ifFalse,Nat.reduceAdd,Nat.reduceSub,Nat.reduceMul,Nat.reduceLT,Nat.reduceLeDiff,Nat.reduceEqDiff,Nat.reduceBEq,Nat.reduceBNe,Int.reduceToNat,Int.reduceLE,Int.reduceLT,Int.reduceEq,Int.reduceNe,Int.reduceNeg,Nat.reducePow,Int.reducePow,reduceIte,reduceCtorEq,↓tcd,leLL_self,List.map_append,List.length_append,List.length_map]
            all_goals first | rfl | exact ⟨rfl, rfl⟩
        · have hlt : n < e.1 := by
            simp only [Bool.or_eq_false_iff, decide_eq_false_iff_not, bytesLess_eq] at h1
            exact lt_or (fun h => h1.2 h) h1.1
          have hW' : WInv r n f (i + 1) true (out ++ [(n, f)] ++ [e]) := ⟨fun _ => ⟨by
            have hp := nins_pre hW2 (r.drop i) f
            rw [List.take_append_drop, hdr] at hp
            rw [hp, hW1]
            simp [nins, hlt], by simp; omega⟩, fun h => by cases h⟩
          refine ⟨by unfold maxBytes; omega, ⟨by omega, by omega⟩, ⟨?_, ?_⟩, ⟨(i + 1, true, out ++ [(n, f)] ++ [e], L2, ((T2 ++ [(1, 85)]).set T1.length (out.length + 1, 85) ++ [(1, 85)]).set T1.length (out.length + 1 + 1, 85)), him, hW', (((hs2.tapp [(1, 85)]).tset (k := T1.length) (.inr hst1.tlen) _).tapp [(1, 85)]).tset (k := T1.length) (.inr hst1.tlen) _, ?_, ?_⟩, ?_, by simp only; omega⟩
          · rw [List.getElem?_append_left (by simp; omega), List.getElem?_set_self (by simp; omega)]
          · simp only [List.length_append, List.length_map, List.length_singleton]; unfold maxBytes; omega
          · simp only
            rw [List.getElem?_set_self (by simp; omega)]; simp
          · simp only; simp; omega
          · simp (maxSteps:=2000000) only[bitvec_to_nat,↓r_ifTrue,↓r_ifFalse,Nat.reduceAdd,Nat.reduceSub,Nat.reduceMul,Nat.reduceLT,Nat.reduceLeDiff,Nat.reduceEqDiff,Nat.reduceBEq,Nat.reduceBNe,Int.reduceToNat,Int.reduceLE,Int.reduceLT,Int.reduceEq,Int.reduceNe,Int.reduceNeg,Nat.reducePow,Int.reducePow,reduceIte,reduceCtorEq,↓tcd,leLL_self,List.map_append,List.length_append,List.length_map]
            all_goals first | rfl | exact ⟨rfl, rfl⟩
    · have hdc : decide ((i : Int) < (r.length : Int)) = false := decide_eq_false (by omega)
      have hie : i = r.length := by omega
      subst hie
      cases put with
      | true =>
        obtain ⟨hW1, _⟩ := hW.1 rfl
        rw [List.drop_length, List.append_nil] at hW1
        simp (maxSteps:=2000000) only[bitvec_to_nat,↓r_ifTrue,↓r_ifFalse,Nat.reduceAdd,Nat.reduceSub,Nat.reduceMul,Nat.reduceLT,Nat.reduceLeDiff,Nat.reduceEqDiff,Nat.reduceBEq,Nat.reduceBNe,Int.reduceToNat,Int.reduceLE,Int.reduceLT,Int.reduceEq,Int.reduceNe,Int.reduceNeg,Nat.reducePow,Int.reducePow,reduceIte,reduceCtorEq,↓tcd,hdc,List.length_map]
        have := hK _ _ hs2
        rw [hnw, ← hW1] at this
        exact ret_le hs2 this ⟨rfl, rfl⟩
      | false =>
        obtain ⟨hW1, hW2⟩ := hW.2 rfl
        rw [List.take_length] at hW1 hW2
        have hp := nins_pre hW2 [] f
        rw [List.append_nil] at hp
        simp (maxSteps:=2000000) only[bitvec_to_nat,↓r_ifTrue,↓r_ifFalse,Nat.reduceAdd,Nat.reduceSub,Nat.reduceMul,Nat.reduceLT,Nat.reduceLeDiff,Nat.reduceEqDiff,Nat.reduceBEq,Nat.reduceBNe,Int.reduceToNat,Int.reduceLE,Int.reduceLT,Int.reduceEq,Int.reduceNe,Int.reduceNeg,Nat.reducePow,Int.reducePow,reduceIte,reduceCtorEq,↓tcd,hdc,List.length_map,hT,hTl]
        have hs3 := (hs2.tapp [(1, 85)]).tset (k := T1.length) (.inr hst1.tlen) ((out.map nameV ++ [V.agg [V.str n, V.int .i64 (f : Int)]]).length, 85)
        have := hK _ _ hs3
        rw [hnw, hp, ← hW1] at this
        refine ⟨by rw [hW1]; unfold maxBytes; omega, ret_le hs3 this ⟨rfl, ?_⟩⟩
        simp [nins, nameV]
end Go.Proofs.Ytieeojipodefoaa.Ref
