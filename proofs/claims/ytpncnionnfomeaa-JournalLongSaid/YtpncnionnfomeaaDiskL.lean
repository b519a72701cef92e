import Derived.Test.YtpncnionnfomeaaAwX
import Derived.Test.YtpncnionnfomeaaDisk2
namespace Go.Proofs.Ytpncnionnfomeaa.DiskL
open Go Go.Proofs Go.Proofs.Ytpncnionnfomeaa.Aw Go.Proofs.Ytpncnionnfomeaa.Num Go.Proofs.Ytpncnionnfomeaa.DiskM Go.Proofs.Ytpncnionnfomeaa.DiskA Go.Proofs.Ytpncnionnfomeaa.DiskK Go.Proofs.Ytpncnionnfomeaa.DiskC Go.Proofs.Ytpncnionnfomeaa.Disk
set_option linter.unusedSimpArgs false
set_option linter.unusedVariables false
def tys : Tys := fun t => if t = 3 then some ⟨.int .i64, 1, 8, (.int .i64 0)⟩ else if t = 4 then some ⟨.bool, 1, 1, (.bool false)⟩ else if t = 5 then some ⟨.int .u8, 1, 1, (.int .u8 0)⟩ else if t = 9 then some ⟨.str, 1, 16, (.string .empty)⟩ else if t = 23 then some ⟨.slice 3, 1, 24, (.slice none 0 0)⟩ else if t = 25 then some ⟨.struct [(0, 3), (1, 23)], 2, 32, (.agg #[(.int .i64 0), (.slice none 0 0)])⟩ else if t = 27 then some ⟨.ptr 77, 1, 8, (.pointer none)⟩ else if t = 32 then some ⟨.slice 5, 1, 24, (.slice none 0 0)⟩ else if t = 33 then some ⟨.slice 9, 1, 24, (.slice none 0 0)⟩ else if t = 37 then some ⟨.int .i64, 1, 8, (.int .i64 0)⟩ else if t = 74 then some ⟨.map 9 86, 1, 8, (.map none)⟩ else if t = 75 then some ⟨.slice 88, 1, 24, (.slice none 0 0)⟩ else if t = 77 then some ⟨.struct [(0, 3), (1, 3), (2, 74), (3, 74), (4, 75), (5, 4), (6, 4), (7, 3)], 8, 72, (.agg #[(.int .i64 0), (.int .i64 0), (.map none), (.map none), (.slice none 0 0), (.bool false), (.bool false), (.int .i64 0)])⟩ else if t = 86 then some ⟨.ptr 94, 1, 8, (.pointer none)⟩ else if t = 88 then some ⟨.struct [(0, 9), (1, 9), (2, 86)], 3, 40, (.agg #[(.string .empty), (.string .empty), (.pointer none)])⟩ else if t = 94 then some ⟨.struct [(0, 32), (1, 3)], 2, 32, (.agg #[(.slice none 0 0), (.int .i64 0)])⟩ else none
theorem tysOk : TyOk Try.prog tys := by
  refine TyOk.cons ?_ 3 _ (by kernel_rfl) (by kernel_rfl)
  refine TyOk.cons ?_ 4 _ (by kernel_rfl) (by kernel_rfl)
  refine TyOk.cons ?_ 5 _ (by kernel_rfl) (by kernel_rfl)
  refine TyOk.cons ?_ 9 _ (by kernel_rfl) (by kernel_rfl)
  refine TyOk.cons ?_ 23 _ (by kernel_rfl) (by kernel_rfl)
  refine TyOk.cons ?_ 25 _ (by kernel_rfl) (by kernel_rfl)
  refine TyOk.cons ?_ 27 _ (by kernel_rfl) (by kernel_rfl)
  refine TyOk.cons ?_ 32 _ (by kernel_rfl) (by kernel_rfl)
  refine TyOk.cons ?_ 33 _ (by kernel_rfl) (by kernel_rfl)
  refine TyOk.cons ?_ 37 _ (by kernel_rfl) (by kernel_rfl)
  refine TyOk.cons ?_ 74 _ (by kernel_rfl) (by kernel_rfl)
  refine TyOk.cons ?_ 75 _ (by kernel_rfl) (by kernel_rfl)
  refine TyOk.cons ?_ 77 _ (by kernel_rfl) (by kernel_rfl)
  refine TyOk.cons ?_ 86 _ (by kernel_rfl) (by kernel_rfl)
  refine TyOk.cons ?_ 88 _ (by kernel_rfl) (by kernel_rfl)
  refine TyOk.cons ?_ 94 _ (by kernel_rfl) (by kernel_rfl)
  exact TyOk.nil _
theorem mix : Try.prog.follows .mixedOrders = true := by kernel_rfl
theorem ty3 : tys 3 = some ⟨.int .i64, 1, 8, (.int .i64 0)⟩ := rfl
theorem tk3 : kindV tys 3 = some (.int .i64) := rfl
theorem ts3 : sizeV tys 3 = 1 := rfl
theorem ta3 : TyI.isAgg ⟨.int .i64, 1, 8, (.int .i64 0)⟩ = false := rfl
theorem tu3 : isU8 ⟨.int .i64, 1, 8, (.int .i64 0)⟩ = false := rfl
theorem tn3 : notIntK tys 3 = false := rfl
theorem tr3 : isStrK tys 3 = false := rfl
theorem tz3 : zeroOk ⟨.int .i64, 1, 8, (.int .i64 0)⟩ = true := by kernel_rfl
theorem tv3 : zeroU8 ⟨.int .i64, 1, 8, (.int .i64 0)⟩ = false := rfl
theorem td3 : TyI.zeroV ⟨.int .i64, 1, 8, (.int .i64 0)⟩ = V.ofV1 (.int .i64 0) := rfl
theorem ty4 : tys 4 = some ⟨.bool, 1, 1, (.bool false)⟩ := rfl
theorem tk4 : kindV tys 4 = some (.bool) := rfl
theorem ts4 : sizeV tys 4 = 1 := rfl
theorem ta4 : TyI.isAgg ⟨.bool, 1, 1, (.bool false)⟩ = false := rfl
theorem tu4 : isU8 ⟨.bool, 1, 1, (.bool false)⟩ = false := rfl
theorem tn4 : notIntK tys 4 = true := rfl
theorem tr4 : isStrK tys 4 = false := rfl
theorem tz4 : zeroOk ⟨.bool, 1, 1, (.bool false)⟩ = true := by kernel_rfl
theorem tv4 : zeroU8 ⟨.bool, 1, 1, (.bool false)⟩ = false := rfl
theorem td4 : TyI.zeroV ⟨.bool, 1, 1, (.bool false)⟩ = V.ofV1 (.bool false) := rfl
theorem ty5 : tys 5 = some ⟨.int .u8, 1, 1, (.int .u8 0)⟩ := rfl
theorem tk5 : kindV tys 5 = some (.int .u8) := rfl
theorem ts5 : sizeV tys 5 = 1 := rfl
theorem ta5 : TyI.isAgg ⟨.int .u8, 1, 1, (.int .u8 0)⟩ = false := rfl
theorem tu5 : isU8 ⟨.int .u8, 1, 1, (.int .u8 0)⟩ = true := rfl
theorem tn5 : notIntK tys 5 = false := rfl
theorem tr5 : isStrK tys 5 = false := rfl
theorem tz5 : zeroOk ⟨.int .u8, 1, 1, (.int .u8 0)⟩ = true := by kernel_rfl
theorem tv5 : zeroU8 ⟨.int .u8, 1, 1, (.int .u8 0)⟩ = true := rfl
theorem td5 : TyI.zeroV ⟨.int .u8, 1, 1, (.int .u8 0)⟩ = V.ofV1 (.int .u8 0) := rfl
theorem ty9 : tys 9 = some ⟨.str, 1, 16, (.string .empty)⟩ := rfl
theorem tk9 : kindV tys 9 = some (.str) := rfl
theorem ts9 : sizeV tys 9 = 1 := rfl
theorem ta9 : TyI.isAgg ⟨.str, 1, 16, (.string .empty)⟩ = false := rfl
theorem tu9 : isU8 ⟨.str, 1, 16, (.string .empty)⟩ = false := rfl
theorem tn9 : notIntK tys 9 = true := rfl
theorem tr9 : isStrK tys 9 = true := rfl
theorem tz9 : zeroOk ⟨.str, 1, 16, (.string .empty)⟩ = true := by kernel_rfl
theorem tv9 : zeroU8 ⟨.str, 1, 16, (.string .empty)⟩ = false := rfl
theorem td9 : TyI.zeroV ⟨.str, 1, 16, (.string .empty)⟩ = V.ofV1 (.string .empty) := rfl
theorem ty23 : tys 23 = some ⟨.slice 3, 1, 24, (.slice none 0 0)⟩ := rfl
theorem tk23 : kindV tys 23 = some (.slice 3) := rfl
theorem ts23 : sizeV tys 23 = 1 := rfl
theorem ta23 : TyI.isAgg ⟨.slice 3, 1, 24, (.slice none 0 0)⟩ = false := rfl
theorem tb23 : isBytes tys 23 = false := rfl
theorem te23 : elemI tys 23 = some (3, ⟨.int .i64, 1, 8, (.int .i64 0)⟩) := rfl
theorem tu23 : isU8 ⟨.slice 3, 1, 24, (.slice none 0 0)⟩ = false := rfl
theorem tn23 : notIntK tys 23 = true := rfl
theorem tr23 : isStrK tys 23 = false := rfl
theorem tz23 : zeroOk ⟨.slice 3, 1, 24, (.slice none 0 0)⟩ = true := by kernel_rfl
theorem tv23 : zeroU8 ⟨.slice 3, 1, 24, (.slice none 0 0)⟩ = false := rfl
theorem td23 : TyI.zeroV ⟨.slice 3, 1, 24, (.slice none 0 0)⟩ = V.ofV1 (.slice none 0 0) := rfl
theorem ty25 : tys 25 = some ⟨.struct [(0, 3), (1, 23)], 2, 32, (.agg #[(.int .i64 0), (.slice none 0 0)])⟩ := rfl
theorem tk25 : kindV tys 25 = some (.struct [(0, 3), (1, 23)]) := rfl
theorem ts25 : sizeV tys 25 = 2 := rfl
theorem ta25 : TyI.isAgg ⟨.struct [(0, 3), (1, 23)], 2, 32, (.agg #[(.int .i64 0), (.slice none 0 0)])⟩ = true := rfl
theorem tu25 : isU8 ⟨.struct [(0, 3), (1, 23)], 2, 32, (.agg #[(.int .i64 0), (.slice none 0 0)])⟩ = false := rfl
theorem tn25 : notIntK tys 25 = true := rfl
theorem tr25 : isStrK tys 25 = false := rfl
theorem tz25 : zeroOk ⟨.struct [(0, 3), (1, 23)], 2, 32, (.agg #[(.int .i64 0), (.slice none 0 0)])⟩ = true := by kernel_rfl
theorem tv25 : zeroU8 ⟨.struct [(0, 3), (1, 23)], 2, 32, (.agg #[(.int .i64 0), (.slice none 0 0)])⟩ = false := rfl
theorem tc25 : V.ofV (.agg #[(.int .i64 0), (.slice none 0 0)]) = .agg [V.ofV1 (.int .i64 0), V.ofV1 (.slice none 0 0)] := by kernel_rfl
theorem tw25 : Value.oneCell' (.agg #[(.int .i64 0), (.slice none 0 0)]) = false := rfl
theorem tx25 : (#[(.int .i64 0), (.slice none 0 0)] : Array Value).all (fun x => x.oneCell') 0 2 = true := by kernel_rfl
theorem td25 : TyI.zeroV ⟨.struct [(0, 3), (1, 23)], 2, 32, (.agg #[(.int .i64 0), (.slice none 0 0)])⟩ = .agg [V.ofV1 (.int .i64 0), V.ofV1 (.slice none 0 0)] := by kernel_rfl
theorem tp25_0 : placeV tys [(0, 3), (1, 23)] 0 = some (0, 1) := rfl
theorem tp25_1 : placeV tys [(0, 3), (1, 23)] 1 = some (1, 1) := rfl
theorem tq25 : ([(0, 3), (1, 23)].all (fun f => (tys f.2).isSome)) = true := rfl
theorem ty27 : tys 27 = some ⟨.ptr 77, 1, 8, (.pointer none)⟩ := rfl
theorem tk27 : kindV tys 27 = some (.ptr 77) := rfl
theorem ts27 : sizeV tys 27 = 1 := rfl
theorem ta27 : TyI.isAgg ⟨.ptr 77, 1, 8, (.pointer none)⟩ = false := rfl
theorem tu27 : isU8 ⟨.ptr 77, 1, 8, (.pointer none)⟩ = false := rfl
theorem tn27 : notIntK tys 27 = true := rfl
theorem tr27 : isStrK tys 27 = false := rfl
theorem tz27 : zeroOk ⟨.ptr 77, 1, 8, (.pointer none)⟩ = true := by kernel_rfl
theorem tv27 : zeroU8 ⟨.ptr 77, 1, 8, (.pointer none)⟩ = false := rfl
theorem td27 : TyI.zeroV ⟨.ptr 77, 1, 8, (.pointer none)⟩ = V.ofV1 (.pointer none) := rfl
theorem ty32 : tys 32 = some ⟨.slice 5, 1, 24, (.slice none 0 0)⟩ := rfl
theorem tk32 : kindV tys 32 = some (.slice 5) := rfl
theorem ts32 : sizeV tys 32 = 1 := rfl
theorem ta32 : TyI.isAgg ⟨.slice 5, 1, 24, (.slice none 0 0)⟩ = false := rfl
theorem tb32 : isBytes tys 32 = true := rfl
theorem te32 : elemI tys 32 = some (5, ⟨.int .u8, 1, 1, (.int .u8 0)⟩) := rfl
theorem tu32 : isU8 ⟨.slice 5, 1, 24, (.slice none 0 0)⟩ = false := rfl
theorem tn32 : notIntK tys 32 = true := rfl
theorem tr32 : isStrK tys 32 = false := rfl
theorem tz32 : zeroOk ⟨.slice 5, 1, 24, (.slice none 0 0)⟩ = true := by kernel_rfl
theorem tv32 : zeroU8 ⟨.slice 5, 1, 24, (.slice none 0 0)⟩ = false := rfl
theorem td32 : TyI.zeroV ⟨.slice 5, 1, 24, (.slice none 0 0)⟩ = V.ofV1 (.slice none 0 0) := rfl
theorem ty33 : tys 33 = some ⟨.slice 9, 1, 24, (.slice none 0 0)⟩ := rfl
theorem tk33 : kindV tys 33 = some (.slice 9) := rfl
theorem ts33 : sizeV tys 33 = 1 := rfl
theorem ta33 : TyI.isAgg ⟨.slice 9, 1, 24, (.slice none 0 0)⟩ = false := rfl
theorem tb33 : isBytes tys 33 = false := rfl
theorem te33 : elemI tys 33 = some (9, ⟨.str, 1, 16, (.string .empty)⟩) := rfl
theorem tu33 : isU8 ⟨.slice 9, 1, 24, (.slice none 0 0)⟩ = false := rfl
theorem tn33 : notIntK tys 33 = true := rfl
theorem tr33 : isStrK tys 33 = false := rfl
theorem tz33 : zeroOk ⟨.slice 9, 1, 24, (.slice none 0 0)⟩ = true := by kernel_rfl
theorem tv33 : zeroU8 ⟨.slice 9, 1, 24, (.slice none 0 0)⟩ = false := rfl
theorem td33 : TyI.zeroV ⟨.slice 9, 1, 24, (.slice none 0 0)⟩ = V.ofV1 (.slice none 0 0) := rfl
theorem ty37 : tys 37 = some ⟨.int .i64, 1, 8, (.int .i64 0)⟩ := rfl
theorem tk37 : kindV tys 37 = some (.int .i64) := rfl
theorem ts37 : sizeV tys 37 = 1 := rfl
theorem ta37 : TyI.isAgg ⟨.int .i64, 1, 8, (.int .i64 0)⟩ = false := rfl
theorem tu37 : isU8 ⟨.int .i64, 1, 8, (.int .i64 0)⟩ = false := rfl
theorem tn37 : notIntK tys 37 = false := rfl
theorem tr37 : isStrK tys 37 = false := rfl
theorem tz37 : zeroOk ⟨.int .i64, 1, 8, (.int .i64 0)⟩ = true := by kernel_rfl
theorem tv37 : zeroU8 ⟨.int .i64, 1, 8, (.int .i64 0)⟩ = false := rfl
theorem td37 : TyI.zeroV ⟨.int .i64, 1, 8, (.int .i64 0)⟩ = V.ofV1 (.int .i64 0) := rfl
theorem ty74 : tys 74 = some ⟨.map 9 86, 1, 8, (.map none)⟩ := rfl
theorem tk74 : kindV tys 74 = some (.map 9 86) := rfl
theorem ts74 : sizeV tys 74 = 1 := rfl
theorem ta74 : TyI.isAgg ⟨.map 9 86, 1, 8, (.map none)⟩ = false := rfl
theorem tu74 : isU8 ⟨.map 9 86, 1, 8, (.map none)⟩ = false := rfl
theorem tn74 : notIntK tys 74 = true := rfl
theorem tr74 : isStrK tys 74 = false := rfl
theorem tz74 : zeroOk ⟨.map 9 86, 1, 8, (.map none)⟩ = true := by kernel_rfl
theorem tv74 : zeroU8 ⟨.map 9 86, 1, 8, (.map none)⟩ = false := rfl
theorem td74 : TyI.zeroV ⟨.map 9 86, 1, 8, (.map none)⟩ = V.ofV1 (.map none) := rfl
theorem ty75 : tys 75 = some ⟨.slice 88, 1, 24, (.slice none 0 0)⟩ := rfl
theorem tk75 : kindV tys 75 = some (.slice 88) := rfl
theorem ts75 : sizeV tys 75 = 1 := rfl
theorem ta75 : TyI.isAgg ⟨.slice 88, 1, 24, (.slice none 0 0)⟩ = false := rfl
theorem tb75 : isBytes tys 75 = false := rfl
theorem te75 : elemI tys 75 = some (88, ⟨.struct [(0, 9), (1, 9), (2, 86)], 3, 40, (.agg #[(.string .empty), (.string .empty), (.pointer none)])⟩) := rfl
theorem tu75 : isU8 ⟨.slice 88, 1, 24, (.slice none 0 0)⟩ = false := rfl
theorem tn75 : notIntK tys 75 = true := rfl
theorem tr75 : isStrK tys 75 = false := rfl
theorem tz75 : zeroOk ⟨.slice 88, 1, 24, (.slice none 0 0)⟩ = true := by kernel_rfl
theorem tv75 : zeroU8 ⟨.slice 88, 1, 24, (.slice none 0 0)⟩ = false := rfl
theorem td75 : TyI.zeroV ⟨.slice 88, 1, 24, (.slice none 0 0)⟩ = V.ofV1 (.slice none 0 0) := rfl
theorem ty77 : tys 77 = some ⟨.struct [(0, 3), (1, 3), (2, 74), (3, 74), (4, 75), (5, 4), (6, 4), (7, 3)], 8, 72, (.agg #[(.int .i64 0), (.int .i64 0), (.map none), (.map none), (.slice none 0 0), (.bool false), (.bool false), (.int .i64 0)])⟩ := rfl
theorem tk77 : kindV tys 77 = some (.struct [(0, 3), (1, 3), (2, 74), (3, 74), (4, 75), (5, 4), (6, 4), (7, 3)]) := rfl
theorem ts77 : sizeV tys 77 = 8 := rfl
theorem ta77 : TyI.isAgg ⟨.struct [(0, 3), (1, 3), (2, 74), (3, 74), (4, 75), (5, 4), (6, 4), (7, 3)], 8, 72, (.agg #[(.int .i64 0), (.int .i64 0), (.map none), (.map none), (.slice none 0 0), (.bool false), (.bool false), (.int .i64 0)])⟩ = true := rfl
theorem tu77 : isU8 ⟨.struct [(0, 3), (1, 3), (2, 74), (3, 74), (4, 75), (5, 4), (6, 4), (7, 3)], 8, 72, (.agg #[(.int .i64 0), (.int .i64 0), (.map none), (.map none), (.slice none 0 0), (.bool false), (.bool false), (.int .i64 0)])⟩ = false := rfl
theorem tn77 : notIntK tys 77 = true := rfl
theorem tr77 : isStrK tys 77 = false := rfl
theorem tz77 : zeroOk ⟨.struct [(0, 3), (1, 3), (2, 74), (3, 74), (4, 75), (5, 4), (6, 4), (7, 3)], 8, 72, (.agg #[(.int .i64 0), (.int .i64 0), (.map none), (.map none), (.slice none 0 0), (.bool false), (.bool false), (.int .i64 0)])⟩ = true := by kernel_rfl
theorem tv77 : zeroU8 ⟨.struct [(0, 3), (1, 3), (2, 74), (3, 74), (4, 75), (5, 4), (6, 4), (7, 3)], 8, 72, (.agg #[(.int .i64 0), (.int .i64 0), (.map none), (.map none), (.slice none 0 0), (.bool false), (.bool false), (.int .i64 0)])⟩ = false := rfl
theorem tc77 : V.ofV (.agg #[(.int .i64 0), (.int .i64 0), (.map none), (.map none), (.slice none 0 0), (.bool false), (.bool false), (.int .i64 0)]) = .agg [V.ofV1 (.int .i64 0), V.ofV1 (.int .i64 0), V.ofV1 (.map none), V.ofV1 (.map none), V.ofV1 (.slice none 0 0), V.ofV1 (.bool false), V.ofV1 (.bool false), V.ofV1 (.int .i64 0)] := by kernel_rfl
theorem tw77 : Value.oneCell' (.agg #[(.int .i64 0), (.int .i64 0), (.map none), (.map none), (.slice none 0 0), (.bool false), (.bool false), (.int .i64 0)]) = false := rfl
theorem tx77 : (#[(.int .i64 0), (.int .i64 0), (.map none), (.map none), (.slice none 0 0), (.bool false), (.bool false), (.int .i64 0)] : Array Value).all (fun x => x.oneCell') 0 8 = true := by kernel_rfl
theorem td77 : TyI.zeroV ⟨.struct [(0, 3), (1, 3), (2, 74), (3, 74), (4, 75), (5, 4), (6, 4), (7, 3)], 8, 72, (.agg #[(.int .i64 0), (.int .i64 0), (.map none), (.map none), (.slice none 0 0), (.bool false), (.bool false), (.int .i64 0)])⟩ = .agg [V.ofV1 (.int .i64 0), V.ofV1 (.int .i64 0), V.ofV1 (.map none), V.ofV1 (.map none), V.ofV1 (.slice none 0 0), V.ofV1 (.bool false), V.ofV1 (.bool false), V.ofV1 (.int .i64 0)] := by kernel_rfl
theorem tp77_0 : placeV tys [(0, 3), (1, 3), (2, 74), (3, 74), (4, 75), (5, 4), (6, 4), (7, 3)] 0 = some (0, 1) := rfl
theorem tp77_1 : placeV tys [(0, 3), (1, 3), (2, 74), (3, 74), (4, 75), (5, 4), (6, 4), (7, 3)] 1 = some (1, 1) := rfl
theorem tp77_2 : placeV tys [(0, 3), (1, 3), (2, 74), (3, 74), (4, 75), (5, 4), (6, 4), (7, 3)] 2 = some (2, 1) := rfl
theorem tp77_3 : placeV tys [(0, 3), (1, 3), (2, 74), (3, 74), (4, 75), (5, 4), (6, 4), (7, 3)] 3 = some (3, 1) := rfl
theorem tp77_4 : placeV tys [(0, 3), (1, 3), (2, 74), (3, 74), (4, 75), (5, 4), (6, 4), (7, 3)] 4 = some (4, 1) := rfl
theorem tp77_5 : placeV tys [(0, 3), (1, 3), (2, 74), (3, 74), (4, 75), (5, 4), (6, 4), (7, 3)] 5 = some (5, 1) := rfl
theorem tp77_6 : placeV tys [(0, 3), (1, 3), (2, 74), (3, 74), (4, 75), (5, 4), (6, 4), (7, 3)] 6 = some (6, 1) := rfl
theorem tp77_7 : placeV tys [(0, 3), (1, 3), (2, 74), (3, 74), (4, 75), (5, 4), (6, 4), (7, 3)] 7 = some (7, 1) := rfl
theorem tq77 : ([(0, 3), (1, 3), (2, 74), (3, 74), (4, 75), (5, 4), (6, 4), (7, 3)].all (fun f => (tys f.2).isSome)) = true := rfl
theorem ty86 : tys 86 = some ⟨.ptr 94, 1, 8, (.pointer none)⟩ := rfl
theorem tk86 : kindV tys 86 = some (.ptr 94) := rfl
theorem ts86 : sizeV tys 86 = 1 := rfl
theorem ta86 : TyI.isAgg ⟨.ptr 94, 1, 8, (.pointer none)⟩ = false := rfl
theorem tu86 : isU8 ⟨.ptr 94, 1, 8, (.pointer none)⟩ = false := rfl
theorem tn86 : notIntK tys 86 = true := rfl
theorem tr86 : isStrK tys 86 = false := rfl
theorem tz86 : zeroOk ⟨.ptr 94, 1, 8, (.pointer none)⟩ = true := by kernel_rfl
theorem tv86 : zeroU8 ⟨.ptr 94, 1, 8, (.pointer none)⟩ = false := rfl
theorem td86 : TyI.zeroV ⟨.ptr 94, 1, 8, (.pointer none)⟩ = V.ofV1 (.pointer none) := rfl
theorem ty88 : tys 88 = some ⟨.struct [(0, 9), (1, 9), (2, 86)], 3, 40, (.agg #[(.string .empty), (.string .empty), (.pointer none)])⟩ := rfl
theorem tk88 : kindV tys 88 = some (.struct [(0, 9), (1, 9), (2, 86)]) := rfl
theorem ts88 : sizeV tys 88 = 3 := rfl
theorem ta88 : TyI.isAgg ⟨.struct [(0, 9), (1, 9), (2, 86)], 3, 40, (.agg #[(.string .empty), (.string .empty), (.pointer none)])⟩ = true := rfl
theorem tu88 : isU8 ⟨.struct [(0, 9), (1, 9), (2, 86)], 3, 40, (.agg #[(.string .empty), (.string .empty), (.pointer none)])⟩ = false := rfl
theorem tn88 : notIntK tys 88 = true := rfl
theorem tr88 : isStrK tys 88 = false := rfl
theorem tz88 : zeroOk ⟨.struct [(0, 9), (1, 9), (2, 86)], 3, 40, (.agg #[(.string .empty), (.string .empty), (.pointer none)])⟩ = true := by kernel_rfl
theorem tv88 : zeroU8 ⟨.struct [(0, 9), (1, 9), (2, 86)], 3, 40, (.agg #[(.string .empty), (.string .empty), (.pointer none)])⟩ = false := rfl
theorem tc88 : V.ofV (.agg #[(.string .empty), (.string .empty), (.pointer none)]) = .agg [V.ofV1 (.string .empty), V.ofV1 (.string .empty), V.ofV1 (.pointer none)] := by kernel_rfl
theorem tw88 : Value.oneCell' (.agg #[(.string .empty), (.string .empty), (.pointer none)]) = false := rfl
theorem tx88 : (#[(.string .empty), (.string .empty), (.pointer none)] : Array Value).all (fun x => x.oneCell') 0 3 = true := by kernel_rfl
theorem td88 : TyI.zeroV ⟨.struct [(0, 9), (1, 9), (2, 86)], 3, 40, (.agg #[(.string .empty), (.string .empty), (.pointer none)])⟩ = .agg [V.ofV1 (.string .empty), V.ofV1 (.string .empty), V.ofV1 (.pointer none)] := by kernel_rfl
theorem tp88_0 : placeV tys [(0, 9), (1, 9), (2, 86)] 0 = some (0, 1) := rfl
theorem tp88_1 : placeV tys [(0, 9), (1, 9), (2, 86)] 1 = some (1, 1) := rfl
theorem tp88_2 : placeV tys [(0, 9), (1, 9), (2, 86)] 2 = some (2, 1) := rfl
theorem tq88 : ([(0, 9), (1, 9), (2, 86)].all (fun f => (tys f.2).isSome)) = true := rfl
theorem ty94 : tys 94 = some ⟨.struct [(0, 32), (1, 3)], 2, 32, (.agg #[(.slice none 0 0), (.int .i64 0)])⟩ := rfl
theorem tk94 : kindV tys 94 = some (.struct [(0, 32), (1, 3)]) := rfl
theorem ts94 : sizeV tys 94 = 2 := rfl
theorem ta94 : TyI.isAgg ⟨.struct [(0, 32), (1, 3)], 2, 32, (.agg #[(.slice none 0 0), (.int .i64 0)])⟩ = true := rfl
theorem tu94 : isU8 ⟨.struct [(0, 32), (1, 3)], 2, 32, (.agg #[(.slice none 0 0), (.int .i64 0)])⟩ = false := rfl
theorem tn94 : notIntK tys 94 = true := rfl
theorem tr94 : isStrK tys 94 = false := rfl
theorem tz94 : zeroOk ⟨.struct [(0, 32), (1, 3)], 2, 32, (.agg #[(.slice none 0 0), (.int .i64 0)])⟩ = true := by kernel_rfl
theorem tv94 : zeroU8 ⟨.struct [(0, 32), (1, 3)], 2, 32, (.agg #[(.slice none 0 0), (.int .i64 0)])⟩ = false := rfl
theorem tc94 : V.ofV (.agg #[(.slice none 0 0), (.int .i64 0)]) = .agg [V.ofV1 (.slice none 0 0), V.ofV1 (.int .i64 0)] := by kernel_rfl
theorem tw94 : Value.oneCell' (.agg #[(.slice none 0 0), (.int .i64 0)]) = false := rfl
theorem tx94 : (#[(.slice none 0 0), (.int .i64 0)] : Array Value).all (fun x => x.oneCell') 0 2 = true := by kernel_rfl
theorem td94 : TyI.zeroV ⟨.struct [(0, 32), (1, 3)], 2, 32, (.agg #[(.slice none 0 0), (.int .i64 0)])⟩ = .agg [V.ofV1 (.slice none 0 0), V.ofV1 (.int .i64 0)] := by kernel_rfl
theorem tp94_0 : placeV tys [(0, 32), (1, 3)] 0 = some (0, 1) := rfl
theorem tp94_1 : placeV tys [(0, 32), (1, 3)] 1 = some (1, 1) := rfl
theorem tq94 : ([(0, 32), (1, 3)].all (fun f => (tys f.2).isSome)) = true := rfl
set_option linter.defProp false in
def tcd := And.intro @r_ifTrue (And.intro @r_ifFalse (And.intro tc25 (And.intro td25 (And.intro tc77 (And.intro td77 (And.intro tc88 (And.intro td88 (And.intro tc94 (td94)))))))))
attribute [bitvec_to_nat] ty3 tk3 ts3 ta3 tu3 tn3 tr3 tz3 tv3 td3 ty4 tk4 ts4 ta4 tu4 tn4 tr4 tz4 tv4 td4 ty5 tk5 ts5 ta5 tu5 tn5 tr5 tz5 tv5 td5 ty9 tk9 ts9 ta9 tu9 tn9 tr9 tz9 tv9 td9 ty23 tk23 ts23 ta23 tb23 te23 tu23 tn23 tr23 tz23 tv23 td23 ty25 tk25 ts25 ta25 tu25 tn25 tr25 tz25 tv25 tw25 tx25 tp25_0 tp25_1 tq25 ty27 tk27 ts27 ta27 tu27 tn27 tr27 tz27 tv27 td27 ty32 tk32 ts32 ta32 tb32 te32 tu32 tn32 tr32 tz32 tv32 td32 ty33 tk33 ts33 ta33 tb33 te33 tu33 tn33 tr33 tz33 tv33 td33 ty37 tk37 ts37 ta37 tu37 tn37 tr37 tz37 tv37 td37 ty74 tk74 ts74 ta74 tu74 tn74 tr74 tz74 tv74 td74 ty75 tk75 ts75 ta75 tb75 te75 tu75 tn75 tr75 tz75 tv75 td75 ty77 tk77 ts77 ta77 tu77 tn77 tr77 tz77 tv77 tw77 tx77 tp77_0 tp77_1 tp77_2 tp77_3 tp77_4 tp77_5 tp77_6 tp77_7 tq77 ty86 tk86 ts86 ta86 tu86 tn86 tr86 tz86 tv86 td86 ty88 tk88 ts88 ta88 tu88 tn88 tr88 tz88 tv88 tw88 tx88 tp88_0 tp88_1 tp88_2 tq88 ty94 tk94 ts94 ta94 tu94 tn94 tr94 tz94 tv94 tw94 tx94 tp94_0 tp94_1 tq94
def H0 : Fns := { fn := fun _ => none }
theorem H0_fn (f : FuncId) : H0.fn f = none := rfl
theorem H0_mu (d : Tmp) : H0.mu d = .no := rfl
theorem H0_hp (f : FuncId) : H0.hp f = none := rfl
theorem H0_ord (i : Nat) : H0.ord i = none := rfl
theorem H0_it (f : FuncId) : H0.it f = none := rfl
theorem H0_hy (b : Nat) : H0.hy b = none := rfl
theorem H0ok : FnsOk Try.prog H0 := FnsOk.nil _ rfl rfl
attribute [bitvec_to_nat] H0_fn H0_mu H0_hp H0_ord H0_it H0_hy
structure Act where
  kind : UInt8
  name : Name
  to : Name
  b : List UInt8
  n : Int
  w : Wreck
  deriving Inhabited
def Act.Ok (a : Act) : Prop := a.b.length ≤ 1099511627776 ∧ a.n ≤ 9223372036854775807 ∧ a.w.bytes.length ≤ 9223372036854775807
def wbV (l : List Int) : V := .list 1 (l.map fun n => .int .i64 n) none
def actV (a : Act) : V := .agg [.int .u8 a.kind.toNat, .str a.name, .str a.to, .bytes a.b none, .int .i64 a.n, .int .i64 a.w.names, wbV a.w.bytes]
def act (M : MD) (a : Act) : MD × Nat := match a.kind.toNat % 13 with
  | 0 => M.create a.name
  | 4 => M.read a.name
  | 5 => M.sync a.name
  | 6 => M.rename a.name a.to
  | 7 => M.remove a.name
  | 8 => M.syncNames
  | 9 => M.names
  | 10 => M.doom a.n
  | 11 => (M.crash a.w, 0)
  | 12 => M.grow a.n
  | _ => M.append a.name a.b
abbrev createP : PM := opP createF
abbrev readP : PM := opP readF
abbrev syncP : PM := opP syncF
abbrev renameP : PM := opP renameF
abbrev removeP : PM := opP removeF
abbrev syncNamesP : PM := opP syncNamesF
abbrev namesP : PM := opP namesF
abbrev doomP : PM := opP doomF
abbrev growP : PM := opP growF
abbrev appendP : PM := opP appendF
def H1 : Fns := { fn := fun f => H0.fn f, mu := fun d => .no, hp := fun f => if f = 38 then some createP else if f = 27 then some readP else if f = 23 then some syncP else if f = 65 then some renameP else if f = 61 then some removeP else if f = 21 then some syncNamesP else if f = 30 then some namesP else if f = 25 then some doomP else if f = 17 then some crashP else if f = 37 then some appendP else H0.hp f, ord := fun i => none, it := fun f => H0.it f }
theorem H1_fn (f : FuncId) : H1.fn f = (H0.fn f) := rfl
theorem H1_mu (d : Tmp) : H1.mu d = (.no) := rfl
theorem H1_hp (f : FuncId) : H1.hp f = (if f = 38 then some createP else if f = 27 then some readP else if f = 23 then some syncP else if f = 65 then some renameP else if f = 61 then some removeP else if f = 21 then some syncNamesP else if f = 30 then some namesP else if f = 25 then some doomP else if f = 17 then some crashP else if f = 37 then some appendP else H0.hp f) := rfl
theorem H1_ord (i : Nat) : H1.ord i = (none) := rfl
theorem H1_it (f : FuncId) : H1.it f = (H0.it f) := rfl
theorem H1_hy (b : Nat) : H1.hy b = none := rfl
theorem H1ok : FnsOk Try.prog H1 := FnsOk.same (FnsOk.consP (FnsOk.consP (FnsOk.consP (FnsOk.consP (FnsOk.consP (FnsOk.consP (FnsOk.consP (FnsOk.consP (FnsOk.consP (FnsOk.consP H0ok _ _ append_ok Try.func37 (by decide) (fun h => by cases h)) _ _ crash_sound Try.func17 (by decide) (fun h => by cases h)) _ _ doom_ok Try.func25 (by decide) (fun h => by cases h)) _ _ names_ok Try.func30 (by decide) (fun h => by cases h)) _ _ syncNames_ok Try.func21 (by decide) (fun h => by cases h)) _ _ remove_ok Try.func61 (by decide) (fun h => by cases h)) _ _ rename_ok Try.func65 (by decide) (fun h => by cases h)) _ _ sync_ok Try.func23 (by decide) (fun h => by cases h)) _ _ read_ok Try.func27 (by decide) (fun h => by cases h)) _ _ create_ok Try.func38 (by decide) (fun h => by cases h)) rfl rfl
attribute [bitvec_to_nat] H1_fn H1_mu H1_hp H1_ord H1_it H1_hy
theorem op_at {op : List V → Option (MD → MD × V)} {L : LL} {T : TT} {M : MD} {w : Own} {rest : List V} {g : MD → MD × V} {K : V → LL → TT → Prop} (hg : op rest = some g) (hd : dAt L T M w) (hs : Small M)
    (hK : ∀ L' T' w', w'.o = w.o → dAt L' T' (g M).1 w' → Step w.S w.R L T w'.S w'.R L' T' → K (g M).2 L' T') : opP op (.box w.o 0 :: rest) L T K := ⟨M, w, rest, g, rfl, hg, hd, hs, hK⟩
def doesP : PM := fun args L T K => ∃ (M : MD) (w : Own) (a : Act), args = [.box w.o 0, actV a] ∧ a.Ok ∧ dAt L T M w ∧ Small M ∧
  ∀ L' T' w', w'.o = w.o → dAt L' T' (act M a).1 w' → Step w.S w.R L T w'.S w'.R L' T' → K (codeV (act M a).2) L' T'
def Act.small (a : Act) : Prop := a.b.length ≤ 50 ∧ a.name.length ≤ 40 ∧ a.to.length ≤ 40 ∧ a.w.bytes.length ≤ 50
instance (a : Act) : Decidable a.small := by unfold Act.small; exact inferInstance
def few (l : List Act) : List Act := (l.take 100).filter fun a => decide a.small
theorem few_succ {l : List Act} {i : Nat} {a : Act} (h : l[i]? = some a) : few (l.take (i + 1)) = few (l.take i) ++ if i < 100 ∧ a.small then [a] else [] := by
  obtain ⟨hi, he⟩ := List.getElem?_eq_some_iff.1 h
  have e1 : l.take (i + 1) = l.take i ++ [a] := by rw [List.take_succ_eq_append_getElem hi, he]
  unfold few
  rw [e1]
  have hl : (l.take i).length = i := by rw [List.length_take]; omega
  by_cases h1 : i < 100
  · rw [List.take_append, List.filter_append, hl]
    have e2 : [a].take (100 - i) = [a] := by rw [List.take_of_length_le (by simp; omega)]
    rw [e2]
    congr 1
    by_cases h2 : a.small
    · rw [if_pos ⟨h1, h2⟩]; simp [h2]
    · rw [if_neg (fun h => h2 h.2)]; simp [h2]
  · rw [if_neg (fun h => h1 h.1), List.append_nil, List.take_append_of_le_length (by omega)]
theorem len_wbV (b : List Int) : (wbV b) = .list 1 (b.map fun n => .int .i64 n) none := rfl
def H2 : Fns := { fn := fun f => H1.fn f, mu := fun d => .no, hp := fun f => H1.hp f, ord := fun i => none, it := fun f => H1.it f }
theorem H2_fn (f : FuncId) : H2.fn f = (H1.fn f) := rfl
theorem H2_mu (d : Tmp) : H2.mu d = (.no) := rfl
theorem H2_hp (f : FuncId) : H2.hp f = (H1.hp f) := rfl
theorem H2_ord (i : Nat) : H2.ord i = (none) := rfl
theorem H2_it (f : FuncId) : H2.it f = (H1.it f) := rfl
theorem H2_hy (b : Nat) : H2.hy b = none := rfl
theorem H2ok : FnsOk Try.prog H2 := FnsOk.same H1ok rfl rfl
attribute [bitvec_to_nat] H2_fn H2_mu H2_hp H2_ord H2_it H2_hy
def fewP : PM := fun args L T K => ∃ l : List Act, args = [.list 7 (l.map actV) none] ∧ l.length ≤ 9223372036854775807 ∧ ∀ L' T', Step noS noS L T noS noS L' T' → K (.list 7 ((few l).map actV) none) L' T'
end Go.Proofs.Ytpncnionnfomeaa.DiskL
