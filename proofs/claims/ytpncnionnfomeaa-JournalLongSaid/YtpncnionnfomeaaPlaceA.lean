import Derived.Test.YtpncnionnfomeaaAwX
import Derived.Test.YtpncnionnfomeaaDiskV
namespace Go.Proofs.Ytpncnionnfomeaa.Place
open Go Go.Proofs Go.Proofs.Ytpncnionnfomeaa.Aw Go.Proofs.Ytpncnionnfomeaa.Num Go.Proofs.Ytpncnionnfomeaa.DiskM Go.Proofs.Ytpncnionnfomeaa.DiskA Go.Proofs.Ytpncnionnfomeaa.DiskK Go.Proofs.Ytpncnionnfomeaa.DiskC Go.Proofs.Ytpncnionnfomeaa.Disk Go.Proofs.Ytpncnionnfomeaa.DiskL
set_option linter.unusedSimpArgs false
set_option linter.unusedVariables false
def tys : Tys := fun t => if t = 3 then some ⟨.int .i64, 1, 8, (.int .i64 0)⟩ else if t = 4 then some ⟨.bool, 1, 1, (.bool false)⟩ else if t = 5 then some ⟨.int .u8, 1, 1, (.int .u8 0)⟩ else if t = 9 then some ⟨.str, 1, 16, (.string .empty)⟩ else if t = 27 then some ⟨.ptr 77, 1, 8, (.pointer none)⟩ else if t = 32 then some ⟨.slice 5, 1, 24, (.slice none 0 0)⟩ else if t = 33 then some ⟨.slice 9, 1, 24, (.slice none 0 0)⟩ else if t = 37 then some ⟨.int .i64, 1, 8, (.int .i64 0)⟩ else if t = 44 then some ⟨.func, 1, 8, .nilFunc⟩ else if t = 74 then some ⟨.map 9 86, 1, 8, (.map none)⟩ else if t = 75 then some ⟨.slice 88, 1, 24, (.slice none 0 0)⟩ else if t = 77 then some ⟨.struct [(0, 3), (1, 3), (2, 74), (3, 74), (4, 75), (5, 4), (6, 4), (7, 3)], 8, 72, (.agg #[(.int .i64 0), (.int .i64 0), (.map none), (.map none), (.slice none 0 0), (.bool false), (.bool false), (.int .i64 0)])⟩ else if t = 86 then some ⟨.ptr 94, 1, 8, (.pointer none)⟩ else if t = 88 then some ⟨.struct [(0, 9), (1, 9), (2, 86)], 3, 40, (.agg #[(.string .empty), (.string .empty), (.pointer none)])⟩ else if t = 109 then some ⟨.func, 1, 8, .nilFunc⟩ else if t = 114 then some ⟨.slice 109, 1, 24, (.slice none 0 0)⟩ else none
theorem tysOk : TyOk Try.prog tys := by
  refine TyOk.cons ?_ 3 _ (by kernel_rfl) (by kernel_rfl)
  refine TyOk.cons ?_ 4 _ (by kernel_rfl) (by kernel_rfl)
  refine TyOk.cons ?_ 5 _ (by kernel_rfl) (by kernel_rfl)
  refine TyOk.cons ?_ 9 _ (by kernel_rfl) (by kernel_rfl)
  refine TyOk.cons ?_ 27 _ (by kernel_rfl) (by kernel_rfl)
  refine TyOk.cons ?_ 32 _ (by kernel_rfl) (by kernel_rfl)
  refine TyOk.cons ?_ 33 _ (by kernel_rfl) (by kernel_rfl)
  refine TyOk.cons ?_ 37 _ (by kernel_rfl) (by kernel_rfl)
  refine TyOk.cons ?_ 44 _ (by kernel_rfl) (by kernel_rfl)
  refine TyOk.cons ?_ 74 _ (by kernel_rfl) (by kernel_rfl)
  refine TyOk.cons ?_ 75 _ (by kernel_rfl) (by kernel_rfl)
  refine TyOk.cons ?_ 77 _ (by kernel_rfl) (by kernel_rfl)
  refine TyOk.cons ?_ 86 _ (by kernel_rfl) (by kernel_rfl)
  refine TyOk.cons ?_ 88 _ (by kernel_rfl) (by kernel_rfl)
  refine TyOk.cons ?_ 109 _ (by kernel_rfl) (by kernel_rfl)
  refine TyOk.cons ?_ 114 _ (by kernel_rfl) (by kernel_rfl)
  exact TyOk.nil _
theorem mix : Try.prog.follows .mixedOrders = true := by kernel_rfl
theorem ty3 : tys 3 = some ⟨.int .i64, 1, 8, (.int .i64 0)⟩ := rfl
theorem tk3 : kindV tys 3 = some (.int .i64) := rfl
theorem ts3 : sizeV tys 3 = 1 := rfl
theorem ta3 : TyI.isAgg ⟨.int .i64, 1, 8, (.int .i64 0)⟩ = false := rfl
theorem tu3 : isU8 ⟨.int .i64, 1, 8, (.int .i64 0)⟩ = false := rfl
theorem tn3 : notIntK tys 3 = false := rfl
theorem tr3 : isStrK tys 3 = false := rfl
theorem tz3 : zeroOk ⟨.int .i64, 1, 8, (.int .i64 0)⟩ = true := by kernel_rfl
theorem tv3 : zeroU8 ⟨.int .i64, 1, 8, (.int .i64 0)⟩ = false := rfl
theorem td3 : TyI.zeroV ⟨.int .i64, 1, 8, (.int .i64 0)⟩ = V.ofV1 (.int .i64 0) := rfl
theorem ty4 : tys 4 = some ⟨.bool, 1, 1, (.bool false)⟩ := rfl
theorem tk4 : kindV tys 4 = some (.bool) := rfl
theorem ts4 : sizeV tys 4 = 1 := rfl
theorem ta4 : TyI.isAgg ⟨.bool, 1, 1, (.bool false)⟩ = false := rfl
theorem tu4 : isU8 ⟨.bool, 1, 1, (.bool false)⟩ = false := rfl
theorem tn4 : notIntK tys 4 = true := rfl
theorem tr4 : isStrK tys 4 = false := rfl
theorem tz4 : zeroOk ⟨.bool, 1, 1, (.bool false)⟩ = true := by kernel_rfl
theorem tv4 : zeroU8 ⟨.bool, 1, 1, (.bool false)⟩ = false := rfl
theorem td4 : TyI.zeroV ⟨.bool, 1, 1, (.bool false)⟩ = V.ofV1 (.bool false) := rfl
theorem ty5 : tys 5 = some ⟨.int .u8, 1, 1, (.int .u8 0)⟩ := rfl
theorem tk5 : kindV tys 5 = some (.int .u8) := rfl
theorem ts5 : sizeV tys 5 = 1 := rfl
theorem ta5 : TyI.isAgg ⟨.int .u8, 1, 1, (.int .u8 0)⟩ = false := rfl
theorem tu5 : isU8 ⟨.int .u8, 1, 1, (.int .u8 0)⟩ = true := rfl
theorem tn5 : notIntK tys 5 = false := rfl
theorem tr5 : isStrK tys 5 = false := rfl
theorem tz5 : zeroOk ⟨.int .u8, 1, 1, (.int .u8 0)⟩ = true := by kernel_rfl
theorem tv5 : zeroU8 ⟨.int .u8, 1, 1, (.int .u8 0)⟩ = true := rfl
theorem td5 : TyI.zeroV ⟨.int .u8, 1, 1, (.int .u8 0)⟩ = V.ofV1 (.int .u8 0) := rfl
theorem ty9 : tys 9 = some ⟨.str, 1, 16, (.string .empty)⟩ := rfl
theorem tk9 : kindV tys 9 = some (.str) := rfl
theorem ts9 : sizeV tys 9 = 1 := rfl
theorem ta9 : TyI.isAgg ⟨.str, 1, 16, (.string .empty)⟩ = false := rfl
theorem tu9 : isU8 ⟨.str, 1, 16, (.string .empty)⟩ = false := rfl
theorem tn9 : notIntK tys 9 = true := rfl
theorem tr9 : isStrK tys 9 = true := rfl
theorem tz9 : zeroOk ⟨.str, 1, 16, (.string .empty)⟩ = true := by kernel_rfl
theorem tv9 : zeroU8 ⟨.str, 1, 16, (.string .empty)⟩ = false := rfl
theorem td9 : TyI.zeroV ⟨.str, 1, 16, (.string .empty)⟩ = V.ofV1 (.string .empty) := rfl
theorem ty27 : tys 27 = some ⟨.ptr 77, 1, 8, (.pointer none)⟩ := rfl
theorem tk27 : kindV tys 27 = some (.ptr 77) := rfl
theorem ts27 : sizeV tys 27 = 1 := rfl
theorem ta27 : TyI.isAgg ⟨.ptr 77, 1, 8, (.pointer none)⟩ = false := rfl
theorem tu27 : isU8 ⟨.ptr 77, 1, 8, (.pointer none)⟩ = false := rfl
theorem tn27 : notIntK tys 27 = true := rfl
theorem tr27 : isStrK tys 27 = false := rfl
theorem tz27 : zeroOk ⟨.ptr 77, 1, 8, (.pointer none)⟩ = true := by kernel_rfl
theorem tv27 : zeroU8 ⟨.ptr 77, 1, 8, (.pointer none)⟩ = false := rfl
theorem td27 : TyI.zeroV ⟨.ptr 77, 1, 8, (.pointer none)⟩ = V.ofV1 (.pointer none) := rfl
theorem ty32 : tys 32 = some ⟨.slice 5, 1, 24, (.slice none 0 0)⟩ := rfl
theorem tk32 : kindV tys 32 = some (.slice 5) := rfl
theorem ts32 : sizeV tys 32 = 1 := rfl
theorem ta32 : TyI.isAgg ⟨.slice 5, 1, 24, (.slice none 0 0)⟩ = false := rfl
theorem tb32 : isBytes tys 32 = true := rfl
theorem te32 : elemI tys 32 = some (5, ⟨.int .u8, 1, 1, (.int .u8 0)⟩) := rfl
theorem tu32 : isU8 ⟨.slice 5, 1, 24, (.slice none 0 0)⟩ = false := rfl
theorem tn32 : notIntK tys 32 = true := rfl
theorem tr32 : isStrK tys 32 = false := rfl
theorem tz32 : zeroOk ⟨.slice 5, 1, 24, (.slice none 0 0)⟩ = true := by kernel_rfl
theorem tv32 : zeroU8 ⟨.slice 5, 1, 24, (.slice none 0 0)⟩ = false := rfl
theorem td32 : TyI.zeroV ⟨.slice 5, 1, 24, (.slice none 0 0)⟩ = V.ofV1 (.slice none 0 0) := rfl
theorem ty33 : tys 33 = some ⟨.slice 9, 1, 24, (.slice none 0 0)⟩ := rfl
theorem tk33 : kindV tys 33 = some (.slice 9) := rfl
theorem ts33 : sizeV tys 33 = 1 := rfl
theorem ta33 : TyI.isAgg ⟨.slice 9, 1, 24, (.slice none 0 0)⟩ = false := rfl
theorem tb33 : isBytes tys 33 = false := rfl
theorem te33 : elemI tys 33 = some (9, ⟨.str, 1, 16, (.string .empty)⟩) := rfl
theorem tu33 : isU8 ⟨.slice 9, 1, 24, (.slice none 0 0)⟩ = false := rfl
theorem tn33 : notIntK tys 33 = true := rfl
theorem tr33 : isStrK tys 33 = false := rfl
theorem tz33 : zeroOk ⟨.slice 9, 1, 24, (.slice none 0 0)⟩ = true := by kernel_rfl
theorem tv33 : zeroU8 ⟨.slice 9, 1, 24, (.slice none 0 0)⟩ = false := rfl
theorem td33 : TyI.zeroV ⟨.slice 9, 1, 24, (.slice none 0 0)⟩ = V.ofV1 (.slice none 0 0) := rfl
theorem ty37 : tys 37 = some ⟨.int .i64, 1, 8, (.int .i64 0)⟩ := rfl
theorem tk37 : kindV tys 37 = some (.int .i64) := rfl
theorem ts37 : sizeV tys 37 = 1 := rfl
theorem ta37 : TyI.isAgg ⟨.int .i64, 1, 8, (.int .i64 0)⟩ = false := rfl
theorem tu37 : isU8 ⟨.int .i64, 1, 8, (.int .i64 0)⟩ = false := rfl
theorem tn37 : notIntK tys 37 = false := rfl
theorem tr37 : isStrK tys 37 = false := rfl
theorem tz37 : zeroOk ⟨.int .i64, 1, 8, (.int .i64 0)⟩ = true := by kernel_rfl
theorem tv37 : zeroU8 ⟨.int .i64, 1, 8, (.int .i64 0)⟩ = false := rfl
theorem td37 : TyI.zeroV ⟨.int .i64, 1, 8, (.int .i64 0)⟩ = V.ofV1 (.int .i64 0) := rfl
theorem ty44 : tys 44 = some ⟨.func, 1, 8, .nilFunc⟩ := rfl
theorem tk44 : kindV tys 44 = some (.func) := rfl
theorem ts44 : sizeV tys 44 = 1 := rfl
theorem ta44 : TyI.isAgg ⟨.func, 1, 8, .nilFunc⟩ = false := rfl
theorem tu44 : isU8 ⟨.func, 1, 8, .nilFunc⟩ = false := rfl
theorem tn44 : notIntK tys 44 = true := rfl
theorem tr44 : isStrK tys 44 = false := rfl
theorem tz44 : zeroOk ⟨.func, 1, 8, .nilFunc⟩ = true := by kernel_rfl
theorem tv44 : zeroU8 ⟨.func, 1, 8, .nilFunc⟩ = false := rfl
theorem td44 : TyI.zeroV ⟨.func, 1, 8, .nilFunc⟩ = V.ofV1 .nilFunc := rfl
theorem ty74 : tys 74 = some ⟨.map 9 86, 1, 8, (.map none)⟩ := rfl
theorem tk74 : kindV tys 74 = some (.map 9 86) := rfl
theorem ts74 : sizeV tys 74 = 1 := rfl
theorem ta74 : TyI.isAgg ⟨.map 9 86, 1, 8, (.map none)⟩ = false := rfl
theorem tu74 : isU8 ⟨.map 9 86, 1, 8, (.map none)⟩ = false := rfl
theorem tn74 : notIntK tys 74 = true := rfl
theorem tr74 : isStrK tys 74 = false := rfl
theorem tz74 : zeroOk ⟨.map 9 86, 1, 8, (.map none)⟩ = true := by kernel_rfl
theorem tv74 : zeroU8 ⟨.map 9 86, 1, 8, (.map none)⟩ = false := rfl
theorem td74 : TyI.zeroV ⟨.map 9 86, 1, 8, (.map none)⟩ = V.ofV1 (.map none) := rfl
theorem ty75 : tys 75 = some ⟨.slice 88, 1, 24, (.slice none 0 0)⟩ := rfl
theorem tk75 : kindV tys 75 = some (.slice 88) := rfl
theorem ts75 : sizeV tys 75 = 1 := rfl
theorem ta75 : TyI.isAgg ⟨.slice 88, 1, 24, (.slice none 0 0)⟩ = false := rfl
theorem tb75 : isBytes tys 75 = false := rfl
theorem te75 : elemI tys 75 = some (88, ⟨.struct [(0, 9), (1, 9), (2, 86)], 3, 40, (.agg #[(.string .empty), (.string .empty), (.pointer none)])⟩) := rfl
theorem tu75 : isU8 ⟨.slice 88, 1, 24, (.slice none 0 0)⟩ = false := rfl
theorem tn75 : notIntK tys 75 = true := rfl
theorem tr75 : isStrK tys 75 = false := rfl
theorem tz75 : zeroOk ⟨.slice 88, 1, 24, (.slice none 0 0)⟩ = true := by kernel_rfl
theorem tv75 : zeroU8 ⟨.slice 88, 1, 24, (.slice none 0 0)⟩ = false := rfl
theorem td75 : TyI.zeroV ⟨.slice 88, 1, 24, (.slice none 0 0)⟩ = V.ofV1 (.slice none 0 0) := rfl
theorem ty77 : tys 77 = some ⟨.struct [(0, 3), (1, 3), (2, 74), (3, 74), (4, 75), (5, 4), (6, 4), (7, 3)], 8, 72, (.agg #[(.int .i64 0), (.int .i64 0), (.map none), (.map none), (.slice none 0 0), (.bool false), (.bool false), (.int .i64 0)])⟩ := rfl
theorem tk77 : kindV tys 77 = some (.struct [(0, 3), (1, 3), (2, 74), (3, 74), (4, 75), (5, 4), (6, 4), (7, 3)]) := rfl
theorem ts77 : sizeV tys 77 = 8 := rfl
theorem ta77 : TyI.isAgg ⟨.struct [(0, 3), (1, 3), (2, 74), (3, 74), (4, 75), (5, 4), (6, 4), (7, 3)], 8, 72, (.agg #[(.int .i64 0), (.int .i64 0), (.map none), (.map none), (.slice none 0 0), (.bool false), (.bool false), (.int .i64 0)])⟩ = true := rfl
theorem tu77 : isU8 ⟨.struct [(0, 3), (1, 3), (2, 74), (3, 74), (4, 75), (5, 4), (6, 4), (7, 3)], 8, 72, (.agg #[(.int .i64 0), (.int .i64 0), (.map none), (.map none), (.slice none 0 0), (.bool false), (.bool false), (.int .i64 0)])⟩ = false := rfl
theorem tn77 : notIntK tys 77 = true := rfl
theorem tr77 : isStrK tys 77 = false := rfl
theorem tz77 : zeroOk ⟨.struct [(0, 3), (1, 3), (2, 74), (3, 74), (4, 75), (5, 4), (6, 4), (7, 3)], 8, 72, (.agg #[(.int .i64 0), (.int .i64 0), (.map none), (.map none), (.slice none 0 0), (.bool false), (.bool false), (.int .i64 0)])⟩ = true := by kernel_rfl
theorem tv77 : zeroU8 ⟨.struct [(0, 3), (1, 3), (2, 74), (3, 74), (4, 75), (5, 4), (6, 4), (7, 3)], 8, 72, (.agg #[(.int .i64 0), (.int .i64 0), (.map none), (.map none), (.slice none 0 0), (.bool false), (.bool false), (.int .i64 0)])⟩ = false := rfl
theorem tc77 : V.ofV (.agg #[(.int .i64 0), (.int .i64 0), (.map none), (.map none), (.slice none 0 0), (.bool false), (.bool false), (.int .i64 0)]) = .agg [V.ofV1 (.int .i64 0), V.ofV1 (.int .i64 0), V.ofV1 (.map none), V.ofV1 (.map none), V.ofV1 (.slice none 0 0), V.ofV1 (.bool false), V.ofV1 (.bool false), V.ofV1 (.int .i64 0)] := by kernel_rfl
theorem tw77 : Value.oneCell' (.agg #[(.int .i64 0), (.int .i64 0), (.map none), (.map none), (.slice none 0 0), (.bool false), (.bool false), (.int .i64 0)]) = false := rfl
theorem tx77 : (#[(.int .i64 0), (.int .i64 0), (.map none), (.map none), (.slice none 0 0), (.bool false), (.bool false), (.int .i64 0)] : Array Value).all (fun x => x.oneCell') 0 8 = true := by kernel_rfl
theorem td77 : TyI.zeroV ⟨.struct [(0, 3), (1, 3), (2, 74), (3, 74), (4, 75), (5, 4), (6, 4), (7, 3)], 8, 72, (.agg #[(.int .i64 0), (.int .i64 0), (.map none), (.map none), (.slice none 0 0), (.bool false), (.bool false), (.int .i64 0)])⟩ = .agg [V.ofV1 (.int .i64 0), V.ofV1 (.int .i64 0), V.ofV1 (.map none), V.ofV1 (.map none), V.ofV1 (.slice none 0 0), V.ofV1 (.bool false), V.ofV1 (.bool false), V.ofV1 (.int .i64 0)] := by kernel_rfl
theorem tp77_0 : placeV tys [(0, 3), (1, 3), (2, 74), (3, 74), (4, 75), (5, 4), (6, 4), (7, 3)] 0 = some (0, 1) := rfl
theorem tp77_1 : placeV tys [(0, 3), (1, 3), (2, 74), (3, 74), (4, 75), (5, 4), (6, 4), (7, 3)] 1 = some (1, 1) := rfl
theorem tp77_2 : placeV tys [(0, 3), (1, 3), (2, 74), (3, 74), (4, 75), (5, 4), (6, 4), (7, 3)] 2 = some (2, 1) := rfl
theorem tp77_3 : placeV tys [(0, 3), (1, 3), (2, 74), (3, 74), (4, 75), (5, 4), (6, 4), (7, 3)] 3 = some (3, 1) := rfl
theorem tp77_4 : placeV tys [(0, 3), (1, 3), (2, 74), (3, 74), (4, 75), (5, 4), (6, 4), (7, 3)] 4 = some (4, 1) := rfl
theorem tp77_5 : placeV tys [(0, 3), (1, 3), (2, 74), (3, 74), (4, 75), (5, 4), (6, 4), (7, 3)] 5 = some (5, 1) := rfl
theorem tp77_6 : placeV tys [(0, 3), (1, 3), (2, 74), (3, 74), (4, 75), (5, 4), (6, 4), (7, 3)] 6 = some (6, 1) := rfl
theorem tp77_7 : placeV tys [(0, 3), (1, 3), (2, 74), (3, 74), (4, 75), (5, 4), (6, 4), (7, 3)] 7 = some (7, 1) := rfl
theorem tq77 : ([(0, 3), (1, 3), (2, 74), (3, 74), (4, 75), (5, 4), (6, 4), (7, 3)].all (fun f => (tys f.2).isSome)) = true := rfl
theorem ty86 : tys 86 = some ⟨.ptr 94, 1, 8, (.pointer none)⟩ := rfl
theorem tk86 : kindV tys 86 = some (.ptr 94) := rfl
theorem ts86 : sizeV tys 86 = 1 := rfl
theorem ta86 : TyI.isAgg ⟨.ptr 94, 1, 8, (.pointer none)⟩ = false := rfl
theorem tu86 : isU8 ⟨.ptr 94, 1, 8, (.pointer none)⟩ = false := rfl
theorem tn86 : notIntK tys 86 = true := rfl
theorem tr86 : isStrK tys 86 = false := rfl
theorem tz86 : zeroOk ⟨.ptr 94, 1, 8, (.pointer none)⟩ = true := by kernel_rfl
theorem tv86 : zeroU8 ⟨.ptr 94, 1, 8, (.pointer none)⟩ = false := rfl
theorem td86 : TyI.zeroV ⟨.ptr 94, 1, 8, (.pointer none)⟩ = V.ofV1 (.pointer none) := rfl
theorem ty88 : tys 88 = some ⟨.struct [(0, 9), (1, 9), (2, 86)], 3, 40, (.agg #[(.string .empty), (.string .empty), (.pointer none)])⟩ := rfl
theorem tk88 : kindV tys 88 = some (.struct [(0, 9), (1, 9), (2, 86)]) := rfl
theorem ts88 : sizeV tys 88 = 3 := rfl
theorem ta88 : TyI.isAgg ⟨.struct [(0, 9), (1, 9), (2, 86)], 3, 40, (.agg #[(.string .empty), (.string .empty), (.pointer none)])⟩ = true := rfl
theorem tu88 : isU8 ⟨.struct [(0, 9), (1, 9), (2, 86)], 3, 40, (.agg #[(.string .empty), (.string .empty), (.pointer none)])⟩ = false := rfl
theorem tn88 : notIntK tys 88 = true := rfl
theorem tr88 : isStrK tys 88 = false := rfl
theorem tz88 : zeroOk ⟨.struct [(0, 9), (1, 9), (2, 86)], 3, 40, (.agg #[(.string .empty), (.string .empty), (.pointer none)])⟩ = true := by kernel_rfl
theorem tv88 : zeroU8 ⟨.struct [(0, 9), (1, 9), (2, 86)], 3, 40, (.agg #[(.string .empty), (.string .empty), (.pointer none)])⟩ = false := rfl
theorem tc88 : V.ofV (.agg #[(.string .empty), (.string .empty), (.pointer none)]) = .agg [V.ofV1 (.string .empty), V.ofV1 (.string .empty), V.ofV1 (.pointer none)] := by kernel_rfl
theorem tw88 : Value.oneCell' (.agg #[(.string .empty), (.string .empty), (.pointer none)]) = false := rfl
theorem tx88 : (#[(.string .empty), (.string .empty), (.pointer none)] : Array Value).all (fun x => x.oneCell') 0 3 = true := by kernel_rfl
theorem td88 : TyI.zeroV ⟨.struct [(0, 9), (1, 9), (2, 86)], 3, 40, (.agg #[(.string .empty), (.string .empty), (.pointer none)])⟩ = .agg [V.ofV1 (.string .empty), V.ofV1 (.string .empty), V.ofV1 (.pointer none)] := by kernel_rfl
theorem tp88_0 : placeV tys [(0, 9), (1, 9), (2, 86)] 0 = some (0, 1) := rfl
theorem tp88_1 : placeV tys [(0, 9), (1, 9), (2, 86)] 1 = some (1, 1) := rfl
theorem tp88_2 : placeV tys [(0, 9), (1, 9), (2, 86)] 2 = some (2, 1) := rfl
theorem tq88 : ([(0, 9), (1, 9), (2, 86)].all (fun f => (tys f.2).isSome)) = true := rfl
theorem ty109 : tys 109 = some ⟨.func, 1, 8, .nilFunc⟩ := rfl
theorem tk109 : kindV tys 109 = some (.func) := rfl
theorem ts109 : sizeV tys 109 = 1 := rfl
theorem ta109 : TyI.isAgg ⟨.func, 1, 8, .nilFunc⟩ = false := rfl
theorem tu109 : isU8 ⟨.func, 1, 8, .nilFunc⟩ = false := rfl
theorem tn109 : notIntK tys 109 = true := rfl
theorem tr109 : isStrK tys 109 = false := rfl
theorem tz109 : zeroOk ⟨.func, 1, 8, .nilFunc⟩ = true := by kernel_rfl
theorem tv109 : zeroU8 ⟨.func, 1, 8, .nilFunc⟩ = false := rfl
theorem td109 : TyI.zeroV ⟨.func, 1, 8, .nilFunc⟩ = V.ofV1 .nilFunc := rfl
theorem ty114 : tys 114 = some ⟨.slice 109, 1, 24, (.slice none 0 0)⟩ := rfl
theorem tk114 : kindV tys 114 = some (.slice 109) := rfl
theorem ts114 : sizeV tys 114 = 1 := rfl
theorem ta114 : TyI.isAgg ⟨.slice 109, 1, 24, (.slice none 0 0)⟩ = false := rfl
theorem tb114 : isBytes tys 114 = false := rfl
theorem te114 : elemI tys 114 = some (109, ⟨.func, 1, 8, .nilFunc⟩) := rfl
theorem tu114 : isU8 ⟨.slice 109, 1, 24, (.slice none 0 0)⟩ = false := rfl
theorem tn114 : notIntK tys 114 = true := rfl
theorem tr114 : isStrK tys 114 = false := rfl
theorem tz114 : zeroOk ⟨.slice 109, 1, 24, (.slice none 0 0)⟩ = true := by kernel_rfl
theorem tv114 : zeroU8 ⟨.slice 109, 1, 24, (.slice none 0 0)⟩ = false := rfl
theorem td114 : TyI.zeroV ⟨.slice 109, 1, 24, (.slice none 0 0)⟩ = V.ofV1 (.slice none 0 0) := rfl
set_option linter.defProp false in
def tcd := And.intro @r_ifTrue (And.intro @r_ifFalse (And.intro tc77 (And.intro td77 (And.intro tc88 (td88)))))
attribute [bitvec_to_nat] ty3 tk3 ts3 ta3 tu3 tn3 tr3 tz3 tv3 td3 ty4 tk4 ts4 ta4 tu4 tn4 tr4 tz4 tv4 td4 ty5 tk5 ts5 ta5 tu5 tn5 tr5 tz5 tv5 td5 ty9 tk9 ts9 ta9 tu9 tn9 tr9 tz9 tv9 td9 ty27 tk27 ts27 ta27 tu27 tn27 tr27 tz27 tv27 td27 ty32 tk32 ts32 ta32 tb32 te32 tu32 tn32 tr32 tz32 tv32 td32 ty33 tk33 ts33 ta33 tb33 te33 tu33 tn33 tr33 tz33 tv33 td33 ty37 tk37 ts37 ta37 tu37 tn37 tr37 tz37 tv37 td37 ty44 tk44 ts44 ta44 tu44 tn44 tr44 tz44 tv44 td44 ty74 tk74 ts74 ta74 tu74 tn74 tr74 tz74 tv74 td74 ty75 tk75 ts75 ta75 tb75 te75 tu75 tn75 tr75 tz75 tv75 td75 ty77 tk77 ts77 ta77 tu77 tn77 tr77 tz77 tv77 tw77 tx77 tp77_0 tp77_1 tp77_2 tp77_3 tp77_4 tp77_5 tp77_6 tp77_7 tq77 ty86 tk86 ts86 ta86 tu86 tn86 tr86 tz86 tv86 td86 ty88 tk88 ts88 ta88 tu88 tn88 tr88 tz88 tv88 tw88 tx88 tp88_0 tp88_1 tp88_2 tq88 ty109 tk109 ts109 ta109 tu109 tn109 tr109 tz109 tv109 td109 ty114 tk114 ts114 ta114 tb114 te114 tu114 tn114 tr114 tz114 tv114 td114
def P0 : Fns := { fn := fun _ => none }
theorem P0_fn (f : FuncId) : P0.fn f = none := rfl
theorem P0_mu (d : Tmp) : P0.mu d = .no := rfl
theorem P0_hp (f : FuncId) : P0.hp f = none := rfl
theorem P0_ord (i : Nat) : P0.ord i = none := rfl
theorem P0_it (f : FuncId) : P0.it f = none := rfl
theorem P0_hy (b : Nat) : P0.hy b = none := rfl
theorem P0ok : FnsOk Try.prog P0 := FnsOk.nil _ rfl rfl
attribute [bitvec_to_nat] P0_fn P0_mu P0_hp P0_ord P0_it P0_hy
def GH (H : FuncId → Option PM) : Fns := { fn := fun _ => none, hp := H }
section
variable (H : FuncId → Option PM)
theorem GH_fn (f : FuncId) : (GH H).fn f = none := rfl
theorem GH_mu (d : Tmp) : (GH H).mu d = .no := rfl
theorem GH_hp (f : FuncId) : (GH H).hp f = H f := rfl
theorem GH_ord (i : Nat) : (GH H).ord i = none := rfl
theorem GH_it (f : FuncId) : (GH H).it f = none := rfl
theorem GH_hy (b : Nat) : (GH H).hy b = none := rfl
end
attribute [bitvec_to_nat] GH_fn GH_mu GH_hp GH_ord GH_it GH_hy
def callV (H : FuncId → Option PM) (v : V) (xs : List V) (L : LL) (T : TT) (K : V → LL → TT → Prop) : Prop :=
  match v with
  | .fn (.func f) first cap => match H f with
    | some m => m (first ++ xs ++ cap) L T K
    | none => False
  | _ => False
theorem callV_inv {H : FuncId → Option PM} {v : V} {xs : List V} {L : LL} {T : TT} {K : V → LL → TT → Prop} (h : callV H v xs L T K) :
    ∃ f first cap m, v = .fn (.func f) first cap ∧ H f = some m ∧ m (first ++ xs ++ cap) L T K := by
  unfold callV at h
  split at h
  · rename_i f first cap
    split at h
    · rename_i m hm; exact ⟨f, first, cap, m, rfl, hm, h⟩
    · exact h.elim
  · exact h.elim
theorem up_ok {f : FuncId} {m : PM} (h : PSound Try.prog f m) : PSound Try.prog f (up m) := h.up
structure HOk (H : FuncId → Option PM) : Prop where
  fns : FnsOk Try.prog (GH H)
  mono : ∀ f m, H f = some m → Mono m
theorem callV_mono {H : FuncId → Option PM} (hH : HOk H) {v : V} {xs : List V} {L : LL} {T : TT} {K K' : V → LL → TT → Prop} (h : callV H v xs L T K) (hK : ∀ r L' T', K r L' T' → K' r L' T') : callV H v xs L T K' := by
  obtain ⟨f, first, cap, m, rfl, hf, hc⟩ := callV_inv h
  simp only [callV, hf]
  exact hH.mono f m hf _ _ _ _ _ hK hc
def toP : PM := fun args L T K => ∃ n f first cap, args = [.str n, .fn (.func f) first cap] ∧ K (.fn (.func 92) [] [.box (L ++ [[V.str n]]).length 0, .box L.length 0]) (L ++ [[.str n]] ++ [[.fn (.func f) first cap]]) T
theorem to_ok : PSound Try.prog 60 toP := by
  refine psound tysOk P0ok mix Try.func60 rfl ?_
  intro args L T K hm
  obtain ⟨n, f, first, cap, rfl, hK⟩ := hm
  simp (maxSteps:=2000000) only[bitvec_to_nat,seval,↓tcd,Try.f60]
  exact ret_of (((Step.refl noS noS L T).app _).app _) hK
def butP : PM := fun args L T K => ∃ c f first cap, args = [codeV c, .fn (.func f) first cap] ∧ K (.fn (.func 91) [] [.box (L ++ [[codeV c]]).length 0, .box L.length 0]) (L ++ [[codeV c]] ++ [[.fn (.func f) first cap]]) T
theorem but_ok : PSound Try.prog 59 butP := by
  refine psound tysOk P0ok mix Try.func59 rfl ?_
  intro args L T K hm
  obtain ⟨c, f, first, cap, rfl, hK⟩ := hm
  simp (maxSteps:=2000000) only[bitvec_to_nat,seval,↓tcd,Try.f59,code_V]
  exact ret_of (((Step.refl noS noS L T).app _).app _) hK
def to1P (H : FuncId → Option PM) : PM := fun args L T K => ∃ bv bn n v, args = [.box bv 0, .box bn 0] ∧ L[bv]? = some [v] ∧ v.isAgg = false ∧ L[bn]? = some [.str n] ∧
  callV H v [.str n] L T fun r L' T' => L.length ≤ L'.length ∧ T.length ≤ T'.length ∧ K r L' T'
theorem to1_ok (H : FuncId → Option PM) (hH : HOk H) : PSound Try.prog 92 (to1P H) := by
  refine psound tysOk hH.fns mix Try.func92 rfl ?_
  intro args L T K hm
  obtain ⟨bv, bn, n, v, rfl, h1, hv, h2, hc⟩ := hm
  obtain ⟨f, first, cap, m, rfl, hf, hc⟩ := callV_inv hc
  simp (maxSteps:=2000000) only[bitvec_to_nat,seval,↓tcd,Try.f92,h1,h2,hf]
  exact hH.mono f m hf _ _ _ _ _ (fun r L' T' ⟨g1, g2, hk⟩ => ⟨r, r, L', T', rfl, ⟨g1, g2⟩, St.le_self _, hk⟩) hc
def but1P (H : FuncId → Option PM) : PM := fun args L T K => ∃ bv bc c v, args = [.box bv 0, .box bc 0] ∧ L[bv]? = some [v] ∧ v.isAgg = false ∧ L[bc]? = some [codeV c] ∧
  callV H v [] L T fun r L' T' => L.length ≤ L'.length ∧ T.length ≤ T'.length ∧ L'[bc]? = some [codeV c] ∧ ∃ d : Nat, r = codeV d ∧ K (codeV (if d = c then 0 else d)) L' T'
theorem but1_ok (H : FuncId → Option PM) (hH : HOk H) : PSound Try.prog 91 (but1P H) := by
  refine psound tysOk hH.fns mix Try.func91 rfl ?_
  intro args L T K hm
  obtain ⟨bv, bc, c, v, rfl, h1, hv, h2, hc⟩ := hm
  obtain ⟨f, first, cap, m, rfl, hf, hc⟩ := callV_inv hc
  simp (maxSteps:=2000000) only[bitvec_to_nat,seval,↓tcd,Try.f91,h1,h2,hf]
  rw [List.append_nil] at hc
  refine hH.mono f m hf _ _ _ _ _ (fun r L' T' ⟨g1, g2, h3, d, hd, hk⟩ => ?_) hc
  rw [code_V] at h3
  rw [hd, code_V]
  by_cases hdc : d = c
  · have hcc : decide ((d : Int) = (c : Int)) = true := decide_eq_true (by omega)
    rw [if_pos hdc] at hk
    simp (maxSteps:=2000000) only[bitvec_to_nat,seval,↓tcd,h3,hcc]
    exact ⟨_, _, L', T', rfl, ⟨g1, g2⟩, St.le_self _, hk⟩
  · have hcc : decide ((d : Int) = (c : Int)) = false := decide_eq_false (by omega)
    rw [if_neg hdc] at hk
    simp (maxSteps:=2000000) only[bitvec_to_nat,seval,↓tcd,h3,hcc]
    exact ⟨_, _, L', T', rfl, ⟨g1, g2⟩, St.le_self _, hk⟩
def stepsK (H : FuncId → Option PM) : List V → LL → TT → (V → LL → TT → Prop) → Prop
  | [], L, T, K => K (codeV 0) L T
  | v :: vs, L, T, K => callV H v [] L T fun r L' T' => L.length ≤ L'.length ∧ T.length ≤ T'.length ∧ ∃ c : Nat, r = codeV c ∧ if c = 0 then stepsK H vs L' T' K else K (codeV c) L' T'
def inOrderP (H : FuncId → Option PM) : PM := fun args L T K => ∃ vs t, args = [.list 1 vs t] ∧ vs.length ≤ 1099511627776 ∧ stepsK H vs L T K
set_option maxHeartbeats 1000000 in
theorem inOrder_ok (H : FuncId → Option PM) (hH : HOk H) : PSound Try.prog 58 (inOrderP H) := by
  refine psound tysOk hH.fns mix Try.func58 rfl ?_
  intro args L T K hm
  obtain ⟨vs, t, rfl, hlen, hst⟩ := hm
  simp (maxSteps:=2000000) only[bitvec_to_nat,seval,↓tcd,Try.f58]
  refine awpLoop_intro (α := {q : Nat × LL × TT // q.1 ≤ vs.length ∧ L.length ≤ q.2.1.length ∧ T.length ≤ q.2.2.length ∧ stepsK H (vs.drop q.1) q.2.1 q.2.2 K})
    (fun q => ⟨[.list 1 vs none, .any, .int .i64 0, .any, .any, .any, .list 1 vs none, .int .i64 (vs.length : Int), .int .i64 (q.1.1 : Int), .any, .any, .any, .any, .any, .any, .any, .any, .any], q.1.2.1, q.1.2.2⟩) (fun q => vs.length - q.1.1)
    ⟨(0, L, T), Nat.zero_le _, Nat.le_refl _, Nat.le_refl _, hst⟩ ?_ ?_ (fun q => ⟨q.2.2.1, q.2.2.2.1⟩)
  · simp (maxSteps:=2000000) only[bitvec_to_nat,seval,↓tcd,leLL_self]
    all_goals simp
  · rintro ⟨⟨i, L1, T1⟩, hi, hl1, ht1, hst1⟩
    simp only at hi hl1 ht1 hst1
    by_cases him : i < vs.length
    · have hdc : decide ((i : Int) < (vs.length : Int)) = true := decide_eq_true (by omega)
      have hdr : vs.drop i = vs[i] :: vs.drop (i + 1) := List.drop_eq_getElem_cons him
      rw [hdr] at hst1
      obtain ⟨f, first, cap, m, hv, hf, hc⟩ := callV_inv hst1
      rw [List.append_nil] at hc
      have hgd : vs.getD i .any = .fn (.func f) first cap := by rw [List.getD_eq_getElem?_getD, List.getElem?_eq_getElem him, ← hv]; rfl
      have hi1 : IntKind.i64.wrap ((i : Int) + 1) = ((i + 1 : Nat) : Int) := by rw [i64w (by omega) (by omega)]; omega
      simp (maxSteps:=2000000) only[bitvec_to_nat,seval,↓tcd,hdc,hgd,hf,Int.toNat_natCast]
      refine ⟨⟨by omega, by omega⟩, ?_⟩
      refine hH.mono f m hf _ _ _ _ _ (fun r L2 T2 ⟨g1, g2, c, hr, hk⟩ => ?_) hc
      rw [hr, code_V]
      by_cases hc0 : c = 0
      · have hcc : decide ((c : Int) = 0) = true := decide_eq_true (by omega)
        rw [if_pos hc0] at hk
        simp (maxSteps:=2000000) only[bitvec_to_nat,seval,↓tcd,hcc,hi1]
        refine ⟨⟨(i + 1, L2, T2), him, by simp only; omega, by simp only; omega, hk⟩, ?_, by simp only; omega⟩
        simp (maxSteps:=2000000) only[bitvec_to_nat,seval,↓tcd,leLL_self]
      · have hcc : decide ((c : Int) = 0) = false := decide_eq_false (by omega)
        rw [if_neg hc0] at hk
        simp (maxSteps:=2000000) only[bitvec_to_nat,seval,↓tcd,hcc,hi1]
        exact ⟨_, _, L2, T2, rfl, ⟨by omega, by omega⟩, St.le_self _, hk⟩
    · have hdc : decide ((i : Int) < (vs.length : Int)) = false := decide_eq_false (by omega)
      have hdr : vs.drop i = [] := List.drop_eq_nil_of_le (by omega)
      rw [hdr] at hst1
      simp (maxSteps:=2000000) only[bitvec_to_nat,seval,↓tcd,hdc]
      exact ⟨_, _, L1, T1, rfl, ⟨hl1, ht1⟩, St.le_self _, hst1⟩
end Go.Proofs.Ytpncnionnfomeaa.Place
