/-
  THE LAW DiskPlays: its helpers.
-/
import Derived.Test.YtieeojipodefoaaAwX
import Derived.Test.YtieeojipodefoaaDiskV
import Derived.Test.YtieeojipodefoaaRef6
namespace Go.Proofs.Ytieeojipodefoaa.DiskX
open Go Go.Proofs Go.Proofs.Ytieeojipodefoaa.Aw Go.Proofs.Ytieeojipodefoaa.Num Go.Proofs.Ytieeojipodefoaa.DiskM Go.Proofs.Ytieeojipodefoaa.DiskA Go.Proofs.Ytieeojipodefoaa.DiskK Go.Proofs.Ytieeojipodefoaa.DiskC Go.Proofs.Ytieeojipodefoaa.Disk Go.Proofs.Ytieeojipodefoaa.DiskL
open Go.Proofs.Ytieeojipodefoaa.Ref (RefAt rS opRP newRP crashRP usedRP cloneRP)
set_option linter.unusedSimpArgs false
set_option linter.unusedVariables false
def tys : Tys := fun t => if t = 3 then some ⟨.int .i64, 1, 8, (.int .i64 0)⟩ else if t = 4 then some ⟨.bool, 1, 1, (.bool false)⟩ else if t = 5 then some ⟨.int .u8, 1, 1, (.int .u8 0)⟩ else if t = 9 then some ⟨.str, 1, 16, (.string .empty)⟩ else if t = 22 then some ⟨.slice 34, 1, 24, (.slice none 0 0)⟩ else if t = 23 then some ⟨.slice 3, 1, 24, (.slice none 0 0)⟩ else if t = 25 then some ⟨.struct [(0, 3), (1, 23)], 2, 32, (.agg #[(.int .i64 0), (.slice none 0 0)])⟩ else if t = 27 then some ⟨.ptr 76, 1, 8, (.pointer none)⟩ else if t = 29 then some ⟨.ptr 81, 1, 8, (.pointer none)⟩ else if t = 32 then some ⟨.slice 5, 1, 24, (.slice none 0 0)⟩ else if t = 34 then some ⟨.struct [(0, 5), (1, 9), (2, 9), (3, 32), (4, 3), (5, 25)], 7, 104, (.agg #[(.int .u8 0), (.string .empty), (.string .empty), (.slice none 0 0), (.int .i64 0), (.int .i64 0), (.slice none 0 0)])⟩ else if t = 35 then some ⟨.int .i64, 1, 8, (.int .i64 0)⟩ else if t = 44 then some ⟨.slice 9, 1, 24, (.slice none 0 0)⟩ else if t = 73 then some ⟨.map 9 92, 1, 8, (.map none)⟩ else if t = 74 then some ⟨.slice 95, 1, 24, (.slice none 0 0)⟩ else if t = 76 then some ⟨.struct [(0, 3), (1, 3), (2, 73), (3, 73), (4, 74), (5, 4), (6, 4), (7, 3)], 8, 72, (.agg #[(.int .i64 0), (.int .i64 0), (.map none), (.map none), (.slice none 0 0), (.bool false), (.bool false), (.int .i64 0)])⟩ else if t = 77 then some ⟨.slice 91, 1, 24, (.slice none 0 0)⟩ else if t = 78 then some ⟨.slice 85, 1, 24, (.slice none 0 0)⟩ else if t = 79 then some ⟨.slice 88, 1, 24, (.slice none 0 0)⟩ else if t = 81 then some ⟨.struct [(0, 77), (1, 78), (2, 78), (3, 79), (4, 3), (5, 4), (6, 4), (7, 3)], 8, 120, (.agg #[(.slice none 0 0), (.slice none 0 0), (.slice none 0 0), (.slice none 0 0), (.int .i64 0), (.bool false), (.bool false), (.int .i64 0)])⟩ else if t = 85 then some ⟨.struct [(0, 9), (1, 3)], 2, 24, (.agg #[(.string .empty), (.int .i64 0)])⟩ else if t = 88 then some ⟨.struct [(0, 9), (1, 9), (2, 3)], 3, 40, (.agg #[(.string .empty), (.string .empty), (.int .i64 0)])⟩ else if t = 91 then some ⟨.struct [(0, 32), (1, 3)], 2, 32, (.agg #[(.slice none 0 0), (.int .i64 0)])⟩ else if t = 92 then some ⟨.ptr 103, 1, 8, (.pointer none)⟩ else if t = 95 then some ⟨.struct [(0, 9), (1, 9), (2, 92)], 3, 40, (.agg #[(.string .empty), (.string .empty), (.pointer none)])⟩ else none
theorem tysOk : TyOk Try.prog tys := by
  refine TyOk.cons ?_ 3 _ (by kernel_rfl) (by kernel_rfl)
  refine TyOk.cons ?_ 4 _ (by kernel_rfl) (by kernel_rfl)
  refine TyOk.cons ?_ 5 _ (by kernel_rfl) (by kernel_rfl)
  refine TyOk.cons ?_ 9 _ (by kernel_rfl) (by kernel_rfl)
  refine TyOk.cons ?_ 22 _ (by kernel_rfl) (by kernel_rfl)
  refine TyOk.cons ?_ 23 _ (by kernel_rfl) (by kernel_rfl)
  refine TyOk.cons ?_ 25 _ (by kernel_rfl) (by kernel_rfl)
  refine TyOk.cons ?_ 27 _ (by kernel_rfl) (by kernel_rfl)
  refine TyOk.cons ?_ 29 _ (by kernel_rfl) (by kernel_rfl)
  refine TyOk.cons ?_ 32 _ (by kernel_rfl) (by kernel_rfl)
  refine TyOk.cons ?_ 34 _ (by kernel_rfl) (by kernel_rfl)
  refine TyOk.cons ?_ 35 _ (by kernel_rfl) (by kernel_rfl)
  refine TyOk.cons ?_ 44 _ (by kernel_rfl) (by kernel_rfl)
  refine TyOk.cons ?_ 73 _ (by kernel_rfl) (by kernel_rfl)
  refine TyOk.cons ?_ 74 _ (by kernel_rfl) (by kernel_rfl)
  refine TyOk.cons ?_ 76 _ (by kernel_rfl) (by kernel_rfl)
  refine TyOk.cons ?_ 77 _ (by kernel_rfl) (by kernel_rfl)
  refine TyOk.cons ?_ 78 _ (by kernel_rfl) (by kernel_rfl)
  refine TyOk.cons ?_ 79 _ (by kernel_rfl) (by kernel_rfl)
  refine TyOk.cons ?_ 81 _ (by kernel_rfl) (by kernel_rfl)
  refine TyOk.cons ?_ 85 _ (by kernel_rfl) (by kernel_rfl)
  refine TyOk.cons ?_ 88 _ (by kernel_rfl) (by kernel_rfl)
  refine TyOk.cons ?_ 91 _ (by kernel_rfl) (by kernel_rfl)
  refine TyOk.cons ?_ 92 _ (by kernel_rfl) (by kernel_rfl)
  refine TyOk.cons ?_ 95 _ (by kernel_rfl) (by kernel_rfl)
  exact TyOk.nil _
theorem mix : Try.prog.follows .mixedOrders = true := by kernel_rfl
theorem ty3 : tys 3 = some ⟨.int .i64, 1, 8, (.int .i64 0)⟩ := rfl
theorem tk3 : kindV tys 3 = some (.int .i64) := rfl
theorem ts3 : sizeV tys 3 = 1 := rfl
theorem ta3 : TyI.isAgg ⟨.int .i64, 1, 8, (.int .i64 0)⟩ = false := rfl
theorem tu3 : isU8 ⟨.int .i64, 1, 8, (.int .i64 0)⟩ = false := rfl
theorem tn3 : notIntK tys 3 = false := rfl
theorem tr3 : isStrK tys 3 = false := rfl
theorem tz3 : zeroOk ⟨.int .i64, 1, 8, (.int .i64 0)⟩ = true := by kernel_rfl
theorem tv3 : zeroU8 ⟨.int .i64, 1, 8, (.int .i64 0)⟩ = false := rfl
theorem td3 : TyI.zeroV ⟨.int .i64, 1, 8, (.int .i64 0)⟩ = V.ofV1 (.int .i64 0) := rfl
theorem ty4 : tys 4 = some ⟨.bool, 1, 1, (.bool false)⟩ := rfl
theorem tk4 : kindV tys 4 = some (.bool) := rfl
theorem ts4 : sizeV tys 4 = 1 := rfl
theorem ta4 : TyI.isAgg ⟨.bool, 1, 1, (.bool false)⟩ = false := rfl
theorem tu4 : isU8 ⟨.bool, 1, 1, (.bool false)⟩ = false := rfl
theorem tn4 : notIntK tys 4 = true := rfl
theorem tr4 : isStrK tys 4 = false := rfl
theorem tz4 : zeroOk ⟨.bool, 1, 1, (.bool false)⟩ = true := by kernel_rfl
theorem tv4 : zeroU8 ⟨.bool, 1, 1, (.bool false)⟩ = false := rfl
theorem td4 : TyI.zeroV ⟨.bool, 1, 1, (.bool false)⟩ = V.ofV1 (.bool false) := rfl
theorem ty5 : tys 5 = some ⟨.int .u8, 1, 1, (.int .u8 0)⟩ := rfl
theorem tk5 : kindV tys 5 = some (.int .u8) := rfl
theorem ts5 : sizeV tys 5 = 1 := rfl
theorem ta5 : TyI.isAgg ⟨.int .u8, 1, 1, (.int .u8 0)⟩ = false := rfl
theorem tu5 : isU8 ⟨.int .u8, 1, 1, (.int .u8 0)⟩ = true := rfl
theorem tn5 : notIntK tys 5 = false := rfl
theorem tr5 : isStrK tys 5 = false := rfl
theorem tz5 : zeroOk ⟨.int .u8, 1, 1, (.int .u8 0)⟩ = true := by kernel_rfl
theorem tv5 : zeroU8 ⟨.int .u8, 1, 1, (.int .u8 0)⟩ = true := rfl
theorem td5 : TyI.zeroV ⟨.int .u8, 1, 1, (.int .u8 0)⟩ = V.ofV1 (.int .u8 0) := rfl
theorem ty9 : tys 9 = some ⟨.str, 1, 16, (.string .empty)⟩ := rfl
theorem tk9 : kindV tys 9 = some (.str) := rfl
theorem ts9 : sizeV tys 9 = 1 := rfl
theorem ta9 : TyI.isAgg ⟨.str, 1, 16, (.string .empty)⟩ = false := rfl
theorem tu9 : isU8 ⟨.str, 1, 16, (.string .empty)⟩ = false := rfl
theorem tn9 : notIntK tys 9 = true := rfl
theorem tr9 : isStrK tys 9 = true := rfl
theorem tz9 : zeroOk ⟨.str, 1, 16, (.string .empty)⟩ = true := by kernel_rfl
theorem tv9 : zeroU8 ⟨.str, 1, 16, (.string .empty)⟩ = false := rfl
theorem td9 : TyI.zeroV ⟨.str, 1, 16, (.string .empty)⟩ = V.ofV1 (.string .empty) := rfl
theorem ty22 : tys 22 = some ⟨.slice 34, 1, 24, (.slice none 0 0)⟩ := rfl
theorem tk22 : kindV tys 22 = some (.slice 34) := rfl
theorem ts22 : sizeV tys 22 = 1 := rfl
theorem ta22 : TyI.isAgg ⟨.slice 34, 1, 24, (.slice none 0 0)⟩ = false := rfl
theorem tb22 : isBytes tys 22 = false := rfl
theorem te22 : elemI tys 22 = some (34, ⟨.struct [(0, 5), (1, 9), (2, 9), (3, 32), (4, 3), (5, 25)], 7, 104, (.agg #[(.int .u8 0), (.string .empty), (.string .empty), (.slice none 0 0), (.int .i64 0), (.int .i64 0), (.slice none 0 0)])⟩) := rfl
theorem tu22 : isU8 ⟨.slice 34, 1, 24, (.slice none 0 0)⟩ = false := rfl
theorem tn22 : notIntK tys 22 = true := rfl
theorem tr22 : isStrK tys 22 = false := rfl
theorem tz22 : zeroOk ⟨.slice 34, 1, 24, (.slice none 0 0)⟩ = true := by kernel_rfl
theorem tv22 : zeroU8 ⟨.slice 34, 1, 24, (.slice none 0 0)⟩ = false := rfl
theorem td22 : TyI.zeroV ⟨.slice 34, 1, 24, (.slice none 0 0)⟩ = V.ofV1 (.slice none 0 0) := rfl
theorem ty23 : tys 23 = some ⟨.slice 3, 1, 24, (.slice none 0 0)⟩ := rfl
theorem tk23 : kindV tys 23 = some (.slice 3) := rfl
theorem ts23 : sizeV tys 23 = 1 := rfl
theorem ta23 : TyI.isAgg ⟨.slice 3, 1, 24, (.slice none 0 0)⟩ = false := rfl
theorem tb23 : isBytes tys 23 = false := rfl
theorem te23 : elemI tys 23 = some (3, ⟨.int .i64, 1, 8, (.int .i64 0)⟩) := rfl
theorem tu23 : isU8 ⟨.slice 3, 1, 24, (.slice none 0 0)⟩ = false := rfl
theorem tn23 : notIntK tys 23 = true := rfl
theorem tr23 : isStrK tys 23 = false := rfl
theorem tz23 : zeroOk ⟨.slice 3, 1, 24, (.slice none 0 0)⟩ = true := by kernel_rfl
theorem tv23 : zeroU8 ⟨.slice 3, 1, 24, (.slice none 0 0)⟩ = false := rfl
theorem td23 : TyI.zeroV ⟨.slice 3, 1, 24, (.slice none 0 0)⟩ = V.ofV1 (.slice none 0 0) := rfl
theorem ty25 : tys 25 = some ⟨.struct [(0, 3), (1, 23)], 2, 32, (.agg #[(.int .i64 0), (.slice none 0 0)])⟩ := rfl
theorem tk25 : kindV tys 25 = some (.struct [(0, 3), (1, 23)]) := rfl
theorem ts25 : sizeV tys 25 = 2 := rfl
theorem ta25 : TyI.isAgg ⟨.struct [(0, 3), (1, 23)], 2, 32, (.agg #[(.int .i64 0), (.slice none 0 0)])⟩ = true := rfl
theorem tu25 : isU8 ⟨.struct [(0, 3), (1, 23)], 2, 32, (.agg #[(.int .i64 0), (.slice none 0 0)])⟩ = false := rfl
theorem tn25 : notIntK tys 25 = true := rfl
theorem tr25 : isStrK tys 25 = false := rfl
theorem tz25 : zeroOk ⟨.struct [(0, 3), (1, 23)], 2, 32, (.agg #[(.int .i64 0), (.slice none 0 0)])⟩ = true := by kernel_rfl
theorem tv25 : zeroU8 ⟨.struct [(0, 3), (1, 23)], 2, 32, (.agg #[(.int .i64 0), (.slice none 0 0)])⟩ = false := rfl
theorem tc25 : V.ofV (.agg #[(.int .i64 0), (.slice none 0 0)]) = .agg [V.ofV1 (.int .i64 0), V.ofV1 (.slice none 0 0)] := by kernel_rfl
theorem tw25 : Value.oneCell' (.agg #[(.int .i64 0), (.slice none 0 0)]) = false := rfl
theorem tx25 : (#[(.int .i64 0), (.slice none 0 0)] : Array Value).all (fun x => x.oneCell') 0 2 = true := by kernel_rfl
theorem td25 : TyI.zeroV ⟨.struct [(0, 3), (1, 23)], 2, 32, (.agg #[(.int .i64 0), (.slice none 0 0)])⟩ = .agg [V.ofV1 (.int .i64 0), V.ofV1 (.slice none 0 0)] := by kernel_rfl
theorem tp25_0 : placeV tys [(0, 3), (1, 23)] 0 = some (0, 1) := rfl
theorem tp25_1 : placeV tys [(0, 3), (1, 23)] 1 = some (1, 1) := rfl
theorem tq25 : ([(0, 3), (1, 23)].all (fun f => (tys f.2).isSome)) = true := rfl
theorem ty27 : tys 27 = some ⟨.ptr 76, 1, 8, (.pointer none)⟩ := rfl
theorem tk27 : kindV tys 27 = some (.ptr 76) := rfl
theorem ts27 : sizeV tys 27 = 1 := rfl
theorem ta27 : TyI.isAgg ⟨.ptr 76, 1, 8, (.pointer none)⟩ = false := rfl
theorem tu27 : isU8 ⟨.ptr 76, 1, 8, (.pointer none)⟩ = false := rfl
theorem tn27 : notIntK tys 27 = true := rfl
theorem tr27 : isStrK tys 27 = false := rfl
theorem tz27 : zeroOk ⟨.ptr 76, 1, 8, (.pointer none)⟩ = true := by kernel_rfl
theorem tv27 : zeroU8 ⟨.ptr 76, 1, 8, (.pointer none)⟩ = false := rfl
theorem td27 : TyI.zeroV ⟨.ptr 76, 1, 8, (.pointer none)⟩ = V.ofV1 (.pointer none) := rfl
theorem ty29 : tys 29 = some ⟨.ptr 81, 1, 8, (.pointer none)⟩ := rfl
theorem tk29 : kindV tys 29 = some (.ptr 81) := rfl
theorem ts29 : sizeV tys 29 = 1 := rfl
theorem ta29 : TyI.isAgg ⟨.ptr 81, 1, 8, (.pointer none)⟩ = false := rfl
theorem tu29 : isU8 ⟨.ptr 81, 1, 8, (.pointer none)⟩ = false := rfl
theorem tn29 : notIntK tys 29 = true := rfl
theorem tr29 : isStrK tys 29 = false := rfl
theorem tz29 : zeroOk ⟨.ptr 81, 1, 8, (.pointer none)⟩ = true := by kernel_rfl
theorem tv29 : zeroU8 ⟨.ptr 81, 1, 8, (.pointer none)⟩ = false := rfl
theorem td29 : TyI.zeroV ⟨.ptr 81, 1, 8, (.pointer none)⟩ = V.ofV1 (.pointer none) := rfl
theorem ty32 : tys 32 = some ⟨.slice 5, 1, 24, (.slice none 0 0)⟩ := rfl
theorem tk32 : kindV tys 32 = some (.slice 5) := rfl
theorem ts32 : sizeV tys 32 = 1 := rfl
theorem ta32 : TyI.isAgg ⟨.slice 5, 1, 24, (.slice none 0 0)⟩ = false := rfl
theorem tb32 : isBytes tys 32 = true := rfl
theorem te32 : elemI tys 32 = some (5, ⟨.int .u8, 1, 1, (.int .u8 0)⟩) := rfl
theorem tu32 : isU8 ⟨.slice 5, 1, 24, (.slice none 0 0)⟩ = false := rfl
theorem tn32 : notIntK tys 32 = true := rfl
theorem tr32 : isStrK tys 32 = false := rfl
theorem tz32 : zeroOk ⟨.slice 5, 1, 24, (.slice none 0 0)⟩ = true := by kernel_rfl
theorem tv32 : zeroU8 ⟨.slice 5, 1, 24, (.slice none 0 0)⟩ = false := rfl
theorem td32 : TyI.zeroV ⟨.slice 5, 1, 24, (.slice none 0 0)⟩ = V.ofV1 (.slice none 0 0) := rfl
theorem ty34 : tys 34 = some ⟨.struct [(0, 5), (1, 9), (2, 9), (3, 32), (4, 3), (5, 25)], 7, 104, (.agg #[(.int .u8 0), (.string .empty), (.string .empty), (.slice none 0 0), (.int .i64 0), (.int .i64 0), (.slice none 0 0)])⟩ := rfl
theorem tk34 : kindV tys 34 = some (.struct [(0, 5), (1, 9), (2, 9), (3, 32), (4, 3), (5, 25)]) := rfl
theorem ts34 : sizeV tys 34 = 7 := rfl
theorem ta34 : TyI.isAgg ⟨.struct [(0, 5), (1, 9), (2, 9), (3, 32), (4, 3), (5, 25)], 7, 104, (.agg #[(.int .u8 0), (.string .empty), (.string .empty), (.slice none 0 0), (.int .i64 0), (.int .i64 0), (.slice none 0 0)])⟩ = true := rfl
theorem tu34 : isU8 ⟨.struct [(0, 5), (1, 9), (2, 9), (3, 32), (4, 3), (5, 25)], 7, 104, (.agg #[(.int .u8 0), (.string .empty), (.string .empty), (.slice none 0 0), (.int .i64 0), (.int .i64 0), (.slice none 0 0)])⟩ = false := rfl
theorem tn34 : notIntK tys 34 = true := rfl
theorem tr34 : isStrK tys 34 = false := rfl
theorem tz34 : zeroOk ⟨.struct [(0, 5), (1, 9), (2, 9), (3, 32), (4, 3), (5, 25)], 7, 104, (.agg #[(.int .u8 0), (.string .empty), (.string .empty), (.slice none 0 0), (.int .i64 0), (.int .i64 0), (.slice none 0 0)])⟩ = true := by kernel_rfl
theorem tv34 : zeroU8 ⟨.struct [(0, 5), (1, 9), (2, 9), (3, 32), (4, 3), (5, 25)], 7, 104, (.agg #[(.int .u8 0), (.string .empty), (.string .empty), (.slice none 0 0), (.int .i64 0), (.int .i64 0), (.slice none 0 0)])⟩ = false := rfl
theorem tc34 : V.ofV (.agg #[(.int .u8 0), (.string .empty), (.string .empty), (.slice none 0 0), (.int .i64 0), (.int .i64 0), (.slice none 0 0)]) = .agg [V.ofV1 (.int .u8 0), V.ofV1 (.string .empty), V.ofV1 (.string .empty), V.ofV1 (.slice none 0 0), V.ofV1 (.int .i64 0), V.ofV1 (.int .i64 0), V.ofV1 (.slice none 0 0)] := by kernel_rfl
theorem tw34 : Value.oneCell' (.agg #[(.int .u8 0), (.string .empty), (.string .empty), (.slice none 0 0), (.int .i64 0), (.int .i64 0), (.slice none 0 0)]) = false := rfl
theorem tx34 : (#[(.int .u8 0), (.string .empty), (.string .empty), (.slice none 0 0), (.int .i64 0), (.int .i64 0), (.slice none 0 0)] : Array Value).all (fun x => x.oneCell') 0 7 = true := by kernel_rfl
theorem td34 : TyI.zeroV ⟨.struct [(0, 5), (1, 9), (2, 9), (3, 32), (4, 3), (5, 25)], 7, 104, (.agg #[(.int .u8 0), (.string .empty), (.string .empty), (.slice none 0 0), (.int .i64 0), (.int .i64 0), (.slice none 0 0)])⟩ = .agg [V.ofV1 (.int .u8 0), V.ofV1 (.string .empty), V.ofV1 (.string .empty), V.ofV1 (.slice none 0 0), V.ofV1 (.int .i64 0), V.ofV1 (.int .i64 0), V.ofV1 (.slice none 0 0)] := by kernel_rfl
theorem tp34_0 : placeV tys [(0, 5), (1, 9), (2, 9), (3, 32), (4, 3), (5, 25)] 0 = some (0, 1) := rfl
theorem tp34_1 : placeV tys [(0, 5), (1, 9), (2, 9), (3, 32), (4, 3), (5, 25)] 1 = some (1, 1) := rfl
theorem tp34_2 : placeV tys [(0, 5), (1, 9), (2, 9), (3, 32), (4, 3), (5, 25)] 2 = some (2, 1) := rfl
theorem tp34_3 : placeV tys [(0, 5), (1, 9), (2, 9), (3, 32), (4, 3), (5, 25)] 3 = some (3, 1) := rfl
theorem tp34_4 : placeV tys [(0, 5), (1, 9), (2, 9), (3, 32), (4, 3), (5, 25)] 4 = some (4, 1) := rfl
theorem tp34_5 : placeV tys [(0, 5), (1, 9), (2, 9), (3, 32), (4, 3), (5, 25)] 5 = some (5, 2) := rfl
theorem tq34 : ([(0, 5), (1, 9), (2, 9), (3, 32), (4, 3), (5, 25)].all (fun f => (tys f.2).isSome)) = true := rfl
theorem ty35 : tys 35 = some ⟨.int .i64, 1, 8, (.int .i64 0)⟩ := rfl
theorem tk35 : kindV tys 35 = some (.int .i64) := rfl
theorem ts35 : sizeV tys 35 = 1 := rfl
theorem ta35 : TyI.isAgg ⟨.int .i64, 1, 8, (.int .i64 0)⟩ = false := rfl
theorem tu35 : isU8 ⟨.int .i64, 1, 8, (.int .i64 0)⟩ = false := rfl
theorem tn35 : notIntK tys 35 = false := rfl
theorem tr35 : isStrK tys 35 = false := rfl
theorem tz35 : zeroOk ⟨.int .i64, 1, 8, (.int .i64 0)⟩ = true := by kernel_rfl
theorem tv35 : zeroU8 ⟨.int .i64, 1, 8, (.int .i64 0)⟩ = false := rfl
theorem td35 : TyI.zeroV ⟨.int .i64, 1, 8, (.int .i64 0)⟩ = V.ofV1 (.int .i64 0) := rfl
theorem ty44 : tys 44 = some ⟨.slice 9, 1, 24, (.slice none 0 0)⟩ := rfl
theorem tk44 : kindV tys 44 = some (.slice 9) := rfl
theorem ts44 : sizeV tys 44 = 1 := rfl
theorem ta44 : TyI.isAgg ⟨.slice 9, 1, 24, (.slice none 0 0)⟩ = false := rfl
theorem tb44 : isBytes tys 44 = false := rfl
theorem te44 : elemI tys 44 = some (9, ⟨.str, 1, 16, (.string .empty)⟩) := rfl
theorem tu44 : isU8 ⟨.slice 9, 1, 24, (.slice none 0 0)⟩ = false := rfl
theorem tn44 : notIntK tys 44 = true := rfl
theorem tr44 : isStrK tys 44 = false := rfl
theorem tz44 : zeroOk ⟨.slice 9, 1, 24, (.slice none 0 0)⟩ = true := by kernel_rfl
theorem tv44 : zeroU8 ⟨.slice 9, 1, 24, (.slice none 0 0)⟩ = false := rfl
theorem td44 : TyI.zeroV ⟨.slice 9, 1, 24, (.slice none 0 0)⟩ = V.ofV1 (.slice none 0 0) := rfl
theorem ty73 : tys 73 = some ⟨.map 9 92, 1, 8, (.map none)⟩ := rfl
theorem tk73 : kindV tys 73 = some (.map 9 92) := rfl
theorem ts73 : sizeV tys 73 = 1 := rfl
theorem ta73 : TyI.isAgg ⟨.map 9 92, 1, 8, (.map none)⟩ = false := rfl
theorem tu73 : isU8 ⟨.map 9 92, 1, 8, (.map none)⟩ = false := rfl
theorem tn73 : notIntK tys 73 = true := rfl
theorem tr73 : isStrK tys 73 = false := rfl
theorem tz73 : zeroOk ⟨.map 9 92, 1, 8, (.map none)⟩ = true := by kernel_rfl
theorem tv73 : zeroU8 ⟨.map 9 92, 1, 8, (.map none)⟩ = false := rfl
theorem td73 : TyI.zeroV ⟨.map 9 92, 1, 8, (.map none)⟩ = V.ofV1 (.map none) := rfl
theorem ty74 : tys 74 = some ⟨.slice 95, 1, 24, (.slice none 0 0)⟩ := rfl
theorem tk74 : kindV tys 74 = some (.slice 95) := rfl
theorem ts74 : sizeV tys 74 = 1 := rfl
theorem ta74 : TyI.isAgg ⟨.slice 95, 1, 24, (.slice none 0 0)⟩ = false := rfl
theorem tb74 : isBytes tys 74 = false := rfl
theorem te74 : elemI tys 74 = some (95, ⟨.struct [(0, 9), (1, 9), (2, 92)], 3, 40, (.agg #[(.string .empty), (.string .empty), (.pointer none)])⟩) := rfl
theorem tu74 : isU8 ⟨.slice 95, 1, 24, (.slice none 0 0)⟩ = false := rfl
theorem tn74 : notIntK tys 74 = true := rfl
theorem tr74 : isStrK tys 74 = false := rfl
theorem tz74 : zeroOk ⟨.slice 95, 1, 24, (.slice none 0 0)⟩ = true := by kernel_rfl
theorem tv74 : zeroU8 ⟨.slice 95, 1, 24, (.slice none 0 0)⟩ = false := rfl
theorem td74 : TyI.zeroV ⟨.slice 95, 1, 24, (.slice none 0 0)⟩ = V.ofV1 (.slice none 0 0) := rfl
theorem ty76 : tys 76 = some ⟨.struct [(0, 3), (1, 3), (2, 73), (3, 73), (4, 74), (5, 4), (6, 4), (7, 3)], 8, 72, (.agg #[(.int .i64 0), (.int .i64 0), (.map none), (.map none), (.slice none 0 0), (.bool false), (.bool false), (.int .i64 0)])⟩ := rfl
theorem tk76 : kindV tys 76 = some (.struct [(0, 3), (1, 3), (2, 73), (3, 73), (4, 74), (5, 4), (6, 4), (7, 3)]) := rfl
theorem ts76 : sizeV tys 76 = 8 := rfl
theorem ta76 : TyI.isAgg ⟨.struct [(0, 3), (1, 3), (2, 73), (3, 73), (4, 74), (5, 4), (6, 4), (7, 3)], 8, 72, (.agg #[(.int .i64 0), (.int .i64 0), (.map none), (.map none), (.slice none 0 0), (.bool false), (.bool false), (.int .i64 0)])⟩ = true := rfl
theorem tu76 : isU8 ⟨.struct [(0, 3), (1, 3), (2, 73), (3, 73), (4, 74), (5, 4), (6, 4), (7, 3)], 8, 72, (.agg #[(.int .i64 0), (.int .i64 0), (.map none), (.map none), (.slice none 0 0), (.bool false), (.bool false), (.int .i64 0)])⟩ = false := rfl
theorem tn76 : notIntK tys 76 = true := rfl
theorem tr76 : isStrK tys 76 = false := rfl
theorem tz76 : zeroOk ⟨.struct [(0, 3), (1, 3), (2, 73), (3, 73), (4, 74), (5, 4), (6, 4), (7, 3)], 8, 72, (.agg #[(.int .i64 0), (.int .i64 0), (.map none), (.map none), (.slice none 0 0), (.bool false), (.bool false), (.int .i64 0)])⟩ = true := by kernel_rfl
theorem tv76 : zeroU8 ⟨.struct [(0, 3), (1, 3), (2, 73), (3, 73), (4, 74), (5, 4), (6, 4), (7, 3)], 8, 72, (.agg #[(.int .i64 0), (.int .i64 0), (.map none), (.map none), (.slice none 0 0), (.bool false), (.bool false), (.int .i64 0)])⟩ = false := rfl
theorem tc76 : V.ofV (.agg #[(.int .i64 0), (.int .i64 0), (.map none), (.map none), (.slice none 0 0), (.bool false), (.bool false), (.int .i64 0)]) = .agg [V.ofV1 (.int .i64 0), V.ofV1 (.int .i64 0), V.ofV1 (.map none), V.ofV1 (.map none), V.ofV1 (.slice none 0 0), V.ofV1 (.bool false), V.ofV1 (.bool false), V.ofV1 (.int .i64 0)] := by kernel_rfl
theorem tw76 : Value.oneCell' (.agg #[(.int .i64 0), (.int .i64 0), (.map none), (.map none), (.slice none 0 0), (.bool false), (.bool false), (.int .i64 0)]) = false := rfl
theorem tx76 : (#[(.int .i64 0), (.int .i64 0), (.map none), (.map none), (.slice none 0 0), (.bool false), (.bool false), (.int .i64 0)] : Array Value).all (fun x => x.oneCell') 0 8 = true := by kernel_rfl
theorem td76 : TyI.zeroV ⟨.struct [(0, 3), (1, 3), (2, 73), (3, 73), (4, 74), (5, 4), (6, 4), (7, 3)], 8, 72, (.agg #[(.int .i64 0), (.int .i64 0), (.map none), (.map none), (.slice none 0 0), (.bool false), (.bool false), (.int .i64 0)])⟩ = .agg [V.ofV1 (.int .i64 0), V.ofV1 (.int .i64 0), V.ofV1 (.map none), V.ofV1 (.map none), V.ofV1 (.slice none 0 0), V.ofV1 (.bool false), V.ofV1 (.bool false), V.ofV1 (.int .i64 0)] := by kernel_rfl
theorem tp76_0 : placeV tys [(0, 3), (1, 3), (2, 73), (3, 73), (4, 74), (5, 4), (6, 4), (7, 3)] 0 = some (0, 1) := rfl
theorem tp76_1 : placeV tys [(0, 3), (1, 3), (2, 73), (3, 73), (4, 74), (5, 4), (6, 4), (7, 3)] 1 = some (1, 1) := rfl
theorem tp76_2 : placeV tys [(0, 3), (1, 3), (2, 73), (3, 73), (4, 74), (5, 4), (6, 4), (7, 3)] 2 = some (2, 1) := rfl
theorem tp76_3 : placeV tys [(0, 3), (1, 3), (2, 73), (3, 73), (4, 74), (5, 4), (6, 4), (7, 3)] 3 = some (3, 1) := rfl
theorem tp76_4 : placeV tys [(0, 3), (1, 3), (2, 73), (3, 73), (4, 74), (5, 4), (6, 4), (7, 3)] 4 = some (4, 1) := rfl
theorem tp76_5 : placeV tys [(0, 3), (1, 3), (2, 73), (3, 73), (4, 74), (5, 4), (6, 4), (7, 3)] 5 = some (5, 1) := rfl
theorem tp76_6 : placeV tys [(0, 3), (1, 3), (2, 73), (3, 73), (4, 74), (5, 4), (6, 4), (7, 3)] 6 = some (6, 1) := rfl
theorem tp76_7 : placeV tys [(0, 3), (1, 3), (2, 73), (3, 73), (4, 74), (5, 4), (6, 4), (7, 3)] 7 = some (7, 1) := rfl
theorem tq76 : ([(0, 3), (1, 3), (2, 73), (3, 73), (4, 74), (5, 4), (6, 4), (7, 3)].all (fun f => (tys f.2).isSome)) = true := rfl
theorem ty77 : tys 77 = some ⟨.slice 91, 1, 24, (.slice none 0 0)⟩ := rfl
theorem tk77 : kindV tys 77 = some (.slice 91) := rfl
theorem ts77 : sizeV tys 77 = 1 := rfl
theorem ta77 : TyI.isAgg ⟨.slice 91, 1, 24, (.slice none 0 0)⟩ = false := rfl
theorem tb77 : isBytes tys 77 = false := rfl
theorem te77 : elemI tys 77 = some (91, ⟨.struct [(0, 32), (1, 3)], 2, 32, (.agg #[(.slice none 0 0), (.int .i64 0)])⟩) := rfl
theorem tu77 : isU8 ⟨.slice 91, 1, 24, (.slice none 0 0)⟩ = false := rfl
theorem tn77 : notIntK tys 77 = true := rfl
theorem tr77 : isStrK tys 77 = false := rfl
theorem tz77 : zeroOk ⟨.slice 91, 1, 24, (.slice none 0 0)⟩ = true := by kernel_rfl
theorem tv77 : zeroU8 ⟨.slice 91, 1, 24, (.slice none 0 0)⟩ = false := rfl
theorem td77 : TyI.zeroV ⟨.slice 91, 1, 24, (.slice none 0 0)⟩ = V.ofV1 (.slice none 0 0) := rfl
theorem ty78 : tys 78 = some ⟨.slice 85, 1, 24, (.slice none 0 0)⟩ := rfl
theorem tk78 : kindV tys 78 = some (.slice 85) := rfl
theorem ts78 : sizeV tys 78 = 1 := rfl
theorem ta78 : TyI.isAgg ⟨.slice 85, 1, 24, (.slice none 0 0)⟩ = false := rfl
theorem tb78 : isBytes tys 78 = false := rfl
theorem te78 : elemI tys 78 = some (85, ⟨.struct [(0, 9), (1, 3)], 2, 24, (.agg #[(.string .empty), (.int .i64 0)])⟩) := rfl
theorem tu78 : isU8 ⟨.slice 85, 1, 24, (.slice none 0 0)⟩ = false := rfl
theorem tn78 : notIntK tys 78 = true := rfl
theorem tr78 : isStrK tys 78 = false := rfl
theorem tz78 : zeroOk ⟨.slice 85, 1, 24, (.slice none 0 0)⟩ = true := by kernel_rfl
theorem tv78 : zeroU8 ⟨.slice 85, 1, 24, (.slice none 0 0)⟩ = false := rfl
theorem td78 : TyI.zeroV ⟨.slice 85, 1, 24, (.slice none 0 0)⟩ = V.ofV1 (.slice none 0 0) := rfl
theorem ty79 : tys 79 = some ⟨.slice 88, 1, 24, (.slice none 0 0)⟩ := rfl
theorem tk79 : kindV tys 79 = some (.slice 88) := rfl
theorem ts79 : sizeV tys 79 = 1 := rfl
theorem ta79 : TyI.isAgg ⟨.slice 88, 1, 24, (.slice none 0 0)⟩ = false := rfl
theorem tb79 : isBytes tys 79 = false := rfl
theorem te79 : elemI tys 79 = some (88, ⟨.struct [(0, 9), (1, 9), (2, 3)], 3, 40, (.agg #[(.string .empty), (.string .empty), (.int .i64 0)])⟩) := rfl
theorem tu79 : isU8 ⟨.slice 88, 1, 24, (.slice none 0 0)⟩ = false := rfl
theorem tn79 : notIntK tys 79 = true := rfl
theorem tr79 : isStrK tys 79 = false := rfl
theorem tz79 : zeroOk ⟨.slice 88, 1, 24, (.slice none 0 0)⟩ = true := by kernel_rfl
theorem tv79 : zeroU8 ⟨.slice 88, 1, 24, (.slice none 0 0)⟩ = false := rfl
theorem td79 : TyI.zeroV ⟨.slice 88, 1, 24, (.slice none 0 0)⟩ = V.ofV1 (.slice none 0 0) := rfl
theorem ty81 : tys 81 = some ⟨.struct [(0, 77), (1, 78), (2, 78), (3, 79), (4, 3), (5, 4), (6, 4), (7, 3)], 8, 120, (.agg #[(.slice none 0 0), (.slice none 0 0), (.slice none 0 0), (.slice none 0 0), (.int .i64 0), (.bool false), (.bool false), (.int .i64 0)])⟩ := rfl
theorem tk81 : kindV tys 81 = some (.struct [(0, 77), (1, 78), (2, 78), (3, 79), (4, 3), (5, 4), (6, 4), (7, 3)]) := rfl
theorem ts81 : sizeV tys 81 = 8 := rfl
theorem ta81 : TyI.isAgg ⟨.struct [(0, 77), (1, 78), (2, 78), (3, 79), (4, 3), (5, 4), (6, 4), (7, 3)], 8, 120, (.agg #[(.slice none 0 0), (.slice none 0 0), (.slice none 0 0), (.slice none 0 0), (.int .i64 0), (.bool false), (.bool false), (.int .i64 0)])⟩ = true := rfl
theorem tu81 : isU8 ⟨.struct [(0, 77), (1, 78), (2, 78), (3, 79), (4, 3), (5, 4), (6, 4), (7, 3)], 8, 120, (.agg #[(.slice none 0 0), (.slice none 0 0), (.slice none 0 0), (.slice none 0 0), (.int .i64 0), (.bool false), (.bool false), (.int .i64 0)])⟩ = false := rfl
theorem tn81 : notIntK tys 81 = true := rfl
theorem tr81 : isStrK tys 81 = false := rfl
theorem tz81 : zeroOk ⟨.struct [(0, 77), (1, 78), (2, 78), (3, 79), (4, 3), (5, 4), (6, 4), (7, 3)], 8, 120, (.agg #[(.slice none 0 0), (.slice none 0 0), (.slice none 0 0), (.slice none 0 0), (.int .i64 0), (.bool false), (.bool false), (.int .i64 0)])⟩ = true := by kernel_rfl
theorem tv81 : zeroU8 ⟨.struct [(0, 77), (1, 78), (2, 78), (3, 79), (4, 3), (5, 4), (6, 4), (7, 3)], 8, 120, (.agg #[(.slice none 0 0), (.slice none 0 0), (.slice none 0 0), (.slice none 0 0), (.int .i64 0), (.bool false), (.bool false), (.int .i64 0)])⟩ = false := rfl
theorem tc81 : V.ofV (.agg #[(.slice none 0 0), (.slice none 0 0), (.slice none 0 0), (.slice none 0 0), (.int .i64 0), (.bool false), (.bool false), (.int .i64 0)]) = .agg [V.ofV1 (.slice none 0 0), V.ofV1 (.slice none 0 0), V.ofV1 (.slice none 0 0), V.ofV1 (.slice none 0 0), V.ofV1 (.int .i64 0), V.ofV1 (.bool false), V.ofV1 (.bool false), V.ofV1 (.int .i64 0)] := by kernel_rfl
theorem tw81 : Value.oneCell' (.agg #[(.slice none 0 0), (.slice none 0 0), (.slice none 0 0), (.slice none 0 0), (.int .i64 0), (.bool false), (.bool false), (.int .i64 0)]) = false := rfl
theorem tx81 : (#[(.slice none 0 0), (.slice none 0 0), (.slice none 0 0), (.slice none 0 0), (.int .i64 0), (.bool false), (.bool false), (.int .i64 0)] : Array Value).all (fun x => x.oneCell') 0 8 = true := by kernel_rfl
theorem td81 : TyI.zeroV ⟨.struct [(0, 77), (1, 78), (2, 78), (3, 79), (4, 3), (5, 4), (6, 4), (7, 3)], 8, 120, (.agg #[(.slice none 0 0), (.slice none 0 0), (.slice none 0 0), (.slice none 0 0), (.int .i64 0), (.bool false), (.bool false), (.int .i64 0)])⟩ = .agg [V.ofV1 (.slice none 0 0), V.ofV1 (.slice none 0 0), V.ofV1 (.slice none 0 0), V.ofV1 (.slice none 0 0), V.ofV1 (.int .i64 0), V.ofV1 (.bool false), V.ofV1 (.bool false), V.ofV1 (.int .i64 0)] := by kernel_rfl
theorem tp81_0 : placeV tys [(0, 77), (1, 78), (2, 78), (3, 79), (4, 3), (5, 4), (6, 4), (7, 3)] 0 = some (0, 1) := rfl
theorem tp81_1 : placeV tys [(0, 77), (1, 78), (2, 78), (3, 79), (4, 3), (5, 4), (6, 4), (7, 3)] 1 = some (1, 1) := rfl
theorem tp81_2 : placeV tys [(0, 77), (1, 78), (2, 78), (3, 79), (4, 3), (5, 4), (6, 4), (7, 3)] 2 = some (2, 1) := rfl
theorem tp81_3 : placeV tys [(0, 77), (1, 78), (2, 78), (3, 79), (4, 3), (5, 4), (6, 4), (7, 3)] 3 = some (3, 1) := rfl
theorem tp81_4 : placeV tys [(0, 77), (1, 78), (2, 78), (3, 79), (4, 3), (5, 4), (6, 4), (7, 3)] 4 = some (4, 1) := rfl
theorem tp81_5 : placeV tys [(0, 77), (1, 78), (2, 78), (3, 79), (4, 3), (5, 4), (6, 4), (7, 3)] 5 = some (5, 1) := rfl
theorem tp81_6 : placeV tys [(0, 77), (1, 78), (2, 78), (3, 79), (4, 3), (5, 4), (6, 4), (7, 3)] 6 = some (6, 1) := rfl
theorem tp81_7 : placeV tys [(0, 77), (1, 78), (2, 78), (3, 79), (4, 3), (5, 4), (6, 4), (7, 3)] 7 = some (7, 1) := rfl
theorem tq81 : ([(0, 77), (1, 78), (2, 78), (3, 79), (4, 3), (5, 4), (6, 4), (7, 3)].all (fun f => (tys f.2).isSome)) = true := rfl
theorem ty85 : tys 85 = some ⟨.struct [(0, 9), (1, 3)], 2, 24, (.agg #[(.string .empty), (.int .i64 0)])⟩ := rfl
theorem tk85 : kindV tys 85 = some (.struct [(0, 9), (1, 3)]) := rfl
theorem ts85 : sizeV tys 85 = 2 := rfl
theorem ta85 : TyI.isAgg ⟨.struct [(0, 9), (1, 3)], 2, 24, (.agg #[(.string .empty), (.int .i64 0)])⟩ = true := rfl
theorem tu85 : isU8 ⟨.struct [(0, 9), (1, 3)], 2, 24, (.agg #[(.string .empty), (.int .i64 0)])⟩ = false := rfl
theorem tn85 : notIntK tys 85 = true := rfl
theorem tr85 : isStrK tys 85 = false := rfl
theorem tz85 : zeroOk ⟨.struct [(0, 9), (1, 3)], 2, 24, (.agg #[(.string .empty), (.int .i64 0)])⟩ = true := by kernel_rfl
theorem tv85 : zeroU8 ⟨.struct [(0, 9), (1, 3)], 2, 24, (.agg #[(.string .empty), (.int .i64 0)])⟩ = false := rfl
theorem tc85 : V.ofV (.agg #[(.string .empty), (.int .i64 0)]) = .agg [V.ofV1 (.string .empty), V.ofV1 (.int .i64 0)] := by kernel_rfl
theorem tw85 : Value.oneCell' (.agg #[(.string .empty), (.int .i64 0)]) = false := rfl
theorem tx85 : (#[(.string .empty), (.int .i64 0)] : Array Value).all (fun x => x.oneCell') 0 2 = true := by kernel_rfl
theorem td85 : TyI.zeroV ⟨.struct [(0, 9), (1, 3)], 2, 24, (.agg #[(.string .empty), (.int .i64 0)])⟩ = .agg [V.ofV1 (.string .empty), V.ofV1 (.int .i64 0)] := by kernel_rfl
theorem tp85_0 : placeV tys [(0, 9), (1, 3)] 0 = some (0, 1) := rfl
theorem tp85_1 : placeV tys [(0, 9), (1, 3)] 1 = some (1, 1) := rfl
theorem tq85 : ([(0, 9), (1, 3)].all (fun f => (tys f.2).isSome)) = true := rfl
theorem ty88 : tys 88 = some ⟨.struct [(0, 9), (1, 9), (2, 3)], 3, 40, (.agg #[(.string .empty), (.string .empty), (.int .i64 0)])⟩ := rfl
theorem tk88 : kindV tys 88 = some (.struct [(0, 9), (1, 9), (2, 3)]) := rfl
theorem ts88 : sizeV tys 88 = 3 := rfl
theorem ta88 : TyI.isAgg ⟨.struct [(0, 9), (1, 9), (2, 3)], 3, 40, (.agg #[(.string .empty), (.string .empty), (.int .i64 0)])⟩ = true := rfl
theorem tu88 : isU8 ⟨.struct [(0, 9), (1, 9), (2, 3)], 3, 40, (.agg #[(.string .empty), (.string .empty), (.int .i64 0)])⟩ = false := rfl
theorem tn88 : notIntK tys 88 = true := rfl
theorem tr88 : isStrK tys 88 = false := rfl
theorem tz88 : zeroOk ⟨.struct [(0, 9), (1, 9), (2, 3)], 3, 40, (.agg #[(.string .empty), (.string .empty), (.int .i64 0)])⟩ = true := by kernel_rfl
theorem tv88 : zeroU8 ⟨.struct [(0, 9), (1, 9), (2, 3)], 3, 40, (.agg #[(.string .empty), (.string .empty), (.int .i64 0)])⟩ = false := rfl
theorem tc88 : V.ofV (.agg #[(.string .empty), (.string .empty), (.int .i64 0)]) = .agg [V.ofV1 (.string .empty), V.ofV1 (.string .empty), V.ofV1 (.int .i64 0)] := by kernel_rfl
theorem tw88 : Value.oneCell' (.agg #[(.string .empty), (.string .empty), (.int .i64 0)]) = false := rfl
theorem tx88 : (#[(.string .empty), (.string .empty), (.int .i64 0)] : Array Value).all (fun x => x.oneCell') 0 3 = true := by kernel_rfl
theorem td88 : TyI.zeroV ⟨.struct [(0, 9), (1, 9), (2, 3)], 3, 40, (.agg #[(.string .empty), (.string .empty), (.int .i64 0)])⟩ = .agg [V.ofV1 (.string .empty), V.ofV1 (.string .empty), V.ofV1 (.int .i64 0)] := by kernel_rfl
theorem tp88_0 : placeV tys [(0, 9), (1, 9), (2, 3)] 0 = some (0, 1) := rfl
theorem tp88_1 : placeV tys [(0, 9), (1, 9), (2, 3)] 1 = some (1, 1) := rfl
theorem tp88_2 : placeV tys [(0, 9), (1, 9), (2, 3)] 2 = some (2, 1) := rfl
theorem tq88 : ([(0, 9), (1, 9), (2, 3)].all (fun f => (tys f.2).isSome)) = true := rfl
theorem ty91 : tys 91 = some ⟨.struct [(0, 32), (1, 3)], 2, 32, (.agg #[(.slice none 0 0), (.int .i64 0)])⟩ := rfl
theorem tk91 : kindV tys 91 = some (.struct [(0, 32), (1, 3)]) := rfl
theorem ts91 : sizeV tys 91 = 2 := rfl
theorem ta91 : TyI.isAgg ⟨.struct [(0, 32), (1, 3)], 2, 32, (.agg #[(.slice none 0 0), (.int .i64 0)])⟩ = true := rfl
theorem tu91 : isU8 ⟨.struct [(0, 32), (1, 3)], 2, 32, (.agg #[(.slice none 0 0), (.int .i64 0)])⟩ = false := rfl
theorem tn91 : notIntK tys 91 = true := rfl
theorem tr91 : isStrK tys 91 = false := rfl
theorem tz91 : zeroOk ⟨.struct [(0, 32), (1, 3)], 2, 32, (.agg #[(.slice none 0 0), (.int .i64 0)])⟩ = true := by kernel_rfl
theorem tv91 : zeroU8 ⟨.struct [(0, 32), (1, 3)], 2, 32, (.agg #[(.slice none 0 0), (.int .i64 0)])⟩ = false := rfl
theorem tc91 : V.ofV (.agg #[(.slice none 0 0), (.int .i64 0)]) = .agg [V.ofV1 (.slice none 0 0), V.ofV1 (.int .i64 0)] := by kernel_rfl
theorem tw91 : Value.oneCell' (.agg #[(.slice none 0 0), (.int .i64 0)]) = false := rfl
theorem tx91 : (#[(.slice none 0 0), (.int .i64 0)] : Array Value).all (fun x => x.oneCell') 0 2 = true := by kernel_rfl
theorem td91 : TyI.zeroV ⟨.struct [(0, 32), (1, 3)], 2, 32, (.agg #[(.slice none 0 0), (.int .i64 0)])⟩ = .agg [V.ofV1 (.slice none 0 0), V.ofV1 (.int .i64 0)] := by kernel_rfl
theorem tp91_0 : placeV tys [(0, 32), (1, 3)] 0 = some (0, 1) := rfl
theorem tp91_1 : placeV tys [(0, 32), (1, 3)] 1 = some (1, 1) := rfl
theorem tq91 : ([(0, 32), (1, 3)].all (fun f => (tys f.2).isSome)) = true := rfl
theorem ty92 : tys 92 = some ⟨.ptr 103, 1, 8, (.pointer none)⟩ := rfl
theorem tk92 : kindV tys 92 = some (.ptr 103) := rfl
theorem ts92 : sizeV tys 92 = 1 := rfl
theorem ta92 : TyI.isAgg ⟨.ptr 103, 1, 8, (.pointer none)⟩ = false := rfl
theorem tu92 : isU8 ⟨.ptr 103, 1, 8, (.pointer none)⟩ = false := rfl
theorem tn92 : notIntK tys 92 = true := rfl
theorem tr92 : isStrK tys 92 = false := rfl
theorem tz92 : zeroOk ⟨.ptr 103, 1, 8, (.pointer none)⟩ = true := by kernel_rfl
theorem tv92 : zeroU8 ⟨.ptr 103, 1, 8, (.pointer none)⟩ = false := rfl
theorem td92 : TyI.zeroV ⟨.ptr 103, 1, 8, (.pointer none)⟩ = V.ofV1 (.pointer none) := rfl
theorem ty95 : tys 95 = some ⟨.struct [(0, 9), (1, 9), (2, 92)], 3, 40, (.agg #[(.string .empty), (.string .empty), (.pointer none)])⟩ := rfl
theorem tk95 : kindV tys 95 = some (.struct [(0, 9), (1, 9), (2, 92)]) := rfl
theorem ts95 : sizeV tys 95 = 3 := rfl
theorem ta95 : TyI.isAgg ⟨.struct [(0, 9), (1, 9), (2, 92)], 3, 40, (.agg #[(.string .empty), (.string .empty), (.pointer none)])⟩ = true := rfl
theorem tu95 : isU8 ⟨.struct [(0, 9), (1, 9), (2, 92)], 3, 40, (.agg #[(.string .empty), (.string .empty), (.pointer none)])⟩ = false := rfl
theorem tn95 : notIntK tys 95 = true := rfl
theorem tr95 : isStrK tys 95 = false := rfl
theorem tz95 : zeroOk ⟨.struct [(0, 9), (1, 9), (2, 92)], 3, 40, (.agg #[(.string .empty), (.string .empty), (.pointer none)])⟩ = true := by kernel_rfl
theorem tv95 : zeroU8 ⟨.struct [(0, 9), (1, 9), (2, 92)], 3, 40, (.agg #[(.string .empty), (.string .empty), (.pointer none)])⟩ = false := rfl
theorem tc95 : V.ofV (.agg #[(.string .empty), (.string .empty), (.pointer none)]) = .agg [V.ofV1 (.string .empty), V.ofV1 (.string .empty), V.ofV1 (.pointer none)] := by kernel_rfl
theorem tw95 : Value.oneCell' (.agg #[(.string .empty), (.string .empty), (.pointer none)]) = false := rfl
theorem tx95 : (#[(.string .empty), (.string .empty), (.pointer none)] : Array Value).all (fun x => x.oneCell') 0 3 = true := by kernel_rfl
theorem td95 : TyI.zeroV ⟨.struct [(0, 9), (1, 9), (2, 92)], 3, 40, (.agg #[(.string .empty), (.string .empty), (.pointer none)])⟩ = .agg [V.ofV1 (.string .empty), V.ofV1 (.string .empty), V.ofV1 (.pointer none)] := by kernel_rfl
theorem tp95_0 : placeV tys [(0, 9), (1, 9), (2, 92)] 0 = some (0, 1) := rfl
theorem tp95_1 : placeV tys [(0, 9), (1, 9), (2, 92)] 1 = some (1, 1) := rfl
theorem tp95_2 : placeV tys [(0, 9), (1, 9), (2, 92)] 2 = some (2, 1) := rfl
theorem tq95 : ([(0, 9), (1, 9), (2, 92)].all (fun f => (tys f.2).isSome)) = true := rfl
set_option linter.defProp false in
def tcd := And.intro tc25 (And.intro td25 (And.intro tc34 (And.intro td34 (And.intro tc76 (And.intro td76 (And.intro tc81 (And.intro td81 (And.intro tc85 (And.intro td85 (And.intro tc88 (And.intro td88 (And.intro tc91 (And.intro td91 (And.intro tc95 (td95)))))))))))))))

attribute [bitvec_to_nat] ty3 tk3 ts3 ta3 tu3 tn3 tr3 tz3 tv3 td3 ty4 tk4 ts4 ta4 tu4 tn4 tr4 tz4 tv4 td4 ty5 tk5 ts5 ta5 tu5 tn5 tr5 tz5 tv5 td5 ty9 tk9 ts9 ta9 tu9 tn9 tr9 tz9 tv9 td9 ty22 tk22 ts22 ta22 tb22 te22 tu22 tn22 tr22 tz22 tv22 td22 ty23 tk23 ts23 ta23 tb23 te23 tu23 tn23 tr23 tz23 tv23 td23 ty25 tk25 ts25 ta25 tu25 tn25 tr25 tz25 tv25 tw25 tx25 tp25_0 tp25_1 tq25 ty27 tk27 ts27 ta27 tu27 tn27 tr27 tz27 tv27 td27 ty29 tk29 ts29 ta29 tu29 tn29 tr29 tz29 tv29 td29 ty32 tk32 ts32 ta32 tb32 te32 tu32 tn32 tr32 tz32 tv32 td32 ty34 tk34 ts34 ta34 tu34 tn34 tr34 tz34 tv34 tw34 tx34 tp34_0 tp34_1 tp34_2 tp34_3 tp34_4 tp34_5 tq34 ty35 tk35 ts35 ta35 tu35 tn35 tr35 tz35 tv35 td35 ty44 tk44 ts44 ta44 tb44 te44 tu44 tn44 tr44 tz44 tv44 td44 ty73 tk73 ts73 ta73 tu73 tn73 tr73 tz73 tv73 td73 ty74 tk74 ts74 ta74 tb74 te74 tu74 tn74 tr74 tz74 tv74 td74 ty76 tk76 ts76 ta76 tu76 tn76 tr76 tz76 tv76 tw76 tx76 tp76_0 tp76_1 tp76_2 tp76_3 tp76_4 tp76_5 tp76_6 tp76_7 tq76 ty77 tk77 ts77 ta77 tb77 te77 tu77 tn77 tr77 tz77 tv77 td77 ty78 tk78 ts78 ta78 tb78 te78 tu78 tn78 tr78 tz78 tv78 td78 ty79 tk79 ts79 ta79 tb79 te79 tu79 tn79 tr79 tz79 tv79 td79 ty81 tk81 ts81 ta81 tu81 tn81 tr81 tz81 tv81 tw81 tx81 tp81_0 tp81_1 tp81_2 tp81_3 tp81_4 tp81_5 tp81_6 tp81_7 tq81 ty85 tk85 ts85 ta85 tu85 tn85 tr85 tz85 tv85 tw85 tx85 tp85_0 tp85_1 tq85 ty88 tk88 ts88 ta88 tu88 tn88 tr88 tz88 tv88 tw88 tx88 tp88_0 tp88_1 tp88_2 tq88 ty91 tk91 ts91 ta91 tu91 tn91 tr91 tz91 tv91 tw91 tx91 tp91_0 tp91_1 tq91 ty92 tk92 ts92 ta92 tu92 tn92 tr92 tz92 tv92 td92 ty95 tk95 ts95 ta95 tu95 tn95 tr95 tz95 tv95 tw95 tx95 tp95_0 tp95_1 tp95_2 tq95
def X0 : Fns := { fn := fun _ => none }
theorem X0_fn (f : FuncId) : X0.fn f = none := rfl
theorem X0_mu (d : Tmp) : X0.mu d = .no := rfl
theorem X0_hp (f : FuncId) : X0.hp f = none := rfl
theorem X0_ord (i : Nat) : X0.ord i = none := rfl
theorem X0ok : FnsOk Try.prog X0 := FnsOk.nil _ rfl rfl
attribute [bitvec_to_nat] X0_fn X0_mu X0_hp X0_ord

abbrev createRP : PM := opRP createF
abbrev readRP : PM := opRP readF
abbrev syncRP : PM := opRP syncF
abbrev renameRP : PM := opRP renameF
abbrev removeRP : PM := opRP removeF
abbrev syncNamesRP : PM := opRP syncNamesF
abbrev namesRP : PM := opRP namesF
abbrev doomRP : PM := opRP doomF
abbrev growRP : PM := opRP growF
abbrev appendRP : PM := opRP appendF
def X1 : Fns := { fn := fun f => X0.fn f, mu := fun d => .no, hp := fun f => if f = 49 then some createRP else if f = 50 then some readRP else if f = 51 then some syncRP else if f = 52 then some renameRP else if f = 53 then some removeRP else if f = 54 then some syncNamesRP else if f = 55 then some namesRP else if f = 56 then some doomRP else if f = 57 then some growRP else if f = 58 then some appendRP else if f = 27 then some crashRP else X0.hp f, ord := fun i => none }
theorem X1_fn (f : FuncId) : X1.fn f = (X0.fn f) := rfl
theorem X1_mu (d : Tmp) : X1.mu d = (.no) := rfl
theorem X1_hp (f : FuncId) : X1.hp f = (if f = 49 then some createRP else if f = 50 then some readRP else if f = 51 then some syncRP else if f = 52 then some renameRP else if f = 53 then some removeRP else if f = 54 then some syncNamesRP else if f = 55 then some namesRP else if f = 56 then some doomRP else if f = 57 then some growRP else if f = 58 then some appendRP else if f = 27 then some crashRP else X0.hp f) := rfl
theorem X1_ord (i : Nat) : X1.ord i = (none) := rfl
theorem X1ok : FnsOk Try.prog X1 := FnsOk.same (FnsOk.consP (FnsOk.consP (FnsOk.consP (FnsOk.consP (FnsOk.consP (FnsOk.consP (FnsOk.consP (FnsOk.consP (FnsOk.consP (FnsOk.consP (FnsOk.consP X0ok _ _ Ref.crashR_ok Try.func27 (by decide) (fun h => by cases h)) _ _ Ref.appendR_ok Try.func58 (by decide) (fun h => by cases h)) _ _ Ref.growR_ok Try.func57 (by decide) (fun h => by cases h)) _ _ Ref.doomR_ok Try.func56 (by decide) (fun h => by cases h)) _ _ Ref.namesR_ok Try.func55 (by decide) (fun h => by cases h)) _ _ Ref.syncNamesR_ok Try.func54 (by decide) (fun h => by cases h)) _ _ Ref.removeR_ok Try.func53 (by decide) (fun h => by cases h)) _ _ Ref.renameR_ok Try.func52 (by decide) (fun h => by cases h)) _ _ Ref.syncR_ok Try.func51 (by decide) (fun h => by cases h)) _ _ Ref.readR_ok Try.func50 (by decide) (fun h => by cases h)) _ _ Ref.createR_ok Try.func49 (by decide) (fun h => by cases h)) rfl rfl
attribute [bitvec_to_nat] X1_fn X1_mu X1_hp X1_ord

theorem opr_at {op : List V → Option (MD → MD × V)} {L : LL} {T : TT} {M : MD} {o fo : Nat} {rest : List V} {g : MD → MD × V} {K : V → LL → TT → Prop} (hg : op rest = some g) (hd : RefAt L M o fo) (hs : Small M)
    (hK : ∀ L' T' fo', RefAt L' (g M).1 o fo' → Step (rS o fo) noS L T (rS o fo') noS L' T' → K (g M).2 L' T') : opRP op (.box o 0 :: rest) L T K := ⟨M, o, fo, rest, g, rfl, hg, hd, hs, hK⟩
def didP : PM := fun args L T K => ∃ (M : MD) (o fo : Nat) (a : DiskL.Act), args = [.box o 0, actV a] ∧ a.Ok ∧ RefAt L M o fo ∧ Small M ∧
  ∀ L' T' fo', RefAt L' (act M a).1 o fo' → Step (rS o fo) noS L T (rS o fo') noS L' T' → K (codeV (act M a).2) L' T'
theorem did_ok : PSound Try.prog 20 didP := by
  refine psound tysOk X1ok mix Try.func20 rfl ?_
  intro args L T K hm
  obtain ⟨M, o, fo, a, rfl, ⟨ha1, ha2, ha3⟩, hd, hsm, hK⟩ := hm
  have hlt := hd.lt.1
  have hst0 : Step (rS o fo) noS L T (rS o fo) noS (L ++ [[.int .u8 a.kind.toNat, .str a.name, .str a.to, .bytes a.b none, .int .i64 a.n, .int .i64 a.w.names, wbV a.w.bytes]]) T := (Step.refl _ _ _ _).app _
  have hd0 : RefAt (L ++ [[.int .u8 a.kind.toNat, .str a.name, .str a.to, .bytes a.b none, .int .i64 a.n, .int .i64 a.w.names, wbV a.w.bytes]]) M o fo := hd.frame (T := T) (T' := T) ((Step.refl noS noS L T).app _) (fun _ _ h => h)
  have hk : a.kind.toNat % 13 < 13 := Nat.mod_lt _ (by omega)
  have hmod : ((a.kind.toNat : Nat) : Int).tmod 13 = ((a.kind.toNat % 13 : Nat) : Int) := rfl
  unfold actV wbV at *
  have hc : a.kind.toNat % 13 = 0 ∨ a.kind.toNat % 13 = 4 ∨ a.kind.toNat % 13 = 5 ∨ a.kind.toNat % 13 = 6 ∨ a.kind.toNat % 13 = 7 ∨ a.kind.toNat % 13 = 8 ∨ a.kind.toNat % 13 = 9 ∨ a.kind.toNat % 13 = 10 ∨ a.kind.toNat % 13 = 11 ∨ a.kind.toNat % 13 = 12 ∨ (a.kind.toNat % 13 ≠ 0 ∧ a.kind.toNat % 13 ≠ 4 ∧ a.kind.toNat % 13 ≠ 5 ∧ a.kind.toNat % 13 ≠ 6 ∧ a.kind.toNat % 13 ≠ 7 ∧ a.kind.toNat % 13 ≠ 8 ∧ a.kind.toNat % 13 ≠ 9 ∧ a.kind.toNat % 13 ≠ 10 ∧ a.kind.toNat % 13 ≠ 11 ∧ a.kind.toNat % 13 ≠ 12) := by omega
  rcases hc with hc | hc | hc | hc | hc | hc | hc | hc | hc | hc | hc
  · have e : act M a = M.create a.name := by simp only [act, hc]
    rw [e] at hK
    rw [hc] at hmod
    simp (maxSteps:=2000000) only[bitvec_to_nat,↓r_ifTrue,↓r_ifFalse,Nat.reduceAdd,Nat.reduceSub,Nat.reduceMul,Nat.reduceLT,Nat.reduceLeDiff,Nat.reduceEqDiff,Nat.reduceBEq,Nat.reduceBNe,Int.reduceToNat,Int.reduceLE,Int.reduceLT,Int.reduceEq,Int.reduceNe,Int.reduceNeg,Nat.reducePow,Int.reducePow,reduceIte,reduceCtorEq,↓tcd,Try.f20,hmod,Int.natCast_zero,Int.cast_ofNat_Int]
    exact opr_at rfl hd0 hsm fun L' T' fo' hd' hst => ret_of (hst0.trans hst) (hK L' T' fo' hd' (hst0.trans hst))
  · have e : act M a = M.read a.name := by simp only [act, hc]
    rw [e] at hK
    rw [hc] at hmod
    simp (maxSteps:=2000000) only[bitvec_to_nat,↓r_ifTrue,↓r_ifFalse,Nat.reduceAdd,Nat.reduceSub,Nat.reduceMul,Nat.reduceLT,Nat.reduceLeDiff,Nat.reduceEqDiff,Nat.reduceBEq,Nat.reduceBNe,Int.reduceToNat,Int.reduceLE,Int.reduceLT,Int.reduceEq,Int.reduceNe,Int.reduceNeg,Nat.reducePow,Int.reducePow,reduceIte,reduceCtorEq,↓tcd,Try.f20,hmod,Int.natCast_zero,Int.cast_ofNat_Int]
    refine opr_at rfl hd0 hsm fun L' T' fo' hd' hst => ?_
    simp (maxSteps:=2000000) only[bitvec_to_nat,↓r_ifTrue,↓r_ifFalse,Nat.reduceAdd,Nat.reduceSub,Nat.reduceMul,Nat.reduceLT,Nat.reduceLeDiff,Nat.reduceEqDiff,Nat.reduceBEq,Nat.reduceBNe,Int.reduceToNat,Int.reduceLE,Int.reduceLT,Int.reduceEq,Int.reduceNe,Int.reduceNeg,Nat.reducePow,Int.reducePow,reduceIte,reduceCtorEq,↓tcd]
    exact ret_of (hst0.trans hst) (hK L' T' fo' hd' (hst0.trans hst))
  · have e : act M a = M.sync a.name := by simp only [act, hc]
    rw [e] at hK
    rw [hc] at hmod
    simp (maxSteps:=2000000) only[bitvec_to_nat,↓r_ifTrue,↓r_ifFalse,Nat.reduceAdd,Nat.reduceSub,Nat.reduceMul,Nat.reduceLT,Nat.reduceLeDiff,Nat.reduceEqDiff,Nat.reduceBEq,Nat.reduceBNe,Int.reduceToNat,Int.reduceLE,Int.reduceLT,Int.reduceEq,Int.reduceNe,Int.reduceNeg,Nat.reducePow,Int.reducePow,reduceIte,reduceCtorEq,↓tcd,Try.f20,hmod,Int.natCast_zero,Int.cast_ofNat_Int]
    exact opr_at rfl hd0 hsm fun L' T' fo' hd' hst => ret_of (hst0.trans hst) (hK L' T' fo' hd' (hst0.trans hst))
  · have e : act M a = M.rename a.name a.to := by simp only [act, hc]
    rw [e] at hK
    rw [hc] at hmod
    simp (maxSteps:=2000000) only[bitvec_to_nat,↓r_ifTrue,↓r_ifFalse,Nat.reduceAdd,Nat.reduceSub,Nat.reduceMul,Nat.reduceLT,Nat.reduceLeDiff,Nat.reduceEqDiff,Nat.reduceBEq,Nat.reduceBNe,Int.reduceToNat,Int.reduceLE,Int.reduceLT,Int.reduceEq,Int.reduceNe,Int.reduceNeg,Nat.reducePow,Int.reducePow,reduceIte,reduceCtorEq,↓tcd,Try.f20,hmod,Int.natCast_zero,Int.cast_ofNat_Int]
    exact opr_at rfl hd0 hsm fun L' T' fo' hd' hst => ret_of (hst0.trans hst) (hK L' T' fo' hd' (hst0.trans hst))
  · have e : act M a = M.remove a.name := by simp only [act, hc]
    rw [e] at hK
    rw [hc] at hmod
    simp (maxSteps:=2000000) only[bitvec_to_nat,↓r_ifTrue,↓r_ifFalse,Nat.reduceAdd,Nat.reduceSub,Nat.reduceMul,Nat.reduceLT,Nat.reduceLeDiff,Nat.reduceEqDiff,Nat.reduceBEq,Nat.reduceBNe,Int.reduceToNat,Int.reduceLE,Int.reduceLT,Int.reduceEq,Int.reduceNe,Int.reduceNeg,Nat.reducePow,Int.reducePow,reduceIte,reduceCtorEq,↓tcd,Try.f20,hmod,Int.natCast_zero,Int.cast_ofNat_Int]
    exact opr_at rfl hd0 hsm fun L' T' fo' hd' hst => ret_of (hst0.trans hst) (hK L' T' fo' hd' (hst0.trans hst))
  · have e : act M a = M.syncNames := by simp only [act, hc]
    rw [e] at hK
    rw [hc] at hmod
    simp (maxSteps:=2000000) only[bitvec_to_nat,↓r_ifTrue,↓r_ifFalse,Nat.reduceAdd,Nat.reduceSub,Nat.reduceMul,Nat.reduceLT,Nat.reduceLeDiff,Nat.reduceEqDiff,Nat.reduceBEq,Nat.reduceBNe,Int.reduceToNat,Int.reduceLE,Int.reduceLT,Int.reduceEq,Int.reduceNe,Int.reduceNeg,Nat.reducePow,Int.reducePow,reduceIte,reduceCtorEq,↓tcd,Try.f20,hmod,Int.natCast_zero,Int.cast_ofNat_Int]
    exact opr_at rfl hd0 hsm fun L' T' fo' hd' hst => ret_of (hst0.trans hst) (hK L' T' fo' hd' (hst0.trans hst))
  · have e : act M a = M.names := by simp only [act, hc]
    rw [e] at hK
    rw [hc] at hmod
    simp (maxSteps:=2000000) only[bitvec_to_nat,↓r_ifTrue,↓r_ifFalse,Nat.reduceAdd,Nat.reduceSub,Nat.reduceMul,Nat.reduceLT,Nat.reduceLeDiff,Nat.reduceEqDiff,Nat.reduceBEq,Nat.reduceBNe,Int.reduceToNat,Int.reduceLE,Int.reduceLT,Int.reduceEq,Int.reduceNe,Int.reduceNeg,Nat.reducePow,Int.reducePow,reduceIte,reduceCtorEq,↓tcd,Try.f20,hmod,Int.natCast_zero,Int.cast_ofNat_Int]
    refine opr_at rfl hd0 hsm fun L' T' fo' hd' hst => ?_
    simp (maxSteps:=2000000) only[bitvec_to_nat,↓r_ifTrue,↓r_ifFalse,Nat.reduceAdd,Nat.reduceSub,Nat.reduceMul,Nat.reduceLT,Nat.reduceLeDiff,Nat.reduceEqDiff,Nat.reduceBEq,Nat.reduceBNe,Int.reduceToNat,Int.reduceLE,Int.reduceLT,Int.reduceEq,Int.reduceNe,Int.reduceNeg,Nat.reducePow,Int.reducePow,reduceIte,reduceCtorEq,↓tcd]
    exact ret_of (hst0.trans hst) (hK L' T' fo' hd' (hst0.trans hst))
  · have e : act M a = M.doom a.n := by simp only [act, hc]
    rw [e] at hK
    rw [hc] at hmod
    simp (maxSteps:=2000000) only[bitvec_to_nat,↓r_ifTrue,↓r_ifFalse,Nat.reduceAdd,Nat.reduceSub,Nat.reduceMul,Nat.reduceLT,Nat.reduceLeDiff,Nat.reduceEqDiff,Nat.reduceBEq,Nat.reduceBNe,Int.reduceToNat,Int.reduceLE,Int.reduceLT,Int.reduceEq,Int.reduceNe,Int.reduceNeg,Nat.reducePow,Int.reducePow,reduceIte,reduceCtorEq,↓tcd,Try.f20,hmod,Int.natCast_zero,Int.cast_ofNat_Int]
    exact opr_at (if_pos ha2) hd0 hsm fun L' T' fo' hd' hst => ret_of (hst0.trans hst) (hK L' T' fo' hd' (hst0.trans hst))
  · have e : act M a = (M.crash a.w, 0) := by simp only [act, hc]
    rw [e] at hK
    rw [hc] at hmod
    simp (maxSteps:=2000000) only[bitvec_to_nat,↓r_ifTrue,↓r_ifFalse,Nat.reduceAdd,Nat.reduceSub,Nat.reduceMul,Nat.reduceLT,Nat.reduceLeDiff,Nat.reduceEqDiff,Nat.reduceBEq,Nat.reduceBNe,Int.reduceToNat,Int.reduceLE,Int.reduceLT,Int.reduceEq,Int.reduceNe,Int.reduceNeg,Nat.reducePow,Int.reducePow,reduceIte,reduceCtorEq,↓tcd,Try.f20,hmod,Int.natCast_zero,Int.cast_ofNat_Int]
    exact ⟨M, o, fo, a.w.names, _, a.w.bytes, rfl, .inr ⟨none, rfl⟩, ha3, hd0, hsm, fun L' T' fo' hd' hst => ret_of (hst0.trans hst) (hK L' T' fo' hd' (hst0.trans hst))⟩
  · have e : act M a = M.grow a.n := by simp only [act, hc]
    rw [e] at hK
    rw [hc] at hmod
    simp (maxSteps:=2000000) only[bitvec_to_nat,↓r_ifTrue,↓r_ifFalse,Nat.reduceAdd,Nat.reduceSub,Nat.reduceMul,Nat.reduceLT,Nat.reduceLeDiff,Nat.reduceEqDiff,Nat.reduceBEq,Nat.reduceBNe,Int.reduceToNat,Int.reduceLE,Int.reduceLT,Int.reduceEq,Int.reduceNe,Int.reduceNeg,Nat.reducePow,Int.reducePow,reduceIte,reduceCtorEq,↓tcd,Try.f20,hmod,Int.natCast_zero,Int.cast_ofNat_Int]
    exact opr_at rfl hd0 hsm fun L' T' fo' hd' hst => ret_of (hst0.trans hst) (hK L' T' fo' hd' (hst0.trans hst))
  · have e : act M a = M.append a.name a.b := by unfold act; split <;> first | omega | rfl
    rw [e] at hK
    have hz : ∀ c : Nat, a.kind.toNat % 13 ≠ c → decide (((a.kind.toNat : Nat) : Int).tmod 13 = (c : Int)) = false := fun c h => decide_eq_false (by rw [hmod]; omega)
    obtain ⟨c0, c4, c5, c6, c7, c8, c9, c10, c11, c12⟩ := hc
    have z0 := hz 0 c0
    have z4 := hz 4 c4
    have z5 := hz 5 c5
    have z6 := hz 6 c6
    have z7 := hz 7 c7
    have z8 := hz 8 c8
    have z9 := hz 9 c9
    have z10 := hz 10 c10
    have z11 := hz 11 c11
    have z12 := hz 12 c12
    simp only [Int.natCast_zero, Int.cast_ofNat_Int] at z0 z4 z5 z6 z7 z8 z9 z10 z11 z12
    simp (maxSteps:=2000000) only[bitvec_to_nat,↓r_ifTrue,↓r_ifFalse,Nat.reduceAdd,Nat.reduceSub,Nat.reduceMul,Nat.reduceLT,Nat.reduceLeDiff,Nat.reduceEqDiff,Nat.reduceBEq,Nat.reduceBNe,Int.reduceToNat,Int.reduceLE,Int.reduceLT,Int.reduceEq,Int.reduceNe,Int.reduceNeg,Nat.reducePow,Int.reducePow,reduceIte,reduceCtorEq,↓tcd,Try.f20,z0,z4,z5,z6,z7,z8,z9,z10,z11,z12]
    exact opr_at (if_pos ha1) hd0 hsm fun L' T' fo' hd' hst => ret_of (hst0.trans hst) (hK L' T' fo' hd' (hst0.trans hst))

end Go.Proofs.Ytieeojipodefoaa.DiskX
