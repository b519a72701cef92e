/-
  THE LAWS' HELPERS for package disk: acts.
-/
import Derived.Test.YtieeojipodefoaaAwX
import Derived.Test.YtieeojipodefoaaDisk2
namespace Go.Proofs.Ytieeojipodefoaa.DiskL
open Go Go.Proofs Go.Proofs.Ytieeojipodefoaa.Aw Go.Proofs.Ytieeojipodefoaa.Num Go.Proofs.Ytieeojipodefoaa.DiskM Go.Proofs.Ytieeojipodefoaa.DiskA Go.Proofs.Ytieeojipodefoaa.DiskK Go.Proofs.Ytieeojipodefoaa.DiskC Go.Proofs.Ytieeojipodefoaa.Disk
set_option linter.unusedSimpArgs false
set_option linter.unusedVariables false
def tys : Tys := fun t => if t = 3 then some ⟨.int .i64, 1, 8, (.int .i64 0)⟩ else if t = 4 then some ⟨.bool, 1, 1, (.bool false)⟩ else if t = 5 then some ⟨.int .u8, 1, 1, (.int .u8 0)⟩ else if t = 9 then some ⟨.str, 1, 16, (.string .empty)⟩ else if t = 22 then some ⟨.slice 34, 1, 24, (.slice none 0 0)⟩ else if t = 23 then some ⟨.slice 3, 1, 24, (.slice none 0 0)⟩ else if t = 25 then some ⟨.struct [(0, 3), (1, 23)], 2, 32, (.agg #[(.int .i64 0), (.slice none 0 0)])⟩ else if t = 27 then some ⟨.ptr 76, 1, 8, (.pointer none)⟩ else if t = 32 then some ⟨.slice 5, 1, 24, (.slice none 0 0)⟩ else if t = 34 then some ⟨.struct [(0, 5), (1, 9), (2, 9), (3, 32), (4, 3), (5, 25)], 7, 104, (.agg #[(.int .u8 0), (.string .empty), (.string .empty), (.slice none 0 0), (.int .i64 0), (.int .i64 0), (.slice none 0 0)])⟩ else if t = 35 then some ⟨.int .i64, 1, 8, (.int .i64 0)⟩ else if t = 44 then some ⟨.slice 9, 1, 24, (.slice none 0 0)⟩ else if t = 73 then some ⟨.map 9 92, 1, 8, (.map none)⟩ else if t = 74 then some ⟨.slice 95, 1, 24, (.slice none 0 0)⟩ else if t = 76 then some ⟨.struct [(0, 3), (1, 3), (2, 73), (3, 73), (4, 74), (5, 4), (6, 4), (7, 3)], 8, 72, (.agg #[(.int .i64 0), (.int .i64 0), (.map none), (.map none), (.slice none 0 0), (.bool false), (.bool false), (.int .i64 0)])⟩ else if t = 92 then some ⟨.ptr 103, 1, 8, (.pointer none)⟩ else if t = 95 then some ⟨.struct [(0, 9), (1, 9), (2, 92)], 3, 40, (.agg #[(.string .empty), (.string .empty), (.pointer none)])⟩ else if t = 103 then some ⟨.struct [(0, 32), (1, 3)], 2, 32, (.agg #[(.slice none 0 0), (.int .i64 0)])⟩ else none
theorem tysOk : TyOk Try.prog tys := by
  refine TyOk.cons ?_ 3 _ (by kernel_rfl) (by kernel_rfl)
  refine TyOk.cons ?_ 4 _ (by kernel_rfl) (by kernel_rfl)
  refine TyOk.cons ?_ 5 _ (by kernel_rfl) (by kernel_rfl)
  refine TyOk.cons ?_ 9 _ (by kernel_rfl) (by kernel_rfl)
  refine TyOk.cons ?_ 22 _ (by kernel_rfl) (by kernel_rfl)
  refine TyOk.cons ?_ 23 _ (by kernel_rfl) (by kernel_rfl)
  refine TyOk.cons ?_ 25 _ (by kernel_rfl) (by kernel_rfl)
  refine TyOk.cons ?_ 27 _ (by kernel_rfl) (by kernel_rfl)
  refine TyOk.cons ?_ 32 _ (by kernel_rfl) (by kernel_rfl)
  refine TyOk.cons ?_ 34 _ (by kernel_rfl) (by kernel_rfl)
  refine TyOk.cons ?_ 35 _ (by kernel_rfl) (by kernel_rfl)
  refine TyOk.cons ?_ 44 _ (by kernel_rfl) (by kernel_rfl)
  refine TyOk.cons ?_ 73 _ (by kernel_rfl) (by kernel_rfl)
  refine TyOk.cons ?_ 74 _ (by kernel_rfl) (by kernel_rfl)
  refine TyOk.cons ?_ 76 _ (by kernel_rfl) (by kernel_rfl)
  refine TyOk.cons ?_ 92 _ (by kernel_rfl) (by kernel_rfl)
  refine TyOk.cons ?_ 95 _ (by kernel_rfl) (by kernel_rfl)
  refine TyOk.cons ?_ 103 _ (by kernel_rfl) (by kernel_rfl)
  exact TyOk.nil _
theorem mix : Try.prog.follows .mixedOrders = true := by kernel_rfl
theorem ty3 : tys 3 = some ⟨.int .i64, 1, 8, (.int .i64 0)⟩ := rfl
theorem tk3 : kindV tys 3 = some (.int .i64) := rfl
theorem ts3 : sizeV tys 3 = 1 := rfl
theorem ta3 : TyI.isAgg ⟨.int .i64, 1, 8, (.int .i64 0)⟩ = false := rfl
theorem tu3 : isU8 ⟨.int .i64, 1, 8, (.int .i64 0)⟩ = false := rfl
theorem tn3 : notIntK tys 3 = false := rfl
theorem tr3 : isStrK tys 3 = false := rfl
theorem tz3 : zeroOk ⟨.int .i64, 1, 8, (.int .i64 0)⟩ = true := by kernel_rfl
theorem tv3 : zeroU8 ⟨.int .i64, 1, 8, (.int .i64 0)⟩ = false := rfl
theorem td3 : TyI.zeroV ⟨.int .i64, 1, 8, (.int .i64 0)⟩ = V.ofV1 (.int .i64 0) := rfl
theorem ty4 : tys 4 = some ⟨.bool, 1, 1, (.bool false)⟩ := rfl
theorem tk4 : kindV tys 4 = some (.bool) := rfl
theorem ts4 : sizeV tys 4 = 1 := rfl
theorem ta4 : TyI.isAgg ⟨.bool, 1, 1, (.bool false)⟩ = false := rfl
theorem tu4 : isU8 ⟨.bool, 1, 1, (.bool false)⟩ = false := rfl
theorem tn4 : notIntK tys 4 = true := rfl
theorem tr4 : isStrK tys 4 = false := rfl
theorem tz4 : zeroOk ⟨.bool, 1, 1, (.bool false)⟩ = true := by kernel_rfl
theorem tv4 : zeroU8 ⟨.bool, 1, 1, (.bool false)⟩ = false := rfl
theorem td4 : TyI.zeroV ⟨.bool, 1, 1, (.bool false)⟩ = V.ofV1 (.bool false) := rfl
theorem ty5 : tys 5 = some ⟨.int .u8, 1, 1, (.int .u8 0)⟩ := rfl
theorem tk5 : kindV tys 5 = some (.int .u8) := rfl
theorem ts5 : sizeV tys 5 = 1 := rfl
theorem ta5 : TyI.isAgg ⟨.int .u8, 1, 1, (.int .u8 0)⟩ = false := rfl
theorem tu5 : isU8 ⟨.int .u8, 1, 1, (.int .u8 0)⟩ = true := rfl
theorem tn5 : notIntK tys 5 = false := rfl
theorem tr5 : isStrK tys 5 = false := rfl
theorem tz5 : zeroOk ⟨.int .u8, 1, 1, (.int .u8 0)⟩ = true := by kernel_rfl
theorem tv5 : zeroU8 ⟨.int .u8, 1, 1, (.int .u8 0)⟩ = true := rfl
theorem td5 : TyI.zeroV ⟨.int .u8, 1, 1, (.int .u8 0)⟩ = V.ofV1 (.int .u8 0) := rfl
theorem ty9 : tys 9 = some ⟨.str, 1, 16, (.string .empty)⟩ := rfl
theorem tk9 : kindV tys 9 = some (.str) := rfl
theorem ts9 : sizeV tys 9 = 1 := rfl
theorem ta9 : TyI.isAgg ⟨.str, 1, 16, (.string .empty)⟩ = false := rfl
theorem tu9 : isU8 ⟨.str, 1, 16, (.string .empty)⟩ = false := rfl
theorem tn9 : notIntK tys 9 = true := rfl
theorem tr9 : isStrK tys 9 = true := rfl
theorem tz9 : zeroOk ⟨.str, 1, 16, (.string .empty)⟩ = true := by kernel_rfl
theorem tv9 : zeroU8 ⟨.str, 1, 16, (.string .empty)⟩ = false := rfl
theorem td9 : TyI.zeroV ⟨.str, 1, 16, (.string .empty)⟩ = V.ofV1 (.string .empty) := rfl
theorem ty22 : tys 22 = some ⟨.slice 34, 1, 24, (.slice none 0 0)⟩ := rfl
theorem tk22 : kindV tys 22 = some (.slice 34) := rfl
theorem ts22 : sizeV tys 22 = 1 := rfl
theorem ta22 : TyI.isAgg ⟨.slice 34, 1, 24, (.slice none 0 0)⟩ = false := rfl
theorem tb22 : isBytes tys 22 = false := rfl
theorem te22 : elemI tys 22 = some (34, ⟨.struct [(0, 5), (1, 9), (2, 9), (3, 32), (4, 3), (5, 25)], 7, 104, (.agg #[(.int .u8 0), (.string .empty), (.string .empty), (.slice none 0 0), (.int .i64 0), (.int .i64 0), (.slice none 0 0)])⟩) := rfl
theorem tu22 : isU8 ⟨.slice 34, 1, 24, (.slice none 0 0)⟩ = false := rfl
theorem tn22 : notIntK tys 22 = true := rfl
theorem tr22 : isStrK tys 22 = false := rfl
theorem tz22 : zeroOk ⟨.slice 34, 1, 24, (.slice none 0 0)⟩ = true := by kernel_rfl
theorem tv22 : zeroU8 ⟨.slice 34, 1, 24, (.slice none 0 0)⟩ = false := rfl
theorem td22 : TyI.zeroV ⟨.slice 34, 1, 24, (.slice none 0 0)⟩ = V.ofV1 (.slice none 0 0) := rfl
theorem ty23 : tys 23 = some ⟨.slice 3, 1, 24, (.slice none 0 0)⟩ := rfl
theorem tk23 : kindV tys 23 = some (.slice 3) := rfl
theorem ts23 : sizeV tys 23 = 1 := rfl
theorem ta23 : TyI.isAgg ⟨.slice 3, 1, 24, (.slice none 0 0)⟩ = false := rfl
theorem tb23 : isBytes tys 23 = false := rfl
theorem te23 : elemI tys 23 = some (3, ⟨.int .i64, 1, 8, (.int .i64 0)⟩) := rfl
theorem tu23 : isU8 ⟨.slice 3, 1, 24, (.slice none 0 0)⟩ = false := rfl
theorem tn23 : notIntK tys 23 = true := rfl
theorem tr23 : isStrK tys 23 = false := rfl
theorem tz23 : zeroOk ⟨.slice 3, 1, 24, (.slice none 0 0)⟩ = true := by kernel_rfl
theorem tv23 : zeroU8 ⟨.slice 3, 1, 24, (.slice none 0 0)⟩ = false := rfl
theorem td23 : TyI.zeroV ⟨.slice 3, 1, 24, (.slice none 0 0)⟩ = V.ofV1 (.slice none 0 0) := rfl
theorem ty25 : tys 25 = some ⟨.struct [(0, 3), (1, 23)], 2, 32, (.agg #[(.int .i64 0), (.slice none 0 0)])⟩ := rfl
theorem tk25 : kindV tys 25 = some (.struct [(0, 3), (1, 23)]) := rfl
theorem ts25 : sizeV tys 25 = 2 := rfl
theorem ta25 : TyI.isAgg ⟨.struct [(0, 3), (1, 23)], 2, 32, (.agg #[(.int .i64 0), (.slice none 0 0)])⟩ = true := rfl
theorem tu25 : isU8 ⟨.struct [(0, 3), (1, 23)], 2, 32, (.agg #[(.int .i64 0), (.slice none 0 0)])⟩ = false := rfl
theorem tn25 : notIntK tys 25 = true := rfl
theorem tr25 : isStrK tys 25 = false := rfl
theorem tz25 : zeroOk ⟨.struct [(0, 3), (1, 23)], 2, 32, (.agg #[(.int .i64 0), (.slice none 0 0)])⟩ = true := by kernel_rfl
theorem tv25 : zeroU8 ⟨.struct [(0, 3), (1, 23)], 2, 32, (.agg #[(.int .i64 0), (.slice none 0 0)])⟩ = false := rfl
theorem tc25 : V.ofV (.agg #[(.int .i64 0), (.slice none 0 0)]) = .agg [V.ofV1 (.int .i64 0), V.ofV1 (.slice none 0 0)] := by kernel_rfl
theorem tw25 : Value.oneCell' (.agg #[(.int .i64 0), (.slice none 0 0)]) = false := rfl
theorem tx25 : (#[(.int .i64 0), (.slice none 0 0)] : Array Value).all (fun x => x.oneCell') 0 2 = true := by kernel_rfl
theorem td25 : TyI.zeroV ⟨.struct [(0, 3), (1, 23)], 2, 32, (.agg #[(.int .i64 0), (.slice none 0 0)])⟩ = .agg [V.ofV1 (.int .i64 0), V.ofV1 (.slice none 0 0)] := by kernel_rfl
theorem tp25_0 : placeV tys [(0, 3), (1, 23)] 0 = some (0, 1) := rfl
theorem tp25_1 : placeV tys [(0, 3), (1, 23)] 1 = some (1, 1) := rfl
theorem tq25 : ([(0, 3), (1, 23)].all (fun f => (tys f.2).isSome)) = true := rfl
theorem ty27 : tys 27 = some ⟨.ptr 76, 1, 8, (.pointer none)⟩ := rfl
theorem tk27 : kindV tys 27 = some (.ptr 76) := rfl
theorem ts27 : sizeV tys 27 = 1 := rfl
theorem ta27 : TyI.isAgg ⟨.ptr 76, 1, 8, (.pointer none)⟩ = false := rfl
theorem tu27 : isU8 ⟨.ptr 76, 1, 8, (.pointer none)⟩ = false := rfl
theorem tn27 : notIntK tys 27 = true := rfl
theorem tr27 : isStrK tys 27 = false := rfl
theorem tz27 : zeroOk ⟨.ptr 76, 1, 8, (.pointer none)⟩ = true := by kernel_rfl
theorem tv27 : zeroU8 ⟨.ptr 76, 1, 8, (.pointer none)⟩ = false := rfl
theorem td27 : TyI.zeroV ⟨.ptr 76, 1, 8, (.pointer none)⟩ = V.ofV1 (.pointer none) := rfl
theorem ty32 : tys 32 = some ⟨.slice 5, 1, 24, (.slice none 0 0)⟩ := rfl
theorem tk32 : kindV tys 32 = some (.slice 5) := rfl
theorem ts32 : sizeV tys 32 = 1 := rfl
theorem ta32 : TyI.isAgg ⟨.slice 5, 1, 24, (.slice none 0 0)⟩ = false := rfl
theorem tb32 : isBytes tys 32 = true := rfl
theorem te32 : elemI tys 32 = some (5, ⟨.int .u8, 1, 1, (.int .u8 0)⟩) := rfl
theorem tu32 : isU8 ⟨.slice 5, 1, 24, (.slice none 0 0)⟩ = false := rfl
theorem tn32 : notIntK tys 32 = true := rfl
theorem tr32 : isStrK tys 32 = false := rfl
theorem tz32 : zeroOk ⟨.slice 5, 1, 24, (.slice none 0 0)⟩ = true := by kernel_rfl
theorem tv32 : zeroU8 ⟨.slice 5, 1, 24, (.slice none 0 0)⟩ = false := rfl
theorem td32 : TyI.zeroV ⟨.slice 5, 1, 24, (.slice none 0 0)⟩ = V.ofV1 (.slice none 0 0) := rfl
theorem ty34 : tys 34 = some ⟨.struct [(0, 5), (1, 9), (2, 9), (3, 32), (4, 3), (5, 25)], 7, 104, (.agg #[(.int .u8 0), (.string .empty), (.string .empty), (.slice none 0 0), (.int .i64 0), (.int .i64 0), (.slice none 0 0)])⟩ := rfl
theorem tk34 : kindV tys 34 = some (.struct [(0, 5), (1, 9), (2, 9), (3, 32), (4, 3), (5, 25)]) := rfl
theorem ts34 : sizeV tys 34 = 7 := rfl
theorem ta34 : TyI.isAgg ⟨.struct [(0, 5), (1, 9), (2, 9), (3, 32), (4, 3), (5, 25)], 7, 104, (.agg #[(.int .u8 0), (.string .empty), (.string .empty), (.slice none 0 0), (.int .i64 0), (.int .i64 0), (.slice none 0 0)])⟩ = true := rfl
theorem tu34 : isU8 ⟨.struct [(0, 5), (1, 9), (2, 9), (3, 32), (4, 3), (5, 25)], 7, 104, (.agg #[(.int .u8 0), (.string .empty), (.string .empty), (.slice none 0 0), (.int .i64 0), (.int .i64 0), (.slice none 0 0)])⟩ = false := rfl
theorem tn34 : notIntK tys 34 = true := rfl
theorem tr34 : isStrK tys 34 = false := rfl
theorem tz34 : zeroOk ⟨.struct [(0, 5), (1, 9), (2, 9), (3, 32), (4, 3), (5, 25)], 7, 104, (.agg #[(.int .u8 0), (.string .empty), (.string .empty), (.slice none 0 0), (.int .i64 0), (.int .i64 0), (.slice none 0 0)])⟩ = true := by kernel_rfl
theorem tv34 : zeroU8 ⟨.struct [(0, 5), (1, 9), (2, 9), (3, 32), (4, 3), (5, 25)], 7, 104, (.agg #[(.int .u8 0), (.string .empty), (.string .empty), (.slice none 0 0), (.int .i64 0), (.int .i64 0), (.slice none 0 0)])⟩ = false := rfl
theorem tc34 : V.ofV (.agg #[(.int .u8 0), (.string .empty), (.string .empty), (.slice none 0 0), (.int .i64 0), (.int .i64 0), (.slice none 0 0)]) = .agg [V.ofV1 (.int .u8 0), V.ofV1 (.string .empty), V.ofV1 (.string .empty), V.ofV1 (.slice none 0 0), V.ofV1 (.int .i64 0), V.ofV1 (.int .i64 0), V.ofV1 (.slice none 0 0)] := by kernel_rfl
theorem tw34 : Value.oneCell' (.agg #[(.int .u8 0), (.string .empty), (.string .empty), (.slice none 0 0), (.int .i64 0), (.int .i64 0), (.slice none 0 0)]) = false := rfl
theorem tx34 : (#[(.int .u8 0), (.string .empty), (.string .empty), (.slice none 0 0), (.int .i64 0), (.int .i64 0), (.slice none 0 0)] : Array Value).all (fun x => x.oneCell') 0 7 = true := by kernel_rfl
theorem td34 : TyI.zeroV ⟨.struct [(0, 5), (1, 9), (2, 9), (3, 32), (4, 3), (5, 25)], 7, 104, (.agg #[(.int .u8 0), (.string .empty), (.string .empty), (.slice none 0 0), (.int .i64 0), (.int .i64 0), (.slice none 0 0)])⟩ = .agg [V.ofV1 (.int .u8 0), V.ofV1 (.string .empty), V.ofV1 (.string .empty), V.ofV1 (.slice none 0 0), V.ofV1 (.int .i64 0), V.ofV1 (.int .i64 0), V.ofV1 (.slice none 0 0)] := by kernel_rfl
theorem tp34_0 : placeV tys [(0, 5), (1, 9), (2, 9), (3, 32), (4, 3), (5, 25)] 0 = some (0, 1) := rfl
theorem tp34_1 : placeV tys [(0, 5), (1, 9), (2, 9), (3, 32), (4, 3), (5, 25)] 1 = some (1, 1) := rfl
theorem tp34_2 : placeV tys [(0, 5), (1, 9), (2, 9), (3, 32), (4, 3), (5, 25)] 2 = some (2, 1) := rfl
theorem tp34_3 : placeV tys [(0, 5), (1, 9), (2, 9), (3, 32), (4, 3), (5, 25)] 3 = some (3, 1) := rfl
theorem tp34_4 : placeV tys [(0, 5), (1, 9), (2, 9), (3, 32), (4, 3), (5, 25)] 4 = some (4, 1) := rfl
theorem tp34_5 : placeV tys [(0, 5), (1, 9), (2, 9), (3, 32), (4, 3), (5, 25)] 5 = some (5, 2) := rfl
theorem tq34 : ([(0, 5), (1, 9), (2, 9), (3, 32), (4, 3), (5, 25)].all (fun f => (tys f.2).isSome)) = true := rfl
theorem ty35 : tys 35 = some ⟨.int .i64, 1, 8, (.int .i64 0)⟩ := rfl
theorem tk35 : kindV tys 35 = some (.int .i64) := rfl
theorem ts35 : sizeV tys 35 = 1 := rfl
theorem ta35 : TyI.isAgg ⟨.int .i64, 1, 8, (.int .i64 0)⟩ = false := rfl
theorem tu35 : isU8 ⟨.int .i64, 1, 8, (.int .i64 0)⟩ = false := rfl
theorem tn35 : notIntK tys 35 = false := rfl
theorem tr35 : isStrK tys 35 = false := rfl
theorem tz35 : zeroOk ⟨.int .i64, 1, 8, (.int .i64 0)⟩ = true := by kernel_rfl
theorem tv35 : zeroU8 ⟨.int .i64, 1, 8, (.int .i64 0)⟩ = false := rfl
theorem td35 : TyI.zeroV ⟨.int .i64, 1, 8, (.int .i64 0)⟩ = V.ofV1 (.int .i64 0) := rfl
theorem ty44 : tys 44 = some ⟨.slice 9, 1, 24, (.slice none 0 0)⟩ := rfl
theorem tk44 : kindV tys 44 = some (.slice 9) := rfl
theorem ts44 : sizeV tys 44 = 1 := rfl
theorem ta44 : TyI.isAgg ⟨.slice 9, 1, 24, (.slice none 0 0)⟩ = false := rfl
theorem tb44 : isBytes tys 44 = false := rfl
theorem te44 : elemI tys 44 = some (9, ⟨.str, 1, 16, (.string .empty)⟩) := rfl
theorem tu44 : isU8 ⟨.slice 9, 1, 24, (.slice none 0 0)⟩ = false := rfl
theorem tn44 : notIntK tys 44 = true := rfl
theorem tr44 : isStrK tys 44 = false := rfl
theorem tz44 : zeroOk ⟨.slice 9, 1, 24, (.slice none 0 0)⟩ = true := by kernel_rfl
theorem tv44 : zeroU8 ⟨.slice 9, 1, 24, (.slice none 0 0)⟩ = false := rfl
theorem td44 : TyI.zeroV ⟨.slice 9, 1, 24, (.slice none 0 0)⟩ = V.ofV1 (.slice none 0 0) := rfl
theorem ty73 : tys 73 = some ⟨.map 9 92, 1, 8, (.map none)⟩ := rfl
theorem tk73 : kindV tys 73 = some (.map 9 92) := rfl
theorem ts73 : sizeV tys 73 = 1 := rfl
theorem ta73 : TyI.isAgg ⟨.map 9 92, 1, 8, (.map none)⟩ = false := rfl
theorem tu73 : isU8 ⟨.map 9 92, 1, 8, (.map none)⟩ = false := rfl
theorem tn73 : notIntK tys 73 = true := rfl
theorem tr73 : isStrK tys 73 = false := rfl
theorem tz73 : zeroOk ⟨.map 9 92, 1, 8, (.map none)⟩ = true := by kernel_rfl
theorem tv73 : zeroU8 ⟨.map 9 92, 1, 8, (.map none)⟩ = false := rfl
theorem td73 : TyI.zeroV ⟨.map 9 92, 1, 8, (.map none)⟩ = V.ofV1 (.map none) := rfl
theorem ty74 : tys 74 = some ⟨.slice 95, 1, 24, (.slice none 0 0)⟩ := rfl
theorem tk74 : kindV tys 74 = some (.slice 95) := rfl
theorem ts74 : sizeV tys 74 = 1 := rfl
theorem ta74 : TyI.isAgg ⟨.slice 95, 1, 24, (.slice none 0 0)⟩ = false := rfl
theorem tb74 : isBytes tys 74 = false := rfl
theorem te74 : elemI tys 74 = some (95, ⟨.struct [(0, 9), (1, 9), (2, 92)], 3, 40, (.agg #[(.string .empty), (.string .empty), (.pointer none)])⟩) := rfl
theorem tu74 : isU8 ⟨.slice 95, 1, 24, (.slice none 0 0)⟩ = false := rfl
theorem tn74 : notIntK tys 74 = true := rfl
theorem tr74 : isStrK tys 74 = false := rfl
theorem tz74 : zeroOk ⟨.slice 95, 1, 24, (.slice none 0 0)⟩ = true := by kernel_rfl
theorem tv74 : zeroU8 ⟨.slice 95, 1, 24, (.slice none 0 0)⟩ = false := rfl
theorem td74 : TyI.zeroV ⟨.slice 95, 1, 24, (.slice none 0 0)⟩ = V.ofV1 (.slice none 0 0) := rfl
theorem ty76 : tys 76 = some ⟨.struct [(0, 3), (1, 3), (2, 73), (3, 73), (4, 74), (5, 4), (6, 4), (7, 3)], 8, 72, (.agg #[(.int .i64 0), (.int .i64 0), (.map none), (.map none), (.slice none 0 0), (.bool false), (.bool false), (.int .i64 0)])⟩ := rfl
theorem tk76 : kindV tys 76 = some (.struct [(0, 3), (1, 3), (2, 73), (3, 73), (4, 74), (5, 4), (6, 4), (7, 3)]) := rfl
theorem ts76 : sizeV tys 76 = 8 := rfl
theorem ta76 : TyI.isAgg ⟨.struct [(0, 3), (1, 3), (2, 73), (3, 73), (4, 74), (5, 4), (6, 4), (7, 3)], 8, 72, (.agg #[(.int .i64 0), (.int .i64 0), (.map none), (.map none), (.slice none 0 0), (.bool false), (.bool false), (.int .i64 0)])⟩ = true := rfl
theorem tu76 : isU8 ⟨.struct [(0, 3), (1, 3), (2, 73), (3, 73), (4, 74), (5, 4), (6, 4), (7, 3)], 8, 72, (.agg #[(.int .i64 0), (.int .i64 0), (.map none), (.map none), (.slice none 0 0), (.bool false), (.bool false), (.int .i64 0)])⟩ = false := rfl
theorem tn76 : notIntK tys 76 = true := rfl
theorem tr76 : isStrK tys 76 = false := rfl
theorem tz76 : zeroOk ⟨.struct [(0, 3), (1, 3), (2, 73), (3, 73), (4, 74), (5, 4), (6, 4), (7, 3)], 8, 72, (.agg #[(.int .i64 0), (.int .i64 0), (.map none), (.map none), (.slice none 0 0), (.bool false), (.bool false), (.int .i64 0)])⟩ = true := by kernel_rfl
theorem tv76 : zeroU8 ⟨.struct [(0, 3), (1, 3), (2, 73), (3, 73), (4, 74), (5, 4), (6, 4), (7, 3)], 8, 72, (.agg #[(.int .i64 0), (.int .i64 0), (.map none), (.map none), (.slice none 0 0), (.bool false), (.bool false), (.int .i64 0)])⟩ = false := rfl
theorem tc76 : V.ofV (.agg #[(.int .i64 0), (.int .i64 0), (.map none), (.map none), (.slice none 0 0), (.bool false), (.bool false), (.int .i64 0)]) = .agg [V.ofV1 (.int .i64 0), V.ofV1 (.int .i64 0), V.ofV1 (.map none), V.ofV1 (.map none), V.ofV1 (.slice none 0 0), V.ofV1 (.bool false), V.ofV1 (.bool false), V.ofV1 (.int .i64 0)] := by kernel_rfl
theorem tw76 : Value.oneCell' (.agg #[(.int .i64 0), (.int .i64 0), (.map none), (.map none), (.slice none 0 0), (.bool false), (.bool false), (.int .i64 0)]) = false := rfl
theorem tx76 : (#[(.int .i64 0), (.int .i64 0), (.map none), (.map none), (.slice none 0 0), (.bool false), (.bool false), (.int .i64 0)] : Array Value).all (fun x => x.oneCell') 0 8 = true := by kernel_rfl
theorem td76 : TyI.zeroV ⟨.struct [(0, 3), (1, 3), (2, 73), (3, 73), (4, 74), (5, 4), (6, 4), (7, 3)], 8, 72, (.agg #[(.int .i64 0), (.int .i64 0), (.map none), (.map none), (.slice none 0 0), (.bool false), (.bool false), (.int .i64 0)])⟩ = .agg [V.ofV1 (.int .i64 0), V.ofV1 (.int .i64 0), V.ofV1 (.map none), V.ofV1 (.map none), V.ofV1 (.slice none 0 0), V.ofV1 (.bool false), V.ofV1 (.bool false), V.ofV1 (.int .i64 0)] := by kernel_rfl
theorem tp76_0 : placeV tys [(0, 3), (1, 3), (2, 73), (3, 73), (4, 74), (5, 4), (6, 4), (7, 3)] 0 = some (0, 1) := rfl
theorem tp76_1 : placeV tys [(0, 3), (1, 3), (2, 73), (3, 73), (4, 74), (5, 4), (6, 4), (7, 3)] 1 = some (1, 1) := rfl
theorem tp76_2 : placeV tys [(0, 3), (1, 3), (2, 73), (3, 73), (4, 74), (5, 4), (6, 4), (7, 3)] 2 = some (2, 1) := rfl
theorem tp76_3 : placeV tys [(0, 3), (1, 3), (2, 73), (3, 73), (4, 74), (5, 4), (6, 4), (7, 3)] 3 = some (3, 1) := rfl
theorem tp76_4 : placeV tys [(0, 3), (1, 3), (2, 73), (3, 73), (4, 74), (5, 4), (6, 4), (7, 3)] 4 = some (4, 1) := rfl
theorem tp76_5 : placeV tys [(0, 3), (1, 3), (2, 73), (3, 73), (4, 74), (5, 4), (6, 4), (7, 3)] 5 = some (5, 1) := rfl
theorem tp76_6 : placeV tys [(0, 3), (1, 3), (2, 73), (3, 73), (4, 74), (5, 4), (6, 4), (7, 3)] 6 = some (6, 1) := rfl
theorem tp76_7 : placeV tys [(0, 3), (1, 3), (2, 73), (3, 73), (4, 74), (5, 4), (6, 4), (7, 3)] 7 = some (7, 1) := rfl
theorem tq76 : ([(0, 3), (1, 3), (2, 73), (3, 73), (4, 74), (5, 4), (6, 4), (7, 3)].all (fun f => (tys f.2).isSome)) = true := rfl
theorem ty92 : tys 92 = some ⟨.ptr 103, 1, 8, (.pointer none)⟩ := rfl
theorem tk92 : kindV tys 92 = some (.ptr 103) := rfl
theorem ts92 : sizeV tys 92 = 1 := rfl
theorem ta92 : TyI.isAgg ⟨.ptr 103, 1, 8, (.pointer none)⟩ = false := rfl
theorem tu92 : isU8 ⟨.ptr 103, 1, 8, (.pointer none)⟩ = false := rfl
theorem tn92 : notIntK tys 92 = true := rfl
theorem tr92 : isStrK tys 92 = false := rfl
theorem tz92 : zeroOk ⟨.ptr 103, 1, 8, (.pointer none)⟩ = true := by kernel_rfl
theorem tv92 : zeroU8 ⟨.ptr 103, 1, 8, (.pointer none)⟩ = false := rfl
theorem td92 : TyI.zeroV ⟨.ptr 103, 1, 8, (.pointer none)⟩ = V.ofV1 (.pointer none) := rfl
theorem ty95 : tys 95 = some ⟨.struct [(0, 9), (1, 9), (2, 92)], 3, 40, (.agg #[(.string .empty), (.string .empty), (.pointer none)])⟩ := rfl
theorem tk95 : kindV tys 95 = some (.struct [(0, 9), (1, 9), (2, 92)]) := rfl
theorem ts95 : sizeV tys 95 = 3 := rfl
theorem ta95 : TyI.isAgg ⟨.struct [(0, 9), (1, 9), (2, 92)], 3, 40, (.agg #[(.string .empty), (.string .empty), (.pointer none)])⟩ = true := rfl
theorem tu95 : isU8 ⟨.struct [(0, 9), (1, 9), (2, 92)], 3, 40, (.agg #[(.string .empty), (.string .empty), (.pointer none)])⟩ = false := rfl
theorem tn95 : notIntK tys 95 = true := rfl
theorem tr95 : isStrK tys 95 = false := rfl
theorem tz95 : zeroOk ⟨.struct [(0, 9), (1, 9), (2, 92)], 3, 40, (.agg #[(.string .empty), (.string .empty), (.pointer none)])⟩ = true := by kernel_rfl
theorem tv95 : zeroU8 ⟨.struct [(0, 9), (1, 9), (2, 92)], 3, 40, (.agg #[(.string .empty), (.string .empty), (.pointer none)])⟩ = false := rfl
theorem tc95 : V.ofV (.agg #[(.string .empty), (.string .empty), (.pointer none)]) = .agg [V.ofV1 (.string .empty), V.ofV1 (.string .empty), V.ofV1 (.pointer none)] := by kernel_rfl
theorem tw95 : Value.oneCell' (.agg #[(.string .empty), (.string .empty), (.pointer none)]) = false := rfl
theorem tx95 : (#[(.string .empty), (.string .empty), (.pointer none)] : Array Value).all (fun x => x.oneCell') 0 3 = true := by kernel_rfl
theorem td95 : TyI.zeroV ⟨.struct [(0, 9), (1, 9), (2, 92)], 3, 40, (.agg #[(.string .empty), (.string .empty), (.pointer none)])⟩ = .agg [V.ofV1 (.string .empty), V.ofV1 (.string .empty), V.ofV1 (.pointer none)] := by kernel_rfl
theorem tp95_0 : placeV tys [(0, 9), (1, 9), (2, 92)] 0 = some (0, 1) := rfl
theorem tp95_1 : placeV tys [(0, 9), (1, 9), (2, 92)] 1 = some (1, 1) := rfl
theorem tp95_2 : placeV tys [(0, 9), (1, 9), (2, 92)] 2 = some (2, 1) := rfl
theorem tq95 : ([(0, 9), (1, 9), (2, 92)].all (fun f => (tys f.2).isSome)) = true := rfl
theorem ty103 : tys 103 = some ⟨.struct [(0, 32), (1, 3)], 2, 32, (.agg #[(.slice none 0 0), (.int .i64 0)])⟩ := rfl
theorem tk103 : kindV tys 103 = some (.struct [(0, 32), (1, 3)]) := rfl
theorem ts103 : sizeV tys 103 = 2 := rfl
theorem ta103 : TyI.isAgg ⟨.struct [(0, 32), (1, 3)], 2, 32, (.agg #[(.slice none 0 0), (.int .i64 0)])⟩ = true := rfl
theorem tu103 : isU8 ⟨.struct [(0, 32), (1, 3)], 2, 32, (.agg #[(.slice none 0 0), (.int .i64 0)])⟩ = false := rfl
theorem tn103 : notIntK tys 103 = true := rfl
theorem tr103 : isStrK tys 103 = false := rfl
theorem tz103 : zeroOk ⟨.struct [(0, 32), (1, 3)], 2, 32, (.agg #[(.slice none 0 0), (.int .i64 0)])⟩ = true := by kernel_rfl
theorem tv103 : zeroU8 ⟨.struct [(0, 32), (1, 3)], 2, 32, (.agg #[(.slice none 0 0), (.int .i64 0)])⟩ = false := rfl
theorem tc103 : V.ofV (.agg #[(.slice none 0 0), (.int .i64 0)]) = .agg [V.ofV1 (.slice none 0 0), V.ofV1 (.int .i64 0)] := by kernel_rfl
theorem tw103 : Value.oneCell' (.agg #[(.slice none 0 0), (.int .i64 0)]) = false := rfl
theorem tx103 : (#[(.slice none 0 0), (.int .i64 0)] : Array Value).all (fun x => x.oneCell') 0 2 = true := by kernel_rfl
theorem td103 : TyI.zeroV ⟨.struct [(0, 32), (1, 3)], 2, 32, (.agg #[(.slice none 0 0), (.int .i64 0)])⟩ = .agg [V.ofV1 (.slice none 0 0), V.ofV1 (.int .i64 0)] := by kernel_rfl
theorem tp103_0 : placeV tys [(0, 32), (1, 3)] 0 = some (0, 1) := rfl
theorem tp103_1 : placeV tys [(0, 32), (1, 3)] 1 = some (1, 1) := rfl
theorem tq103 : ([(0, 32), (1, 3)].all (fun f => (tys f.2).isSome)) = true := rfl

attribute [bitvec_to_nat] ty3 tk3 ts3 ta3 tu3 tn3 tr3 tz3 tv3 td3 ty4 tk4 ts4 ta4 tu4 tn4 tr4 tz4 tv4 td4 ty5 tk5 ts5 ta5 tu5 tn5 tr5 tz5 tv5 td5 ty9 tk9 ts9 ta9 tu9 tn9 tr9 tz9 tv9 td9 ty22 tk22 ts22 ta22 tb22 te22 tu22 tn22 tr22 tz22 tv22 td22 ty23 tk23 ts23 ta23 tb23 te23 tu23 tn23 tr23 tz23 tv23 td23 ty25 tk25 ts25 ta25 tu25 tn25 tr25 tz25 tv25 tw25 tx25 tp25_0 tp25_1 tq25 ty27 tk27 ts27 ta27 tu27 tn27 tr27 tz27 tv27 td27 ty32 tk32 ts32 ta32 tb32 te32 tu32 tn32 tr32 tz32 tv32 td32 ty34 tk34 ts34 ta34 tu34 tn34 tr34 tz34 tv34 tw34 tx34 tp34_0 tp34_1 tp34_2 tp34_3 tp34_4 tp34_5 tq34 ty35 tk35 ts35 ta35 tu35 tn35 tr35 tz35 tv35 td35 ty44 tk44 ts44 ta44 tb44 te44 tu44 tn44 tr44 tz44 tv44 td44 ty73 tk73 ts73 ta73 tu73 tn73 tr73 tz73 tv73 td73 ty74 tk74 ts74 ta74 tb74 te74 tu74 tn74 tr74 tz74 tv74 td74 ty76 tk76 ts76 ta76 tu76 tn76 tr76 tz76 tv76 tw76 tx76 tp76_0 tp76_1 tp76_2 tp76_3 tp76_4 tp76_5 tp76_6 tp76_7 tq76 ty92 tk92 ts92 ta92 tu92 tn92 tr92 tz92 tv92 td92 ty95 tk95 ts95 ta95 tu95 tn95 tr95 tz95 tv95 tw95 tx95 tp95_0 tp95_1 tp95_2 tq95 ty103 tk103 ts103 ta103 tu103 tn103 tr103 tz103 tv103 tw103 tx103 tp103_0 tp103_1 tq103
def H0 : Fns := { fn := fun _ => none }
theorem H0_fn (f : FuncId) : H0.fn f = none := rfl
theorem H0_mu (d : Tmp) : H0.mu d = .no := rfl
theorem H0_hp (f : FuncId) : H0.hp f = none := rfl
theorem H0_ord (i : Nat) : H0.ord i = none := rfl
theorem H0ok : FnsOk Try.prog H0 := FnsOk.nil _ rfl rfl
attribute [bitvec_to_nat] H0_fn H0_mu H0_hp H0_ord

/-! ### acts -/
structure Act where
  kind : UInt8
  name : Name
  to : Name
  b : List UInt8
  n : Int
  w : Wreck
  deriving Inhabited
def Act.Ok (a : Act) : Prop := a.b.length ≤ 1099511627776 ∧ a.n ≤ 9223372036854775807 ∧ a.w.bytes.length ≤ 9223372036854775807
def wbV (l : List Int) : V := .list 1 (l.map fun n => .int .i64 n) none
def actV (a : Act) : V := .agg [.int .u8 a.kind.toNat, .str a.name, .str a.to, .bytes a.b none, .int .i64 a.n, .int .i64 a.w.names, wbV a.w.bytes]
def act (M : MD) (a : Act) : MD × Nat := match a.kind.toNat % 13 with
  | 0 => M.create a.name
  | 4 => M.read a.name
  | 5 => M.sync a.name
  | 6 => M.rename a.name a.to
  | 7 => M.remove a.name
  | 8 => M.syncNames
  | 9 => M.names
  | 10 => M.doom a.n
  | 11 => (M.crash a.w, 0)
  | 12 => M.grow a.n
  | _ => M.append a.name a.b
abbrev createP : PM := opP createF
abbrev readP : PM := opP readF
abbrev syncP : PM := opP syncF
abbrev renameP : PM := opP renameF
abbrev removeP : PM := opP removeF
abbrev syncNamesP : PM := opP syncNamesF
abbrev namesP : PM := opP namesF
abbrev doomP : PM := opP doomF
abbrev growP : PM := opP growF
abbrev appendP : PM := opP appendF
def H1 : Fns := { fn := fun f => H0.fn f, mu := fun d => .no, hp := fun f => if f = 35 then some createP else if f = 34 then some readP else if f = 29 then some syncP else if f = 47 then some renameP else if f = 36 then some removeP else if f = 30 then some syncNamesP else if f = 28 then some namesP else if f = 32 then some doomP else if f = 26 then some crashP else if f = 48 then some growP else if f = 46 then some appendP else H0.hp f, ord := fun i => none }
theorem H1_fn (f : FuncId) : H1.fn f = (H0.fn f) := rfl
theorem H1_mu (d : Tmp) : H1.mu d = (.no) := rfl
theorem H1_hp (f : FuncId) : H1.hp f = (if f = 35 then some createP else if f = 34 then some readP else if f = 29 then some syncP else if f = 47 then some renameP else if f = 36 then some removeP else if f = 30 then some syncNamesP else if f = 28 then some namesP else if f = 32 then some doomP else if f = 26 then some crashP else if f = 48 then some growP else if f = 46 then some appendP else H0.hp f) := rfl
theorem H1_ord (i : Nat) : H1.ord i = (none) := rfl
theorem H1ok : FnsOk Try.prog H1 := FnsOk.same (FnsOk.consP (FnsOk.consP (FnsOk.consP (FnsOk.consP (FnsOk.consP (FnsOk.consP (FnsOk.consP (FnsOk.consP (FnsOk.consP (FnsOk.consP (FnsOk.consP H0ok _ _ append_ok Try.func46 (by decide) (fun h => by cases h)) _ _ grow_ok Try.func48 (by decide) (fun h => by cases h)) _ _ crash_sound Try.func26 (by decide) (fun h => by cases h)) _ _ doom_ok Try.func32 (by decide) (fun h => by cases h)) _ _ names_ok Try.func28 (by decide) (fun h => by cases h)) _ _ syncNames_ok Try.func30 (by decide) (fun h => by cases h)) _ _ remove_ok Try.func36 (by decide) (fun h => by cases h)) _ _ rename_ok Try.func47 (by decide) (fun h => by cases h)) _ _ sync_ok Try.func29 (by decide) (fun h => by cases h)) _ _ read_ok Try.func34 (by decide) (fun h => by cases h)) _ _ create_ok Try.func35 (by decide) (fun h => by cases h)) rfl rfl
attribute [bitvec_to_nat] H1_fn H1_mu H1_hp H1_ord


theorem op_at {op : List V → Option (MD → MD × V)} {L : LL} {T : TT} {M : MD} {w : Own} {rest : List V} {g : MD → MD × V} {K : V → LL → TT → Prop} (hg : op rest = some g) (hd : dAt L T M w) (hs : Small M)
    (hK : ∀ L' T' w', w'.o = w.o → dAt L' T' (g M).1 w' → Step w.S w.R L T w'.S w'.R L' T' → K (g M).2 L' T') : opP op (.box w.o 0 :: rest) L T K := ⟨M, w, rest, g, rfl, hg, hd, hs, hK⟩
def doesP : PM := fun args L T K => ∃ (M : MD) (w : Own) (a : Act), args = [.box w.o 0, actV a] ∧ a.Ok ∧ dAt L T M w ∧ Small M ∧
  ∀ L' T' w', w'.o = w.o → dAt L' T' (act M a).1 w' → Step w.S w.R L T w'.S w'.R L' T' → K (codeV (act M a).2) L' T'
theorem does_ok : PSound Try.prog 19 doesP := by
  refine psound tysOk H1ok mix Try.func19 rfl ?_
  intro args L T K hm
  obtain ⟨M, w, a, rfl, ⟨ha1, ha2, ha3⟩, hd, hsm, hK⟩ := hm
  have hlt := lt_at hd.head.choose_spec.1
  have hst0 : Step w.S w.R L T w.S w.R (L ++ [[.int .u8 a.kind.toNat, .str a.name, .str a.to, .bytes a.b none, .int .i64 a.n, .int .i64 a.w.names, wbV a.w.bytes]]) T := (Step.refl _ _ _ _).app _
  have hd0 : dAt (L ++ [[.int .u8 a.kind.toNat, .str a.name, .str a.to, .bytes a.b none, .int .i64 a.n, .int .i64 a.w.names, wbV a.w.bytes]]) T M w := hd.frame ((Step.refl noS noS L T).app _) (fun _ _ h => h) (fun _ _ h => h)
  have hk : a.kind.toNat % 13 < 13 := Nat.mod_lt _ (by omega)
  have hmod : ((a.kind.toNat : Nat) : Int).tmod 13 = ((a.kind.toNat % 13 : Nat) : Int) := rfl
  unfold actV wbV at *
  have hc : a.kind.toNat % 13 = 0 ∨ a.kind.toNat % 13 = 4 ∨ a.kind.toNat % 13 = 5 ∨ a.kind.toNat % 13 = 6 ∨ a.kind.toNat % 13 = 7 ∨ a.kind.toNat % 13 = 8 ∨ a.kind.toNat % 13 = 9 ∨ a.kind.toNat % 13 = 10 ∨ a.kind.toNat % 13 = 11 ∨ a.kind.toNat % 13 = 12 ∨ (a.kind.toNat % 13 ≠ 0 ∧ a.kind.toNat % 13 ≠ 4 ∧ a.kind.toNat % 13 ≠ 5 ∧ a.kind.toNat % 13 ≠ 6 ∧ a.kind.toNat % 13 ≠ 7 ∧ a.kind.toNat % 13 ≠ 8 ∧ a.kind.toNat % 13 ≠ 9 ∧ a.kind.toNat % 13 ≠ 10 ∧ a.kind.toNat % 13 ≠ 11 ∧ a.kind.toNat % 13 ≠ 12) := by omega
  rcases hc with hc | hc | hc | hc | hc | hc | hc | hc | hc | hc | hc
  · have e : act M a = M.create a.name := by simp only [act, hc]
    rw [e] at hK
    rw [hc] at hmod
    simp (config := { maxSteps := 2000000 }) only [bitvec_to_nat, ↓r_ifTrue, ↓r_ifFalse, Nat.reduceAdd, Nat.reduceSub, Nat.reduceMul, Nat.reduceLT, Nat.reduceLeDiff, Nat.reduceEqDiff, Nat.reduceBEq, Nat.reduceBNe, Int.reduceToNat, Int.reduceLE, Int.reduceLT, Int.reduceEq, Int.reduceNe, Int.reduceNeg, Nat.reducePow, Int.reducePow, reduceIte, reduceCtorEq, ↓tc25, ↓td25, ↓tc34, ↓td34, ↓tc76, ↓td76, ↓tc95, ↓td95, ↓tc103, ↓td103, Try.f19, hmod, Int.natCast_zero, Int.cast_ofNat_Int]
    exact op_at rfl hd0 hsm fun L' T' w' ho hd' hst => ret_of (hst0.trans hst) (hK L' T' w' ho hd' (hst0.trans hst))
  · have e : act M a = M.read a.name := by simp only [act, hc]
    rw [e] at hK
    rw [hc] at hmod
    simp (config := { maxSteps := 2000000 }) only [bitvec_to_nat, ↓r_ifTrue, ↓r_ifFalse, Nat.reduceAdd, Nat.reduceSub, Nat.reduceMul, Nat.reduceLT, Nat.reduceLeDiff, Nat.reduceEqDiff, Nat.reduceBEq, Nat.reduceBNe, Int.reduceToNat, Int.reduceLE, Int.reduceLT, Int.reduceEq, Int.reduceNe, Int.reduceNeg, Nat.reducePow, Int.reducePow, reduceIte, reduceCtorEq, ↓tc25, ↓td25, ↓tc34, ↓td34, ↓tc76, ↓td76, ↓tc95, ↓td95, ↓tc103, ↓td103, Try.f19, hmod, Int.natCast_zero, Int.cast_ofNat_Int]
    refine op_at rfl hd0 hsm fun L' T' w' ho hd' hst => ?_
    simp (config := { maxSteps := 2000000 }) only [bitvec_to_nat, ↓r_ifTrue, ↓r_ifFalse, Nat.reduceAdd, Nat.reduceSub, Nat.reduceMul, Nat.reduceLT, Nat.reduceLeDiff, Nat.reduceEqDiff, Nat.reduceBEq, Nat.reduceBNe, Int.reduceToNat, Int.reduceLE, Int.reduceLT, Int.reduceEq, Int.reduceNe, Int.reduceNeg, Nat.reducePow, Int.reducePow, reduceIte, reduceCtorEq, ↓tc25, ↓td25, ↓tc34, ↓td34, ↓tc76, ↓td76, ↓tc95, ↓td95, ↓tc103, ↓td103]
    exact ret_of (hst0.trans hst) (hK L' T' w' ho hd' (hst0.trans hst))
  · have e : act M a = M.sync a.name := by simp only [act, hc]
    rw [e] at hK
    rw [hc] at hmod
    simp (config := { maxSteps := 2000000 }) only [bitvec_to_nat, ↓r_ifTrue, ↓r_ifFalse, Nat.reduceAdd, Nat.reduceSub, Nat.reduceMul, Nat.reduceLT, Nat.reduceLeDiff, Nat.reduceEqDiff, Nat.reduceBEq, Nat.reduceBNe, Int.reduceToNat, Int.reduceLE, Int.reduceLT, Int.reduceEq, Int.reduceNe, Int.reduceNeg, Nat.reducePow, Int.reducePow, reduceIte, reduceCtorEq, ↓tc25, ↓td25, ↓tc34, ↓td34, ↓tc76, ↓td76, ↓tc95, ↓td95, ↓tc103, ↓td103, Try.f19, hmod, Int.natCast_zero, Int.cast_ofNat_Int]
    exact op_at rfl hd0 hsm fun L' T' w' ho hd' hst => ret_of (hst0.trans hst) (hK L' T' w' ho hd' (hst0.trans hst))
  · have e : act M a = M.rename a.name a.to := by simp only [act, hc]
    rw [e] at hK
    rw [hc] at hmod
    simp (config := { maxSteps := 2000000 }) only [bitvec_to_nat, ↓r_ifTrue, ↓r_ifFalse, Nat.reduceAdd, Nat.reduceSub, Nat.reduceMul, Nat.reduceLT, Nat.reduceLeDiff, Nat.reduceEqDiff, Nat.reduceBEq, Nat.reduceBNe, Int.reduceToNat, Int.reduceLE, Int.reduceLT, Int.reduceEq, Int.reduceNe, Int.reduceNeg, Nat.reducePow, Int.reducePow, reduceIte, reduceCtorEq, ↓tc25, ↓td25, ↓tc34, ↓td34, ↓tc76, ↓td76, ↓tc95, ↓td95, ↓tc103, ↓td103, Try.f19, hmod, Int.natCast_zero, Int.cast_ofNat_Int]
    exact op_at rfl hd0 hsm fun L' T' w' ho hd' hst => ret_of (hst0.trans hst) (hK L' T' w' ho hd' (hst0.trans hst))
  · have e : act M a = M.remove a.name := by simp only [act, hc]
    rw [e] at hK
    rw [hc] at hmod
    simp (config := { maxSteps := 2000000 }) only [bitvec_to_nat, ↓r_ifTrue, ↓r_ifFalse, Nat.reduceAdd, Nat.reduceSub, Nat.reduceMul, Nat.reduceLT, Nat.reduceLeDiff, Nat.reduceEqDiff, Nat.reduceBEq, Nat.reduceBNe, Int.reduceToNat, Int.reduceLE, Int.reduceLT, Int.reduceEq, Int.reduceNe, Int.reduceNeg, Nat.reducePow, Int.reducePow, reduceIte, reduceCtorEq, ↓tc25, ↓td25, ↓tc34, ↓td34, ↓tc76, ↓td76, ↓tc95, ↓td95, ↓tc103, ↓td103, Try.f19, hmod, Int.natCast_zero, Int.cast_ofNat_Int]
    exact op_at rfl hd0 hsm fun L' T' w' ho hd' hst => ret_of (hst0.trans hst) (hK L' T' w' ho hd' (hst0.trans hst))
  · have e : act M a = M.syncNames := by simp only [act, hc]
    rw [e] at hK
    rw [hc] at hmod
    simp (config := { maxSteps := 2000000 }) only [bitvec_to_nat, ↓r_ifTrue, ↓r_ifFalse, Nat.reduceAdd, Nat.reduceSub, Nat.reduceMul, Nat.reduceLT, Nat.reduceLeDiff, Nat.reduceEqDiff, Nat.reduceBEq, Nat.reduceBNe, Int.reduceToNat, Int.reduceLE, Int.reduceLT, Int.reduceEq, Int.reduceNe, Int.reduceNeg, Nat.reducePow, Int.reducePow, reduceIte, reduceCtorEq, ↓tc25, ↓td25, ↓tc34, ↓td34, ↓tc76, ↓td76, ↓tc95, ↓td95, ↓tc103, ↓td103, Try.f19, hmod, Int.natCast_zero, Int.cast_ofNat_Int]
    exact op_at rfl hd0 hsm fun L' T' w' ho hd' hst => ret_of (hst0.trans hst) (hK L' T' w' ho hd' (hst0.trans hst))
  · have e : act M a = M.names := by simp only [act, hc]
    rw [e] at hK
    rw [hc] at hmod
    simp (config := { maxSteps := 2000000 }) only [bitvec_to_nat, ↓r_ifTrue, ↓r_ifFalse, Nat.reduceAdd, Nat.reduceSub, Nat.reduceMul, Nat.reduceLT, Nat.reduceLeDiff, Nat.reduceEqDiff, Nat.reduceBEq, Nat.reduceBNe, Int.reduceToNat, Int.reduceLE, Int.reduceLT, Int.reduceEq, Int.reduceNe, Int.reduceNeg, Nat.reducePow, Int.reducePow, reduceIte, reduceCtorEq, ↓tc25, ↓td25, ↓tc34, ↓td34, ↓tc76, ↓td76, ↓tc95, ↓td95, ↓tc103, ↓td103, Try.f19, hmod, Int.natCast_zero, Int.cast_ofNat_Int]
    refine op_at rfl hd0 hsm fun L' T' w' ho hd' hst => ?_
    simp (config := { maxSteps := 2000000 }) only [bitvec_to_nat, ↓r_ifTrue, ↓r_ifFalse, Nat.reduceAdd, Nat.reduceSub, Nat.reduceMul, Nat.reduceLT, Nat.reduceLeDiff, Nat.reduceEqDiff, Nat.reduceBEq, Nat.reduceBNe, Int.reduceToNat, Int.reduceLE, Int.reduceLT, Int.reduceEq, Int.reduceNe, Int.reduceNeg, Nat.reducePow, Int.reducePow, reduceIte, reduceCtorEq, ↓tc25, ↓td25, ↓tc34, ↓td34, ↓tc76, ↓td76, ↓tc95, ↓td95, ↓tc103, ↓td103]
    exact ret_of (hst0.trans hst) (hK L' T' w' ho hd' (hst0.trans hst))
  · have e : act M a = M.doom a.n := by simp only [act, hc]
    rw [e] at hK
    rw [hc] at hmod
    simp (config := { maxSteps := 2000000 }) only [bitvec_to_nat, ↓r_ifTrue, ↓r_ifFalse, Nat.reduceAdd, Nat.reduceSub, Nat.reduceMul, Nat.reduceLT, Nat.reduceLeDiff, Nat.reduceEqDiff, Nat.reduceBEq, Nat.reduceBNe, Int.reduceToNat, Int.reduceLE, Int.reduceLT, Int.reduceEq, Int.reduceNe, Int.reduceNeg, Nat.reducePow, Int.reducePow, reduceIte, reduceCtorEq, ↓tc25, ↓td25, ↓tc34, ↓td34, ↓tc76, ↓td76, ↓tc95, ↓td95, ↓tc103, ↓td103, Try.f19, hmod, Int.natCast_zero, Int.cast_ofNat_Int]
    exact op_at (if_pos ha2) hd0 hsm fun L' T' w' ho hd' hst => ret_of (hst0.trans hst) (hK L' T' w' ho hd' (hst0.trans hst))
  · have e : act M a = (M.crash a.w, 0) := by simp only [act, hc]
    rw [e] at hK
    rw [hc] at hmod
    simp (config := { maxSteps := 2000000 }) only [bitvec_to_nat, ↓r_ifTrue, ↓r_ifFalse, Nat.reduceAdd, Nat.reduceSub, Nat.reduceMul, Nat.reduceLT, Nat.reduceLeDiff, Nat.reduceEqDiff, Nat.reduceBEq, Nat.reduceBNe, Int.reduceToNat, Int.reduceLE, Int.reduceLT, Int.reduceEq, Int.reduceNe, Int.reduceNeg, Nat.reducePow, Int.reducePow, reduceIte, reduceCtorEq, ↓tc25, ↓td25, ↓tc34, ↓td34, ↓tc76, ↓td76, ↓tc95, ↓td95, ↓tc103, ↓td103, Try.f19, hmod, Int.natCast_zero, Int.cast_ofNat_Int]
    exact ⟨M, w, a.w.names, _, a.w.bytes, rfl, .inr ⟨none, rfl⟩, ha3, hd0, hsm, fun L' T' w' ho hd' hst => ret_of (hst0.trans hst) (hK L' T' w' ho hd' (hst0.trans hst))⟩
  · have e : act M a = M.grow a.n := by simp only [act, hc]
    rw [e] at hK
    rw [hc] at hmod
    simp (config := { maxSteps := 2000000 }) only [bitvec_to_nat, ↓r_ifTrue, ↓r_ifFalse, Nat.reduceAdd, Nat.reduceSub, Nat.reduceMul, Nat.reduceLT, Nat.reduceLeDiff, Nat.reduceEqDiff, Nat.reduceBEq, Nat.reduceBNe, Int.reduceToNat, Int.reduceLE, Int.reduceLT, Int.reduceEq, Int.reduceNe, Int.reduceNeg, Nat.reducePow, Int.reducePow, reduceIte, reduceCtorEq, ↓tc25, ↓td25, ↓tc34, ↓td34, ↓tc76, ↓td76, ↓tc95, ↓td95, ↓tc103, ↓td103, Try.f19, hmod, Int.natCast_zero, Int.cast_ofNat_Int]
    exact op_at rfl hd0 hsm fun L' T' w' ho hd' hst => ret_of (hst0.trans hst) (hK L' T' w' ho hd' (hst0.trans hst))
  · have e : act M a = M.append a.name a.b := by unfold act; split <;> first | omega | rfl
    rw [e] at hK
    have hz : ∀ c : Nat, a.kind.toNat % 13 ≠ c → decide (((a.kind.toNat : Nat) : Int).tmod 13 = (c : Int)) = false := fun c h => decide_eq_false (by rw [hmod]; omega)
    obtain ⟨c0, c4, c5, c6, c7, c8, c9, c10, c11, c12⟩ := hc
    have z0 := hz 0 c0
    have z4 := hz 4 c4
    have z5 := hz 5 c5
    have z6 := hz 6 c6
    have z7 := hz 7 c7
    have z8 := hz 8 c8
    have z9 := hz 9 c9
    have z10 := hz 10 c10
    have z11 := hz 11 c11
    have z12 := hz 12 c12
    simp only [Int.natCast_zero, Int.cast_ofNat_Int] at z0 z4 z5 z6 z7 z8 z9 z10 z11 z12
    simp (config := { maxSteps := 2000000 }) only [bitvec_to_nat, ↓r_ifTrue, ↓r_ifFalse, Nat.reduceAdd, Nat.reduceSub, Nat.reduceMul, Nat.reduceLT, Nat.reduceLeDiff, Nat.reduceEqDiff, Nat.reduceBEq, Nat.reduceBNe, Int.reduceToNat, Int.reduceLE, Int.reduceLT, Int.reduceEq, Int.reduceNe, Int.reduceNeg, Nat.reducePow, Int.reducePow, reduceIte, reduceCtorEq, ↓tc25, ↓td25, ↓tc34, ↓td34, ↓tc76, ↓td76, ↓tc95, ↓td95, ↓tc103, ↓td103, Try.f19, z0, z4, z5, z6, z7, z8, z9, z10, z11, z12]
    exact op_at (if_pos ha1) hd0 hsm fun L' T' w' ho hd' hst => ret_of (hst0.trans hst) (hK L' T' w' ho hd' (hst0.trans hst))

/-! ### few -/
def Act.small (a : Act) : Prop := a.b.length ≤ 50 ∧ a.name.length ≤ 40 ∧ a.to.length ≤ 40 ∧ a.w.bytes.length ≤ 50
instance (a : Act) : Decidable a.small := by unfold Act.small; exact inferInstance
def few (l : List Act) : List Act := (l.take 100).filter fun a => decide a.small
theorem few_succ {l : List Act} {i : Nat} {a : Act} (h : l[i]? = some a) : few (l.take (i + 1)) = few (l.take i) ++ if i < 100 ∧ a.small then [a] else [] := by
  obtain ⟨hi, he⟩ := List.getElem?_eq_some_iff.1 h
  have e1 : l.take (i + 1) = l.take i ++ [a] := by rw [List.take_succ_eq_append_getElem hi, he]
  unfold few
  rw [e1]
  have hl : (l.take i).length = i := by rw [List.length_take]; omega
  by_cases h1 : i < 100
  · rw [List.take_append, List.filter_append, hl]
    have e2 : [a].take (100 - i) = [a] := by rw [List.take_of_length_le (by simp; omega)]
    rw [e2]
    congr 1
    by_cases h2 : a.small
    · rw [if_pos ⟨h1, h2⟩]; simp [h2]
    · rw [if_neg (fun h => h2 h.2)]; simp [h2]
  · rw [if_neg (fun h => h1 h.1), List.append_nil, List.take_append_of_le_length (by omega)]
theorem len_wbV (b : List Int) : (wbV b) = .list 1 (b.map fun n => .int .i64 n) none := rfl
def H2 : Fns := { fn := fun f => H1.fn f, mu := fun d => bif d == 3 then .nil 22 else .no, hp := fun f => H1.hp f, ord := fun i => none }
theorem H2_fn (f : FuncId) : H2.fn f = (H1.fn f) := rfl
theorem H2_mu (d : Tmp) : H2.mu d = (bif d == 3 then .nil 22 else .no) := rfl
theorem H2_hp (f : FuncId) : H2.hp f = (H1.hp f) := rfl
theorem H2_ord (i : Nat) : H2.ord i = (none) := rfl
theorem H2ok : FnsOk Try.prog H2 := FnsOk.same H1ok rfl rfl
attribute [bitvec_to_nat] H2_fn H2_mu H2_hp H2_ord

def fewP : PM := fun args L T K => ∃ l : List Act, args = [.list 7 (l.map actV) none] ∧ l.length ≤ 9223372036854775807 ∧ ∀ L' T', Step noS noS L T noS noS L' T' → K (.list 7 ((few l).map actV) none) L' T'
theorem few_ok : PSound Try.prog 18 fewP := by
  refine psound tysOk H2ok mix Try.func18 rfl ?_
  intro args L T K hm
  obtain ⟨l, rfl, hlen, hK⟩ := hm
  simp (config := { maxSteps := 2000000 }) only [bitvec_to_nat, ↓r_ifTrue, ↓r_ifFalse, Nat.reduceAdd, Nat.reduceSub, Nat.reduceMul, Nat.reduceLT, Nat.reduceLeDiff, Nat.reduceEqDiff, Nat.reduceBEq, Nat.reduceBNe, Int.reduceToNat, Int.reduceLE, Int.reduceLT, Int.reduceEq, Int.reduceNe, Int.reduceNeg, Nat.reducePow, Int.reducePow, reduceIte, reduceCtorEq, ↓tc25, ↓td25, ↓tc34, ↓td34, ↓tc76, ↓td76, ↓tc95, ↓td95, ↓tc103, ↓td103, Try.f18, List.length_map]
  refine awpLoop_intro (α := {q : Nat × LL × TT // q.1 ≤ l.length ∧ Step noS noS L T noS noS q.2.1 q.2.2 ∧ q.2.2[T.length]? = some ((few (l.take q.1)).length, 34) ∧ T.length < q.2.2.length})
    (fun q => ⟨[.any, .any, .any, .list 7 ((few (l.take q.1.1)).map actV) (some T.length), .any, .any, .list 7 (l.map actV) none, .int .i64 (l.length : Int), .int .i64 (q.1.1 : Int), .any, .any, .any, .any, .any, .any, .any, .any, .any, .any, .any, .any, .any, .any, .any, .any, .any, .any, .any, .any, .any, .any, .any, .any, .any, .any, .any, .any, .any, .any, .any, .any, .any, .any, .any, .any, .any], q.1.2.1, q.1.2.2⟩) (fun q => l.length - q.1.1)
    ⟨(0, L, T ++ [(0, 34)]), Nat.zero_le _, (Step.refl _ _ _ _).tapp _, by rw [tat_new rfl]; rfl, by simp⟩ ?_ ?_ (fun q => ⟨q.2.2.1.len, q.2.2.1.tlen⟩)
  · simp (config := { maxSteps := 2000000 }) only [bitvec_to_nat, ↓r_ifTrue, ↓r_ifFalse, Nat.reduceAdd, Nat.reduceSub, Nat.reduceMul, Nat.reduceLT, Nat.reduceLeDiff, Nat.reduceEqDiff, Nat.reduceBEq, Nat.reduceBNe, Int.reduceToNat, Int.reduceLE, Int.reduceLT, Int.reduceEq, Int.reduceNe, Int.reduceNeg, Nat.reducePow, Int.reducePow, reduceIte, reduceCtorEq, ↓tc25, ↓td25, ↓tc34, ↓td34, ↓tc76, ↓td76, ↓tc95, ↓td95, ↓tc103, ↓td103, leLL_self]
    exact ⟨rfl, rfl⟩
  · rintro ⟨⟨i, L2, T2⟩, hi, hs2, hT, hTl⟩
    simp only at hi hs2 hT hTl
    by_cases him : i < l.length
    · have hdc : decide ((i : Int) < (l.length : Int)) = true := decide_eq_true (by omega)
      obtain ⟨a, ha⟩ : ∃ a, l[i]? = some a := ⟨_, List.getElem?_eq_getElem him⟩
      have hgd : (l.map actV).getD i .any = .agg [.int .u8 a.kind.toNat, .str a.name, .str a.to, .bytes a.b none, .int .i64 a.n, .int .i64 a.w.names, wbV a.w.bytes] := by
        rw [List.getD_eq_getElem?_getD, List.getElem?_map, ha]; rfl
      have hfs := few_succ ha
      have hi1 : IntKind.i64.wrap ((i : Int) + 1) = ((i + 1 : Nat) : Int) := by rw [i64w (by omega) (by omega)]; omega
      have hfl : (few (l.take i)).length ≤ 100 := by
        unfold few
        refine Nat.le_trans (List.length_filter_le _ _) ?_
        rw [List.length_take]; omega
      have hno : ¬ (i < 100 ∧ a.small) → few (l.take (i + 1)) = few (l.take i) := fun h => by rw [hfs, if_neg h, List.append_nil]
      simp (config := { maxSteps := 2000000 }) only [bitvec_to_nat, ↓r_ifTrue, ↓r_ifFalse, Nat.reduceAdd, Nat.reduceSub, Nat.reduceMul, Nat.reduceLT, Nat.reduceLeDiff, Nat.reduceEqDiff, Nat.reduceBEq, Nat.reduceBNe, Int.reduceToNat, Int.reduceLE, Int.reduceLT, Int.reduceEq, Int.reduceNe, Int.reduceNeg, Nat.reducePow, Int.reducePow, reduceIte, reduceCtorEq, ↓tc25, ↓td25, ↓tc34, ↓td34, ↓tc76, ↓td76, ↓tc95, ↓td95, ↓tc103, ↓td103, hdc, hgd, Int.toNat_natCast, List.length_map, len_wbV, hi1, hT, hTl]
      refine ⟨⟨by omega, by omega⟩, ?_⟩
      refine awpIf_intro (fun h1 => ?_) (fun h1 => ?_) <;> simp only [decide_eq_true_eq, decide_eq_false_iff_not] at h1
      · refine awpIf_intro (fun h2 => ?_) (fun h2 => ?_) <;> simp only [decide_eq_true_eq, decide_eq_false_iff_not] at h2
        · refine awpIf_intro (fun h3 => ?_) (fun h3 => ?_) <;> simp only [decide_eq_true_eq, decide_eq_false_iff_not] at h3
          · refine awpIf_intro (fun h4 => ?_) (fun h4 => ?_) <;> simp only [decide_eq_true_eq, decide_eq_false_iff_not] at h4
            · refine awpIf_intro (fun h5 => ?_) (fun h5 => ?_) <;> simp only [decide_eq_true_eq, decide_eq_false_iff_not] at h5
              · have hye : few (l.take (i + 1)) = few (l.take i) ++ [a] := by rw [hfs, if_pos ⟨by omega, by omega, by omega, by omega, by omega⟩]
                refine ⟨by unfold maxBytes; omega, ⟨(i + 1, L2 ++ [[.int .u8 a.kind.toNat, .str a.name, .str a.to, .bytes a.b none, .int .i64 a.n, .int .i64 a.w.names, .list 1 (a.w.bytes.map fun n => .int .i64 n) none]], (T2 ++ [(1, 34)]).set T.length ((few (l.take i)).length + 1, 34)), him, ((hs2.app _).tapp [(1, 34)]).tset (k := T.length) (.inr (Nat.le_refl _)) ((few (l.take i)).length + 1, 34), ?_, ?_⟩, ?_, by simp only; omega⟩
                · simp only
                  rw [List.getElem?_set_self (by simp; omega), hye]; simp
                · simp only; simp; omega
                · simp (config := { maxSteps := 2000000 }) only [bitvec_to_nat, ↓r_ifTrue, ↓r_ifFalse, Nat.reduceAdd, Nat.reduceSub, Nat.reduceMul, Nat.reduceLT, Nat.reduceLeDiff, Nat.reduceEqDiff, Nat.reduceBEq, Nat.reduceBNe, Int.reduceToNat, Int.reduceLE, Int.reduceLT, Int.reduceEq, Int.reduceNe, Int.reduceNeg, Nat.reducePow, Int.reducePow, reduceIte, reduceCtorEq, ↓tc25, ↓td25, ↓tc34, ↓td34, ↓tc76, ↓td76, ↓tc95, ↓td95, ↓tc103, ↓td103, leLL_self, hye, List.map_append, List.length_append, List.length_map]
                  all_goals first | rfl | exact ⟨rfl, rfl⟩
              · have hnoe := hno (by rintro ⟨q1, q2, q3, q4, q5⟩; omega)
                refine ⟨⟨(i + 1, L2 ++ [[.int .u8 a.kind.toNat, .str a.name, .str a.to, .bytes a.b none, .int .i64 a.n, .int .i64 a.w.names, .list 1 (a.w.bytes.map fun n => .int .i64 n) none]], T2), him, hs2.app _, by simp only; rw [hnoe]; exact hT, hTl⟩, ?_, by simp only; omega⟩
                simp (config := { maxSteps := 2000000 }) only [bitvec_to_nat, ↓r_ifTrue, ↓r_ifFalse, Nat.reduceAdd, Nat.reduceSub, Nat.reduceMul, Nat.reduceLT, Nat.reduceLeDiff, Nat.reduceEqDiff, Nat.reduceBEq, Nat.reduceBNe, Int.reduceToNat, Int.reduceLE, Int.reduceLT, Int.reduceEq, Int.reduceNe, Int.reduceNeg, Nat.reducePow, Int.reducePow, reduceIte, reduceCtorEq, ↓tc25, ↓td25, ↓tc34, ↓td34, ↓tc76, ↓td76, ↓tc95, ↓td95, ↓tc103, ↓td103, leLL_self, hnoe]
            · have hnoe := hno (by rintro ⟨q1, q2, q3, q4, q5⟩; omega)
              refine ⟨⟨(i + 1, L2 ++ [[.int .u8 a.kind.toNat, .str a.name, .str a.to, .bytes a.b none, .int .i64 a.n, .int .i64 a.w.names, .list 1 (a.w.bytes.map fun n => .int .i64 n) none]], T2), him, hs2.app _, by simp only; rw [hnoe]; exact hT, hTl⟩, ?_, by simp only; omega⟩
              simp (config := { maxSteps := 2000000 }) only [bitvec_to_nat, ↓r_ifTrue, ↓r_ifFalse, Nat.reduceAdd, Nat.reduceSub, Nat.reduceMul, Nat.reduceLT, Nat.reduceLeDiff, Nat.reduceEqDiff, Nat.reduceBEq, Nat.reduceBNe, Int.reduceToNat, Int.reduceLE, Int.reduceLT, Int.reduceEq, Int.reduceNe, Int.reduceNeg, Nat.reducePow, Int.reducePow, reduceIte, reduceCtorEq, ↓tc25, ↓td25, ↓tc34, ↓td34, ↓tc76, ↓td76, ↓tc95, ↓td95, ↓tc103, ↓td103, leLL_self, hnoe]
          · have hnoe := hno (by rintro ⟨q1, q2, q3, q4, q5⟩; omega)
            refine ⟨⟨(i + 1, L2 ++ [[.int .u8 a.kind.toNat, .str a.name, .str a.to, .bytes a.b none, .int .i64 a.n, .int .i64 a.w.names, .list 1 (a.w.bytes.map fun n => .int .i64 n) none]], T2), him, hs2.app _, by simp only; rw [hnoe]; exact hT, hTl⟩, ?_, by simp only; omega⟩
            simp (config := { maxSteps := 2000000 }) only [bitvec_to_nat, ↓r_ifTrue, ↓r_ifFalse, Nat.reduceAdd, Nat.reduceSub, Nat.reduceMul, Nat.reduceLT, Nat.reduceLeDiff, Nat.reduceEqDiff, Nat.reduceBEq, Nat.reduceBNe, Int.reduceToNat, Int.reduceLE, Int.reduceLT, Int.reduceEq, Int.reduceNe, Int.reduceNeg, Nat.reducePow, Int.reducePow, reduceIte, reduceCtorEq, ↓tc25, ↓td25, ↓tc34, ↓td34, ↓tc76, ↓td76, ↓tc95, ↓td95, ↓tc103, ↓td103, leLL_self, hnoe]
        · have hnoe := hno (by rintro ⟨q1, q2, q3, q4, q5⟩; omega)
          refine ⟨⟨(i + 1, L2 ++ [[.int .u8 a.kind.toNat, .str a.name, .str a.to, .bytes a.b none, .int .i64 a.n, .int .i64 a.w.names, .list 1 (a.w.bytes.map fun n => .int .i64 n) none]], T2), him, hs2.app _, by simp only; rw [hnoe]; exact hT, hTl⟩, ?_, by simp only; omega⟩
          simp (config := { maxSteps := 2000000 }) only [bitvec_to_nat, ↓r_ifTrue, ↓r_ifFalse, Nat.reduceAdd, Nat.reduceSub, Nat.reduceMul, Nat.reduceLT, Nat.reduceLeDiff, Nat.reduceEqDiff, Nat.reduceBEq, Nat.reduceBNe, Int.reduceToNat, Int.reduceLE, Int.reduceLT, Int.reduceEq, Int.reduceNe, Int.reduceNeg, Nat.reducePow, Int.reducePow, reduceIte, reduceCtorEq, ↓tc25, ↓td25, ↓tc34, ↓td34, ↓tc76, ↓td76, ↓tc95, ↓td95, ↓tc103, ↓td103, leLL_self, hnoe]
      · have hnoe := hno (by rintro ⟨q1, q2, q3, q4, q5⟩; omega)
        refine ⟨⟨(i + 1, L2 ++ [[.int .u8 a.kind.toNat, .str a.name, .str a.to, .bytes a.b none, .int .i64 a.n, .int .i64 a.w.names, .list 1 (a.w.bytes.map fun n => .int .i64 n) none]], T2), him, hs2.app _, by simp only; rw [hnoe]; exact hT, hTl⟩, ?_, by simp only; omega⟩
        simp (config := { maxSteps := 2000000 }) only [bitvec_to_nat, ↓r_ifTrue, ↓r_ifFalse, Nat.reduceAdd, Nat.reduceSub, Nat.reduceMul, Nat.reduceLT, Nat.reduceLeDiff, Nat.reduceEqDiff, Nat.reduceBEq, Nat.reduceBNe, Int.reduceToNat, Int.reduceLE, Int.reduceLT, Int.reduceEq, Int.reduceNe, Int.reduceNeg, Nat.reducePow, Int.reducePow, reduceIte, reduceCtorEq, ↓tc25, ↓td25, ↓tc34, ↓td34, ↓tc76, ↓td76, ↓tc95, ↓td95, ↓tc103, ↓td103, leLL_self, hnoe]
    · have hdc : decide ((i : Int) < (l.length : Int)) = false := decide_eq_false (by omega)
      have hie : i = l.length := by omega
      subst hie
      simp (config := { maxSteps := 2000000 }) only [bitvec_to_nat, ↓r_ifTrue, ↓r_ifFalse, Nat.reduceAdd, Nat.reduceSub, Nat.reduceMul, Nat.reduceLT, Nat.reduceLeDiff, Nat.reduceEqDiff, Nat.reduceBEq, Nat.reduceBNe, Int.reduceToNat, Int.reduceLE, Int.reduceLT, Int.reduceEq, Int.reduceNe, Int.reduceNeg, Nat.reducePow, Int.reducePow, reduceIte, reduceCtorEq, ↓tc25, ↓td25, ↓tc34, ↓td34, ↓tc76, ↓td76, ↓tc95, ↓td95, ↓tc103, ↓td103, hdc, List.take_length]
      exact ret_le hs2 (hK _ _ hs2) ⟨rfl, rfl⟩
end Go.Proofs.Ytieeojipodefoaa.DiskL
