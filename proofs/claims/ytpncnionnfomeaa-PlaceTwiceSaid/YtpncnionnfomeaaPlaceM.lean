import Derived.Test.YtpncnionnfomeaaAwX
import Derived.Test.YtpncnionnfomeaaPlaceL
namespace Go.Proofs.Ytpncnionnfomeaa.PlaceX
open Go Go.Proofs Go.Proofs.Ytpncnionnfomeaa.Aw Go.Proofs.Ytpncnionnfomeaa.Num Go.Proofs.Ytpncnionnfomeaa.DiskM Go.Proofs.Ytpncnionnfomeaa.DiskA Go.Proofs.Ytpncnionnfomeaa.DiskK Go.Proofs.Ytpncnionnfomeaa.DiskC Go.Proofs.Ytpncnionnfomeaa.Disk
open Go.Proofs.Ytpncnionnfomeaa.DiskL (readP syncP syncNamesP namesP doomP wbV len_wbV usedP Sz sz_new crash_o op_o small_crash)
open Go.Proofs.Ytpncnionnfomeaa.Place (Do Makes putAll growAll dropD putFP growFP dropFP makes_put makes_grow makes_drop makes_syncNames)
set_option linter.unusedSimpArgs false
set_option linter.unusedVariables false
def I25 : TyI := ⟨.struct [(0, 3), (1, 23)], 2, 32, (.agg #[(.int .i64 0), (.slice none 0 0)])⟩
def I35 : TyI := ⟨.struct [(0, 5), (1, 9), (2, 32), (3, 33), (4, 25), (6, 3)], 7, 112, (.agg #[(.int .u8 0), (.string .empty), (.slice none 0 0), (.slice none 0 0), (.int .i64 0), (.slice none 0 0), (.int .i64 0)])⟩
def I77 : TyI := ⟨.struct [(0, 3), (1, 3), (2, 74), (3, 74), (4, 75), (5, 4), (6, 4), (7, 3)], 8, 72, (.agg #[(.int .i64 0), (.int .i64 0), (.map none), (.map none), (.slice none 0 0), (.bool false), (.bool false), (.int .i64 0)])⟩
def I82 : TyI := ⟨.struct [(0, 78), (1, 79), (2, 79), (3, 80), (4, 3), (5, 4), (6, 4), (7, 3)], 8, 120, (.agg #[(.slice none 0 0), (.slice none 0 0), (.slice none 0 0), (.slice none 0 0), (.int .i64 0), (.bool false), (.bool false), (.int .i64 0)])⟩
def I88 : TyI := ⟨.struct [(0, 9), (1, 9), (2, 86)], 3, 40, (.agg #[(.string .empty), (.string .empty), (.pointer none)])⟩
def I97 : TyI := ⟨.struct [(0, 9), (1, 9), (2, 3)], 3, 40, (.agg #[(.string .empty), (.string .empty), (.int .i64 0)])⟩
def I99 : TyI := ⟨.struct [(0, 32), (1, 3)], 2, 32, (.agg #[(.slice none 0 0), (.int .i64 0)])⟩
def I101 : TyI := ⟨.struct [(0, 9), (1, 3)], 2, 24, (.agg #[(.string .empty), (.int .i64 0)])⟩
def tys : Tys := fun t => if t = 3 then some ⟨.int .i64, 1, 8, (.int .i64 0)⟩ else if t = 4 then some ⟨.bool, 1, 1, (.bool false)⟩ else if t = 5 then some ⟨.int .u8, 1, 1, (.int .u8 0)⟩ else if t = 9 then some ⟨.str, 1, 16, (.string .empty)⟩ else if t = 22 then some ⟨.slice 35, 1, 24, (.slice none 0 0)⟩ else if t = 23 then some ⟨.slice 3, 1, 24, (.slice none 0 0)⟩ else if t = 25 then some I25 else if t = 27 then some ⟨.ptr 77, 1, 8, (.pointer none)⟩ else if t = 29 then some ⟨.ptr 82, 1, 8, (.pointer none)⟩ else if t = 32 then some ⟨.slice 5, 1, 24, (.slice none 0 0)⟩ else if t = 33 then some ⟨.slice 9, 1, 24, (.slice none 0 0)⟩ else if t = 35 then some I35 else if t = 37 then some ⟨.int .i64, 1, 8, (.int .i64 0)⟩ else if t = 74 then some ⟨.map 9 86, 1, 8, (.map none)⟩ else if t = 75 then some ⟨.slice 88, 1, 24, (.slice none 0 0)⟩ else if t = 77 then some I77 else if t = 78 then some ⟨.slice 99, 1, 24, (.slice none 0 0)⟩ else if t = 79 then some ⟨.slice 101, 1, 24, (.slice none 0 0)⟩ else if t = 80 then some ⟨.slice 97, 1, 24, (.slice none 0 0)⟩ else if t = 82 then some I82 else if t = 86 then some ⟨.ptr 94, 1, 8, (.pointer none)⟩ else if t = 88 then some I88 else if t = 97 then some I97 else if t = 99 then some I99 else if t = 101 then some I101 else none
theorem tysOk : TyOk Try.prog tys := by
  refine TyOk.cons ?_ 3 _ (by kernel_rfl) (by kernel_rfl)
  refine TyOk.cons ?_ 4 _ (by kernel_rfl) (by kernel_rfl)
  refine TyOk.cons ?_ 5 _ (by kernel_rfl) (by kernel_rfl)
  refine TyOk.cons ?_ 9 _ (by kernel_rfl) (by kernel_rfl)
  refine TyOk.cons ?_ 22 _ (by kernel_rfl) (by kernel_rfl)
  refine TyOk.cons ?_ 23 _ (by kernel_rfl) (by kernel_rfl)
  refine TyOk.cons ?_ 25 _ (by kernel_rfl) (by kernel_rfl)
  refine TyOk.cons ?_ 27 _ (by kernel_rfl) (by kernel_rfl)
  refine TyOk.cons ?_ 29 _ (by kernel_rfl) (by kernel_rfl)
  refine TyOk.cons ?_ 32 _ (by kernel_rfl) (by kernel_rfl)
  refine TyOk.cons ?_ 33 _ (by kernel_rfl) (by kernel_rfl)
  refine TyOk.cons ?_ 35 _ (by kernel_rfl) (by kernel_rfl)
  refine TyOk.cons ?_ 37 _ (by kernel_rfl) (by kernel_rfl)
  refine TyOk.cons ?_ 74 _ (by kernel_rfl) (by kernel_rfl)
  refine TyOk.cons ?_ 75 _ (by kernel_rfl) (by kernel_rfl)
  refine TyOk.cons ?_ 77 _ (by kernel_rfl) (by kernel_rfl)
  refine TyOk.cons ?_ 78 _ (by kernel_rfl) (by kernel_rfl)
  refine TyOk.cons ?_ 79 _ (by kernel_rfl) (by kernel_rfl)
  refine TyOk.cons ?_ 80 _ (by kernel_rfl) (by kernel_rfl)
  refine TyOk.cons ?_ 82 _ (by kernel_rfl) (by kernel_rfl)
  refine TyOk.cons ?_ 86 _ (by kernel_rfl) (by kernel_rfl)
  refine TyOk.cons ?_ 88 _ (by kernel_rfl) (by kernel_rfl)
  refine TyOk.cons ?_ 97 _ (by kernel_rfl) (by kernel_rfl)
  refine TyOk.cons ?_ 99 _ (by kernel_rfl) (by kernel_rfl)
  refine TyOk.cons ?_ 101 _ (by kernel_rfl) (by kernel_rfl)
  exact TyOk.nil _
theorem mix : Try.prog.follows .mixedOrders = true := by kernel_rfl
theorem ty3 : tys 3 = some ⟨.int .i64, 1, 8, (.int .i64 0)⟩ := rfl
theorem tk3 : kindV tys 3 = some (.int .i64) := rfl
theorem ts3 : sizeV tys 3 = 1 := rfl
theorem ta3 : TyI.isAgg ⟨.int .i64, 1, 8, (.int .i64 0)⟩ = false := rfl
theorem tu3 : isU8 ⟨.int .i64, 1, 8, (.int .i64 0)⟩ = false := rfl
theorem tn3 : notIntK tys 3 = false := rfl
theorem tr3 : isStrK tys 3 = false := rfl
theorem tz3 : zeroOk ⟨.int .i64, 1, 8, (.int .i64 0)⟩ = true := by kernel_rfl
theorem tv3 : zeroU8 ⟨.int .i64, 1, 8, (.int .i64 0)⟩ = false := rfl
theorem td3 : TyI.zeroV ⟨.int .i64, 1, 8, (.int .i64 0)⟩ = V.ofV1 (.int .i64 0) := rfl
theorem ty4 : tys 4 = some ⟨.bool, 1, 1, (.bool false)⟩ := rfl
theorem tk4 : kindV tys 4 = some (.bool) := rfl
theorem ts4 : sizeV tys 4 = 1 := rfl
theorem ta4 : TyI.isAgg ⟨.bool, 1, 1, (.bool false)⟩ = false := rfl
theorem tu4 : isU8 ⟨.bool, 1, 1, (.bool false)⟩ = false := rfl
theorem tn4 : notIntK tys 4 = true := rfl
theorem tr4 : isStrK tys 4 = false := rfl
theorem tz4 : zeroOk ⟨.bool, 1, 1, (.bool false)⟩ = true := by kernel_rfl
theorem tv4 : zeroU8 ⟨.bool, 1, 1, (.bool false)⟩ = false := rfl
theorem td4 : TyI.zeroV ⟨.bool, 1, 1, (.bool false)⟩ = V.ofV1 (.bool false) := rfl
theorem ty5 : tys 5 = some ⟨.int .u8, 1, 1, (.int .u8 0)⟩ := rfl
theorem tk5 : kindV tys 5 = some (.int .u8) := rfl
theorem ts5 : sizeV tys 5 = 1 := rfl
theorem ta5 : TyI.isAgg ⟨.int .u8, 1, 1, (.int .u8 0)⟩ = false := rfl
theorem tu5 : isU8 ⟨.int .u8, 1, 1, (.int .u8 0)⟩ = true := rfl
theorem tn5 : notIntK tys 5 = false := rfl
theorem tr5 : isStrK tys 5 = false := rfl
theorem tz5 : zeroOk ⟨.int .u8, 1, 1, (.int .u8 0)⟩ = true := by kernel_rfl
theorem tv5 : zeroU8 ⟨.int .u8, 1, 1, (.int .u8 0)⟩ = true := rfl
theorem td5 : TyI.zeroV ⟨.int .u8, 1, 1, (.int .u8 0)⟩ = V.ofV1 (.int .u8 0) := rfl
theorem ty9 : tys 9 = some ⟨.str, 1, 16, (.string .empty)⟩ := rfl
theorem tk9 : kindV tys 9 = some (.str) := rfl
theorem ts9 : sizeV tys 9 = 1 := rfl
theorem ta9 : TyI.isAgg ⟨.str, 1, 16, (.string .empty)⟩ = false := rfl
theorem tu9 : isU8 ⟨.str, 1, 16, (.string .empty)⟩ = false := rfl
theorem tn9 : notIntK tys 9 = true := rfl
theorem tr9 : isStrK tys 9 = true := rfl
theorem tz9 : zeroOk ⟨.str, 1, 16, (.string .empty)⟩ = true := by kernel_rfl
theorem tv9 : zeroU8 ⟨.str, 1, 16, (.string .empty)⟩ = false := rfl
theorem td9 : TyI.zeroV ⟨.str, 1, 16, (.string .empty)⟩ = V.ofV1 (.string .empty) := rfl
theorem ty22 : tys 22 = some ⟨.slice 35, 1, 24, (.slice none 0 0)⟩ := rfl
theorem tk22 : kindV tys 22 = some (.slice 35) := rfl
theorem ts22 : sizeV tys 22 = 1 := rfl
theorem ta22 : TyI.isAgg ⟨.slice 35, 1, 24, (.slice none 0 0)⟩ = false := rfl
theorem tb22 : isBytes tys 22 = false := rfl
theorem te22 : elemI tys 22 = some (35, I35) := rfl
theorem tu22 : isU8 ⟨.slice 35, 1, 24, (.slice none 0 0)⟩ = false := rfl
theorem tn22 : notIntK tys 22 = true := rfl
theorem tr22 : isStrK tys 22 = false := rfl
theorem tz22 : zeroOk ⟨.slice 35, 1, 24, (.slice none 0 0)⟩ = true := by kernel_rfl
theorem tv22 : zeroU8 ⟨.slice 35, 1, 24, (.slice none 0 0)⟩ = false := rfl
theorem td22 : TyI.zeroV ⟨.slice 35, 1, 24, (.slice none 0 0)⟩ = V.ofV1 (.slice none 0 0) := rfl
theorem ty23 : tys 23 = some ⟨.slice 3, 1, 24, (.slice none 0 0)⟩ := rfl
theorem tk23 : kindV tys 23 = some (.slice 3) := rfl
theorem ts23 : sizeV tys 23 = 1 := rfl
theorem ta23 : TyI.isAgg ⟨.slice 3, 1, 24, (.slice none 0 0)⟩ = false := rfl
theorem tb23 : isBytes tys 23 = false := rfl
theorem te23 : elemI tys 23 = some (3, ⟨.int .i64, 1, 8, (.int .i64 0)⟩) := rfl
theorem tu23 : isU8 ⟨.slice 3, 1, 24, (.slice none 0 0)⟩ = false := rfl
theorem tn23 : notIntK tys 23 = true := rfl
theorem tr23 : isStrK tys 23 = false := rfl
theorem tz23 : zeroOk ⟨.slice 3, 1, 24, (.slice none 0 0)⟩ = true := by kernel_rfl
theorem tv23 : zeroU8 ⟨.slice 3, 1, 24, (.slice none 0 0)⟩ = false := rfl
theorem td23 : TyI.zeroV ⟨.slice 3, 1, 24, (.slice none 0 0)⟩ = V.ofV1 (.slice none 0 0) := rfl
theorem ty25 : tys 25 = some I25 := rfl
theorem tk25 : kindV tys 25 = some (.struct [(0, 3), (1, 23)]) := rfl
theorem ts25 : sizeV tys 25 = 2 := rfl
theorem ta25 : TyI.isAgg I25 = true := rfl
theorem tg25 : I25.size = 2 ∧ I25.kind = .struct [(0, 3), (1, 23)] ∧ I25.bytes = 32 ∧ I25.zero = (.agg #[(.int .i64 0), (.slice none 0 0)]) := ⟨rfl, rfl, rfl, rfl⟩
theorem tu25 : isU8 I25 = false := rfl
theorem tn25 : notIntK tys 25 = true := rfl
theorem tr25 : isStrK tys 25 = false := rfl
theorem tz25 : zeroOk I25 = true := by kernel_rfl
theorem tv25 : zeroU8 I25 = false := rfl
theorem tc25 : V.ofV (.agg #[(.int .i64 0), (.slice none 0 0)]) = .agg [V.ofV1 (.int .i64 0), V.ofV1 (.slice none 0 0)] := by kernel_rfl
theorem tw25 : Value.oneCell' (.agg #[(.int .i64 0), (.slice none 0 0)]) = false := rfl
theorem tx25 : (#[(.int .i64 0), (.slice none 0 0)] : Array Value).all (fun x => x.oneCell') 0 2 = true := by kernel_rfl
theorem td25 : TyI.zeroV I25 = .agg [V.ofV1 (.int .i64 0), V.ofV1 (.slice none 0 0)] := by kernel_rfl
theorem tp25_0 : placeV tys [(0, 3), (1, 23)] 0 = some (0, 1) := rfl
theorem tp25_1 : placeV tys [(0, 3), (1, 23)] 1 = some (1, 1) := rfl
theorem tq25 : ([(0, 3), (1, 23)].all (fun f => (tys f.2).isSome)) = true := rfl
theorem ty27 : tys 27 = some ⟨.ptr 77, 1, 8, (.pointer none)⟩ := rfl
theorem tk27 : kindV tys 27 = some (.ptr 77) := rfl
theorem ts27 : sizeV tys 27 = 1 := rfl
theorem ta27 : TyI.isAgg ⟨.ptr 77, 1, 8, (.pointer none)⟩ = false := rfl
theorem tu27 : isU8 ⟨.ptr 77, 1, 8, (.pointer none)⟩ = false := rfl
theorem tn27 : notIntK tys 27 = true := rfl
theorem tr27 : isStrK tys 27 = false := rfl
theorem tz27 : zeroOk ⟨.ptr 77, 1, 8, (.pointer none)⟩ = true := by kernel_rfl
theorem tv27 : zeroU8 ⟨.ptr 77, 1, 8, (.pointer none)⟩ = false := rfl
theorem td27 : TyI.zeroV ⟨.ptr 77, 1, 8, (.pointer none)⟩ = V.ofV1 (.pointer none) := rfl
theorem ty29 : tys 29 = some ⟨.ptr 82, 1, 8, (.pointer none)⟩ := rfl
theorem tk29 : kindV tys 29 = some (.ptr 82) := rfl
theorem ts29 : sizeV tys 29 = 1 := rfl
theorem ta29 : TyI.isAgg ⟨.ptr 82, 1, 8, (.pointer none)⟩ = false := rfl
theorem tu29 : isU8 ⟨.ptr 82, 1, 8, (.pointer none)⟩ = false := rfl
theorem tn29 : notIntK tys 29 = true := rfl
theorem tr29 : isStrK tys 29 = false := rfl
theorem tz29 : zeroOk ⟨.ptr 82, 1, 8, (.pointer none)⟩ = true := by kernel_rfl
theorem tv29 : zeroU8 ⟨.ptr 82, 1, 8, (.pointer none)⟩ = false := rfl
theorem td29 : TyI.zeroV ⟨.ptr 82, 1, 8, (.pointer none)⟩ = V.ofV1 (.pointer none) := rfl
theorem ty32 : tys 32 = some ⟨.slice 5, 1, 24, (.slice none 0 0)⟩ := rfl
theorem tk32 : kindV tys 32 = some (.slice 5) := rfl
theorem ts32 : sizeV tys 32 = 1 := rfl
theorem ta32 : TyI.isAgg ⟨.slice 5, 1, 24, (.slice none 0 0)⟩ = false := rfl
theorem tb32 : isBytes tys 32 = true := rfl
theorem te32 : elemI tys 32 = some (5, ⟨.int .u8, 1, 1, (.int .u8 0)⟩) := rfl
theorem tu32 : isU8 ⟨.slice 5, 1, 24, (.slice none 0 0)⟩ = false := rfl
theorem tn32 : notIntK tys 32 = true := rfl
theorem tr32 : isStrK tys 32 = false := rfl
theorem tz32 : zeroOk ⟨.slice 5, 1, 24, (.slice none 0 0)⟩ = true := by kernel_rfl
theorem tv32 : zeroU8 ⟨.slice 5, 1, 24, (.slice none 0 0)⟩ = false := rfl
theorem td32 : TyI.zeroV ⟨.slice 5, 1, 24, (.slice none 0 0)⟩ = V.ofV1 (.slice none 0 0) := rfl
theorem ty33 : tys 33 = some ⟨.slice 9, 1, 24, (.slice none 0 0)⟩ := rfl
theorem tk33 : kindV tys 33 = some (.slice 9) := rfl
theorem ts33 : sizeV tys 33 = 1 := rfl
theorem ta33 : TyI.isAgg ⟨.slice 9, 1, 24, (.slice none 0 0)⟩ = false := rfl
theorem tb33 : isBytes tys 33 = false := rfl
theorem te33 : elemI tys 33 = some (9, ⟨.str, 1, 16, (.string .empty)⟩) := rfl
theorem tu33 : isU8 ⟨.slice 9, 1, 24, (.slice none 0 0)⟩ = false := rfl
theorem tn33 : notIntK tys 33 = true := rfl
theorem tr33 : isStrK tys 33 = false := rfl
theorem tz33 : zeroOk ⟨.slice 9, 1, 24, (.slice none 0 0)⟩ = true := by kernel_rfl
theorem tv33 : zeroU8 ⟨.slice 9, 1, 24, (.slice none 0 0)⟩ = false := rfl
theorem td33 : TyI.zeroV ⟨.slice 9, 1, 24, (.slice none 0 0)⟩ = V.ofV1 (.slice none 0 0) := rfl
theorem ty35 : tys 35 = some I35 := rfl
theorem tk35 : kindV tys 35 = some (.struct [(0, 5), (1, 9), (2, 32), (3, 33), (4, 25), (6, 3)]) := rfl
theorem ts35 : sizeV tys 35 = 7 := rfl
theorem ta35 : TyI.isAgg I35 = true := rfl
theorem tg35 : I35.size = 7 ∧ I35.kind = .struct [(0, 5), (1, 9), (2, 32), (3, 33), (4, 25), (6, 3)] ∧ I35.bytes = 112 ∧ I35.zero = (.agg #[(.int .u8 0), (.string .empty), (.slice none 0 0), (.slice none 0 0), (.int .i64 0), (.slice none 0 0), (.int .i64 0)]) := ⟨rfl, rfl, rfl, rfl⟩
theorem tu35 : isU8 I35 = false := rfl
theorem tn35 : notIntK tys 35 = true := rfl
theorem tr35 : isStrK tys 35 = false := rfl
theorem tz35 : zeroOk I35 = true := by kernel_rfl
theorem tv35 : zeroU8 I35 = false := rfl
theorem tc35 : V.ofV (.agg #[(.int .u8 0), (.string .empty), (.slice none 0 0), (.slice none 0 0), (.int .i64 0), (.slice none 0 0), (.int .i64 0)]) = .agg [V.ofV1 (.int .u8 0), V.ofV1 (.string .empty), V.ofV1 (.slice none 0 0), V.ofV1 (.slice none 0 0), V.ofV1 (.int .i64 0), V.ofV1 (.slice none 0 0), V.ofV1 (.int .i64 0)] := by kernel_rfl
theorem tw35 : Value.oneCell' (.agg #[(.int .u8 0), (.string .empty), (.slice none 0 0), (.slice none 0 0), (.int .i64 0), (.slice none 0 0), (.int .i64 0)]) = false := rfl
theorem tx35 : (#[(.int .u8 0), (.string .empty), (.slice none 0 0), (.slice none 0 0), (.int .i64 0), (.slice none 0 0), (.int .i64 0)] : Array Value).all (fun x => x.oneCell') 0 7 = true := by kernel_rfl
theorem td35 : TyI.zeroV I35 = .agg [V.ofV1 (.int .u8 0), V.ofV1 (.string .empty), V.ofV1 (.slice none 0 0), V.ofV1 (.slice none 0 0), V.ofV1 (.int .i64 0), V.ofV1 (.slice none 0 0), V.ofV1 (.int .i64 0)] := by kernel_rfl
theorem tp35_0 : placeV tys [(0, 5), (1, 9), (2, 32), (3, 33), (4, 25), (6, 3)] 0 = some (0, 1) := rfl
theorem tp35_1 : placeV tys [(0, 5), (1, 9), (2, 32), (3, 33), (4, 25), (6, 3)] 1 = some (1, 1) := rfl
theorem tp35_2 : placeV tys [(0, 5), (1, 9), (2, 32), (3, 33), (4, 25), (6, 3)] 2 = some (2, 1) := rfl
theorem tp35_3 : placeV tys [(0, 5), (1, 9), (2, 32), (3, 33), (4, 25), (6, 3)] 3 = some (3, 1) := rfl
theorem tp35_4 : placeV tys [(0, 5), (1, 9), (2, 32), (3, 33), (4, 25), (6, 3)] 4 = some (4, 2) := rfl
theorem tp35_5 : placeV tys [(0, 5), (1, 9), (2, 32), (3, 33), (4, 25), (6, 3)] 5 = some (6, 1) := rfl
theorem tq35 : ([(0, 5), (1, 9), (2, 32), (3, 33), (4, 25), (6, 3)].all (fun f => (tys f.2).isSome)) = true := rfl
theorem ty37 : tys 37 = some ⟨.int .i64, 1, 8, (.int .i64 0)⟩ := rfl
theorem tk37 : kindV tys 37 = some (.int .i64) := rfl
theorem ts37 : sizeV tys 37 = 1 := rfl
theorem ta37 : TyI.isAgg ⟨.int .i64, 1, 8, (.int .i64 0)⟩ = false := rfl
theorem tu37 : isU8 ⟨.int .i64, 1, 8, (.int .i64 0)⟩ = false := rfl
theorem tn37 : notIntK tys 37 = false := rfl
theorem tr37 : isStrK tys 37 = false := rfl
theorem tz37 : zeroOk ⟨.int .i64, 1, 8, (.int .i64 0)⟩ = true := by kernel_rfl
theorem tv37 : zeroU8 ⟨.int .i64, 1, 8, (.int .i64 0)⟩ = false := rfl
theorem td37 : TyI.zeroV ⟨.int .i64, 1, 8, (.int .i64 0)⟩ = V.ofV1 (.int .i64 0) := rfl
theorem ty74 : tys 74 = some ⟨.map 9 86, 1, 8, (.map none)⟩ := rfl
theorem tk74 : kindV tys 74 = some (.map 9 86) := rfl
theorem ts74 : sizeV tys 74 = 1 := rfl
theorem ta74 : TyI.isAgg ⟨.map 9 86, 1, 8, (.map none)⟩ = false := rfl
theorem tu74 : isU8 ⟨.map 9 86, 1, 8, (.map none)⟩ = false := rfl
theorem tn74 : notIntK tys 74 = true := rfl
theorem tr74 : isStrK tys 74 = false := rfl
theorem tz74 : zeroOk ⟨.map 9 86, 1, 8, (.map none)⟩ = true := by kernel_rfl
theorem tv74 : zeroU8 ⟨.map 9 86, 1, 8, (.map none)⟩ = false := rfl
theorem td74 : TyI.zeroV ⟨.map 9 86, 1, 8, (.map none)⟩ = V.ofV1 (.map none) := rfl
theorem ty75 : tys 75 = some ⟨.slice 88, 1, 24, (.slice none 0 0)⟩ := rfl
theorem tk75 : kindV tys 75 = some (.slice 88) := rfl
theorem ts75 : sizeV tys 75 = 1 := rfl
theorem ta75 : TyI.isAgg ⟨.slice 88, 1, 24, (.slice none 0 0)⟩ = false := rfl
theorem tb75 : isBytes tys 75 = false := rfl
theorem te75 : elemI tys 75 = some (88, I88) := rfl
theorem tu75 : isU8 ⟨.slice 88, 1, 24, (.slice none 0 0)⟩ = false := rfl
theorem tn75 : notIntK tys 75 = true := rfl
theorem tr75 : isStrK tys 75 = false := rfl
theorem tz75 : zeroOk ⟨.slice 88, 1, 24, (.slice none 0 0)⟩ = true := by kernel_rfl
theorem tv75 : zeroU8 ⟨.slice 88, 1, 24, (.slice none 0 0)⟩ = false := rfl
theorem td75 : TyI.zeroV ⟨.slice 88, 1, 24, (.slice none 0 0)⟩ = V.ofV1 (.slice none 0 0) := rfl
theorem ty77 : tys 77 = some I77 := rfl
theorem tk77 : kindV tys 77 = some (.struct [(0, 3), (1, 3), (2, 74), (3, 74), (4, 75), (5, 4), (6, 4), (7, 3)]) := rfl
theorem ts77 : sizeV tys 77 = 8 := rfl
theorem ta77 : TyI.isAgg I77 = true := rfl
theorem tg77 : I77.size = 8 ∧ I77.kind = .struct [(0, 3), (1, 3), (2, 74), (3, 74), (4, 75), (5, 4), (6, 4), (7, 3)] ∧ I77.bytes = 72 ∧ I77.zero = (.agg #[(.int .i64 0), (.int .i64 0), (.map none), (.map none), (.slice none 0 0), (.bool false), (.bool false), (.int .i64 0)]) := ⟨rfl, rfl, rfl, rfl⟩
theorem tu77 : isU8 I77 = false := rfl
theorem tn77 : notIntK tys 77 = true := rfl
theorem tr77 : isStrK tys 77 = false := rfl
theorem tz77 : zeroOk I77 = true := by kernel_rfl
theorem tv77 : zeroU8 I77 = false := rfl
theorem tc77 : V.ofV (.agg #[(.int .i64 0), (.int .i64 0), (.map none), (.map none), (.slice none 0 0), (.bool false), (.bool false), (.int .i64 0)]) = .agg [V.ofV1 (.int .i64 0), V.ofV1 (.int .i64 0), V.ofV1 (.map none), V.ofV1 (.map none), V.ofV1 (.slice none 0 0), V.ofV1 (.bool false), V.ofV1 (.bool false), V.ofV1 (.int .i64 0)] := by kernel_rfl
theorem tw77 : Value.oneCell' (.agg #[(.int .i64 0), (.int .i64 0), (.map none), (.map none), (.slice none 0 0), (.bool false), (.bool false), (.int .i64 0)]) = false := rfl
theorem tx77 : (#[(.int .i64 0), (.int .i64 0), (.map none), (.map none), (.slice none 0 0), (.bool false), (.bool false), (.int .i64 0)] : Array Value).all (fun x => x.oneCell') 0 8 = true := by kernel_rfl
theorem td77 : TyI.zeroV I77 = .agg [V.ofV1 (.int .i64 0), V.ofV1 (.int .i64 0), V.ofV1 (.map none), V.ofV1 (.map none), V.ofV1 (.slice none 0 0), V.ofV1 (.bool false), V.ofV1 (.bool false), V.ofV1 (.int .i64 0)] := by kernel_rfl
theorem tp77_0 : placeV tys [(0, 3), (1, 3), (2, 74), (3, 74), (4, 75), (5, 4), (6, 4), (7, 3)] 0 = some (0, 1) := rfl
theorem tp77_1 : placeV tys [(0, 3), (1, 3), (2, 74), (3, 74), (4, 75), (5, 4), (6, 4), (7, 3)] 1 = some (1, 1) := rfl
theorem tp77_2 : placeV tys [(0, 3), (1, 3), (2, 74), (3, 74), (4, 75), (5, 4), (6, 4), (7, 3)] 2 = some (2, 1) := rfl
theorem tp77_3 : placeV tys [(0, 3), (1, 3), (2, 74), (3, 74), (4, 75), (5, 4), (6, 4), (7, 3)] 3 = some (3, 1) := rfl
theorem tp77_4 : placeV tys [(0, 3), (1, 3), (2, 74), (3, 74), (4, 75), (5, 4), (6, 4), (7, 3)] 4 = some (4, 1) := rfl
theorem tp77_5 : placeV tys [(0, 3), (1, 3), (2, 74), (3, 74), (4, 75), (5, 4), (6, 4), (7, 3)] 5 = some (5, 1) := rfl
theorem tp77_6 : placeV tys [(0, 3), (1, 3), (2, 74), (3, 74), (4, 75), (5, 4), (6, 4), (7, 3)] 6 = some (6, 1) := rfl
theorem tp77_7 : placeV tys [(0, 3), (1, 3), (2, 74), (3, 74), (4, 75), (5, 4), (6, 4), (7, 3)] 7 = some (7, 1) := rfl
theorem tq77 : ([(0, 3), (1, 3), (2, 74), (3, 74), (4, 75), (5, 4), (6, 4), (7, 3)].all (fun f => (tys f.2).isSome)) = true := rfl
theorem ty78 : tys 78 = some ⟨.slice 99, 1, 24, (.slice none 0 0)⟩ := rfl
theorem tk78 : kindV tys 78 = some (.slice 99) := rfl
theorem ts78 : sizeV tys 78 = 1 := rfl
theorem ta78 : TyI.isAgg ⟨.slice 99, 1, 24, (.slice none 0 0)⟩ = false := rfl
theorem tb78 : isBytes tys 78 = false := rfl
theorem te78 : elemI tys 78 = some (99, I99) := rfl
theorem tu78 : isU8 ⟨.slice 99, 1, 24, (.slice none 0 0)⟩ = false := rfl
theorem tn78 : notIntK tys 78 = true := rfl
theorem tr78 : isStrK tys 78 = false := rfl
theorem tz78 : zeroOk ⟨.slice 99, 1, 24, (.slice none 0 0)⟩ = true := by kernel_rfl
theorem tv78 : zeroU8 ⟨.slice 99, 1, 24, (.slice none 0 0)⟩ = false := rfl
theorem td78 : TyI.zeroV ⟨.slice 99, 1, 24, (.slice none 0 0)⟩ = V.ofV1 (.slice none 0 0) := rfl
theorem ty79 : tys 79 = some ⟨.slice 101, 1, 24, (.slice none 0 0)⟩ := rfl
theorem tk79 : kindV tys 79 = some (.slice 101) := rfl
theorem ts79 : sizeV tys 79 = 1 := rfl
theorem ta79 : TyI.isAgg ⟨.slice 101, 1, 24, (.slice none 0 0)⟩ = false := rfl
theorem tb79 : isBytes tys 79 = false := rfl
theorem te79 : elemI tys 79 = some (101, I101) := rfl
theorem tu79 : isU8 ⟨.slice 101, 1, 24, (.slice none 0 0)⟩ = false := rfl
theorem tn79 : notIntK tys 79 = true := rfl
theorem tr79 : isStrK tys 79 = false := rfl
theorem tz79 : zeroOk ⟨.slice 101, 1, 24, (.slice none 0 0)⟩ = true := by kernel_rfl
theorem tv79 : zeroU8 ⟨.slice 101, 1, 24, (.slice none 0 0)⟩ = false := rfl
theorem td79 : TyI.zeroV ⟨.slice 101, 1, 24, (.slice none 0 0)⟩ = V.ofV1 (.slice none 0 0) := rfl
theorem ty80 : tys 80 = some ⟨.slice 97, 1, 24, (.slice none 0 0)⟩ := rfl
theorem tk80 : kindV tys 80 = some (.slice 97) := rfl
theorem ts80 : sizeV tys 80 = 1 := rfl
theorem ta80 : TyI.isAgg ⟨.slice 97, 1, 24, (.slice none 0 0)⟩ = false := rfl
theorem tb80 : isBytes tys 80 = false := rfl
theorem te80 : elemI tys 80 = some (97, I97) := rfl
theorem tu80 : isU8 ⟨.slice 97, 1, 24, (.slice none 0 0)⟩ = false := rfl
theorem tn80 : notIntK tys 80 = true := rfl
theorem tr80 : isStrK tys 80 = false := rfl
theorem tz80 : zeroOk ⟨.slice 97, 1, 24, (.slice none 0 0)⟩ = true := by kernel_rfl
theorem tv80 : zeroU8 ⟨.slice 97, 1, 24, (.slice none 0 0)⟩ = false := rfl
theorem td80 : TyI.zeroV ⟨.slice 97, 1, 24, (.slice none 0 0)⟩ = V.ofV1 (.slice none 0 0) := rfl
theorem ty82 : tys 82 = some I82 := rfl
theorem tk82 : kindV tys 82 = some (.struct [(0, 78), (1, 79), (2, 79), (3, 80), (4, 3), (5, 4), (6, 4), (7, 3)]) := rfl
theorem ts82 : sizeV tys 82 = 8 := rfl
theorem ta82 : TyI.isAgg I82 = true := rfl
theorem tg82 : I82.size = 8 ∧ I82.kind = .struct [(0, 78), (1, 79), (2, 79), (3, 80), (4, 3), (5, 4), (6, 4), (7, 3)] ∧ I82.bytes = 120 ∧ I82.zero = (.agg #[(.slice none 0 0), (.slice none 0 0), (.slice none 0 0), (.slice none 0 0), (.int .i64 0), (.bool false), (.bool false), (.int .i64 0)]) := ⟨rfl, rfl, rfl, rfl⟩
theorem tu82 : isU8 I82 = false := rfl
theorem tn82 : notIntK tys 82 = true := rfl
theorem tr82 : isStrK tys 82 = false := rfl
theorem tz82 : zeroOk I82 = true := by kernel_rfl
theorem tv82 : zeroU8 I82 = false := rfl
theorem tc82 : V.ofV (.agg #[(.slice none 0 0), (.slice none 0 0), (.slice none 0 0), (.slice none 0 0), (.int .i64 0), (.bool false), (.bool false), (.int .i64 0)]) = .agg [V.ofV1 (.slice none 0 0), V.ofV1 (.slice none 0 0), V.ofV1 (.slice none 0 0), V.ofV1 (.slice none 0 0), V.ofV1 (.int .i64 0), V.ofV1 (.bool false), V.ofV1 (.bool false), V.ofV1 (.int .i64 0)] := by kernel_rfl
theorem tw82 : Value.oneCell' (.agg #[(.slice none 0 0), (.slice none 0 0), (.slice none 0 0), (.slice none 0 0), (.int .i64 0), (.bool false), (.bool false), (.int .i64 0)]) = false := rfl
theorem tx82 : (#[(.slice none 0 0), (.slice none 0 0), (.slice none 0 0), (.slice none 0 0), (.int .i64 0), (.bool false), (.bool false), (.int .i64 0)] : Array Value).all (fun x => x.oneCell') 0 8 = true := by kernel_rfl
theorem td82 : TyI.zeroV I82 = .agg [V.ofV1 (.slice none 0 0), V.ofV1 (.slice none 0 0), V.ofV1 (.slice none 0 0), V.ofV1 (.slice none 0 0), V.ofV1 (.int .i64 0), V.ofV1 (.bool false), V.ofV1 (.bool false), V.ofV1 (.int .i64 0)] := by kernel_rfl
theorem tp82_0 : placeV tys [(0, 78), (1, 79), (2, 79), (3, 80), (4, 3), (5, 4), (6, 4), (7, 3)] 0 = some (0, 1) := rfl
theorem tp82_1 : placeV tys [(0, 78), (1, 79), (2, 79), (3, 80), (4, 3), (5, 4), (6, 4), (7, 3)] 1 = some (1, 1) := rfl
theorem tp82_2 : placeV tys [(0, 78), (1, 79), (2, 79), (3, 80), (4, 3), (5, 4), (6, 4), (7, 3)] 2 = some (2, 1) := rfl
theorem tp82_3 : placeV tys [(0, 78), (1, 79), (2, 79), (3, 80), (4, 3), (5, 4), (6, 4), (7, 3)] 3 = some (3, 1) := rfl
theorem tp82_4 : placeV tys [(0, 78), (1, 79), (2, 79), (3, 80), (4, 3), (5, 4), (6, 4), (7, 3)] 4 = some (4, 1) := rfl
theorem tp82_5 : placeV tys [(0, 78), (1, 79), (2, 79), (3, 80), (4, 3), (5, 4), (6, 4), (7, 3)] 5 = some (5, 1) := rfl
theorem tp82_6 : placeV tys [(0, 78), (1, 79), (2, 79), (3, 80), (4, 3), (5, 4), (6, 4), (7, 3)] 6 = some (6, 1) := rfl
theorem tp82_7 : placeV tys [(0, 78), (1, 79), (2, 79), (3, 80), (4, 3), (5, 4), (6, 4), (7, 3)] 7 = some (7, 1) := rfl
theorem tq82 : ([(0, 78), (1, 79), (2, 79), (3, 80), (4, 3), (5, 4), (6, 4), (7, 3)].all (fun f => (tys f.2).isSome)) = true := rfl
theorem ty86 : tys 86 = some ⟨.ptr 94, 1, 8, (.pointer none)⟩ := rfl
theorem tk86 : kindV tys 86 = some (.ptr 94) := rfl
theorem ts86 : sizeV tys 86 = 1 := rfl
theorem ta86 : TyI.isAgg ⟨.ptr 94, 1, 8, (.pointer none)⟩ = false := rfl
theorem tu86 : isU8 ⟨.ptr 94, 1, 8, (.pointer none)⟩ = false := rfl
theorem tn86 : notIntK tys 86 = true := rfl
theorem tr86 : isStrK tys 86 = false := rfl
theorem tz86 : zeroOk ⟨.ptr 94, 1, 8, (.pointer none)⟩ = true := by kernel_rfl
theorem tv86 : zeroU8 ⟨.ptr 94, 1, 8, (.pointer none)⟩ = false := rfl
theorem td86 : TyI.zeroV ⟨.ptr 94, 1, 8, (.pointer none)⟩ = V.ofV1 (.pointer none) := rfl
theorem ty88 : tys 88 = some I88 := rfl
theorem tk88 : kindV tys 88 = some (.struct [(0, 9), (1, 9), (2, 86)]) := rfl
theorem ts88 : sizeV tys 88 = 3 := rfl
theorem ta88 : TyI.isAgg I88 = true := rfl
theorem tg88 : I88.size = 3 ∧ I88.kind = .struct [(0, 9), (1, 9), (2, 86)] ∧ I88.bytes = 40 ∧ I88.zero = (.agg #[(.string .empty), (.string .empty), (.pointer none)]) := ⟨rfl, rfl, rfl, rfl⟩
theorem tu88 : isU8 I88 = false := rfl
theorem tn88 : notIntK tys 88 = true := rfl
theorem tr88 : isStrK tys 88 = false := rfl
theorem tz88 : zeroOk I88 = true := by kernel_rfl
theorem tv88 : zeroU8 I88 = false := rfl
theorem tc88 : V.ofV (.agg #[(.string .empty), (.string .empty), (.pointer none)]) = .agg [V.ofV1 (.string .empty), V.ofV1 (.string .empty), V.ofV1 (.pointer none)] := by kernel_rfl
theorem tw88 : Value.oneCell' (.agg #[(.string .empty), (.string .empty), (.pointer none)]) = false := rfl
theorem tx88 : (#[(.string .empty), (.string .empty), (.pointer none)] : Array Value).all (fun x => x.oneCell') 0 3 = true := by kernel_rfl
theorem td88 : TyI.zeroV I88 = .agg [V.ofV1 (.string .empty), V.ofV1 (.string .empty), V.ofV1 (.pointer none)] := by kernel_rfl
theorem tp88_0 : placeV tys [(0, 9), (1, 9), (2, 86)] 0 = some (0, 1) := rfl
theorem tp88_1 : placeV tys [(0, 9), (1, 9), (2, 86)] 1 = some (1, 1) := rfl
theorem tp88_2 : placeV tys [(0, 9), (1, 9), (2, 86)] 2 = some (2, 1) := rfl
theorem tq88 : ([(0, 9), (1, 9), (2, 86)].all (fun f => (tys f.2).isSome)) = true := rfl
theorem ty97 : tys 97 = some I97 := rfl
theorem tk97 : kindV tys 97 = some (.struct [(0, 9), (1, 9), (2, 3)]) := rfl
theorem ts97 : sizeV tys 97 = 3 := rfl
theorem ta97 : TyI.isAgg I97 = true := rfl
theorem tg97 : I97.size = 3 ∧ I97.kind = .struct [(0, 9), (1, 9), (2, 3)] ∧ I97.bytes = 40 ∧ I97.zero = (.agg #[(.string .empty), (.string .empty), (.int .i64 0)]) := ⟨rfl, rfl, rfl, rfl⟩
theorem tu97 : isU8 I97 = false := rfl
theorem tn97 : notIntK tys 97 = true := rfl
theorem tr97 : isStrK tys 97 = false := rfl
theorem tz97 : zeroOk I97 = true := by kernel_rfl
theorem tv97 : zeroU8 I97 = false := rfl
theorem tc97 : V.ofV (.agg #[(.string .empty), (.string .empty), (.int .i64 0)]) = .agg [V.ofV1 (.string .empty), V.ofV1 (.string .empty), V.ofV1 (.int .i64 0)] := by kernel_rfl
theorem tw97 : Value.oneCell' (.agg #[(.string .empty), (.string .empty), (.int .i64 0)]) = false := rfl
theorem tx97 : (#[(.string .empty), (.string .empty), (.int .i64 0)] : Array Value).all (fun x => x.oneCell') 0 3 = true := by kernel_rfl
theorem td97 : TyI.zeroV I97 = .agg [V.ofV1 (.string .empty), V.ofV1 (.string .empty), V.ofV1 (.int .i64 0)] := by kernel_rfl
theorem tp97_0 : placeV tys [(0, 9), (1, 9), (2, 3)] 0 = some (0, 1) := rfl
theorem tp97_1 : placeV tys [(0, 9), (1, 9), (2, 3)] 1 = some (1, 1) := rfl
theorem tp97_2 : placeV tys [(0, 9), (1, 9), (2, 3)] 2 = some (2, 1) := rfl
theorem tq97 : ([(0, 9), (1, 9), (2, 3)].all (fun f => (tys f.2).isSome)) = true := rfl
theorem ty99 : tys 99 = some I99 := rfl
theorem tk99 : kindV tys 99 = some (.struct [(0, 32), (1, 3)]) := rfl
theorem ts99 : sizeV tys 99 = 2 := rfl
theorem ta99 : TyI.isAgg I99 = true := rfl
theorem tg99 : I99.size = 2 ∧ I99.kind = .struct [(0, 32), (1, 3)] ∧ I99.bytes = 32 ∧ I99.zero = (.agg #[(.slice none 0 0), (.int .i64 0)]) := ⟨rfl, rfl, rfl, rfl⟩
theorem tu99 : isU8 I99 = false := rfl
theorem tn99 : notIntK tys 99 = true := rfl
theorem tr99 : isStrK tys 99 = false := rfl
theorem tz99 : zeroOk I99 = true := by kernel_rfl
theorem tv99 : zeroU8 I99 = false := rfl
theorem tc99 : V.ofV (.agg #[(.slice none 0 0), (.int .i64 0)]) = .agg [V.ofV1 (.slice none 0 0), V.ofV1 (.int .i64 0)] := by kernel_rfl
theorem tw99 : Value.oneCell' (.agg #[(.slice none 0 0), (.int .i64 0)]) = false := rfl
theorem tx99 : (#[(.slice none 0 0), (.int .i64 0)] : Array Value).all (fun x => x.oneCell') 0 2 = true := by kernel_rfl
theorem td99 : TyI.zeroV I99 = .agg [V.ofV1 (.slice none 0 0), V.ofV1 (.int .i64 0)] := by kernel_rfl
theorem tp99_0 : placeV tys [(0, 32), (1, 3)] 0 = some (0, 1) := rfl
theorem tp99_1 : placeV tys [(0, 32), (1, 3)] 1 = some (1, 1) := rfl
theorem tq99 : ([(0, 32), (1, 3)].all (fun f => (tys f.2).isSome)) = true := rfl
theorem ty101 : tys 101 = some I101 := rfl
theorem tk101 : kindV tys 101 = some (.struct [(0, 9), (1, 3)]) := rfl
theorem ts101 : sizeV tys 101 = 2 := rfl
theorem ta101 : TyI.isAgg I101 = true := rfl
theorem tg101 : I101.size = 2 ∧ I101.kind = .struct [(0, 9), (1, 3)] ∧ I101.bytes = 24 ∧ I101.zero = (.agg #[(.string .empty), (.int .i64 0)]) := ⟨rfl, rfl, rfl, rfl⟩
theorem tu101 : isU8 I101 = false := rfl
theorem tn101 : notIntK tys 101 = true := rfl
theorem tr101 : isStrK tys 101 = false := rfl
theorem tz101 : zeroOk I101 = true := by kernel_rfl
theorem tv101 : zeroU8 I101 = false := rfl
theorem tc101 : V.ofV (.agg #[(.string .empty), (.int .i64 0)]) = .agg [V.ofV1 (.string .empty), V.ofV1 (.int .i64 0)] := by kernel_rfl
theorem tw101 : Value.oneCell' (.agg #[(.string .empty), (.int .i64 0)]) = false := rfl
theorem tx101 : (#[(.string .empty), (.int .i64 0)] : Array Value).all (fun x => x.oneCell') 0 2 = true := by kernel_rfl
theorem td101 : TyI.zeroV I101 = .agg [V.ofV1 (.string .empty), V.ofV1 (.int .i64 0)] := by kernel_rfl
theorem tp101_0 : placeV tys [(0, 9), (1, 3)] 0 = some (0, 1) := rfl
theorem tp101_1 : placeV tys [(0, 9), (1, 3)] 1 = some (1, 1) := rfl
theorem tq101 : ([(0, 9), (1, 3)].all (fun f => (tys f.2).isSome)) = true := rfl
set_option linter.defProp false in
def tcd := And.intro @r_ifTrue (And.intro @r_ifFalse (And.intro tc25 (And.intro td25 (And.intro tc35 (And.intro td35 (And.intro tc77 (And.intro td77 (And.intro tc82 (And.intro td82 (And.intro tc88 (And.intro td88 (And.intro tc97 (And.intro td97 (And.intro tc99 (And.intro td99 (And.intro tc101 (td101)))))))))))))))))
attribute [bitvec_to_nat] ty3 tk3 ts3 ta3 tu3 tn3 tr3 tz3 tv3 td3 ty4 tk4 ts4 ta4 tu4 tn4 tr4 tz4 tv4 td4 ty5 tk5 ts5 ta5 tu5 tn5 tr5 tz5 tv5 td5 ty9 tk9 ts9 ta9 tu9 tn9 tr9 tz9 tv9 td9 ty22 tk22 ts22 ta22 tb22 te22 tu22 tn22 tr22 tz22 tv22 td22 ty23 tk23 ts23 ta23 tb23 te23 tu23 tn23 tr23 tz23 tv23 td23 ty25 tk25 ts25 ta25 tg25 tu25 tn25 tr25 tz25 tv25 tw25 tx25 tp25_0 tp25_1 tq25 ty27 tk27 ts27 ta27 tu27 tn27 tr27 tz27 tv27 td27 ty29 tk29 ts29 ta29 tu29 tn29 tr29 tz29 tv29 td29 ty32 tk32 ts32 ta32 tb32 te32 tu32 tn32 tr32 tz32 tv32 td32 ty33 tk33 ts33 ta33 tb33 te33 tu33 tn33 tr33 tz33 tv33 td33 ty35 tk35 ts35 ta35 tg35 tu35 tn35 tr35 tz35 tv35 tw35 tx35 tp35_0 tp35_1 tp35_2 tp35_3 tp35_4 tp35_5 tq35 ty37 tk37 ts37 ta37 tu37 tn37 tr37 tz37 tv37 td37 ty74 tk74 ts74 ta74 tu74 tn74 tr74 tz74 tv74 td74 ty75 tk75 ts75 ta75 tb75 te75 tu75 tn75 tr75 tz75 tv75 td75 ty77 tk77 ts77 ta77 tg77 tu77 tn77 tr77 tz77 tv77 tw77 tx77 tp77_0 tp77_1 tp77_2 tp77_3 tp77_4 tp77_5 tp77_6 tp77_7 tq77 ty78 tk78 ts78 ta78 tb78 te78 tu78 tn78 tr78 tz78 tv78 td78 ty79 tk79 ts79 ta79 tb79 te79 tu79 tn79 tr79 tz79 tv79 td79 ty80 tk80 ts80 ta80 tb80 te80 tu80 tn80 tr80 tz80 tv80 td80 ty82 tk82 ts82 ta82 tg82 tu82 tn82 tr82 tz82 tv82 tw82 tx82 tp82_0 tp82_1 tp82_2 tp82_3 tp82_4 tp82_5 tp82_6 tp82_7 tq82 ty86 tk86 ts86 ta86 tu86 tn86 tr86 tz86 tv86 td86 ty88 tk88 ts88 ta88 tg88 tu88 tn88 tr88 tz88 tv88 tw88 tx88 tp88_0 tp88_1 tp88_2 tq88 ty97 tk97 ts97 ta97 tg97 tu97 tn97 tr97 tz97 tv97 tw97 tx97 tp97_0 tp97_1 tp97_2 tq97 ty99 tk99 ts99 ta99 tg99 tu99 tn99 tr99 tz99 tv99 tw99 tx99 tp99_0 tp99_1 tq99 ty101 tk101 ts101 ta101 tg101 tu101 tn101 tr101 tz101 tv101 tw101 tx101 tp101_0 tp101_1 tq101
def X0 : Fns := { fn := fun _ => none }
theorem X0_fn (f : FuncId) : X0.fn f = none := rfl
theorem X0_mu (d : Tmp) : X0.mu d = .no := rfl
theorem X0_hp (f : FuncId) : X0.hp f = none := rfl
theorem X0_ord (i : Nat) : X0.ord i = none := rfl
theorem X0_it (f : FuncId) : X0.it f = none := rfl
theorem X0_hy (b : Nat) : X0.hy b = none := rfl
theorem X0ok : FnsOk Try.prog X0 := FnsOk.nil _ rfl rfl
attribute [bitvec_to_nat] X0_fn X0_mu X0_hp X0_ord X0_it X0_hy
structure Act where
  kind : UInt8
  name : Name
  b : List UInt8
  names : List Name
  w : Wreck
  n : Int
  deriving Inhabited
def actV (a : Act) : V := .agg [.int .u8 a.kind.toNat, .str a.name, .bytes a.b none, .list 1 (a.names.map .str) none, .int .i64 a.w.names, wbV a.w.bytes, .int .i64 a.n]
def Act.small (a : Act) : Prop := a.b.length ≤ 300 ∧ a.name.length ≤ 40 ∧ a.names.length ≤ 10 ∧ a.w.bytes.length ≤ 50
instance (a : Act) : Decidable a.small := by unfold Act.small; exact inferInstance
def few (l : List Act) : List Act := (l.take 40).filter fun a => decide a.small
theorem few_succ {l : List Act} {i : Nat} {a : Act} (h : l[i]? = some a) : few (l.take (i + 1)) = few (l.take i) ++ if i < 40 ∧ a.small then [a] else [] := by
  obtain ⟨hi, he⟩ := List.getElem?_eq_some_iff.1 h
  have e1 : l.take (i + 1) = l.take i ++ [a] := by rw [List.take_succ_eq_append_getElem hi, he]
  unfold few
  rw [e1]
  have hl : (l.take i).length = i := by rw [List.length_take]; omega
  by_cases h1 : i < 40
  · rw [List.take_append, List.filter_append, hl]
    have e2 : [a].take (40 - i) = [a] := by rw [List.take_of_length_le (by simp; omega)]
    rw [e2]
    congr 1
    by_cases h2 : a.small
    · rw [if_pos ⟨h1, h2⟩]; simp [h2]
    · rw [if_neg (fun h => h2 h.2)]; simp [h2]
  · rw [if_neg (fun h => h1 h.1), List.append_nil, List.take_append_of_le_length (by omega)]
theorem few_mem {l : List Act} {a : Act} (h : a ∈ few l) : a.small ∧ a ∈ l := by
  unfold few at h
  obtain ⟨h1, h2⟩ := List.mem_filter.1 h
  exact ⟨of_decide_eq_true h2, List.mem_of_mem_take h1⟩
theorem few_len (l : List Act) : (few l).length ≤ 40 := by
  unfold few
  refine Nat.le_trans (List.length_filter_le _ _) ?_
  rw [List.length_take]; omega
def X2 : Fns := { fn := fun f => X0.fn f, mu := fun d => bif d == 3 then .nil 22 else .no, hp := fun f => X0.hp f, ord := fun i => none, it := fun f => X0.it f }
theorem X2_fn (f : FuncId) : X2.fn f = (X0.fn f) := rfl
theorem X2_mu (d : Tmp) : X2.mu d = (bif d == 3 then .nil 22 else .no) := rfl
theorem X2_hp (f : FuncId) : X2.hp f = (X0.hp f) := rfl
theorem X2_ord (i : Nat) : X2.ord i = (none) := rfl
theorem X2_it (f : FuncId) : X2.it f = (X0.it f) := rfl
theorem X2_hy (b : Nat) : X2.hy b = none := rfl
theorem X2ok : FnsOk Try.prog X2 := FnsOk.same X0ok rfl rfl
attribute [bitvec_to_nat] X2_fn X2_mu X2_hp X2_ord X2_it X2_hy
def fewP : PM := fun args L T K => ∃ l : List Act, args = [.list 7 (l.map actV) none] ∧ l.length ≤ 9223372036854775807 ∧ ∀ L' T', Step noS noS L T noS noS L' T' → K (.list 7 ((few l).map actV) none) L' T'
theorem few_ok : PSound Try.prog 15 fewP := by
  refine psound tysOk X2ok mix Try.func15 rfl ?_
  intro args L T K hm
  obtain ⟨l, rfl, hlen, hK⟩ := hm
  simp (maxSteps:=2000000) only[bitvec_to_nat,seval,↓tcd,Try.f15,List.length_map]
  refine awpLoop_intro (α := {q : Nat × LL × TT // q.1 ≤ l.length ∧ Step noS noS L T noS noS q.2.1 q.2.2 ∧ q.2.2[T.length]? = some ((few (l.take q.1)).length, 35) ∧ T.length < q.2.2.length})
    (fun q => ⟨[.any, .any, .any, .list 7 ((few (l.take q.1.1)).map actV) (some T.length), .any, .any, .list 7 (l.map actV) none, .int .i64 (l.length : Int), .int .i64 (q.1.1 : Int), .any, .any, .any, .any, .any, .any, .any, .any, .any, .any, .any, .any, .any, .any, .any, .any, .any, .any, .any, .any, .any, .any, .any, .any, .any, .any, .any, .any, .any, .any, .any, .any, .any, .any, .any, .any, .any], q.1.2.1, q.1.2.2⟩) (fun q => l.length - q.1.1)
    ⟨(0, L, T ++ [(0, 35)]), Nat.zero_le _, (Step.refl _ _ _ _).tapp _, by rw [tat_new rfl]; rfl, by simp⟩ ?_ ?_ (fun q => ⟨q.2.2.1.len, q.2.2.1.tlen⟩)
  · simp (maxSteps:=2000000) only[bitvec_to_nat,seval,↓tcd,leLL_self]
    first | rfl | exact ⟨rfl, rfl⟩
  · rintro ⟨⟨i, L2, T2⟩, hi, hs2, hT, hTl⟩
    simp only at hi hs2 hT hTl
    by_cases him : i < l.length
    · have hdc : decide ((i : Int) < (l.length : Int)) = true := decide_eq_true (by omega)
      obtain ⟨a, ha⟩ : ∃ a, l[i]? = some a := ⟨_, List.getElem?_eq_getElem him⟩
      have hgd : (l.map actV).getD i .any = .agg [.int .u8 a.kind.toNat, .str a.name, .bytes a.b none, .list 1 (a.names.map .str) none, .int .i64 a.w.names, wbV a.w.bytes, .int .i64 a.n] := by
        rw [List.getD_eq_getElem?_getD, List.getElem?_map, ha]; rfl
      have hfs := few_succ ha
      have hi1 : IntKind.i64.wrap ((i : Int) + 1) = ((i + 1 : Nat) : Int) := by rw [i64w (by omega) (by omega)]; omega
      have hfl : (few (l.take i)).length ≤ 40 := by
        unfold few
        refine Nat.le_trans (List.length_filter_le _ _) ?_
        rw [List.length_take]; omega
      have hno : ¬ (i < 40 ∧ a.small) → few (l.take (i + 1)) = few (l.take i) := fun h => by rw [hfs, if_neg h, List.append_nil]
      simp (maxSteps:=2000000) only[bitvec_to_nat,seval,↓tcd,hdc,hgd,Int.toNat_natCast,List.length_map,len_wbV,hi1,hT,hTl]
      refine ⟨⟨by omega, by omega⟩, ?_⟩
      refine awpIf_intro (fun h1 => ?_) (fun h1 => ?_) <;> simp only [decide_eq_true_eq, decide_eq_false_iff_not] at h1
      · refine awpIf_intro (fun h2 => ?_) (fun h2 => ?_) <;> simp only [decide_eq_true_eq, decide_eq_false_iff_not] at h2
        · refine awpIf_intro (fun h3 => ?_) (fun h3 => ?_) <;> simp only [decide_eq_true_eq, decide_eq_false_iff_not] at h3
          · refine awpIf_intro (fun h4 => ?_) (fun h4 => ?_) <;> simp only [decide_eq_true_eq, decide_eq_false_iff_not] at h4
            · refine awpIf_intro (fun h5 => ?_) (fun h5 => ?_) <;> simp only [decide_eq_true_eq, decide_eq_false_iff_not] at h5
              · have hye : few (l.take (i + 1)) = few (l.take i) ++ [a] := by rw [hfs, if_pos ⟨by omega, by omega, by omega, by omega, by omega⟩]
                refine ⟨by unfold maxBytes; omega, ⟨(i + 1, L2 ++ [[.int .u8 a.kind.toNat, .str a.name, .bytes a.b none, .list 1 (a.names.map .str) none, .int .i64 a.w.names, .list 1 (a.w.bytes.map fun n => .int .i64 n) none, .int .i64 a.n]], (T2 ++ [(1, 35)]).set T.length ((few (l.take i)).length + 1, 35)), him, ((hs2.app _).tapp [(1, 35)]).tset (k := T.length) (.inr (Nat.le_refl _)) ((few (l.take i)).length + 1, 35), ?_, ?_⟩, ?_, by simp only; omega⟩
                · simp only
                  rw [List.getElem?_set_self (by simp; omega), hye]; simp
                · simp only; simp; omega
                · simp (maxSteps:=2000000) only[bitvec_to_nat,seval,↓tcd,leLL_self,hye,List.map_append,List.length_append,List.length_map]
                  all_goals first | rfl | exact ⟨rfl, rfl⟩
              · have hnoe := hno (by rintro ⟨q1, q2, q3, q4, q5⟩; omega)
                refine ⟨⟨(i + 1, L2 ++ [[.int .u8 a.kind.toNat, .str a.name, .bytes a.b none, .list 1 (a.names.map .str) none, .int .i64 a.w.names, .list 1 (a.w.bytes.map fun n => .int .i64 n) none, .int .i64 a.n]], T2), him, hs2.app _, by simp only; rw [hnoe]; exact hT, hTl⟩, ?_, by simp only; omega⟩
                simp (maxSteps:=2000000) only[bitvec_to_nat,seval,↓tcd,leLL_self,hnoe]
            · have hnoe := hno (by rintro ⟨q1, q2, q3, q4, q5⟩; omega)
              refine ⟨⟨(i + 1, L2 ++ [[.int .u8 a.kind.toNat, .str a.name, .bytes a.b none, .list 1 (a.names.map .str) none, .int .i64 a.w.names, .list 1 (a.w.bytes.map fun n => .int .i64 n) none, .int .i64 a.n]], T2), him, hs2.app _, by simp only; rw [hnoe]; exact hT, hTl⟩, ?_, by simp only; omega⟩
              simp (maxSteps:=2000000) only[bitvec_to_nat,seval,↓tcd,leLL_self,hnoe]
          · have hnoe := hno (by rintro ⟨q1, q2, q3, q4, q5⟩; omega)
            refine ⟨⟨(i + 1, L2 ++ [[.int .u8 a.kind.toNat, .str a.name, .bytes a.b none, .list 1 (a.names.map .str) none, .int .i64 a.w.names, .list 1 (a.w.bytes.map fun n => .int .i64 n) none, .int .i64 a.n]], T2), him, hs2.app _, by simp only; rw [hnoe]; exact hT, hTl⟩, ?_, by simp only; omega⟩
            simp (maxSteps:=2000000) only[bitvec_to_nat,seval,↓tcd,leLL_self,hnoe]
        · have hnoe := hno (by rintro ⟨q1, q2, q3, q4, q5⟩; omega)
          refine ⟨⟨(i + 1, L2 ++ [[.int .u8 a.kind.toNat, .str a.name, .bytes a.b none, .list 1 (a.names.map .str) none, .int .i64 a.w.names, .list 1 (a.w.bytes.map fun n => .int .i64 n) none, .int .i64 a.n]], T2), him, hs2.app _, by simp only; rw [hnoe]; exact hT, hTl⟩, ?_, by simp only; omega⟩
          simp (maxSteps:=2000000) only[bitvec_to_nat,seval,↓tcd,leLL_self,hnoe]
      · have hnoe := hno (by rintro ⟨q1, q2, q3, q4, q5⟩; omega)
        refine ⟨⟨(i + 1, L2 ++ [[.int .u8 a.kind.toNat, .str a.name, .bytes a.b none, .list 1 (a.names.map .str) none, .int .i64 a.w.names, .list 1 (a.w.bytes.map fun n => .int .i64 n) none, .int .i64 a.n]], T2), him, hs2.app _, by simp only; rw [hnoe]; exact hT, hTl⟩, ?_, by simp only; omega⟩
        simp (maxSteps:=2000000) only[bitvec_to_nat,seval,↓tcd,leLL_self,hnoe]
    · have hdc : decide ((i : Int) < (l.length : Int)) = false := decide_eq_false (by omega)
      have hie : i = l.length := by omega
      subst hie
      simp (maxSteps:=2000000) only[bitvec_to_nat,seval,↓tcd,hdc,List.take_length]
      exact ret_le hs2 (hK _ _ hs2) ⟨rfl, rfl⟩
def e0 : MD := DiskM.new 100
def e1 : MD := (e0.doom 7).1
def e2 : MD := ((putAll [120] (List.replicate 70 0)).f e1).1
def e3 : MD := e2.syncNames.1
def e4 : MD := e3.crash ⟨0, []⟩
theorem e1c : (e0.doom 7).2 = 0 := by kernel_rfl
theorem e2c : ((putAll [120] (List.replicate 70 0)).f e1).2 = 0 := by kernel_rfl
theorem e3c : e2.syncNames.2 = 40 := by kernel_rfl
theorem e4c : (e4.read [120]).2 = 0 := by kernel_rfl
theorem e4b : (e4.readB [120]).length = 70 := by kernel_rfl
theorem z0 : Sz 0 e0 := sz_new 100
theorem k0 : e0.Ok := (new_dAt 100 [] []).ok
theorem z1 : Sz 0 e1 := z0.same rfl rfl rfl
theorem k1 : e1.Ok := ⟨k0.rise, k0.can, k0.once, k0.lt, k0.right, k0.cut, k0.room, by decide⟩
theorem q2 : (putAll [120] (List.replicate 70 0)).pre e1 ∧ e2.Ok ∧ Sz (0 + 16) e2 := makes_put [120] (by simp) 0 e1 k1 z1 (by omega)
theorem q3 : Small e2 ∧ e3.Ok ∧ Sz (0 + 16 + 1) e3 := makes_syncNames (0 + 16) e2 q2.2.1 q2.2.2 (by omega)
theorem sm4 : Small e4 := small_crash (q3.2.2.small (by omega)) q3.2.1 _
def X5 : Fns := { fn := fun f => X0.fn f, mu := fun d => .no, hp := fun f => if f = 13 then some newP else if f = 26 then some putFP else if f = 25 then some doomP else if f = 21 then some syncNamesP else if f = 17 then some crashP else if f = 27 then some readP else X0.hp f, ord := fun i => none, it := fun f => X0.it f }
theorem X5_fn (f : FuncId) : X5.fn f = (X0.fn f) := rfl
theorem X5_mu (d : Tmp) : X5.mu d = (.no) := rfl
theorem X5_hp (f : FuncId) : X5.hp f = (if f = 13 then some newP else if f = 26 then some putFP else if f = 25 then some doomP else if f = 21 then some syncNamesP else if f = 17 then some crashP else if f = 27 then some readP else X0.hp f) := rfl
theorem X5_ord (i : Nat) : X5.ord i = (none) := rfl
theorem X5_it (f : FuncId) : X5.it f = (X0.it f) := rfl
theorem X5_hy (b : Nat) : X5.hy b = none := rfl
theorem X5ok : FnsOk Try.prog X5 := FnsOk.same (FnsOk.consP (FnsOk.consP (FnsOk.consP (FnsOk.consP (FnsOk.consP (FnsOk.consP X0ok _ _ read_ok Try.func27 (by decide) (fun h => by cases h)) _ _ crash_sound Try.func17 (by decide) (fun h => by cases h)) _ _ syncNames_ok Try.func21 (by decide) (fun h => by cases h)) _ _ doom_ok Try.func25 (by decide) (fun h => by cases h)) _ _ Place.putF_ok Try.func26 (by decide) (fun h => by cases h)) _ _ new_ok Try.func13 (by decide) (fun h => by cases h)) rfl rfl
attribute [bitvec_to_nat] X5_fn X5_mu X5_hp X5_ord X5_it X5_hy
def shownP : PM := fun args L T K => args = [] ∧ ∀ L' T', Step noS noS L T noS noS L' T' → K (.bool true) L' T'
set_option maxHeartbeats 1000000 in
theorem shown_ok : PSound Try.prog 12 shownP := by
  refine psound tysOk X5ok mix Try.func12 rfl ?_
  intro args L T K hm
  obtain ⟨rfl, hK⟩ := hm
  simp (maxSteps:=2000000) only[bitvec_to_nat,seval,↓tcd,Try.f12]
  refine ⟨100, rfl, fun L0 w0 ho0 hd0 hst0 => ?_⟩
  obtain ⟨od, hod⟩ : ∃ o, w0.o = o := ⟨_, rfl⟩
  rw [hod]
  simp (maxSteps:=2000000) only[bitvec_to_nat,seval,↓tcd]
  refine op_o hod (DiskL.doomF_some (by decide)) hd0 (z0.small (by omega)) fun L1 T1 w1 ho1 hd1 hst1 => ?_
  change dAt L1 T1 e1 w1 at hd1
  rw [show codeV ((DiskM.new 100).doom 7).2 = codeV 0 from congrArg codeV e1c]
  simp only [code_V, Int.natCast_zero, Int.cast_ofNat_Int]
  simp (maxSteps:=2000000) only[bitvec_to_nat,Nat.reduceAdd,Nat.reduceSub,Nat.reduceMul,Nat.reduceLT,Nat.reduceLeDiff,Nat.reduceEqDiff,Nat.reduceBEq,Nat.reduceBNe,Int.reduceToNat,Int.reduceLE,Int.reduceLT,Int.reduceEq,Int.reduceNe,Int.reduceNeg,Nat.reducePow,Int.reducePow,reduceIte,reduceCtorEq,↓tcd,Int.natCast_zero,Int.cast_ofNat_Int]
  have hf2 : dAt L1 (T1 ++ [(70, 5)]) e1 w1 := hd1.frame ((Step.refl noS noS L1 T1).tapp [(70, 5)]) (fun _ _ h => h) (fun _ _ h => h)
  refine ⟨by omega, e1, w1, [120], List.replicate 70 0, some T1.length, by rw [ho1]; rfl, by simp, hf2, q2.1, fun L2 T2 w2 ho2 hd2 hst2 => ?_⟩
  rw [ho1] at ho2
  change dAt L2 T2 e2 w2 at hd2
  rw [show codeV ((putAll [120] (List.replicate 70 0)).f e1).2 = codeV 0 from congrArg codeV e2c]
  simp only [code_V, Int.natCast_zero, Int.cast_ofNat_Int]
  simp (maxSteps:=2000000) only[bitvec_to_nat,seval,↓tcd,Int.natCast_zero,Int.cast_ofNat_Int]
  refine op_o ho2 rfl hd2 q3.1 fun L3 T3 w3 ho3 hd3 hst3 => ?_
  change dAt L3 T3 e3 w3 at hd3
  rw [show codeV e2.syncNames.2 = codeV 40 from congrArg codeV e3c]
  simp only [code_V, Int.natCast_zero, Int.cast_ofNat_Int]
  simp (maxSteps:=2000000) only[bitvec_to_nat,seval,↓tcd,Int.natCast_zero,Int.cast_ofNat_Int]
  refine crash_o ho3 [] (.inl ⟨rfl, rfl⟩) (by decide) hd3 (q3.2.2.small (by omega)) fun L4 T4 w4 ho4 hd4 hst4 => ?_
  change dAt L4 T4 e4 w4 at hd4
  simp only [code_V, Int.natCast_zero]
  simp (maxSteps:=2000000) only[bitvec_to_nat,seval,↓tcd,Int.natCast_zero,Int.cast_ofNat_Int]
  refine op_o ho4 rfl hd4 sm4 fun L5 T5 w5 ho5 hd5 hst5 => ?_
  rw [show codeV (e4.read [120]).2 = codeV 0 from congrArg codeV e4c]
  have hlen : ((e4.readB [120]).length : Int) = 70 := by rw [e4b]; rfl
  simp only [code_V, Int.natCast_zero]
  simp (maxSteps:=2000000) only[bitvec_to_nat,seval,↓tcd,Int.natCast_zero,Int.cast_ofNat_Int,hlen]
  have g1 := hst0.trans hst1
  have g2 := (g1.tapp [(70, 5)]).trans hst2
  have g5 := ((g2.trans hst3).trans hst4).trans hst5
  exact ret_of g5 (hK _ _ (g5.less (fun _ h => h.elim) (fun _ h => h.elim)))
end Go.Proofs.Ytpncnionnfomeaa.PlaceX
