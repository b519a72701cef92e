import Derived.Test.YtpncnionnfomeaaAwX
import Derived.Test.YtpncnionnfomeaaFrameP
import Derived.Test.YtpncnionnfomeaaFrameM
import Derived.Test.YtpncnionnfomeaaPlaceL
import Derived.Test.YtpncnionnfomeaaPlaceZ
import Derived.Test.YtpncnionnfomeaaDiskO
namespace Go.Proofs.Ytpncnionnfomeaa.JourX
open Go Go.Proofs Go.Proofs.Ytpncnionnfomeaa.Aw Go.Proofs.Ytpncnionnfomeaa.Num Go.Proofs.Ytpncnionnfomeaa.DiskM Go.Proofs.Ytpncnionnfomeaa.DiskA Go.Proofs.Ytpncnionnfomeaa.DiskK Go.Proofs.Ytpncnionnfomeaa.DiskC Go.Proofs.Ytpncnionnfomeaa.Disk Go.Proofs.Ytpncnionnfomeaa.FrameM Go.Proofs.Ytpncnionnfomeaa.FrameM
open Go.Proofs.Ytpncnionnfomeaa.DiskL (readP syncP syncNamesP namesP doomP createP appendP wbV len_wbV Sz sz_new crash_o op_o small_crash)
open Go.Proofs.Ytpncnionnfomeaa.Frame (allM putM sameM all_ok put_ok same_ok)
open Go.Proofs.Ytpncnionnfomeaa.Place (Do Makes putAll growAll dropD putFP growFP makes_put makes_grow makes_syncNames)
set_option linter.unusedSimpArgs false
set_option linter.unusedVariables false
def I25 : TyI := ⟨.struct [(0, 3), (1, 23)], 2, 32, (.agg #[(.int .i64 0), (.slice none 0 0)])⟩
def I60 : TyI := ⟨.struct [(0, 5), (1, 32), (2, 25), (4, 3)], 5, 72, (.agg #[(.int .u8 0), (.slice none 0 0), (.int .i64 0), (.slice none 0 0), (.int .i64 0)])⟩
def I77 : TyI := ⟨.struct [(0, 3), (1, 3), (2, 74), (3, 74), (4, 75), (5, 4), (6, 4), (7, 3)], 8, 72, (.agg #[(.int .i64 0), (.int .i64 0), (.map none), (.map none), (.slice none 0 0), (.bool false), (.bool false), (.int .i64 0)])⟩
def I88 : TyI := ⟨.struct [(0, 9), (1, 9), (2, 86)], 3, 40, (.agg #[(.string .empty), (.string .empty), (.pointer none)])⟩
def tys : Tys := fun t => if t = 3 then some ⟨.int .i64, 1, 8, (.int .i64 0)⟩ else if t = 4 then some ⟨.bool, 1, 1, (.bool false)⟩ else if t = 5 then some ⟨.int .u8, 1, 1, (.int .u8 0)⟩ else if t = 9 then some ⟨.str, 1, 16, (.string .empty)⟩ else if t = 23 then some ⟨.slice 3, 1, 24, (.slice none 0 0)⟩ else if t = 25 then some I25 else if t = 27 then some ⟨.ptr 77, 1, 8, (.pointer none)⟩ else if t = 32 then some ⟨.slice 5, 1, 24, (.slice none 0 0)⟩ else if t = 37 then some ⟨.int .i64, 1, 8, (.int .i64 0)⟩ else if t = 56 then some ⟨.slice 60, 1, 24, (.slice none 0 0)⟩ else if t = 57 then some ⟨.slice 32, 1, 24, (.slice none 0 0)⟩ else if t = 60 then some I60 else if t = 71 then some ⟨.slice 72, 1, 24, (.slice none 0 0)⟩ else if t = 72 then some ⟨.int .u16, 1, 2, (.int .u16 0)⟩ else if t = 74 then some ⟨.map 9 86, 1, 8, (.map none)⟩ else if t = 75 then some ⟨.slice 88, 1, 24, (.slice none 0 0)⟩ else if t = 77 then some I77 else if t = 86 then some ⟨.ptr 94, 1, 8, (.pointer none)⟩ else if t = 88 then some I88 else none
theorem tysOk : TyOk Try.prog tys := by
  refine TyOk.cons ?_ 3 _ (by kernel_rfl) (by kernel_rfl)
  refine TyOk.cons ?_ 4 _ (by kernel_rfl) (by kernel_rfl)
  refine TyOk.cons ?_ 5 _ (by kernel_rfl) (by kernel_rfl)
  refine TyOk.cons ?_ 9 _ (by kernel_rfl) (by kernel_rfl)
  refine TyOk.cons ?_ 23 _ (by kernel_rfl) (by kernel_rfl)
  refine TyOk.cons ?_ 25 _ (by kernel_rfl) (by kernel_rfl)
  refine TyOk.cons ?_ 27 _ (by kernel_rfl) (by kernel_rfl)
  refine TyOk.cons ?_ 32 _ (by kernel_rfl) (by kernel_rfl)
  refine TyOk.cons ?_ 37 _ (by kernel_rfl) (by kernel_rfl)
  refine TyOk.cons ?_ 56 _ (by kernel_rfl) (by kernel_rfl)
  refine TyOk.cons ?_ 57 _ (by kernel_rfl) (by kernel_rfl)
  refine TyOk.cons ?_ 60 _ (by kernel_rfl) (by kernel_rfl)
  refine TyOk.cons ?_ 71 _ (by kernel_rfl) (by kernel_rfl)
  refine TyOk.cons ?_ 72 _ (by kernel_rfl) (by kernel_rfl)
  refine TyOk.cons ?_ 74 _ (by kernel_rfl) (by kernel_rfl)
  refine TyOk.cons ?_ 75 _ (by kernel_rfl) (by kernel_rfl)
  refine TyOk.cons ?_ 77 _ (by kernel_rfl) (by kernel_rfl)
  refine TyOk.cons ?_ 86 _ (by kernel_rfl) (by kernel_rfl)
  refine TyOk.cons ?_ 88 _ (by kernel_rfl) (by kernel_rfl)
  exact TyOk.nil _
theorem mix : Try.prog.follows .mixedOrders = true := by kernel_rfl
theorem ty3 : tys 3 = some ⟨.int .i64, 1, 8, (.int .i64 0)⟩ := rfl
theorem tk3 : kindV tys 3 = some (.int .i64) := rfl
theorem ts3 : sizeV tys 3 = 1 := rfl
theorem ta3 : TyI.isAgg ⟨.int .i64, 1, 8, (.int .i64 0)⟩ = false := rfl
theorem tu3 : isU8 ⟨.int .i64, 1, 8, (.int .i64 0)⟩ = false := rfl
theorem tn3 : notIntK tys 3 = false := rfl
theorem tr3 : isStrK tys 3 = false := rfl
theorem tz3 : zeroOk ⟨.int .i64, 1, 8, (.int .i64 0)⟩ = true := by kernel_rfl
theorem tv3 : zeroU8 ⟨.int .i64, 1, 8, (.int .i64 0)⟩ = false := rfl
theorem td3 : TyI.zeroV ⟨.int .i64, 1, 8, (.int .i64 0)⟩ = V.ofV1 (.int .i64 0) := rfl
theorem ty4 : tys 4 = some ⟨.bool, 1, 1, (.bool false)⟩ := rfl
theorem tk4 : kindV tys 4 = some (.bool) := rfl
theorem ts4 : sizeV tys 4 = 1 := rfl
theorem ta4 : TyI.isAgg ⟨.bool, 1, 1, (.bool false)⟩ = false := rfl
theorem tu4 : isU8 ⟨.bool, 1, 1, (.bool false)⟩ = false := rfl
theorem tn4 : notIntK tys 4 = true := rfl
theorem tr4 : isStrK tys 4 = false := rfl
theorem tz4 : zeroOk ⟨.bool, 1, 1, (.bool false)⟩ = true := by kernel_rfl
theorem tv4 : zeroU8 ⟨.bool, 1, 1, (.bool false)⟩ = false := rfl
theorem td4 : TyI.zeroV ⟨.bool, 1, 1, (.bool false)⟩ = V.ofV1 (.bool false) := rfl
theorem ty5 : tys 5 = some ⟨.int .u8, 1, 1, (.int .u8 0)⟩ := rfl
theorem tk5 : kindV tys 5 = some (.int .u8) := rfl
theorem ts5 : sizeV tys 5 = 1 := rfl
theorem ta5 : TyI.isAgg ⟨.int .u8, 1, 1, (.int .u8 0)⟩ = false := rfl
theorem tu5 : isU8 ⟨.int .u8, 1, 1, (.int .u8 0)⟩ = true := rfl
theorem tn5 : notIntK tys 5 = false := rfl
theorem tr5 : isStrK tys 5 = false := rfl
theorem tz5 : zeroOk ⟨.int .u8, 1, 1, (.int .u8 0)⟩ = true := by kernel_rfl
theorem tv5 : zeroU8 ⟨.int .u8, 1, 1, (.int .u8 0)⟩ = true := rfl
theorem td5 : TyI.zeroV ⟨.int .u8, 1, 1, (.int .u8 0)⟩ = V.ofV1 (.int .u8 0) := rfl
theorem ty9 : tys 9 = some ⟨.str, 1, 16, (.string .empty)⟩ := rfl
theorem tk9 : kindV tys 9 = some (.str) := rfl
theorem ts9 : sizeV tys 9 = 1 := rfl
theorem ta9 : TyI.isAgg ⟨.str, 1, 16, (.string .empty)⟩ = false := rfl
theorem tu9 : isU8 ⟨.str, 1, 16, (.string .empty)⟩ = false := rfl
theorem tn9 : notIntK tys 9 = true := rfl
theorem tr9 : isStrK tys 9 = true := rfl
theorem tz9 : zeroOk ⟨.str, 1, 16, (.string .empty)⟩ = true := by kernel_rfl
theorem tv9 : zeroU8 ⟨.str, 1, 16, (.string .empty)⟩ = false := rfl
theorem td9 : TyI.zeroV ⟨.str, 1, 16, (.string .empty)⟩ = V.ofV1 (.string .empty) := rfl
theorem ty23 : tys 23 = some ⟨.slice 3, 1, 24, (.slice none 0 0)⟩ := rfl
theorem tk23 : kindV tys 23 = some (.slice 3) := rfl
theorem ts23 : sizeV tys 23 = 1 := rfl
theorem ta23 : TyI.isAgg ⟨.slice 3, 1, 24, (.slice none 0 0)⟩ = false := rfl
theorem tb23 : isBytes tys 23 = false := rfl
theorem te23 : elemI tys 23 = some (3, ⟨.int .i64, 1, 8, (.int .i64 0)⟩) := rfl
theorem tu23 : isU8 ⟨.slice 3, 1, 24, (.slice none 0 0)⟩ = false := rfl
theorem tn23 : notIntK tys 23 = true := rfl
theorem tr23 : isStrK tys 23 = false := rfl
theorem tz23 : zeroOk ⟨.slice 3, 1, 24, (.slice none 0 0)⟩ = true := by kernel_rfl
theorem tv23 : zeroU8 ⟨.slice 3, 1, 24, (.slice none 0 0)⟩ = false := rfl
theorem td23 : TyI.zeroV ⟨.slice 3, 1, 24, (.slice none 0 0)⟩ = V.ofV1 (.slice none 0 0) := rfl
theorem ty25 : tys 25 = some I25 := rfl
theorem tk25 : kindV tys 25 = some (.struct [(0, 3), (1, 23)]) := rfl
theorem ts25 : sizeV tys 25 = 2 := rfl
theorem ta25 : TyI.isAgg I25 = true := rfl
theorem tg25 : I25.size = 2 ∧ I25.kind = .struct [(0, 3), (1, 23)] ∧ I25.bytes = 32 ∧ I25.zero = (.agg #[(.int .i64 0), (.slice none 0 0)]) := ⟨rfl, rfl, rfl, rfl⟩
theorem tu25 : isU8 I25 = false := rfl
theorem tn25 : notIntK tys 25 = true := rfl
theorem tr25 : isStrK tys 25 = false := rfl
theorem tz25 : zeroOk I25 = true := by kernel_rfl
theorem tv25 : zeroU8 I25 = false := rfl
theorem tc25 : V.ofV (.agg #[(.int .i64 0), (.slice none 0 0)]) = .agg [V.ofV1 (.int .i64 0), V.ofV1 (.slice none 0 0)] := by kernel_rfl
theorem tw25 : Value.oneCell' (.agg #[(.int .i64 0), (.slice none 0 0)]) = false := rfl
theorem tx25 : (#[(.int .i64 0), (.slice none 0 0)] : Array Value).all (fun x => x.oneCell') 0 2 = true := by kernel_rfl
theorem td25 : TyI.zeroV I25 = .agg [V.ofV1 (.int .i64 0), V.ofV1 (.slice none 0 0)] := by kernel_rfl
theorem tp25_0 : placeV tys [(0, 3), (1, 23)] 0 = some (0, 1) := rfl
theorem tp25_1 : placeV tys [(0, 3), (1, 23)] 1 = some (1, 1) := rfl
theorem tq25 : ([(0, 3), (1, 23)].all (fun f => (tys f.2).isSome)) = true := rfl
theorem ty27 : tys 27 = some ⟨.ptr 77, 1, 8, (.pointer none)⟩ := rfl
theorem tk27 : kindV tys 27 = some (.ptr 77) := rfl
theorem ts27 : sizeV tys 27 = 1 := rfl
theorem ta27 : TyI.isAgg ⟨.ptr 77, 1, 8, (.pointer none)⟩ = false := rfl
theorem tu27 : isU8 ⟨.ptr 77, 1, 8, (.pointer none)⟩ = false := rfl
theorem tn27 : notIntK tys 27 = true := rfl
theorem tr27 : isStrK tys 27 = false := rfl
theorem tz27 : zeroOk ⟨.ptr 77, 1, 8, (.pointer none)⟩ = true := by kernel_rfl
theorem tv27 : zeroU8 ⟨.ptr 77, 1, 8, (.pointer none)⟩ = false := rfl
theorem td27 : TyI.zeroV ⟨.ptr 77, 1, 8, (.pointer none)⟩ = V.ofV1 (.pointer none) := rfl
theorem ty32 : tys 32 = some ⟨.slice 5, 1, 24, (.slice none 0 0)⟩ := rfl
theorem tk32 : kindV tys 32 = some (.slice 5) := rfl
theorem ts32 : sizeV tys 32 = 1 := rfl
theorem ta32 : TyI.isAgg ⟨.slice 5, 1, 24, (.slice none 0 0)⟩ = false := rfl
theorem tb32 : isBytes tys 32 = true := rfl
theorem te32 : elemI tys 32 = some (5, ⟨.int .u8, 1, 1, (.int .u8 0)⟩) := rfl
theorem tu32 : isU8 ⟨.slice 5, 1, 24, (.slice none 0 0)⟩ = false := rfl
theorem tn32 : notIntK tys 32 = true := rfl
theorem tr32 : isStrK tys 32 = false := rfl
theorem tz32 : zeroOk ⟨.slice 5, 1, 24, (.slice none 0 0)⟩ = true := by kernel_rfl
theorem tv32 : zeroU8 ⟨.slice 5, 1, 24, (.slice none 0 0)⟩ = false := rfl
theorem td32 : TyI.zeroV ⟨.slice 5, 1, 24, (.slice none 0 0)⟩ = V.ofV1 (.slice none 0 0) := rfl
theorem ty37 : tys 37 = some ⟨.int .i64, 1, 8, (.int .i64 0)⟩ := rfl
theorem tk37 : kindV tys 37 = some (.int .i64) := rfl
theorem ts37 : sizeV tys 37 = 1 := rfl
theorem ta37 : TyI.isAgg ⟨.int .i64, 1, 8, (.int .i64 0)⟩ = false := rfl
theorem tu37 : isU8 ⟨.int .i64, 1, 8, (.int .i64 0)⟩ = false := rfl
theorem tn37 : notIntK tys 37 = false := rfl
theorem tr37 : isStrK tys 37 = false := rfl
theorem tz37 : zeroOk ⟨.int .i64, 1, 8, (.int .i64 0)⟩ = true := by kernel_rfl
theorem tv37 : zeroU8 ⟨.int .i64, 1, 8, (.int .i64 0)⟩ = false := rfl
theorem td37 : TyI.zeroV ⟨.int .i64, 1, 8, (.int .i64 0)⟩ = V.ofV1 (.int .i64 0) := rfl
theorem ty56 : tys 56 = some ⟨.slice 60, 1, 24, (.slice none 0 0)⟩ := rfl
theorem tk56 : kindV tys 56 = some (.slice 60) := rfl
theorem ts56 : sizeV tys 56 = 1 := rfl
theorem ta56 : TyI.isAgg ⟨.slice 60, 1, 24, (.slice none 0 0)⟩ = false := rfl
theorem tb56 : isBytes tys 56 = false := rfl
theorem te56 : elemI tys 56 = some (60, I60) := rfl
theorem tu56 : isU8 ⟨.slice 60, 1, 24, (.slice none 0 0)⟩ = false := rfl
theorem tn56 : notIntK tys 56 = true := rfl
theorem tr56 : isStrK tys 56 = false := rfl
theorem tz56 : zeroOk ⟨.slice 60, 1, 24, (.slice none 0 0)⟩ = true := by kernel_rfl
theorem tv56 : zeroU8 ⟨.slice 60, 1, 24, (.slice none 0 0)⟩ = false := rfl
theorem td56 : TyI.zeroV ⟨.slice 60, 1, 24, (.slice none 0 0)⟩ = V.ofV1 (.slice none 0 0) := rfl
theorem ty57 : tys 57 = some ⟨.slice 32, 1, 24, (.slice none 0 0)⟩ := rfl
theorem tk57 : kindV tys 57 = some (.slice 32) := rfl
theorem ts57 : sizeV tys 57 = 1 := rfl
theorem ta57 : TyI.isAgg ⟨.slice 32, 1, 24, (.slice none 0 0)⟩ = false := rfl
theorem tb57 : isBytes tys 57 = false := rfl
theorem te57 : elemI tys 57 = some (32, ⟨.slice 5, 1, 24, (.slice none 0 0)⟩) := rfl
theorem tu57 : isU8 ⟨.slice 32, 1, 24, (.slice none 0 0)⟩ = false := rfl
theorem tn57 : notIntK tys 57 = true := rfl
theorem tr57 : isStrK tys 57 = false := rfl
theorem tz57 : zeroOk ⟨.slice 32, 1, 24, (.slice none 0 0)⟩ = true := by kernel_rfl
theorem tv57 : zeroU8 ⟨.slice 32, 1, 24, (.slice none 0 0)⟩ = false := rfl
theorem td57 : TyI.zeroV ⟨.slice 32, 1, 24, (.slice none 0 0)⟩ = V.ofV1 (.slice none 0 0) := rfl
theorem ty60 : tys 60 = some I60 := rfl
theorem tk60 : kindV tys 60 = some (.struct [(0, 5), (1, 32), (2, 25), (4, 3)]) := rfl
theorem ts60 : sizeV tys 60 = 5 := rfl
theorem ta60 : TyI.isAgg I60 = true := rfl
theorem tg60 : I60.size = 5 ∧ I60.kind = .struct [(0, 5), (1, 32), (2, 25), (4, 3)] ∧ I60.bytes = 72 ∧ I60.zero = (.agg #[(.int .u8 0), (.slice none 0 0), (.int .i64 0), (.slice none 0 0), (.int .i64 0)]) := ⟨rfl, rfl, rfl, rfl⟩
theorem tu60 : isU8 I60 = false := rfl
theorem tn60 : notIntK tys 60 = true := rfl
theorem tr60 : isStrK tys 60 = false := rfl
theorem tz60 : zeroOk I60 = true := by kernel_rfl
theorem tv60 : zeroU8 I60 = false := rfl
theorem tc60 : V.ofV (.agg #[(.int .u8 0), (.slice none 0 0), (.int .i64 0), (.slice none 0 0), (.int .i64 0)]) = .agg [V.ofV1 (.int .u8 0), V.ofV1 (.slice none 0 0), V.ofV1 (.int .i64 0), V.ofV1 (.slice none 0 0), V.ofV1 (.int .i64 0)] := by kernel_rfl
theorem tw60 : Value.oneCell' (.agg #[(.int .u8 0), (.slice none 0 0), (.int .i64 0), (.slice none 0 0), (.int .i64 0)]) = false := rfl
theorem tx60 : (#[(.int .u8 0), (.slice none 0 0), (.int .i64 0), (.slice none 0 0), (.int .i64 0)] : Array Value).all (fun x => x.oneCell') 0 5 = true := by kernel_rfl
theorem td60 : TyI.zeroV I60 = .agg [V.ofV1 (.int .u8 0), V.ofV1 (.slice none 0 0), V.ofV1 (.int .i64 0), V.ofV1 (.slice none 0 0), V.ofV1 (.int .i64 0)] := by kernel_rfl
theorem tp60_0 : placeV tys [(0, 5), (1, 32), (2, 25), (4, 3)] 0 = some (0, 1) := rfl
theorem tp60_1 : placeV tys [(0, 5), (1, 32), (2, 25), (4, 3)] 1 = some (1, 1) := rfl
theorem tp60_2 : placeV tys [(0, 5), (1, 32), (2, 25), (4, 3)] 2 = some (2, 2) := rfl
theorem tp60_3 : placeV tys [(0, 5), (1, 32), (2, 25), (4, 3)] 3 = some (4, 1) := rfl
theorem tq60 : ([(0, 5), (1, 32), (2, 25), (4, 3)].all (fun f => (tys f.2).isSome)) = true := rfl
theorem ty71 : tys 71 = some ⟨.slice 72, 1, 24, (.slice none 0 0)⟩ := rfl
theorem tk71 : kindV tys 71 = some (.slice 72) := rfl
theorem ts71 : sizeV tys 71 = 1 := rfl
theorem ta71 : TyI.isAgg ⟨.slice 72, 1, 24, (.slice none 0 0)⟩ = false := rfl
theorem tb71 : isBytes tys 71 = false := rfl
theorem te71 : elemI tys 71 = some (72, ⟨.int .u16, 1, 2, (.int .u16 0)⟩) := rfl
theorem tu71 : isU8 ⟨.slice 72, 1, 24, (.slice none 0 0)⟩ = false := rfl
theorem tn71 : notIntK tys 71 = true := rfl
theorem tr71 : isStrK tys 71 = false := rfl
theorem tz71 : zeroOk ⟨.slice 72, 1, 24, (.slice none 0 0)⟩ = true := by kernel_rfl
theorem tv71 : zeroU8 ⟨.slice 72, 1, 24, (.slice none 0 0)⟩ = false := rfl
theorem td71 : TyI.zeroV ⟨.slice 72, 1, 24, (.slice none 0 0)⟩ = V.ofV1 (.slice none 0 0) := rfl
theorem ty72 : tys 72 = some ⟨.int .u16, 1, 2, (.int .u16 0)⟩ := rfl
theorem tk72 : kindV tys 72 = some (.int .u16) := rfl
theorem ts72 : sizeV tys 72 = 1 := rfl
theorem ta72 : TyI.isAgg ⟨.int .u16, 1, 2, (.int .u16 0)⟩ = false := rfl
theorem tu72 : isU8 ⟨.int .u16, 1, 2, (.int .u16 0)⟩ = false := rfl
theorem tn72 : notIntK tys 72 = false := rfl
theorem tr72 : isStrK tys 72 = false := rfl
theorem tz72 : zeroOk ⟨.int .u16, 1, 2, (.int .u16 0)⟩ = true := by kernel_rfl
theorem tv72 : zeroU8 ⟨.int .u16, 1, 2, (.int .u16 0)⟩ = false := rfl
theorem td72 : TyI.zeroV ⟨.int .u16, 1, 2, (.int .u16 0)⟩ = V.ofV1 (.int .u16 0) := rfl
theorem ty74 : tys 74 = some ⟨.map 9 86, 1, 8, (.map none)⟩ := rfl
theorem tk74 : kindV tys 74 = some (.map 9 86) := rfl
theorem ts74 : sizeV tys 74 = 1 := rfl
theorem ta74 : TyI.isAgg ⟨.map 9 86, 1, 8, (.map none)⟩ = false := rfl
theorem tu74 : isU8 ⟨.map 9 86, 1, 8, (.map none)⟩ = false := rfl
theorem tn74 : notIntK tys 74 = true := rfl
theorem tr74 : isStrK tys 74 = false := rfl
theorem tz74 : zeroOk ⟨.map 9 86, 1, 8, (.map none)⟩ = true := by kernel_rfl
theorem tv74 : zeroU8 ⟨.map 9 86, 1, 8, (.map none)⟩ = false := rfl
theorem td74 : TyI.zeroV ⟨.map 9 86, 1, 8, (.map none)⟩ = V.ofV1 (.map none) := rfl
theorem ty75 : tys 75 = some ⟨.slice 88, 1, 24, (.slice none 0 0)⟩ := rfl
theorem tk75 : kindV tys 75 = some (.slice 88) := rfl
theorem ts75 : sizeV tys 75 = 1 := rfl
theorem ta75 : TyI.isAgg ⟨.slice 88, 1, 24, (.slice none 0 0)⟩ = false := rfl
theorem tb75 : isBytes tys 75 = false := rfl
theorem te75 : elemI tys 75 = some (88, I88) := rfl
theorem tu75 : isU8 ⟨.slice 88, 1, 24, (.slice none 0 0)⟩ = false := rfl
theorem tn75 : notIntK tys 75 = true := rfl
theorem tr75 : isStrK tys 75 = false := rfl
theorem tz75 : zeroOk ⟨.slice 88, 1, 24, (.slice none 0 0)⟩ = true := by kernel_rfl
theorem tv75 : zeroU8 ⟨.slice 88, 1, 24, (.slice none 0 0)⟩ = false := rfl
theorem td75 : TyI.zeroV ⟨.slice 88, 1, 24, (.slice none 0 0)⟩ = V.ofV1 (.slice none 0 0) := rfl
theorem ty77 : tys 77 = some I77 := rfl
theorem tk77 : kindV tys 77 = some (.struct [(0, 3), (1, 3), (2, 74), (3, 74), (4, 75), (5, 4), (6, 4), (7, 3)]) := rfl
theorem ts77 : sizeV tys 77 = 8 := rfl
theorem ta77 : TyI.isAgg I77 = true := rfl
theorem tg77 : I77.size = 8 ∧ I77.kind = .struct [(0, 3), (1, 3), (2, 74), (3, 74), (4, 75), (5, 4), (6, 4), (7, 3)] ∧ I77.bytes = 72 ∧ I77.zero = (.agg #[(.int .i64 0), (.int .i64 0), (.map none), (.map none), (.slice none 0 0), (.bool false), (.bool false), (.int .i64 0)]) := ⟨rfl, rfl, rfl, rfl⟩
theorem tu77 : isU8 I77 = false := rfl
theorem tn77 : notIntK tys 77 = true := rfl
theorem tr77 : isStrK tys 77 = false := rfl
theorem tz77 : zeroOk I77 = true := by kernel_rfl
theorem tv77 : zeroU8 I77 = false := rfl
theorem tc77 : V.ofV (.agg #[(.int .i64 0), (.int .i64 0), (.map none), (.map none), (.slice none 0 0), (.bool false), (.bool false), (.int .i64 0)]) = .agg [V.ofV1 (.int .i64 0), V.ofV1 (.int .i64 0), V.ofV1 (.map none), V.ofV1 (.map none), V.ofV1 (.slice none 0 0), V.ofV1 (.bool false), V.ofV1 (.bool false), V.ofV1 (.int .i64 0)] := by kernel_rfl
theorem tw77 : Value.oneCell' (.agg #[(.int .i64 0), (.int .i64 0), (.map none), (.map none), (.slice none 0 0), (.bool false), (.bool false), (.int .i64 0)]) = false := rfl
theorem tx77 : (#[(.int .i64 0), (.int .i64 0), (.map none), (.map none), (.slice none 0 0), (.bool false), (.bool false), (.int .i64 0)] : Array Value).all (fun x => x.oneCell') 0 8 = true := by kernel_rfl
theorem td77 : TyI.zeroV I77 = .agg [V.ofV1 (.int .i64 0), V.ofV1 (.int .i64 0), V.ofV1 (.map none), V.ofV1 (.map none), V.ofV1 (.slice none 0 0), V.ofV1 (.bool false), V.ofV1 (.bool false), V.ofV1 (.int .i64 0)] := by kernel_rfl
theorem tp77_0 : placeV tys [(0, 3), (1, 3), (2, 74), (3, 74), (4, 75), (5, 4), (6, 4), (7, 3)] 0 = some (0, 1) := rfl
theorem tp77_1 : placeV tys [(0, 3), (1, 3), (2, 74), (3, 74), (4, 75), (5, 4), (6, 4), (7, 3)] 1 = some (1, 1) := rfl
theorem tp77_2 : placeV tys [(0, 3), (1, 3), (2, 74), (3, 74), (4, 75), (5, 4), (6, 4), (7, 3)] 2 = some (2, 1) := rfl
theorem tp77_3 : placeV tys [(0, 3), (1, 3), (2, 74), (3, 74), (4, 75), (5, 4), (6, 4), (7, 3)] 3 = some (3, 1) := rfl
theorem tp77_4 : placeV tys [(0, 3), (1, 3), (2, 74), (3, 74), (4, 75), (5, 4), (6, 4), (7, 3)] 4 = some (4, 1) := rfl
theorem tp77_5 : placeV tys [(0, 3), (1, 3), (2, 74), (3, 74), (4, 75), (5, 4), (6, 4), (7, 3)] 5 = some (5, 1) := rfl
theorem tp77_6 : placeV tys [(0, 3), (1, 3), (2, 74), (3, 74), (4, 75), (5, 4), (6, 4), (7, 3)] 6 = some (6, 1) := rfl
theorem tp77_7 : placeV tys [(0, 3), (1, 3), (2, 74), (3, 74), (4, 75), (5, 4), (6, 4), (7, 3)] 7 = some (7, 1) := rfl
theorem tq77 : ([(0, 3), (1, 3), (2, 74), (3, 74), (4, 75), (5, 4), (6, 4), (7, 3)].all (fun f => (tys f.2).isSome)) = true := rfl
theorem ty86 : tys 86 = some ⟨.ptr 94, 1, 8, (.pointer none)⟩ := rfl
theorem tk86 : kindV tys 86 = some (.ptr 94) := rfl
theorem ts86 : sizeV tys 86 = 1 := rfl
theorem ta86 : TyI.isAgg ⟨.ptr 94, 1, 8, (.pointer none)⟩ = false := rfl
theorem tu86 : isU8 ⟨.ptr 94, 1, 8, (.pointer none)⟩ = false := rfl
theorem tn86 : notIntK tys 86 = true := rfl
theorem tr86 : isStrK tys 86 = false := rfl
theorem tz86 : zeroOk ⟨.ptr 94, 1, 8, (.pointer none)⟩ = true := by kernel_rfl
theorem tv86 : zeroU8 ⟨.ptr 94, 1, 8, (.pointer none)⟩ = false := rfl
theorem td86 : TyI.zeroV ⟨.ptr 94, 1, 8, (.pointer none)⟩ = V.ofV1 (.pointer none) := rfl
theorem ty88 : tys 88 = some I88 := rfl
theorem tk88 : kindV tys 88 = some (.struct [(0, 9), (1, 9), (2, 86)]) := rfl
theorem ts88 : sizeV tys 88 = 3 := rfl
theorem ta88 : TyI.isAgg I88 = true := rfl
theorem tg88 : I88.size = 3 ∧ I88.kind = .struct [(0, 9), (1, 9), (2, 86)] ∧ I88.bytes = 40 ∧ I88.zero = (.agg #[(.string .empty), (.string .empty), (.pointer none)]) := ⟨rfl, rfl, rfl, rfl⟩
theorem tu88 : isU8 I88 = false := rfl
theorem tn88 : notIntK tys 88 = true := rfl
theorem tr88 : isStrK tys 88 = false := rfl
theorem tz88 : zeroOk I88 = true := by kernel_rfl
theorem tv88 : zeroU8 I88 = false := rfl
theorem tc88 : V.ofV (.agg #[(.string .empty), (.string .empty), (.pointer none)]) = .agg [V.ofV1 (.string .empty), V.ofV1 (.string .empty), V.ofV1 (.pointer none)] := by kernel_rfl
theorem tw88 : Value.oneCell' (.agg #[(.string .empty), (.string .empty), (.pointer none)]) = false := rfl
theorem tx88 : (#[(.string .empty), (.string .empty), (.pointer none)] : Array Value).all (fun x => x.oneCell') 0 3 = true := by kernel_rfl
theorem td88 : TyI.zeroV I88 = .agg [V.ofV1 (.string .empty), V.ofV1 (.string .empty), V.ofV1 (.pointer none)] := by kernel_rfl
theorem tp88_0 : placeV tys [(0, 9), (1, 9), (2, 86)] 0 = some (0, 1) := rfl
theorem tp88_1 : placeV tys [(0, 9), (1, 9), (2, 86)] 1 = some (1, 1) := rfl
theorem tp88_2 : placeV tys [(0, 9), (1, 9), (2, 86)] 2 = some (2, 1) := rfl
theorem tq88 : ([(0, 9), (1, 9), (2, 86)].all (fun f => (tys f.2).isSome)) = true := rfl
set_option linter.defProp false in
def tcd := And.intro @r_ifTrue (And.intro @r_ifFalse (And.intro tc25 (And.intro td25 (And.intro tc60 (And.intro td60 (And.intro tc77 (And.intro td77 (And.intro tc88 (td88)))))))))
attribute [bitvec_to_nat] ty3 tk3 ts3 ta3 tu3 tn3 tr3 tz3 tv3 td3 ty4 tk4 ts4 ta4 tu4 tn4 tr4 tz4 tv4 td4 ty5 tk5 ts5 ta5 tu5 tn5 tr5 tz5 tv5 td5 ty9 tk9 ts9 ta9 tu9 tn9 tr9 tz9 tv9 td9 ty23 tk23 ts23 ta23 tb23 te23 tu23 tn23 tr23 tz23 tv23 td23 ty25 tk25 ts25 ta25 tg25 tu25 tn25 tr25 tz25 tv25 tw25 tx25 tp25_0 tp25_1 tq25 ty27 tk27 ts27 ta27 tu27 tn27 tr27 tz27 tv27 td27 ty32 tk32 ts32 ta32 tb32 te32 tu32 tn32 tr32 tz32 tv32 td32 ty37 tk37 ts37 ta37 tu37 tn37 tr37 tz37 tv37 td37 ty56 tk56 ts56 ta56 tb56 te56 tu56 tn56 tr56 tz56 tv56 td56 ty57 tk57 ts57 ta57 tb57 te57 tu57 tn57 tr57 tz57 tv57 td57 ty60 tk60 ts60 ta60 tg60 tu60 tn60 tr60 tz60 tv60 tw60 tx60 tp60_0 tp60_1 tp60_2 tp60_3 tq60 ty71 tk71 ts71 ta71 tb71 te71 tu71 tn71 tr71 tz71 tv71 td71 ty72 tk72 ts72 ta72 tu72 tn72 tr72 tz72 tv72 td72 ty74 tk74 ts74 ta74 tu74 tn74 tr74 tz74 tv74 td74 ty75 tk75 ts75 ta75 tb75 te75 tu75 tn75 tr75 tz75 tv75 td75 ty77 tk77 ts77 ta77 tg77 tu77 tn77 tr77 tz77 tv77 tw77 tx77 tp77_0 tp77_1 tp77_2 tp77_3 tp77_4 tp77_5 tp77_6 tp77_7 tq77 ty86 tk86 ts86 ta86 tu86 tn86 tr86 tz86 tv86 td86 ty88 tk88 ts88 ta88 tg88 tu88 tn88 tr88 tz88 tv88 tw88 tx88 tp88_0 tp88_1 tp88_2 tq88
def J0 : Fns := { fn := fun _ => none }
theorem J0_fn (f : FuncId) : J0.fn f = none := rfl
theorem J0_mu (d : Tmp) : J0.mu d = .no := rfl
theorem J0_hp (f : FuncId) : J0.hp f = none := rfl
theorem J0_ord (i : Nat) : J0.ord i = none := rfl
theorem J0_it (f : FuncId) : J0.it f = none := rfl
theorem J0_hy (b : Nat) : J0.hy b = none := rfl
theorem J0ok : FnsOk Try.prog J0 := FnsOk.nil _ rfl rfl
attribute [bitvec_to_nat] J0_fn J0_mu J0_hp J0_ord J0_it J0_hy
def jn : Name := [106, 111, 117, 114, 110, 97, 108]
def addD (x : List UInt8) : Do := ⟨fun M => if 4096 < x.length then (M, 3) else (growAll jn (frameF x)).f M, fun M => ¬ 4096 < x.length → (growAll jn (frameF x)).pre M⟩
def begD : Do := putAll jn []
def J1 : Fns := { fn := fun f => if f = 70 then some putM else if f = 71 then some allM else J0.fn f, mu := fun d => .no, hp := fun f => if f = 26 then some putFP else if f = 28 then some growFP else if f = 27 then some readP else J0.hp f, ord := fun i => none, it := fun f => J0.it f }
theorem J1_fn (f : FuncId) : J1.fn f = (if f = 70 then some putM else if f = 71 then some allM else J0.fn f) := rfl
theorem J1_mu (d : Tmp) : J1.mu d = (.no) := rfl
theorem J1_hp (f : FuncId) : J1.hp f = (if f = 26 then some putFP else if f = 28 then some growFP else if f = 27 then some readP else J0.hp f) := rfl
theorem J1_ord (i : Nat) : J1.ord i = (none) := rfl
theorem J1_it (f : FuncId) : J1.it f = (J0.it f) := rfl
theorem J1_hy (b : Nat) : J1.hy b = none := rfl
theorem J1ok : FnsOk Try.prog J1 := FnsOk.same (FnsOk.consP (FnsOk.consP (FnsOk.consP (FnsOk.cons (FnsOk.cons J0ok _ _ all_ok Try.func71 (by decide) (fun h => by cases h)) _ _ put_ok Try.func70 (by decide) (fun h => by cases h)) _ _ read_ok Try.func27 (by decide) (fun h => by cases h)) _ _ Place.growF_ok Try.func28 (by decide) (fun h => by cases h)) _ _ Place.putF_ok Try.func26 (by decide) (fun h => by cases h)) rfl rfl
attribute [bitvec_to_nat] J1_fn J1_mu J1_hp J1_ord J1_it J1_hy
def addP : PM := fun args L T K => ∃ M w x t, args = [.box w.o 0, .bytes x t] ∧ dAt L T M w ∧ (addD x).pre M ∧
  ∀ L' T' w', w'.o = w.o → dAt L' T' ((addD x).f M).1 w' → Step w.S w.R L T w'.S w'.R L' T' → K (codeV ((addD x).f M).2) L' T'
theorem add_ok : PSound Try.prog 33 addP := by
  refine psound tysOk J1ok mix Try.func33 rfl ?_
  intro args L T K hm
  obtain ⟨M, w, x, t, rfl, hd, hp, hK⟩ := hm
  by_cases hx : 4096 < x.length
  · have e : (addD x).f M = (M, 3) := if_pos hx
    rw [e] at hK
    simp (maxSteps:=2000000) only[bitvec_to_nat,seval,↓tcd,Try.f33,putM,hx]
    exact ret_of (Step.refl w.S w.R L T) (hK L T w rfl hd (Step.refl _ _ _ _))
  · have e : (addD x).f M = (growAll jn (frameF x)).f M := if_neg hx
    rw [e] at hK
    have hp' := hp hx
    simp (maxSteps:=2000000) only[bitvec_to_nat,seval,↓tcd,Try.f33,putM,hx]
    have hst0 : Step w.S w.R L T w.S w.R L (T ++ [((frameF x).length, 5)]) := (Step.refl _ _ _ _).tapp _
    refine ⟨M, w, jn, frameF x, some T.length, rfl, by rw [frameF_length]; omega, hd.frame ((Step.refl noS noS L T).tapp _) (fun _ _ h => h) (fun _ _ h => h), hp', fun L1 T1 w1 ho1 hd1 hst1 => ?_⟩
    exact ret_of (hst0.trans hst1) (hK L1 T1 w1 ho1 hd1 (hst0.trans hst1))
def begP : PM := fun args L T K => ∃ M w, args = [.box w.o 0] ∧ dAt L T M w ∧ begD.pre M ∧
  ∀ L' T' w', w'.o = w.o → dAt L' T' (begD.f M).1 w' → Step w.S w.R L T w'.S w'.R L' T' → K (codeV (begD.f M).2) L' T'
theorem beg_ok : PSound Try.prog 36 begP := by
  refine psound tysOk J1ok mix Try.func36 rfl ?_
  intro args L T K hm
  obtain ⟨M, w, rfl, hd, hp, hK⟩ := hm
  simp (maxSteps:=2000000) only[bitvec_to_nat,seval,↓tcd,Try.f36]
  refine ⟨M, w, jn, [], none, rfl, by simp, hd, hp, fun L1 T1 w1 ho1 hd1 hst1 => ?_⟩
  exact ret_of hst1 (hK L1 T1 w1 ho1 hd1 hst1)
def openF (M : MD) : MD × List (List UInt8) × Nat :=
  if (M.read jn).2 = 2 then ((M.read jn).1, [], 0) else if (M.read jn).2 ≠ 0 then ((M.read jn).1, [], (M.read jn).2)
  else if (allF (M.readB jn)).2 < (M.readB jn).length then
    if ((putAll jn ((M.readB jn).take (allF (M.readB jn)).2)).f (M.read jn).1).2 ≠ 0 then (((putAll jn ((M.readB jn).take (allF (M.readB jn)).2)).f (M.read jn).1).1, [], ((putAll jn ((M.readB jn).take (allF (M.readB jn)).2)).f (M.read jn).1).2)
    else (((putAll jn ((M.readB jn).take (allF (M.readB jn)).2)).f (M.read jn).1).1, (allF (M.readB jn)).1, 0)
  else ((M.read jn).1, (allF (M.readB jn)).1, 0)
def openPre (M : MD) : Prop := Small M ∧ (M.readB jn).length ≤ 1000000 ∧ ∀ b : List UInt8, b.length ≤ (M.readB jn).length → (allF (M.readB jn)).2 < (M.readB jn).length → (putAll jn b).pre (M.read jn).1
def openP : PM := fun args L T K => ∃ M w, args = [.box w.o 0] ∧ dAt L T M w ∧ openPre M ∧
  ∀ L' T' w', w'.o = w.o → dAt L' T' (openF M).1 w' → Step w.S w.R L T w'.S w'.R L' T' → K (.tuple [.list 1 ((openF M).2.1.map bv) none, .int .i64 ((openF M).2.2 : Nat)]) L' T'
set_option maxHeartbeats 1000000 in
theorem open_ok : PSound Try.prog 34 openP := by
  refine psound tysOk J1ok mix Try.func34 rfl ?_
  intro args L T K hm
  obtain ⟨M, w, rfl, hd, ⟨hs, hbl, hpp⟩, hK⟩ := hm
  obtain ⟨od, hod⟩ : ∃ o, w.o = o := ⟨_, rfl⟩
  rw [hod] at hK ⊢
  simp (maxSteps:=2000000) only[bitvec_to_nat,seval,↓tcd,Try.f34]
  refine op_o hod rfl hd hs fun L1 T1 w1 ho1 hd1 hst1 => ?_
  unfold openF at hK
  obtain ⟨M1, hM1⟩ : ∃ M1, (M.read jn).1 = M1 := ⟨_, rfl⟩
  obtain ⟨c, hc⟩ : ∃ c, (M.read jn).2 = c := ⟨_, rfl⟩
  obtain ⟨b, hb⟩ : ∃ b, M.readB jn = b := ⟨_, rfl⟩
  change dAt L1 T1 (M.read jn).1 w1 at hd1
  have e1 : (M.read [106, 111, 117, 114, 110, 97, 108]).2 = c := hc
  have e2 : M.readB [106, 111, 117, 114, 110, 97, 108] = b := hb
  rw [hM1] at hd1 hpp
  rw [hM1, hc, hb] at hK
  rw [hb] at hbl hpp
  rw [e1, e2]
  by_cases h2 : c = 2
  · subst h2
    rw [if_pos rfl] at hK
    simp (maxSteps:=2000000) only[bitvec_to_nat,seval,↓tcd,code_V]
    exact ret_le hst1 (hK _ _ w1 ho1 hd1 hst1) (by refine ⟨⟨rfl, rfl⟩, ?_⟩; first | rfl | exact ⟨rfl, trivial⟩ | exact ⟨rfl, rfl⟩ | trivial)
  · rw [if_neg h2] at hK
    have d2 : decide ((c : Int) = 2) = false := decide_eq_false (by omega)
    by_cases h0 : c = 0
    · subst h0
      rw [if_neg (by simp)] at hK
      obtain ⟨n, hn⟩ : ∃ n, (allF b).2 = n := ⟨_, rfl⟩
      have hnl : n ≤ b.length := by rw [← hn]; exact allF_le b
      rw [hn] at hK hpp
      simp (maxSteps:=2000000) only[bitvec_to_nat,seval,↓tcd,code_V,allM,hn]
      refine ⟨⟨bv_clean _, by omega⟩, ?_⟩
      by_cases hlt : n < b.length
      · have d3 : decide ((n : Int) < (b.length : Int)) = true := decide_eq_true (by omega)
        rw [if_pos hlt] at hK
        simp (maxSteps:=2000000) only[bitvec_to_nat,seval,↓tcd,d3,Int.toNat_natCast]
        have hpb := hpp (b.take n) (by rw [List.length_take]; omega) hlt
        refine ⟨⟨by omega, by omega⟩, M1, w1, jn, b.take n, none, by rw [ho1]; rfl, by rw [List.length_take]; omega, hd1, hpb, fun L2 T2 w2 ho2 hd2 hst2 => ?_⟩
        rw [ho1] at ho2
        obtain ⟨R, hR⟩ : ∃ R, (putAll jn (b.take n)).f M1 = R := ⟨_, rfl⟩
        rw [hR] at hd2 hK ⊢
        have hg2 := hst1.trans hst2
        by_cases hz : R.2 = 0
        · rw [if_neg (by simpa using hz)] at hK
          simp only [hz, code_V, Int.natCast_zero]
          simp (maxSteps:=2000000) only[bitvec_to_nat,seval,↓tcd]
          exact ret_of hg2 (hK _ _ w2 ho2 hd2 hg2)
        · rw [if_pos hz] at hK
          obtain ⟨z, hzz⟩ : ∃ z, R.2 = z := ⟨_, rfl⟩
          rw [hzz] at hK hz ⊢
          have dz : decide ((z : Int) = 0) = false := decide_eq_false (by omega)
          simp only [code_V]
          simp (maxSteps:=2000000) only[bitvec_to_nat,seval,↓tcd,dz]
          exact ret_le hg2 (hK _ _ w2 ho2 hd2 hg2) (by refine ⟨⟨rfl, rfl⟩, ?_⟩; first | rfl | exact ⟨rfl, trivial⟩ | exact ⟨rfl, rfl⟩ | trivial)
      · have d3 : decide ((n : Int) < (b.length : Int)) = false := decide_eq_false (by omega)
        rw [if_neg hlt] at hK
        simp (maxSteps:=2000000) only[bitvec_to_nat,seval,↓tcd,d3]
        exact ret_of hst1 (hK _ _ w1 ho1 hd1 hst1)
    · rw [if_pos h0] at hK
      have d0 : decide ((c : Int) = 0) = false := decide_eq_false (by omega)
      simp (maxSteps:=2000000) only[bitvec_to_nat,seval,↓tcd,code_V,d2,d0]
      exact ret_le hst1 (hK _ _ w1 ho1 hd1 hst1) (by refine ⟨⟨rfl, rfl⟩, ?_⟩; first | rfl | exact ⟨rfl, trivial⟩ | exact ⟨rfl, rfl⟩ | trivial)
end Go.Proofs.Ytpncnionnfomeaa.JourX
namespace Go.Proofs.Ytpncnionnfomeaa.JourX
open Go Go.Proofs Go.Proofs.Ytpncnionnfomeaa.Aw Go.Proofs.Ytpncnionnfomeaa.Num Go.Proofs.Ytpncnionnfomeaa.DiskM Go.Proofs.Ytpncnionnfomeaa.DiskA Go.Proofs.Ytpncnionnfomeaa.DiskK Go.Proofs.Ytpncnionnfomeaa.DiskC Go.Proofs.Ytpncnionnfomeaa.Disk Go.Proofs.Ytpncnionnfomeaa.FrameM
open Go.Proofs.Ytpncnionnfomeaa.DiskL (readP syncP syncNamesP namesP doomP createP appendP wbV len_wbV Sz sz_new crash_o op_o small_crash)
open Go.Proofs.Ytpncnionnfomeaa.Frame (allM putM sameM all_ok put_ok same_ok)
open Go.Proofs.Ytpncnionnfomeaa.Place (Do Makes putAll growAll dropD putFP growFP makes_put makes_grow makes_syncNames)
set_option linter.unusedSimpArgs false
set_option linter.unusedVariables false
structure Act where
  kind : UInt8
  b : List UInt8
  w : Wreck
  n : Int
  deriving Inhabited
def actV (a : Act) : V := .agg [.int .u8 a.kind.toNat, .bytes a.b none, .int .i64 a.w.names, wbV a.w.bytes, .int .i64 a.n]
def Act.small (a : Act) : Prop := a.b.length ≤ 100 ∧ a.w.bytes.length ≤ 50
instance (a : Act) : Decidable a.small := by unfold Act.small; exact inferInstance
def few (l : List Act) : List Act := (l.take 60).filter fun a => decide a.small
theorem few_succ {l : List Act} {i : Nat} {a : Act} (h : l[i]? = some a) : few (l.take (i + 1)) = few (l.take i) ++ if i < 60 ∧ a.small then [a] else [] := by
  obtain ⟨hi, he⟩ := List.getElem?_eq_some_iff.1 h
  have e1 : l.take (i + 1) = l.take i ++ [a] := by rw [List.take_succ_eq_append_getElem hi, he]
  unfold few
  rw [e1]
  have hl : (l.take i).length = i := by rw [List.length_take]; omega
  by_cases h1 : i < 60
  · rw [List.take_append, List.filter_append, hl]
    have e2 : [a].take (60 - i) = [a] := by rw [List.take_of_length_le (by simp; omega)]
    rw [e2]
    congr 1
    by_cases h2 : a.small
    · rw [if_pos ⟨h1, h2⟩]; simp [h2]
    · rw [if_neg (fun h => h2 h.2)]; simp [h2]
  · rw [if_neg (fun h => h1 h.1), List.append_nil, List.take_append_of_le_length (by omega)]
theorem few_mem {l : List Act} {a : Act} (h : a ∈ few l) : a.small ∧ a ∈ l := by
  unfold few at h
  obtain ⟨h1, h2⟩ := List.mem_filter.1 h
  exact ⟨of_decide_eq_true h2, List.mem_of_mem_take h1⟩
theorem few_len (l : List Act) : (few l).length ≤ 60 := by
  unfold few
  refine Nat.le_trans (List.length_filter_le _ _) ?_
  rw [List.length_take]; omega
def J2 : Fns := { fn := fun f => J0.fn f, mu := fun d => bif d == 3 then .nil 56 else .no, hp := fun f => J0.hp f, ord := fun i => none, it := fun f => J0.it f }
theorem J2_fn (f : FuncId) : J2.fn f = (J0.fn f) := rfl
theorem J2_mu (d : Tmp) : J2.mu d = (bif d == 3 then .nil 56 else .no) := rfl
theorem J2_hp (f : FuncId) : J2.hp f = (J0.hp f) := rfl
theorem J2_ord (i : Nat) : J2.ord i = (none) := rfl
theorem J2_it (f : FuncId) : J2.it f = (J0.it f) := rfl
theorem J2_hy (b : Nat) : J2.hy b = none := rfl
theorem J2ok : FnsOk Try.prog J2 := FnsOk.same J0ok rfl rfl
attribute [bitvec_to_nat] J2_fn J2_mu J2_hp J2_ord J2_it J2_hy
def fewP : PM := fun args L T K => ∃ l : List Act, args = [.list 5 (l.map actV) none] ∧ l.length ≤ 9223372036854775807 ∧ ∀ L' T', Step noS noS L T noS noS L' T' → K (.list 5 ((few l).map actV) none) L' T'
theorem few_ok : PSound Try.prog 32 fewP := by
  refine psound tysOk J2ok mix Try.func32 rfl ?_
  intro args L T K hm
  obtain ⟨l, rfl, hlen, hK⟩ := hm
  simp (maxSteps:=2000000) only[bitvec_to_nat,seval,↓tcd,Try.f32,List.length_map]
  refine awpLoop_intro (α := {q : Nat × LL × TT // q.1 ≤ l.length ∧ Step noS noS L T noS noS q.2.1 q.2.2 ∧ q.2.2[T.length]? = some ((few (l.take q.1)).length, 60) ∧ T.length < q.2.2.length})
    (fun q => ⟨[.any, .any, .any, .list 5 ((few (l.take q.1.1)).map actV) (some T.length), .any, .any, .list 5 (l.map actV) none, .int .i64 (l.length : Int), .int .i64 (q.1.1 : Int), .any, .any, .any, .any, .any, .any, .any, .any, .any, .any, .any, .any, .any, .any, .any, .any, .any, .any, .any, .any, .any, .any, .any, .any, .any], q.1.2.1, q.1.2.2⟩) (fun q => l.length - q.1.1)
    ⟨(0, L, T ++ [(0, 60)]), Nat.zero_le _, (Step.refl _ _ _ _).tapp _, by rw [tat_new rfl]; rfl, by simp⟩ ?_ ?_ (fun q => ⟨q.2.2.1.len, q.2.2.1.tlen⟩)
  · simp (maxSteps:=2000000) only[bitvec_to_nat,seval,↓tcd,leLL_self]
    first | rfl | exact ⟨rfl, rfl⟩
  · rintro ⟨⟨i, L2, T2⟩, hi, hs2, hT, hTl⟩
    simp only at hi hs2 hT hTl
    by_cases him : i < l.length
    · have hdc : decide ((i : Int) < (l.length : Int)) = true := decide_eq_true (by omega)
      obtain ⟨a, ha⟩ : ∃ a, l[i]? = some a := ⟨_, List.getElem?_eq_getElem him⟩
      have hgd : (l.map actV).getD i .any = .agg [.int .u8 a.kind.toNat, .bytes a.b none, .int .i64 a.w.names, wbV a.w.bytes, .int .i64 a.n] := by
        rw [List.getD_eq_getElem?_getD, List.getElem?_map, ha]; rfl
      have hfs := few_succ ha
      have hi1 : IntKind.i64.wrap ((i : Int) + 1) = ((i + 1 : Nat) : Int) := by rw [i64w (by omega) (by omega)]; omega
      have hfl : (few (l.take i)).length ≤ 60 := by
        unfold few
        refine Nat.le_trans (List.length_filter_le _ _) ?_
        rw [List.length_take]; omega
      have hno : ¬ (i < 60 ∧ a.small) → few (l.take (i + 1)) = few (l.take i) := fun h => by rw [hfs, if_neg h, List.append_nil]
      simp (maxSteps:=2000000) only[bitvec_to_nat,seval,↓tcd,hdc,hgd,Int.toNat_natCast,List.length_map,len_wbV,hi1,hT,hTl]
      refine ⟨⟨by omega, by omega⟩, ?_⟩
      refine awpIf_intro (fun h1 => ?_) (fun h1 => ?_) <;> simp only [decide_eq_true_eq, decide_eq_false_iff_not] at h1
      · refine awpIf_intro (fun h2 => ?_) (fun h2 => ?_) <;> simp only [decide_eq_true_eq, decide_eq_false_iff_not] at h2
        · refine awpIf_intro (fun h3 => ?_) (fun h3 => ?_) <;> simp only [decide_eq_true_eq, decide_eq_false_iff_not] at h3
          · have hye : few (l.take (i + 1)) = few (l.take i) ++ [a] := by rw [hfs, if_pos ⟨by omega, by omega, by omega⟩]
            refine ⟨by unfold maxBytes; omega, ⟨(i + 1, L2 ++ [[.int .u8 a.kind.toNat, .bytes a.b none, .int .i64 a.w.names, .list 1 (a.w.bytes.map fun n => .int .i64 n) none, .int .i64 a.n]], (T2 ++ [(1, 60)]).set T.length ((few (l.take i)).length + 1, 60)), him, ((hs2.app _).tapp [(1, 60)]).tset (k := T.length) (.inr (Nat.le_refl _)) ((few (l.take i)).length + 1, 60), ?_, ?_⟩, ?_, by simp only; omega⟩
            · simp only
              rw [List.getElem?_set_self (by simp; omega), hye]; simp
            · simp only; simp; omega
            · simp (maxSteps:=2000000) only[bitvec_to_nat,seval,↓tcd,leLL_self,hye,List.map_append,List.length_append,List.length_map]
              all_goals first | rfl | exact ⟨rfl, rfl⟩
          · have hnoe := hno (by rintro ⟨q1, q2, q3⟩; omega)
            refine ⟨⟨(i + 1, L2 ++ [[.int .u8 a.kind.toNat, .bytes a.b none, .int .i64 a.w.names, .list 1 (a.w.bytes.map fun n => .int .i64 n) none, .int .i64 a.n]], T2), him, hs2.app _, by simp only; rw [hnoe]; exact hT, hTl⟩, ?_, by simp only; omega⟩
            simp (maxSteps:=2000000) only[bitvec_to_nat,seval,↓tcd,leLL_self,hnoe]
        · have hnoe := hno (by rintro ⟨q1, q2, q3⟩; omega)
          refine ⟨⟨(i + 1, L2 ++ [[.int .u8 a.kind.toNat, .bytes a.b none, .int .i64 a.w.names, .list 1 (a.w.bytes.map fun n => .int .i64 n) none, .int .i64 a.n]], T2), him, hs2.app _, by simp only; rw [hnoe]; exact hT, hTl⟩, ?_, by simp only; omega⟩
          simp (maxSteps:=2000000) only[bitvec_to_nat,seval,↓tcd,leLL_self,hnoe]
      · have hnoe := hno (by rintro ⟨q1, q2, q3⟩; omega)
        refine ⟨⟨(i + 1, L2 ++ [[.int .u8 a.kind.toNat, .bytes a.b none, .int .i64 a.w.names, .list 1 (a.w.bytes.map fun n => .int .i64 n) none, .int .i64 a.n]], T2), him, hs2.app _, by simp only; rw [hnoe]; exact hT, hTl⟩, ?_, by simp only; omega⟩
        simp (maxSteps:=2000000) only[bitvec_to_nat,seval,↓tcd,leLL_self,hnoe]
    · have hdc : decide ((i : Int) < (l.length : Int)) = false := decide_eq_false (by omega)
      have hie : i = l.length := by omega
      subst hie
      simp (maxSteps:=2000000) only[bitvec_to_nat,seval,↓tcd,hdc,List.take_length]
      exact ret_le hs2 (hK _ _ hs2) ⟨rfl, rfl⟩
theorem makes_add {x : List UInt8} (h : x.length ≤ 100) : Makes 16 (addD x) := by
  intro k M ok hs hk
  obtain ⟨a, b, c⟩ := makes_grow jn (b := frameF x) (by rw [frameF_length]; omega) k M ok hs hk
  have e : (addD x).f M = (growAll jn (frameF x)).f M := if_neg (by omega)
  rw [e]
  exact ⟨fun _ => a, b, c⟩
def e0 : MD := DiskM.new 100
def e1 : MD := ((addD [97]).f e0).1
def e2 : MD := ((addD [98]).f e1).1
def e3 : MD := e2.crash ⟨0, []⟩
theorem e1c : ((addD [97]).f e0).2 = 0 := by kernel_rfl
theorem e2c : ((addD [98]).f e1).2 = 0 := by kernel_rfl
theorem e3c : (e3.read jn).2 = 0 := by kernel_rfl
theorem e3b : e3.readB jn = framesF [[97], [98]] := by kernel_rfl
theorem e3o : openF e3 = ((e3.read jn).1, [[97], [98]], 0) := by
  have h := all_frames' [[97], [98]] (by intro x hx; simp at hx; rcases hx with rfl | rfl <;> simp)
  unfold openF
  rw [e3c, e3b, h]
  simp
end Go.Proofs.Ytpncnionnfomeaa.JourX
namespace Go.Proofs.Ytpncnionnfomeaa.JourX
open Go Go.Proofs Go.Proofs.Ytpncnionnfomeaa.Aw Go.Proofs.Ytpncnionnfomeaa.Num Go.Proofs.Ytpncnionnfomeaa.DiskM Go.Proofs.Ytpncnionnfomeaa.DiskA Go.Proofs.Ytpncnionnfomeaa.DiskK Go.Proofs.Ytpncnionnfomeaa.DiskC Go.Proofs.Ytpncnionnfomeaa.Disk Go.Proofs.Ytpncnionnfomeaa.FrameM
open Go.Proofs.Ytpncnionnfomeaa.DiskL (readP syncP syncNamesP namesP doomP createP appendP wbV len_wbV Sz sz_new crash_o op_o small_crash)
open Go.Proofs.Ytpncnionnfomeaa.Frame (allM putM sameM all_ok put_ok same_ok)
open Go.Proofs.Ytpncnionnfomeaa.Place (Do Makes putAll growAll dropD putFP growFP makes_put makes_grow makes_syncNames)
set_option linter.unusedSimpArgs false
set_option linter.unusedVariables false
theorem q0 : e0.Ok ∧ Sz 0 e0 := ⟨(new_dAt 100 [] []).ok, sz_new 100⟩
theorem q1 : (addD [97]).pre e0 ∧ e1.Ok ∧ Sz (0 + 16) e1 := makes_add (x := [97]) (by simp) 0 e0 q0.1 q0.2 (by omega)
theorem q2 : (addD [98]).pre e1 ∧ e2.Ok ∧ Sz (0 + 16 + 16) e2 := makes_add (x := [98]) (by simp) (0 + 16) e1 q1.2.1 q1.2.2 (by omega)
theorem sm3 : Small e3 := small_crash (q2.2.2.small (by omega)) q2.2.1 _
theorem e3p : openPre e3 := by
  have h := all_frames' [[97], [98]] (by intro x hx; simp at hx; rcases hx with rfl | rfl <;> simp)
  refine ⟨sm3, by rw [e3b]; simp [framesF, frameF_length], fun b _ hlt => ?_⟩
  rw [e3b, h] at hlt
  exact absurd hlt (Nat.lt_irrefl _)
def J3 : Fns := { fn := fun f => if f = 35 then some sameM else J0.fn f, mu := fun d => .no, hp := fun f => if f = 13 then some newP else if f = 33 then some addP else if f = 34 then some openP else if f = 17 then some crashP else J0.hp f, ord := fun i => none, it := fun f => J0.it f }
theorem J3_fn (f : FuncId) : J3.fn f = (if f = 35 then some sameM else J0.fn f) := rfl
theorem J3_mu (d : Tmp) : J3.mu d = (.no) := rfl
theorem J3_hp (f : FuncId) : J3.hp f = (if f = 13 then some newP else if f = 33 then some addP else if f = 34 then some openP else if f = 17 then some crashP else J0.hp f) := rfl
theorem J3_ord (i : Nat) : J3.ord i = (none) := rfl
theorem J3_it (f : FuncId) : J3.it f = (J0.it f) := rfl
theorem J3_hy (b : Nat) : J3.hy b = none := rfl
theorem J3ok : FnsOk Try.prog J3 := FnsOk.same (FnsOk.consP (FnsOk.consP (FnsOk.consP (FnsOk.consP (FnsOk.cons J0ok _ _ same_ok Try.func35 (by decide) (fun h => by cases h)) _ _ crash_sound Try.func17 (by decide) (fun h => by cases h)) _ _ open_ok Try.func34 (by decide) (fun h => by cases h)) _ _ add_ok Try.func33 (by decide) (fun h => by cases h)) _ _ new_ok Try.func13 (by decide) (fun h => by cases h)) rfl rfl
attribute [bitvec_to_nat] J3_fn J3_mu J3_hp J3_ord J3_it J3_hy
def shownP : PM := fun args L T K => args = [] ∧ ∀ L' T', Step noS noS L T noS noS L' T' → K (.bool true) L' T'
set_option maxHeartbeats 1000000 in
theorem shown_ok : PSound Try.prog 31 shownP := by
  refine psound tysOk J3ok mix Try.func31 rfl ?_
  intro args L T K hm
  obtain ⟨rfl, hK⟩ := hm
  simp (maxSteps:=2000000) only[bitvec_to_nat,seval,↓tcd,Try.f31]
  refine ⟨100, rfl, fun L0 w0 ho0 hd0 hst0 => ?_⟩
  obtain ⟨od, hod⟩ : ∃ o, w0.o = o := ⟨_, rfl⟩
  rw [hod]
  simp (maxSteps:=2000000) only[bitvec_to_nat,seval,↓tcd]
  have g1 : Step noS noS L0 T noS noS L0 ((T ++ [(1, 5)]).set T.length (deadN, 5)) := ((Step.refl noS noS L0 T).tapp [(1, 5)]).tset (k := T.length) (.inr (Nat.le_refl _)) _
  obtain ⟨T1, hT1⟩ : ∃ x, (T ++ [(1, 5)]).set T.length (deadN, 5) = x := ⟨_, rfl⟩
  rw [hT1] at g1 ⊢
  have f1 := hd0.frame g1 (fun _ _ h => h) (fun _ _ h => h)
  have h1 : Step noS noS L T w0.S w0.R L0 T1 := hst0.via g1 (fun _ h => h.elim) (fun _ h => h.elim)
  refine ⟨e0, w0, [97], none, by rw [hod], f1, q1.1, fun L2 T2 w2 ho2 hd2 hst2 => ?_⟩
  rw [hod] at ho2
  change dAt L2 T2 e1 w2 at hd2
  rw [show codeV ((addD [97]).f e0).2 = codeV 0 from congrArg codeV e1c]
  have h2 := h1.trans hst2
  simp only [code_V, Int.natCast_zero, Int.cast_ofNat_Int]
  simp (maxSteps:=2000000) only[bitvec_to_nat,seval,↓tcd,Int.natCast_zero,Int.cast_ofNat_Int]
  have g3 : Step noS noS L2 T2 noS noS L2 ((T2 ++ [(1, 5)]).set T2.length (deadN, 5)) := ((Step.refl noS noS L2 T2).tapp [(1, 5)]).tset (k := T2.length) (.inr (Nat.le_refl _)) _
  obtain ⟨T3, hT3⟩ : ∃ x, (T2 ++ [(1, 5)]).set T2.length (deadN, 5) = x := ⟨_, rfl⟩
  rw [hT3] at g3 ⊢
  have f3 := hd2.frame g3 (fun _ _ h => h) (fun _ _ h => h)
  have h3 := h2.via g3 (fun _ h => h.elim) (fun _ h => h.elim)
  refine ⟨e1, w2, [98], none, by rw [ho2], f3, q2.1, fun L4 T4 w4 ho4 hd4 hst4 => ?_⟩
  rw [ho2] at ho4
  change dAt L4 T4 e2 w4 at hd4
  rw [show codeV ((addD [98]).f e1).2 = codeV 0 from congrArg codeV e2c]
  have h4 := h3.trans hst4
  simp only [code_V, Int.natCast_zero, Int.cast_ofNat_Int]
  simp (maxSteps:=2000000) only[bitvec_to_nat,seval,↓tcd,Int.natCast_zero,Int.cast_ofNat_Int]
  refine crash_o ho4 [] (.inl ⟨rfl, rfl⟩) (by decide) hd4 (q2.2.2.small (by omega)) fun L5 T5 w5 ho5 hd5 hst5 => ?_
  change dAt L5 T5 e3 w5 at hd5
  have h5 := h4.trans hst5
  simp only [code_V, Int.natCast_zero]
  simp (maxSteps:=2000000) only[bitvec_to_nat,seval,↓tcd,Int.natCast_zero,Int.cast_ofNat_Int]
  refine ⟨e3, w5, by rw [ho5], hd5, e3p, fun L6 T6 w6 ho6 hd6 hst6 => ?_⟩
  have h6 := h5.trans hst6
  simp only [e3o, Int.natCast_zero]
  simp (maxSteps:=2000000) only[bitvec_to_nat,seval,↓tcd,sameM,bv,unbv,List.map_cons,List.map_nil,eq_self]
  have ht := h6.tlen
  have g := ((((h6.tapp [(1, 5)]).tset (k := T6.length) (.inr ht) (deadN, 5)).tapp [(1, 5)]).tset (k := (T6 ++ [(1, 5)]).length) (.inr (by simp; omega)) (deadN, 5)).tapp [(2, 32)]
  exact ret_of g (hK _ _ (g.less (fun _ h => h.elim) (fun _ h => h.elim)))
end Go.Proofs.Ytpncnionnfomeaa.JourX
namespace Go.Proofs.Ytpncnionnfomeaa.JourX
open Go Go.Proofs Go.Proofs.Ytpncnionnfomeaa.Aw Go.Proofs.Ytpncnionnfomeaa.Num Go.Proofs.Ytpncnionnfomeaa.DiskM Go.Proofs.Ytpncnionnfomeaa.DiskA Go.Proofs.Ytpncnionnfomeaa.DiskK Go.Proofs.Ytpncnionnfomeaa.DiskC Go.Proofs.Ytpncnionnfomeaa.Disk Go.Proofs.Ytpncnionnfomeaa.FrameM
open Go.Proofs.Ytpncnionnfomeaa.DiskL (readP syncP syncNamesP namesP doomP createP appendP wbV len_wbV Sz sz_new crash_o op_o small_crash Live begin_live read_live)
open Go.Proofs.Ytpncnionnfomeaa.Frame (allM putM sameM all_ok put_ok same_ok)
open Go.Proofs.Ytpncnionnfomeaa.Place (Do Makes putAll growAll dropD putFP growFP makes_put makes_grow makes_syncNames makes_append appendD growsOk put_live HasF hasF_read at_nil crash_of)
set_option linter.unusedSimpArgs false
set_option linter.unusedVariables false
theorem jn_ok : growsOk jn := by decide
def act6 (a : Act) : Do := if a.kind.toNat % 8 = 4 then begD else if a.kind.toNat % 8 = 7 then appendD jn a.b else addD a.b
theorem makes_act6 {a : Act} (h : a.small) : Makes 16 (act6 a) := by
  unfold act6
  split
  · exact makes_put jn (by simp)
  · split
    · exact (makes_append jn (b := a.b) (j := 2) (by have := h.1; omega)).mono (by omega)
    · exact makes_add h.1
theorem lives_add (x : List UInt8) : PlaceX.Lives (addD x) := fun M h => by
  show Live (if 4096 < x.length then (M, 3) else (growAll jn (frameF x)).f M).1
  split
  · exact h
  · exact PlaceX.lives_grow _ _ M h
theorem lives_act6 (a : Act) : PlaceX.Lives (act6 a) := by
  unfold act6
  split
  · exact PlaceX.lives_put _ _
  · split
    · exact PlaceX.lives_append _ _
    · exact lives_add _
theorem open_has {M : MD} {b : List UInt8} (ok : M.Ok) (h : HasF jn b b.length M) (w : Wreck) : (M.crash w).readB jn = b ∧ (M.crash w).read jn = (M.crash w, 0) := by
  refine ⟨hasF_read ok h w, ?_⟩
  obtain ⟨hc, f, hf, _⟩ := h
  obtain ⟨i, hi, _⟩ := (crash_of ok w jn).2 f (by rw [at_nil hc]; exact hf)
  rw [read_live (M := M.crash w) ⟨rfl, rfl⟩, hi]
  rfl
def J4 : Fns := { fn := fun f => J0.fn f, mu := fun d => .no, hp := fun f => if f = 31 then some shownP else if f = 13 then some newP else if f = 32 then some fewP else if f = 36 then some begP else if f = 33 then some addP else if f = 34 then some openP else if f = 37 then some appendP else if f = 17 then some crashP else J0.hp f, ord := fun i => none, it := fun f => J0.it f }
theorem J4_fn (f : FuncId) : J4.fn f = (J0.fn f) := rfl
theorem J4_mu (d : Tmp) : J4.mu d = (.no) := rfl
theorem J4_hp (f : FuncId) : J4.hp f = (if f = 31 then some shownP else if f = 13 then some newP else if f = 32 then some fewP else if f = 36 then some begP else if f = 33 then some addP else if f = 34 then some openP else if f = 37 then some appendP else if f = 17 then some crashP else J0.hp f) := rfl
theorem J4_ord (i : Nat) : J4.ord i = (none) := rfl
theorem J4_it (f : FuncId) : J4.it f = (J0.it f) := rfl
theorem J4_hy (b : Nat) : J4.hy b = none := rfl
theorem J4ok : FnsOk Try.prog J4 := FnsOk.same (FnsOk.consP (FnsOk.consP (FnsOk.consP (FnsOk.consP (FnsOk.consP (FnsOk.consP (FnsOk.consP (FnsOk.consP J0ok _ _ crash_sound Try.func17 (by decide) (fun h => by cases h)) _ _ append_ok Try.func37 (by decide) (fun h => by cases h)) _ _ open_ok Try.func34 (by decide) (fun h => by cases h)) _ _ add_ok Try.func33 (by decide) (fun h => by cases h)) _ _ beg_ok Try.func36 (by decide) (fun h => by cases h)) _ _ few_ok Try.func32 (by decide) (fun h => by cases h)) _ _ new_ok Try.func13 (by decide) (fun h => by cases h)) _ _ shown_ok Try.func31 (by decide) (fun h => by cases h)) rfl rfl
attribute [bitvec_to_nat] J4_fn J4_mu J4_hp J4_ord J4_it J4_hy
def beginsP : PM := fun args L T K => ∃ (room : Int) (l : List Act) (wr : Wreck), args = [.int .i64 room, .list 5 (l.map actV) none, .agg [.int .i64 wr.names, wbV wr.bytes]] ∧ l.length ≤ 9223372036854775807 ∧ wr.bytes.length ≤ 9223372036854775807 ∧ ∀ L' T', K (.bool true) L' T'
set_option maxHeartbeats 4000000 in
theorem begins_ok : PSound Try.prog 9 beginsP := by
  refine psound tysOk J4ok mix Try.func9 rfl ?_
  intro args L T K hm
  obtain ⟨room, l, wr, rfl, hlen, hwb, hK⟩ := hm
  unfold wbV
  simp (maxSteps:=2000000) only[bitvec_to_nat,seval,↓tcd,Try.f9]
  refine ⟨rfl, fun L1 T1 hst1 => ?_⟩
  simp (maxSteps:=2000000) only[bitvec_to_nat,seval,↓tcd]
  refine ⟨room, rfl, fun L2 w2 ho2 hd2 hst2 => ?_⟩
  have hwr1 : L1[L.length]? = some [.int .i64 wr.names, .list 1 (wr.bytes.map fun n => .int .i64 n) none] := by rw [hst1.keep L.length (by simp) (fun h => h), at_new rfl]
  have hlw := lt_at hwr1
  obtain ⟨od, hod⟩ : ∃ o, w2.o = o := ⟨_, rfl⟩
  rw [hod]
  simp (maxSteps:=2000000) only[bitvec_to_nat,seval,↓tcd]
  refine ⟨l, rfl, hlen, fun L5 T5 hst5 => ?_⟩
  simp (maxSteps:=2000000) only[bitvec_to_nat,seval,↓tcd,List.length_map]
  have hd5 := hd2.frame hst5 (fun _ _ h => h) (fun _ _ h => h)
  have hg5 : Step noS noS L1 T1 w2.S w2.R L5 T5 := hst2.via hst5 (fun _ h => h.elim) (fun _ h => h.elim)
  have hF := few_len l
  have hT0 : T.length ≤ T1.length := hst1.tlen
  have hL0 : L.length ≤ L1.length := by omega
  refine awpLoop_intro (α := {q : Nat × LL × TT × MD × Own // q.1 ≤ (few l).length ∧ q.2.2.2.2.o = od ∧ dAt q.2.1 q.2.2.1 q.2.2.2.1 q.2.2.2.2 ∧ Step noS noS L1 T1 q.2.2.2.2.S q.2.2.2.2.R q.2.1 q.2.2.1 ∧ Live q.2.2.2.1 ∧ Sz (16 * q.1) q.2.2.2.1})
    (fun q => ⟨[.any, .any, .any, .any, .any, .box L.length 0, .bool false, .bool true, .box od 0, .any, .any, .any, .any, .any, .any, .any, .any, .any, .any, .list 5 ((few l).map actV) none, .int .i64 ((few l).length : Int), .int .i64 (q.1.1 : Int), .any, .any, .any, .any, .any, .any, .any, .any, .any, .any, .any, .any, .any, .any, .any, .any, .any, .any, .any, .any, .any, .any, .any, .any, .any, .any, .any, .any, .any, .any, .any, .any, .any, .any, .any, .any, .any, .any, .any, .any, .any, .any, .any, .any, .any], q.1.2.1, q.1.2.2.1⟩) (fun q => (few l).length - q.1.1)
    ⟨(0, L5, T5, DiskM.new room, w2), Nat.zero_le _, hod, hd5, hg5, ⟨rfl, rfl⟩, sz_new room⟩ ?_ ?_ (fun q => ⟨Nat.le_trans hL0 q.2.2.2.2.1.len, Nat.le_trans hT0 q.2.2.2.2.1.tlen⟩)
  · simp (maxSteps:=2000000) only[bitvec_to_nat,seval,↓tcd,leLL_self]
    all_goals simp
  · rintro ⟨⟨i, L6, T6, M, wd⟩, hi, hwd, hd, hg, hlv, hsz⟩
    simp only at hi hwd hd hg hlv hsz
    by_cases him : i < (few l).length
    · have hdc : decide ((i : Int) < ((few l).length : Int)) = true := decide_eq_true (by omega)
      obtain ⟨a, ha⟩ : ∃ a, (few l)[i]? = some a := ⟨_, List.getElem?_eq_getElem him⟩
      obtain ⟨ham, hal⟩ := few_mem (List.mem_of_getElem? ha)
      have hgd : ((few l).map actV).getD i .any = .agg [.int .u8 a.kind.toNat, .bytes a.b none, .int .i64 a.w.names, wbV a.w.bytes, .int .i64 a.n] := by
        rw [List.getD_eq_getElem?_getD, List.getElem?_map, ha]; rfl
      have hi1 : IntKind.i64.wrap ((i : Int) + 1) = ((i + 1 : Nat) : Int) := by rw [i64w (by omega) (by omega)]; omega
      unfold wbV at hgd
      have hmod : ((a.kind.toNat : Nat) : Int).tmod 8 = ((a.kind.toNat % 8 : Nat) : Int) := rfl
      obtain ⟨k, hk⟩ : ∃ k, a.kind.toNat % 8 = k := ⟨_, rfl⟩
      rw [hk] at hmod
      obtain ⟨A, hA⟩ : ∃ x, ([.int .u8 a.kind.toNat, .bytes a.b none, .int .i64 a.w.names, .list 1 (a.w.bytes.map fun n => .int .i64 n) none, .int .i64 a.n] : List V) = x := ⟨_, rfl⟩
      have hd7 : dAt (L6 ++ [A]) T6 M wd := hd.frame ((Step.refl noS noS L6 T6).app [A]) (fun _ _ h => h) (fun _ _ h => h)
      obtain ⟨m1, m2, m3⟩ := makes_act6 ham (16 * i) M hd.ok hsz (by omega)
      have hlv3 := lives_act6 a M hlv
      have hb := ham.1
      by_cases h4 : k = 4
      · have d4 : decide ((k : Int) = 4) = true := decide_eq_true (by omega)
        have e : act6 a = begD := if_pos (hk.trans h4)
        rw [e] at m1 m2 m3 hlv3
        simp (maxSteps:=2000000) only[bitvec_to_nat,seval,↓tcd,hdc,hgd,Int.toNat_natCast,List.length_map,hmod,d4]
        refine ⟨⟨by omega, by omega⟩, ?_⟩
        rw [hA]
        refine ⟨M, wd, by rw [hwd], hd7, m1, fun L8 T8 w8 ho8 hd8 hst8 => ?_⟩
        rw [hwd] at ho8
        simp (maxSteps:=2000000) only[bitvec_to_nat,seval,↓tcd,hi1]
        refine ⟨⟨(i + 1, L8, T8, (begD.f M).1, w8), him, ho8, hd8, (hg.app [A]).trans hst8, hlv3, m3.mono (by omega)⟩, ?_, by simp only; omega⟩
        simp (maxSteps:=2000000) only[bitvec_to_nat,seval,↓tcd,leLL_self,hi1]
      · have d4 : decide ((k : Int) = 4) = false := decide_eq_false (by omega)
        by_cases h7 : k = 7
        · have d7 : decide ((k : Int) = 7) = true := decide_eq_true (by omega)
          have e : act6 a = appendD jn a.b := by unfold act6; rw [hk, if_neg h4, if_pos h7]
          rw [e] at m1 m2 m3 hlv3
          simp (maxSteps:=2000000) only[bitvec_to_nat,seval,↓tcd,hdc,hgd,Int.toNat_natCast,List.length_map,hmod,d4,d7]
          refine ⟨⟨by omega, by omega⟩, ?_⟩
          rw [hA]
          refine op_o hwd (if_pos (by omega)) hd7 m1 fun L8 T8 w8 ho8 hd8 hst8 => ?_
          simp (maxSteps:=2000000) only[bitvec_to_nat,seval,↓tcd,hi1]
          refine ⟨⟨(i + 1, L8, T8, ((appendD jn a.b).f M).1, w8), him, ho8, hd8, (hg.app [A]).trans hst8, hlv3, m3.mono (by omega)⟩, ?_, by simp only; omega⟩
          simp (maxSteps:=2000000) only[bitvec_to_nat,seval,↓tcd,leLL_self,hi1]
        · have d7 : decide ((k : Int) = 7) = false := decide_eq_false (by omega)
          have e : act6 a = addD a.b := by unfold act6; rw [hk, if_neg h4, if_neg h7]
          rw [e] at m1 m2 m3 hlv3
          simp (maxSteps:=2000000) only[bitvec_to_nat,seval,↓tcd,hdc,hgd,Int.toNat_natCast,List.length_map,hmod,d4,d7]
          refine ⟨⟨by omega, by omega⟩, ?_⟩
          rw [hA]
          refine ⟨M, wd, a.b, none, by rw [hwd], hd7, m1, fun L8 T8 w8 ho8 hd8 hst8 => ?_⟩
          rw [hwd] at ho8
          simp (maxSteps:=2000000) only[bitvec_to_nat,seval,↓tcd,hi1]
          refine ⟨⟨(i + 1, L8, T8, ((addD a.b).f M).1, w8), him, ho8, hd8, (hg.app [A]).trans hst8, hlv3, m3.mono (by omega)⟩, ?_, by simp only; omega⟩
          simp (maxSteps:=2000000) only[bitvec_to_nat,seval,↓tcd,leLL_self,hi1]
    · have hdc : decide ((i : Int) < ((few l).length : Int)) = false := decide_eq_false (by omega)
      obtain ⟨m1, m2, m3⟩ := makes_put jn (b := []) (by simp) (16 * i) M hd.ok hsz (by omega)
      obtain ⟨p1, p2, _⟩ := put_live hlv hd.ok hsz jn_ok (x := []) (by simp) (by omega) (fun h => absurd rfl h)
      have hwr6 : L6[L.length]? = some [.int .i64 wr.names, .list 1 (wr.bytes.map fun n => .int .i64 n) none] := by rw [hg.keep L.length hlw (fun h => h)]; exact hwr1
      simp (maxSteps:=2000000) only[bitvec_to_nat,seval,↓tcd,hdc]
      refine ⟨M, wd, by rw [hwd], hd, m1, fun L8 T8 w8 ho8 hd8 hst8 => ?_⟩
      rw [hwd] at ho8
      have hg8 := hg.trans hst8
      have hwr8 : L8[L.length]? = some [.int .i64 wr.names, .list 1 (wr.bytes.map fun n => .int .i64 n) none] := by rw [hg8.keep L.length hlw (fun h => h)]; exact hwr1
      have hlw8 := lt_at hwr8
      change dAt L8 T8 ((putAll jn []).f M).1 w8 at hd8
      rw [show (begD.f M).2 = 0 from p1]
      simp only [code_V, Int.natCast_zero]
      simp (maxSteps:=2000000) only[bitvec_to_nat,seval,↓tcd,hwr8,hlw8]
      refine crash_o ho8 wr.bytes (.inr ⟨none, rfl⟩) hwb hd8 (m3.small (by omega)) fun L9 T9 w9 ho9 hd9 hst9 => ?_
      obtain ⟨o1, o2⟩ := open_has m2 p2 ⟨wr.names, wr.bytes⟩
      have hs5 := small_crash (m3.small (by omega)) m2 ⟨wr.names, wr.bytes⟩
      obtain ⟨M5, hM5⟩ : ∃ M5, ((putAll jn []).f M).1.crash ⟨wr.names, wr.bytes⟩ = M5 := ⟨_, rfl⟩
      rw [hM5] at hd9 o1 o2 hs5
      have hop : openF M5 = (M5, [], 0) := by
        unfold openF
        rw [o1, o2, all_nil]
        simp
      simp (maxSteps:=2000000) only[bitvec_to_nat,seval,↓tcd,code_V,Int.natCast_zero]
      refine ⟨M5, w9, by rw [ho9], hd9, ⟨hs5, by rw [o1]; simp, fun b hb hlt => (by rw [o1, all_nil] at hlt; exact absurd hlt (by simp))⟩, fun L10 T10 w10 ho10 hd10 hst10 => ?_⟩
      simp only [hop, Int.natCast_zero]
      have hg10 := (hg8.trans hst9).trans hst10
      simp (maxSteps:=2000000) only[bitvec_to_nat,seval,↓tcd,List.map_nil,List.length_nil]
      exact ret_of (⟨Nat.le_trans hL0 hg10.len, fun _ _ h => absurd trivial h, fun _ h => h.elim, Nat.le_trans hT0 hg10.tlen, fun _ _ h => absurd trivial h, fun _ h => h.elim⟩ : Step (fun _ => True) (fun _ => True) L T noS noS L10 T10) (hK _ _)
end Go.Proofs.Ytpncnionnfomeaa.JourX
namespace Go.Proofs.Ytpncnionnfomeaa.JourX
open Go Go.Proofs Go.Proofs.Ytpncnionnfomeaa.Aw Go.Proofs.Ytpncnionnfomeaa.Num Go.Proofs.Ytpncnionnfomeaa.DiskM Go.Proofs.Ytpncnionnfomeaa.DiskA Go.Proofs.Ytpncnionnfomeaa.DiskK Go.Proofs.Ytpncnionnfomeaa.DiskC Go.Proofs.Ytpncnionnfomeaa.Disk Go.Proofs.Ytpncnionnfomeaa.FrameM
open Go.Proofs.Ytpncnionnfomeaa.DiskL (readP syncP syncNamesP namesP doomP createP appendP wbV len_wbV Sz sz_new crash_o op_o small_crash Live begin_live read_live create_live)
open Go.Proofs.Ytpncnionnfomeaa.Frame (allM putM sameM all_ok put_ok same_ok rput_ok)
open Go.Proofs.Ytpncnionnfomeaa.Place (Do Makes putAll growAll dropD putFP growFP makes_put makes_grow makes_syncNames makes_append makes_create makes_sync appendD createD syncD growsOk put_live HasF hasF_read hasF_now hasF_set at_nil crash_of file_set_self)
set_option linter.unusedSimpArgs false
set_option linter.unusedVariables false
theorem put_open {k : Nat} {M : MD} (hl : Live M) (ok : M.Ok) (hs : Sz k M) (hk : k ≤ 20) (hr : M.room = 2000) {b : List UInt8} (hb : b.length ≤ 300) (h : HasF jn b b.length M) :
    openPre M ∧ (openF M).2.1 = (allF b).1 ∧ (openF M).2.2 = 0 ∧ (openF M).1.Ok ∧ Sz (k + 16) (openF M).1 ∧ HasF jn (framesF (allF b).1) (framesF (allF b).1).length (openF M).1 := by
  obtain ⟨f, hf, hfb⟩ := hasF_now h
  have hrb : M.readB jn = b := by
    unfold MD.readB
    rw [begin_live hl, hf]
    show (M.file f).1 = b
    rw [hfb]
  have hrd : M.read jn = (M, 0) := by rw [read_live hl, hf]; rfl
  obtain ⟨a1, a2, a3⟩ := all_spec b
  have hle := allF_le b
  unfold openPre openF
  rw [hrb, hrd]
  refine ⟨⟨hs.small (by omega), by omega, fun b' hb' _ => (makes_put jn (b := b') (by omega) k M ok hs (by omega)).1⟩, ?_⟩
  simp only [if_neg (show ¬ (0 : Nat) = 2 by decide), if_neg (show ¬ (0 : Nat) ≠ 0 by simp)]
  by_cases hlt : (allF b).2 < b.length
  · have htl : (b.take (allF b).2).length ≤ 300 := by rw [List.length_take]; omega
    obtain ⟨_, m2, m3⟩ := makes_put jn htl k M ok hs (by omega)
    obtain ⟨p1, p2, _⟩ := put_live hl ok hs jn_ok htl (by omega) (fun _ => by rw [hr]; omega)
    rw [if_pos hlt, p1, if_neg (show ¬ (0 : Nat) ≠ 0 by simp)]
    rw [a2] at m2 m3 p2 ⊢
    exact ⟨rfl, rfl, m2, m3, p2⟩
  · rw [if_neg hlt]
    have e : b = framesF (allF b).1 := by rw [← a2, List.take_of_length_le (by omega)]
    refine ⟨rfl, rfl, ok, hs.mono (by omega), ?_⟩
    show HasF jn (framesF (allF b).1) (framesF (allF b).1).length M
    rw [← e]
    exact h
def t0 : MD := DiskM.new 2000
def t1 : MD := (t0.create jn).1
theorem t1c : (t0.create jn).2 = 0 := by kernel_rfl
theorem t1n : nfind t1.now jn = some 0 := by kernel_rfl
theorem t1u : t1.used = 0 := by kernel_rfl
theorem t1l : Live t1 := ⟨rfl, rfl⟩
theorem t1q : t1.Ok ∧ Sz (0 + 1) t1 := (makes_create jn 0 t0 (new_dAt 2000 [] []).ok (sz_new 2000) (by omega)).2
def u2 (b : List UInt8) : MD := t1.setFile 0 (b, 0)
def u3 (b : List UInt8) : MD := t1.setFile 0 (b, b.length)
def u4 (b : List UInt8) : MD := { u3 b with kept := (u3 b).now, chs := [] }
theorem u2c {b : List UInt8} (hb : b.length ≤ 300) : t1.append jn b = (u2 b, 0) := by
  unfold MD.append
  rw [onFile_some (by rw [begin_live t1l]) t1n, begin_live t1l]
  simp only
  rw [if_neg (by rw [t1u, show t1.room = 2000 from rfl]; omega)]
  rfl
theorem u3c (b : List UInt8) : (u2 b).sync jn = (u3 b, 0) := by
  have hl : Live (u2 b) := t1l
  unfold MD.sync
  rw [onFile_some (by rw [begin_live hl]) (show nfind (u2 b).now jn = some 0 from t1n), begin_live hl]
  have hf : (u2 b).file 0 = (b, 0) := file_set_self _ (now_lt t1q.1 t1n).2
  simp only [hf]
  unfold u2 u3 MD.setFile
  simp only [List.set_set]
theorem u4c (b : List UInt8) : (u3 b).syncNames = (u4 b, 0) := by
  have hl : Live (u3 b) := t1l
  unfold MD.syncNames
  rw [begin_live hl]
  rfl
theorem u_all {b : List UInt8} (hb : b.length ≤ 300) : Small (u2 b) ∧ Small (u3 b) ∧ (u4 b).Ok ∧ Sz 9 (u4 b) ∧ Live (u4 b) ∧ (u4 b).room = 2000 ∧ HasF jn b b.length (u4 b) := by
  obtain ⟨_, o2, s2⟩ := makes_append jn (b := b) (j := 6) (by omega) (0 + 1) t1 t1q.1 t1q.2 (by omega)
  change (t1.append jn b).1.Ok at o2
  change Sz _ (t1.append jn b).1 at s2
  rw [u2c hb] at o2 s2
  obtain ⟨_, o3, s3⟩ := makes_sync jn (0 + 1 + 6) (u2 b) o2 s2 (by omega)
  change ((u2 b).sync jn).1.Ok at o3
  change Sz _ ((u2 b).sync jn).1 at s3
  rw [u3c] at o3 s3
  obtain ⟨_, o4, s4⟩ := makes_syncNames (0 + 1 + 6 + 1) (u3 b) o3 s3 (by omega)
  change (u3 b).syncNames.1.Ok at o4
  change Sz _ (u3 b).syncNames.1 at s4
  rw [u4c] at o4 s4
  exact ⟨s2.small (by omega), s3.small (by omega), o4, s4, t1l, rfl, rfl, 0, t1n, file_set_self _ (now_lt t1q.1 t1n).2⟩
def J6 : Fns := { fn := fun f => if f = 39 then some putM else if f = 35 then some sameM else J0.fn f, mu := fun d => .no, hp := fun f => if f = 31 then some shownP else if f = 13 then some newP else if f = 38 then some createP else if f = 37 then some appendP else if f = 23 then some syncP else if f = 21 then some syncNamesP else if f = 34 then some openP else if f = 17 then some crashP else if f = 27 then some readP else J0.hp f, ord := fun i => none, it := fun f => J0.it f }
theorem J6_fn (f : FuncId) : J6.fn f = (if f = 39 then some putM else if f = 35 then some sameM else J0.fn f) := rfl
theorem J6_mu (d : Tmp) : J6.mu d = (.no) := rfl
theorem J6_hp (f : FuncId) : J6.hp f = (if f = 31 then some shownP else if f = 13 then some newP else if f = 38 then some createP else if f = 37 then some appendP else if f = 23 then some syncP else if f = 21 then some syncNamesP else if f = 34 then some openP else if f = 17 then some crashP else if f = 27 then some readP else J0.hp f) := rfl
theorem J6_ord (i : Nat) : J6.ord i = (none) := rfl
theorem J6_it (f : FuncId) : J6.it f = (J0.it f) := rfl
theorem J6_hy (b : Nat) : J6.hy b = none := rfl
theorem J6ok : FnsOk Try.prog J6 := FnsOk.same (FnsOk.consP (FnsOk.consP (FnsOk.consP (FnsOk.consP (FnsOk.consP (FnsOk.consP (FnsOk.consP (FnsOk.consP (FnsOk.consP (FnsOk.cons (FnsOk.cons J0ok _ _ same_ok Try.func35 (by decide) (fun h => by cases h)) _ _ rput_ok Try.func39 (by decide) (fun h => by cases h)) _ _ read_ok Try.func27 (by decide) (fun h => by cases h)) _ _ crash_sound Try.func17 (by decide) (fun h => by cases h)) _ _ open_ok Try.func34 (by decide) (fun h => by cases h)) _ _ syncNames_ok Try.func21 (by decide) (fun h => by cases h)) _ _ sync_ok Try.func23 (by decide) (fun h => by cases h)) _ _ append_ok Try.func37 (by decide) (fun h => by cases h)) _ _ create_ok Try.func38 (by decide) (fun h => by cases h)) _ _ new_ok Try.func13 (by decide) (fun h => by cases h)) _ _ shown_ok Try.func31 (by decide) (fun h => by cases h)) rfl rfl
attribute [bitvec_to_nat] J6_fn J6_mu J6_hp J6_ord J6_it J6_hy
def twiceP : PM := fun args L T K => ∃ (b : List UInt8) (t : Option Nat) (wr : Wreck), args = [.bytes b t, .agg [.int .i64 wr.names, wbV wr.bytes]] ∧ wr.bytes.length ≤ 9223372036854775807 ∧ ∀ L' T', K (.bool true) L' T'
set_option maxHeartbeats 4000000 in
set_option maxRecDepth 4000 in
theorem twice_ok : PSound Try.prog 10 twiceP := by
  refine psound tysOk J6ok mix Try.func10 rfl ?_
  intro args L T K hm
  obtain ⟨b0, t, wr, rfl, hwb, hK⟩ := hm
  unfold wbV
  simp (maxSteps:=2000000) only[bitvec_to_nat,seval,↓tcd,Try.f10]
  refine ⟨rfl, fun L1 T1 hst1 => ?_⟩
  simp (maxSteps:=2000000) only[bitvec_to_nat,seval,↓tcd]
  refine ⟨2000, rfl, fun L2 w2 ho2 hd2 hst2 => ?_⟩
  have hwr1 : L1[L.length]? = some [.int .i64 wr.names, .list 1 (wr.bytes.map fun n => .int .i64 n) none] := by rw [hst1.keep L.length (by simp) (fun h => h), at_new rfl]
  have hlw := lt_at hwr1
  have hT0 : T.length ≤ T1.length := hst1.tlen
  have hL0 : L.length ≤ L1.length := by omega
  obtain ⟨od, hod⟩ : ∃ o, w2.o = o := ⟨_, rfl⟩
  rw [hod]
  have hmn : (if (300 : Int) < (b0.length : Int) then 300 else (b0.length : Int)) = ((min b0.length 300 : Nat) : Int) := by split <;> omega
  have hml : min b0.length 300 ≤ b0.length := Nat.min_le_left _ _
  obtain ⟨b, hb⟩ : ∃ x, b0.take (min b0.length 300) = x := ⟨_, rfl⟩
  have hbl : b.length ≤ 300 := by rw [← hb, List.length_take]; omega
  simp (maxSteps:=2000000) only[bitvec_to_nat,seval,↓tcd]
  refine op_o hod rfl hd2 ((sz_new 2000).small (by omega)) fun L3 T3 w3 ho3 hd3 hst3 => ?_
  change dAt L3 T3 t1 w3 at hd3
  rw [show codeV (MD.create (DiskM.new 2000) [106, 111, 117, 114, 110, 97, 108]).2 = codeV 0 from congrArg codeV t1c]
  have hg3 := hst2.trans hst3
  simp only [code_V, Int.natCast_zero]
  simp (maxSteps:=2000000) only[bitvec_to_nat,seval,↓tcd,hmn,Int.toNat_natCast,hb]
  refine ⟨⟨by omega, by omega⟩, ?_⟩
  obtain ⟨s2, s3, o4, z4, l4, r4, h4⟩ := u_all hbl
  refine op_o ho3 (if_pos (by omega)) hd3 (t1q.2.small (by omega)) fun L4 T4 w4 ho4 hd4 hst4 => ?_
  have ea : t1.append [106, 111, 117, 114, 110, 97, 108] b = (u2 b, 0) := u2c hbl
  simp only [ea, code_V, Int.natCast_zero] at hd4 ⊢
  have hg4 := hg3.trans hst4
  simp (maxSteps:=2000000) only[bitvec_to_nat,seval,↓tcd]
  refine op_o ho4 rfl hd4 s2 fun L5 T5 w5 ho5 hd5 hst5 => ?_
  have eb : (u2 b).sync [106, 111, 117, 114, 110, 97, 108] = (u3 b, 0) := u3c b
  simp only [eb, code_V, Int.natCast_zero] at hd5 ⊢
  have hg5 := hg4.trans hst5
  simp (maxSteps:=2000000) only[bitvec_to_nat,seval,↓tcd]
  refine op_o ho5 rfl hd5 s3 fun L6 T6 w6 ho6 hd6 hst6 => ?_
  simp only [u4c, code_V, Int.natCast_zero] at hd6 ⊢
  have hg6 := hg5.trans hst6
  obtain ⟨q1, q2, q3, q4, q5, q6⟩ := put_open l4 o4 z4 (by omega) r4 hbl h4
  obtain ⟨l, hl⟩ : ∃ l, (allF b).1 = l := ⟨_, rfl⟩
  have hsh : ∀ x ∈ l, x.length ≤ 4096 := by rw [← hl]; exact (all_spec b).1
  have hfl : (framesF l).length ≤ 300 := by rw [← hl, (all_spec b).2.2]; exact Nat.le_trans (allF_le b) hbl
  have hll : l.length ≤ 300 := by rw [← hl]; exact Nat.le_trans (allF_len b) hbl
  rw [hl] at q2 q6
  obtain ⟨M5, hM5⟩ : ∃ M5, (openF (u4 b)).1 = M5 := ⟨_, rfl⟩
  rw [hM5] at q4 q5 q6
  simp (maxSteps:=2000000) only[bitvec_to_nat,seval,↓tcd]
  refine ⟨u4 b, w6, by rw [ho6], hd6, q1, fun L7 T7 w7 ho7 hd7 hst7 => ?_⟩
  rw [ho6] at ho7
  rw [hM5] at hd7
  rw [q2, q3]
  have hg7 := hg6.trans hst7
  have hwr7 : L7[L.length]? = some [.int .i64 wr.names, .list 1 (wr.bytes.map fun n => .int .i64 n) none] := by rw [hg7.keep L.length hlw (fun h => h)]; exact hwr1
  have hlw7 := lt_at hwr7
  simp only [Int.natCast_zero]
  simp (maxSteps:=2000000) only[bitvec_to_nat,seval,↓tcd,hwr7,hlw7]
  refine crash_o ho7 wr.bytes (.inr ⟨none, rfl⟩) hwb hd7 (q5.small (by omega)) fun L8 T8 w8 ho8 hd8 hst8 => ?_
  have hg8 := hg7.trans hst8
  obtain ⟨c1, c2⟩ := open_has q4 q6 ⟨wr.names, wr.bytes⟩
  have hs8 := small_crash (q5.small (by omega)) q4 ⟨wr.names, wr.bytes⟩
  obtain ⟨M8, hM8⟩ : ∃ M8, M5.crash ⟨wr.names, wr.bytes⟩ = M8 := ⟨_, rfl⟩
  rw [hM8] at hd8 c1 c2 hs8
  have hop : openF M8 = (M8, l, 0) := by
    unfold openF
    rw [c1, c2, all_frames' l hsh]
    simp
  simp (maxSteps:=2000000) only[bitvec_to_nat,seval,↓tcd,code_V,Int.natCast_zero]
  refine ⟨M8, w8, by rw [ho8], hd8, ⟨hs8, by rw [c1]; omega, fun b' _ hlt => (by rw [c1, all_frames' l hsh] at hlt; exact absurd hlt (Nat.lt_irrefl _))⟩, fun L9 T9 w9 ho9 hd9 hst9 => ?_⟩
  rw [ho8] at ho9
  simp only [hop, Int.natCast_zero] at hd9 ⊢
  have hg9 := hg8.trans hst9
  simp (maxSteps:=2000000) only[bitvec_to_nat,seval,↓tcd]
  refine op_o ho9 rfl hd9 hs8 fun L10 T10 w10 ho10 hd10 hst10 => ?_
  have ec : M8.readB [106, 111, 117, 114, 110, 97, 108] = framesF l := c1
  have ed : M8.read [106, 111, 117, 114, 110, 97, 108] = (M8, 0) := c2
  simp only [ec, ed, code_V, Int.natCast_zero] at hd10 ⊢
  have hg10 := hg9.trans hst10
  simp (maxSteps:=2000000) only[bitvec_to_nat,seval,↓tcd,List.length_map]
  have hL10 := hg10.len
  have hT10 := hg10.tlen
  have hfi : ∀ i, (framesF (l.take i)).length ≤ 300 := fun i => by
    have e := congrArg List.length (framesF_append (l.take i) (l.drop i))
    rw [List.take_append_drop, List.length_append] at e
    omega
  refine awpLoop_intro (α := {q : Nat × TT // q.1 ≤ l.length ∧ T10.length ≤ q.2.length})
    (fun q => ⟨[.any, .any, .any, .any, .bool false, .bool true, .any, .list 1 (l.map bv) none, .any, .list 1 (l.map bv) none, .int .i64 0, .bytes (framesF l) none, .int .i64 0, .bytes (framesF (l.take q.1.1)) none, .any, .any, .any, .any, .any, .any, .any, .any, .any, .any, .any, .any, .any, .any, .any, .any, .any, .any, .any, .any, .any, .any, .any, .any, .any, .any, .any, .any, .any, .any, .any, .any, .any, .any, .any, .any, .any, .any, .any, .any, .any, .any, .any, .any, .any, .any, .any, .any, .any, .any, .any, .any, .any, .any, .list 1 (l.map bv) none, .int .i64 (l.length : Int), .int .i64 (q.1.1 : Int), .any, .any, .any, .any, .any, .any, .any, .any, .any, .any, .any, .any, .any, .any, .any, .any, .any, .any, .any, .any, .any, .any, .any, .any, .any, .any, .any, .any, .any, .any, .any], L10, q.1.2⟩) (fun q => l.length - q.1.1)
    ⟨(0, T10), Nat.zero_le _, Nat.le_refl _⟩ ?_ ?_ (fun q => ⟨Nat.le_trans hL0 hL10, Nat.le_trans hT0 (Nat.le_trans hT10 q.2.2)⟩)
  · simp (maxSteps:=2000000) only[bitvec_to_nat,seval,↓tcd,leLL_self]
    all_goals first | done | exact ⟨rfl, rfl⟩ | simp [framesF_nil]
  · rintro ⟨⟨i, T11⟩, hi, hT11⟩
    simp only at hi hT11
    by_cases him : i < l.length
    · have hdc : decide ((i : Int) < (l.length : Int)) = true := decide_eq_true (by omega)
      have hgd : (l.map bv).getD i .any = .bytes l[i] none := by
        rw [List.getD_eq_getElem?_getD, List.getElem?_map, List.getElem?_eq_getElem him]; rfl
      have hi1 : IntKind.i64.wrap ((i : Int) + 1) = ((i + 1 : Nat) : Int) := by rw [i64w (by omega) (by omega)]; omega
      have hx4 : ¬ 4096 < l[i].length := by have := hsh l[i] (List.getElem_mem him); omega
      have hfr : framesF (l.take i) ++ frameF l[i] = framesF (l.take (i + 1)) := by rw [List.take_succ_eq_append_getElem him, framesF_snoc]
      have hfi' := hfi i
      simp (maxSteps:=2000000) only[bitvec_to_nat,seval,↓tcd,hdc,hgd,Int.toNat_natCast,List.length_map,putM,hx4,hi1,hfr]
      refine ⟨⟨by omega, by omega⟩, by omega, ⟨(i + 1, T11 ++ [((framesF (l.take (i + 1))).length, 5)]), him, by simp; omega⟩, ?_, by simp only; omega⟩
      simp (maxSteps:=2000000) only[bitvec_to_nat,seval,↓tcd,leLL_self]
    · have hdc : decide ((i : Int) < (l.length : Int)) = false := decide_eq_false (by omega)
      rw [List.take_of_length_le (show l.length ≤ i by omega)]
      simp (maxSteps:=2000000) only[bitvec_to_nat,seval,↓tcd,hdc,sameM,unbv_map,eq_self]
      refine ⟨⟨bv_clean _, by rw [List.length_map]; omega⟩, ?_⟩
      exact ret_of (⟨Nat.le_trans hL0 hL10, fun _ _ h => absurd trivial h, fun _ h => h.elim, Nat.le_trans hT0 (Nat.le_trans hT10 hT11), fun _ _ h => absurd trivial h, fun _ h => h.elim⟩ : Step (fun _ => True) (fun _ => True) L T noS noS L10 T11) (hK _ _)
end Go.Proofs.Ytpncnionnfomeaa.JourX
namespace Go.Proofs.Ytpncnionnfomeaa.JourX
open Go Go.Proofs Go.Proofs.Ytpncnionnfomeaa.Aw Go.Proofs.Ytpncnionnfomeaa.Num Go.Proofs.Ytpncnionnfomeaa.DiskM Go.Proofs.Ytpncnionnfomeaa.DiskA Go.Proofs.Ytpncnionnfomeaa.DiskC Go.Proofs.Ytpncnionnfomeaa.Disk Go.Proofs.Ytpncnionnfomeaa.DiskH Go.Proofs.Ytpncnionnfomeaa.FrameM
open Go.Proofs.Ytpncnionnfomeaa.DiskL (Sz sz_new small_crash Live begin_live read_live create_live remove_live gone_now made_now Dm)
open Go.Proofs.Ytpncnionnfomeaa.Place
set_option linter.unusedSimpArgs false
set_option linter.unusedVariables false
def Codes (P : MD → Prop) (g : Do) (Q : MD → Prop) : Prop := ∀ M, M.Ok → P M → (g.f M).1.Ok ∧ (((g.f M).2 = 0 ∧ Q (g.f M).1) ∨ (g.f M).2 = 41)
theorem Codes.nil {P : MD → Prop} : Codes P (runD []) P := fun M ok h => ⟨ok, .inl ⟨rfl, h⟩⟩
theorem Codes.cons {P Q S : MD → Prop} {g : Do} {l : List Do} (h : Codes P g Q) (hl : Codes Q (runD l) S) : Codes P (runD (g :: l)) S := fun M ok hp => by
  obtain ⟨a, b⟩ := h M ok hp
  show (runF (g :: l) M).1.Ok ∧ (((runF (g :: l) M).2 = 0 ∧ S (runF (g :: l) M).1) ∨ (runF (g :: l) M).2 = 41)
  rw [runF_cons]
  unfold runFrom
  rcases b with ⟨b, c⟩ | b
  · rw [if_pos b]
    exact hl _ a c
  · rw [if_neg (by rw [b]; decide)]
    exact ⟨a, .inr b⟩
def OnW (M : MD) : Prop := Live M ∧ ∃ f, nfind M.now onTheWay = some f
theorem codes_append (c : List UInt8) : Codes OnW (appendD onTheWay c) OnW := fun M ok ⟨hl, f, hf⟩ => by
  have hok : (M.append onTheWay c).1.Ok := ok_onFile ok _ _ fun f hf => by
    split
    · exact ok.begin
    · exact ok.begin.setFile (by have := file_cut ok.begin f; simp only [List.length_append]; omega)
  refine ⟨hok, ?_⟩
  show ((M.append onTheWay c).2 = 0 ∧ OnW (M.append onTheWay c).1) ∨ (M.append onTheWay c).2 = 41
  unfold MD.append
  rw [onFile_some (by rw [begin_live hl]) hf, begin_live hl]
  simp only
  split
  · exact .inr rfl
  · exact .inl ⟨rfl, hl, f, hf⟩
theorem codes_parts : ∀ cs : List (List UInt8), Codes OnW (runD (cs.map (appendD onTheWay))) OnW
  | [] => Codes.nil
  | c :: cs => (codes_append c).cons (codes_parts cs)
theorem codes_put {s : Name} (hg : growsOk s) (x : List UInt8) : Codes Live (putD s x) (fun _ => True) := by
  have hrt : right onTheWay := by decide
  have h1 : Codes Live (butD 2 (removeD onTheWay)) (fun M => Live M ∧ nfind M.now onTheWay = none) := fun M ok hl => by
    refine ⟨ok_remove ok _, .inl ⟨?_, PlaceX.lives_remove _ M hl, ?_⟩⟩
    · show (if (M.remove onTheWay).2 = 2 then 0 else (M.remove onTheWay).2) = 0
      rw [remove_live hl]
      split <;> rfl
    · show nfind (M.remove onTheWay).1.now onTheWay = none
      rw [remove_live hl]
      split
      · rw [gone_now (by decide), nfind_without, if_pos rfl]
      · rename_i h
        cases hx : nfind M.now onTheWay with
        | none => rfl
        | some y => rw [hx] at h; simp at h
  have h2 : Codes (fun M => Live M ∧ nfind M.now onTheWay = none) (createD onTheWay) OnW := fun M ok ⟨hl, hn⟩ => by
    have e : M.create onTheWay = (M.newFile.does ⟨[], onTheWay, M.files.length⟩, 0) := by
      rw [create_live hl, if_neg (by simpa using hrt), if_neg (by rw [hn]; simp)]
    have hok := ok_create ok onTheWay
    have hlv := PlaceX.lives_create onTheWay M hl
    change Live (M.create onTheWay).1 at hlv
    refine ⟨hok, .inl ⟨?_, ?_⟩⟩
    · show (M.create onTheWay).2 = 0
      rw [e]
    · show OnW (M.create onTheWay).1
      refine ⟨hlv, M.files.length, ?_⟩
      rw [e, (made_now ok hrt (nfind_none.1 hn)).1, nfind_with, if_pos rfl]
  have h4 : Codes OnW (syncD onTheWay) OnW := fun M ok ⟨hl, f, hf⟩ => by
    refine ⟨ok_onFile ok _ _ fun f hf => ok.begin.setFile (Nat.le_refl _), .inl ?_⟩
    show (M.sync onTheWay).2 = 0 ∧ OnW (M.sync onTheWay).1
    unfold MD.sync
    rw [onFile_some (by rw [begin_live hl]) hf, begin_live hl]
    exact ⟨rfl, hl, f, hf⟩
  have h5 : Codes OnW (renameD onTheWay s) Live := fun M ok ⟨hl, f, hf⟩ => by
    refine ⟨ok_rename ok _ _, .inl ?_⟩
    show (M.rename onTheWay s).2 = 0 ∧ Live (M.rename onTheWay s).1
    unfold MD.rename
    rw [onFile_some (by rw [begin_live hl]) hf, begin_live hl]
    simp only
    rw [if_pos hg.1]
    exact ⟨rfl, hl⟩
  have h6 : Codes Live syncNamesD (fun _ => True) := fun M ok hl => by
    refine ⟨ok_syncNames ok, .inl ⟨?_, trivial⟩⟩
    show M.syncNames.2 = 0
    unfold MD.syncNames
    rw [begin_live hl]; rfl
  exact h1.cons (h2.cons (Codes.cons (codes_parts (chunks x)) (h4.cons (h5.cons (h6.cons Codes.nil)))))
theorem put_code {M : MD} (hl : Live M) (ok : M.Ok) {s : Name} (hg : growsOk s) (x : List UInt8) : ((putAll s x).f M).2 = 0 ∨ ((putAll s x).f M).2 = 41 := by
  have e : (putAll s x).f M = (putD s x).f M := if_pos hg
  rw [e]
  exact (codes_put hg x M ok hl).2.imp And.left id
theorem makes_putB (n : Name) {b : List UInt8} (hb : b.length ≤ 3400) : Makes 120 (putAll n b) := by
  have hp : Makes 110 (runD (partsOf onTheWay b)) := by
    refine (makes_list onTheWay (chunks b) fun c hc => ?_).mono ?_
    · obtain ⟨i, hi, rfl⟩ := List.mem_map.1 hc
      rw [List.length_take]; omega
    · rw [chunks_len]; omega
  intro k M ok hs hk
  have h : Makes (1 + (1 + (110 + (1 + (1 + (1 + 0)))))) (putD n b) :=
    (makes_remove _).but.cons ((makes_create _).cons (Makes.cons hp ((makes_sync _).cons ((makes_rename _ _).cons (makes_syncNames.cons Makes.nil)))))
  obtain ⟨a, c, d⟩ := h k M ok hs (by omega)
  refine ⟨fun _ => a, ?_⟩
  show (if growsOk n then (putD n b).f M else (M, 1)).1.Ok ∧ Sz (k + 120) (if growsOk n then (putD n b).f M else (M, 1)).1
  split
  · exact ⟨c, d.mono (by omega)⟩
  · exact ⟨ok, hs.mono (by omega)⟩
theorem put_has {M : MD} {s : Name} (ok : M.Ok) (hc : M.chs = []) (hg : growsOk s) {x : List UInt8} (h0 : ((putAll s x).f M).2 = 0) : HasF s x x.length ((putAll s x).f M).1 := by
  have hn : onTheWay ≠ s := Ne.symm hg.2
  have k := fun {R : MD → Prop} (M : MD) (_ : R M) => (trivial : (fun _ : MD => True) M)
  have h1 : Leads (fun M' => Keep M M' s) (butD 2 (removeD onTheWay)) (fun M' => Keep M M' s) (fun _ => True) := Leads.but fun M' ok h => by
    obtain ⟨a, b⟩ := spares_remove hn hg.1.1 M M' ok h
    exact ⟨a, fun _ => b, fun _ => trivial⟩
  have h3 : Leads (OnWay M s []) (partsD x) (OnWay M s x) (fun _ => True) := by
    have := lead_parts (M0 := M) hn (chunks x) []
    rw [chunks_flat, List.nil_append] at this
    exact this.weak k
  have h6 : Leads (There M s x) syncNamesD (HasF s x x.length) (fun _ => True) := fun M' ok ⟨_, f, hf, hx⟩ => by
    refine ⟨ok_syncNames ok, ?_, fun _ => trivial⟩
    show M'.syncNames.2 = 0 → HasF s x x.length M'.syncNames.1
    unfold MD.syncNames
    split
    · intro h; cases h
    · exact fun _ => ⟨rfl, f, hf, ((core_begin M').file f).trans hx⟩
  have key : Leads (fun M' => Keep M M' s) (putD s x) (HasF s x x.length) (fun _ => True) :=
    h1.cons (((lead_create hn hg.1.1).weak k).cons (h3.cons (((lead_sync hn x).weak k).cons (((lead_rename hg x).weak k).cons (h6.cons Leads.nil)))))
  have e : (putAll s x).f M = (putD s x).f M := if_pos hg
  rw [e] at h0 ⊢
  exact (key M ok (keep_refl hc s)).2.1 h0
structure Noted (k : Nat) (l : List (List UInt8)) (M : MD) : Prop where
  live : Live M
  ok : M.Ok
  sz : Sz k M
  chs : M.chs = []
  was : WasF M jn (framesF l)
  short : ∀ x ∈ l, x.length ≤ 100
theorem has_was {M : MD} {s : Name} {b : List UInt8} (h : HasF s b b.length M) : WasF M s b := by
  obtain ⟨_, f, hf, hb⟩ := h
  exact ⟨fun hn => (by rw [hf] at hn; cases hn), fun g hg => (by rw [hf] at hg; cases hg; exact hb)⟩
theorem noted_new (R : Int) : Noted 0 [] (DiskM.new R) := ⟨⟨rfl, rfl⟩, (new_dAt R [] []).ok, sz_new R, rfl, ⟨fun _ => rfl, fun f hf => by cases hf⟩, fun x hx => by cases hx⟩
theorem part_all {x y : List UInt8} (hx : x.length ≤ 4096) (hy : y <+: frameF x) : (y = frameF x ∧ allF y = ([x], y.length)) ∨ (y ≠ frameF x ∧ allF y = ([], 0)) := by
  have he : frameF x = framesF [x] := by rw [framesF_cons, framesF_nil, List.append_nil]
  have hy' : y = (framesF [x]).take y.length := by rw [← he]; exact List.prefix_iff_eq_take.1 hy
  obtain ⟨j, hj, h1, _, _⟩ := all_cut [x] y.length (by intro z hz; obtain rfl := List.mem_singleton.1 hz; exact hx) (by rw [← he]; exact hy.length_le)
  rw [← hy'] at h1
  obtain ⟨_, a2, a3⟩ := all_spec y
  have hle := allF_le y
  rcases (show j = 0 ∨ j = 1 by simp at hj; omega) with rfl | rfl
  · right
    rw [List.take_zero] at h1
    rw [h1, framesF_nil] at a3
    refine ⟨fun e => ?_, Prod.ext h1 a3.symm⟩
    have := all_frames' [x] (by intro z hz; obtain rfl := List.mem_singleton.1 hz; exact hx)
    rw [← he, ← e] at this
    rw [this] at h1
    cases h1
  · left
    have h1' : (allF y).1 = [x] := h1
    rw [h1', ← he] at a3
    have hl := hy.length_le
    have ey : y = frameF x := hy.eq_of_length (by omega)
    refine ⟨ey, Prod.ext h1' ?_⟩
    rw [ey]
    rw [ey] at a3
    exact a3.symm
theorem framesF_len : ∀ (l : List (List UInt8)), (∀ x ∈ l, x.length ≤ 100) → (framesF l).length ≤ 108 * l.length
  | [], _ => by simp [framesF_nil]
  | x :: l, h => by
    have h1 := h x (by simp)
    have ih := framesF_len l fun y hy => h y (List.mem_cons_of_mem _ hy)
    rw [framesF_cons, List.length_append, frameF_length, List.length_cons]
    omega
theorem frames_nil {l : List (List UInt8)} (h : framesF l = []) : l = [] := by
  cases l with
  | nil => rfl
  | cons x r => rw [framesF_cons] at h; have := congrArg List.length h; simp [frameF_length] at this
theorem open_step {k : Nat} {l : List (List UInt8)} {M : MD} (h : Noted k l M) {x : List UInt8} (hx : x.length ≤ 100) (hll : l.length ≤ 29) (hk : k ≤ 8000) {n : Nat} (hn : n ≤ 9223372036854775807) {w : Wreck} (hw : w.bytes.length ≤ 50) :
    (addD x).pre (Dm M n) ∧ Small ((addD x).f (Dm M n)).1 ∧ openPre (((addD x).f (Dm M n)).1.crash w) ∧
    ((openF (((addD x).f (Dm M n)).1.crash w)).2.2 = 41 ∨ ((openF (((addD x).f (Dm M n)).1.crash w)).2.2 = 0 ∧
      ((openF (((addD x).f (Dm M n)).1.crash w)).2.1 = l ++ [x] ∨ ((openF (((addD x).f (Dm M n)).1.crash w)).2.1 = l ∧ ((addD x).f (Dm M n)).2 ≠ 0)) ∧
      Noted (k + 140) (openF (((addD x).f (Dm M n)).1.crash w)).2.1 (openF (((addD x).f (Dm M n)).1.crash w)).1)) := by
  have okd : (Dm M n).Ok := ⟨h.ok.rise, h.ok.can, h.ok.once, h.ok.lt, h.ok.right, h.ok.cut, h.ok.room, Int.ofNat_le.2 hn⟩
  have szd : Sz k (Dm M n) := h.sz.same rfl rfl rfl
  obtain ⟨m1, m2, m3⟩ := makes_add hx k (Dm M n) okd szd (by omega)
  obtain ⟨g1, g2, g3⟩ := grow_part (x := frameF x) h.was okd (show Same M (Dm M n) from ⟨h.chs, rfl, rfl⟩)
  have e : (addD x).f (Dm M n) = (growAll jn (frameF x)).f (Dm M n) := if_neg (by omega)
  rw [← e] at g1 g2 g3
  obtain ⟨R, hR⟩ : ∃ R, (addD x).f (Dm M n) = R := ⟨_, rfl⟩
  rw [hR] at m2 m3 g1 g2 g3 ⊢
  have hfl := framesF_len l h.short
  have hfx := frameF_length x
  obtain ⟨y, hy, hry⟩ := part_read g1 g2 w
  have hyl := hy.length_le
  have hfull : R.2 = 0 → y = frameF x := fun h0 => by
    have := hasF_read g1 (g3 h0) w
    rw [hry] at this
    exact List.append_cancel_left this
  have ok5 := crash_ok g1 w
  have hkp := crash_kept g1 w
  have sz5 : Sz (k + 16 + 1) (R.1.crash w) := DiskL.act_sz m3 g1 (a := ⟨11, [], [], [], 0, w⟩) ⟨by simp, by simp, by simp, hw⟩
  have hl5 : Live (R.1.crash w) := ⟨rfl, rfl⟩
  have hc5 : (R.1.crash w).chs = [] := rfl
  obtain ⟨M5, hM5⟩ : ∃ M5, R.1.crash w = M5 := ⟨_, rfl⟩
  rw [hM5] at hry ok5 hkp sz5 hl5 hc5 ⊢
  have hsm5 : Small M5 := sz5.small (by omega)
  have hsh : ∀ z ∈ l, z.length ≤ 4096 := fun z hz => by have := h.short z hz; omega
  have hb : (M5.readB jn).length ≤ 3400 := by rw [hry, List.length_append]; omega
  have hwas : WasF M5 jn (M5.readB jn) := by
    have hrb : M5.readB jn = match nfind M5.now jn with
      | none => []
      | some f => (M5.file f).1 := by unfold MD.readB; rw [begin_live hl5]; rfl
    rw [kept_now hkp] at hrb
    refine ⟨fun hn => ?_, fun f hf => ?_⟩
    · rw [hrb, hn]
    · rw [hrb, hf]
      show M5.file f = ((M5.file f).1, (M5.file f).1.length)
      rw [← hkp.all jn f hf]
  refine ⟨m1, m3.small (by omega), ⟨hsm5, by omega, fun b' hb' _ => ?_⟩, ?_⟩
  · rw [read_live hl5]
    exact (makes_putB jn (b := b') (by omega) (k + 16 + 1) M5 ok5 sz5 (by omega)).1
  have mk : ∀ l', framesF l' = M5.readB jn → (∀ z ∈ l', z.length ≤ 100) → Noted (k + 140) l' M5 := fun l' e hs => ⟨hl5, ok5, sz5.mono (by omega), hc5, by rw [e]; exact hwas, hs⟩
  have hsx : ∀ z ∈ l ++ [x], z.length ≤ 100 := fun z hz => by
    rcases List.mem_append.1 hz with hz | hz
    · exact h.short z hz
    · obtain rfl := List.mem_singleton.1 hz; exact hx
  have hall : allF (M5.readB jn) = (l ++ (allF y).1, (framesF l).length + (allF y).2) := by rw [hry]; exact all_frames l y hsh
  have hrd := read_live hl5 (n := jn)
  have hopen : openF M5 = if (M5.read jn).2 = 2 then ((M5.read jn).1, [], 0) else if (M5.read jn).2 ≠ 0 then ((M5.read jn).1, [], (M5.read jn).2)
    else if (allF (M5.readB jn)).2 < (M5.readB jn).length then
      if ((putAll jn ((M5.readB jn).take (allF (M5.readB jn)).2)).f (M5.read jn).1).2 ≠ 0 then (((putAll jn ((M5.readB jn).take (allF (M5.readB jn)).2)).f (M5.read jn).1).1, [], ((putAll jn ((M5.readB jn).take (allF (M5.readB jn)).2)).f (M5.read jn).1).2)
      else (((putAll jn ((M5.readB jn).take (allF (M5.readB jn)).2)).f (M5.read jn).1).1, (allF (M5.readB jn)).1, 0)
    else ((M5.read jn).1, (allF (M5.readB jn)).1, 0) := rfl
  cases hfd : nfind M5.now jn with
  | none =>
    rw [hfd] at hrd
    have hb0 : M5.readB jn = [] := by unfold MD.readB; rw [begin_live hl5, hfd]; rfl
    have hop : openF M5 = (M5, [], 0) := by rw [hopen, hrd]; rfl
    have hnil := hb0
    rw [hry] at hnil
    have h1 := List.append_eq_nil_iff.1 hnil
    have hl0 := frames_nil h1.1
    rw [hop]
    refine .inr ⟨rfl, .inr ⟨hl0.symm, fun h0 => ?_⟩, mk [] (by rw [hb0]; rfl) (fun z hz => by cases hz)⟩
    have h2 := hfull h0
    rw [h1.2] at h2
    have := congrArg List.length h2
    rw [hfx] at this
    simp at this
  | some f =>
    rw [hfd] at hrd
    have hrd' : M5.read jn = (M5, 0) := hrd
    rcases part_all (show x.length ≤ 4096 by omega) hy with ⟨y1, y2⟩ | ⟨y1, y2⟩
    · have hop : openF M5 = (M5, l ++ [x], 0) := by
        rw [hopen, hrd', hall, y2, hry, List.length_append, if_neg (by simp), if_neg (by simp), if_neg (Nat.lt_irrefl _)]
      rw [hop]
      exact .inr ⟨rfl, .inl rfl, mk (l ++ [x]) (by rw [framesF_snoc, hry, y1]) hsx⟩
    · have hne : R.2 ≠ 0 := fun h0 => y1 (hfull h0)
      rw [y2, List.append_nil, Nat.add_zero] at hall
      by_cases hy0 : y = []
      · have hop : openF M5 = (M5, l, 0) := by
          rw [hopen, hrd', hall, hry, hy0, List.append_nil, if_neg (by simp), if_neg (by simp), if_neg (Nat.lt_irrefl _)]
        rw [hop]
        exact .inr ⟨rfl, .inr ⟨rfl, hne⟩, mk l (by rw [hry, hy0, List.append_nil]) h.short⟩
      · have hlt : (framesF l).length < (M5.readB jn).length := by
          rw [hry, List.length_append]
          have : 0 < y.length := List.length_pos_iff.2 hy0
          omega
        have htk : (M5.readB jn).take (framesF l).length = framesF l := by rw [hry, List.take_left' rfl]
        obtain ⟨_, p2, p3⟩ := makes_putB jn (b := framesF l) (by omega) (k + 16 + 1) M5 ok5 sz5 (by omega)
        have pl := PlaceX.lives_put jn (framesF l) M5 hl5
        have pc := put_code hl5 ok5 jn_ok (framesF l)
        have ph := fun h0 => put_has (x := framesF l) ok5 hc5 jn_ok h0
        have hop : openF M5 = if ((putAll jn (framesF l)).f M5).2 ≠ 0 then (((putAll jn (framesF l)).f M5).1, [], ((putAll jn (framesF l)).f M5).2) else (((putAll jn (framesF l)).f M5).1, l, 0) := by
          rw [hopen, hrd', hall, if_neg (by simp), if_neg (by simp), if_pos hlt, htk]
        rw [hop]
        rcases pc with pc | pc
        · rw [if_neg (by simpa using pc)]
          have hh := ph pc
          exact .inr ⟨rfl, .inr ⟨rfl, hne⟩, pl, p2, p3.mono (by omega), hh.1, has_was hh, h.short⟩
        · rw [if_pos (by rw [pc]; decide)]
          exact .inl pc
end Go.Proofs.Ytpncnionnfomeaa.JourX
namespace Go.Proofs.Ytpncnionnfomeaa.JourX
open Go Go.Proofs Go.Proofs.Ytpncnionnfomeaa.Aw Go.Proofs.Ytpncnionnfomeaa.Num Go.Proofs.Ytpncnionnfomeaa.DiskM Go.Proofs.Ytpncnionnfomeaa.DiskA Go.Proofs.Ytpncnionnfomeaa.DiskK Go.Proofs.Ytpncnionnfomeaa.DiskC Go.Proofs.Ytpncnionnfomeaa.Disk Go.Proofs.Ytpncnionnfomeaa.FrameM
open Go.Proofs.Ytpncnionnfomeaa.DiskL (readP syncP syncNamesP namesP doomP createP appendP wbV len_wbV Sz sz_new crash_o op_o small_crash Live begin_live read_live create_live doomF_some Dm)
open Go.Proofs.Ytpncnionnfomeaa.Frame (allM putM sameM all_ok put_ok same_ok)
set_option linter.unusedSimpArgs false
set_option linter.unusedVariables false
def J7 : Fns := { fn := fun f => if f = 35 then some sameM else J0.fn f, mu := fun d => bif d == 54 then .seq else bif d == 58 then .seq else .no, hp := fun f => if f = 31 then some shownP else if f = 13 then some newP else if f = 32 then some fewP else if f = 25 then some doomP else if f = 33 then some addP else if f = 34 then some openP else if f = 17 then some crashP else J0.hp f, ord := fun i => if i = 18 then some [(0, 0), (1, 0), (3, 0), (4, 3), (5, 0), (2, 1), (6, 1), (7, 0)] else none, it := fun f => J0.it f }
theorem J7_fn (f : FuncId) : J7.fn f = (if f = 35 then some sameM else J0.fn f) := rfl
theorem J7_mu (d : Tmp) : J7.mu d = (bif d == 54 then .seq else bif d == 58 then .seq else .no) := rfl
theorem J7_hp (f : FuncId) : J7.hp f = (if f = 31 then some shownP else if f = 13 then some newP else if f = 32 then some fewP else if f = 25 then some doomP else if f = 33 then some addP else if f = 34 then some openP else if f = 17 then some crashP else J0.hp f) := rfl
theorem J7_ord (i : Nat) : J7.ord i = (if i = 18 then some [(0, 0), (1, 0), (3, 0), (4, 3), (5, 0), (2, 1), (6, 1), (7, 0)] else none) := rfl
theorem J7_it (f : FuncId) : J7.it f = (J0.it f) := rfl
theorem J7_hy (b : Nat) : J7.hy b = none := rfl
theorem J7ok : FnsOk Try.prog J7 := FnsOk.same (FnsOk.consP (FnsOk.consP (FnsOk.consP (FnsOk.consP (FnsOk.consP (FnsOk.consP (FnsOk.consP (FnsOk.cons J0ok _ _ same_ok Try.func35 (by decide) (fun h => by cases h)) _ _ crash_sound Try.func17 (by decide) (fun h => by cases h)) _ _ open_ok Try.func34 (by decide) (fun h => by cases h)) _ _ add_ok Try.func33 (by decide) (fun h => by cases h)) _ _ doom_ok Try.func25 (by decide) (fun h => by cases h)) _ _ few_ok Try.func32 (by decide) (fun h => by cases h)) _ _ new_ok Try.func13 (by decide) (fun h => by cases h)) _ _ shown_ok Try.func31 (by decide) (fun h => by cases h)) rfl rfl
attribute [bitvec_to_nat] J7_fn J7_mu J7_hp J7_ord J7_it J7_hy
def keepsP : PM := fun args L T K => ∃ (room : Int) (l : List Act), args = [.int .i64 room, .list 5 (l.map actV) none] ∧ l.length ≤ 9223372036854775807 ∧ (∀ a ∈ l, a.n ≤ 9223372036854775807) ∧ ∀ L' T', K (.bool true) L' T'
set_option maxHeartbeats 4000000 in
set_option maxRecDepth 4000 in
theorem keeps_ok : PSound Try.prog 8 keepsP := by
  refine psound tysOk J7ok mix Try.func8 rfl ?_
  intro args L T K hm
  obtain ⟨room, l, rfl, hlen, hnn, hK⟩ := hm
  simp (maxSteps:=2000000) only[bitvec_to_nat,seval,↓tcd,Try.f8]
  refine ⟨rfl, fun L1 T1 hst1 => ?_⟩
  simp (maxSteps:=2000000) only[bitvec_to_nat,seval,↓tcd]
  refine ⟨room, rfl, fun L2 w2 ho2 hd2 hst2 => ?_⟩
  obtain ⟨od, hod⟩ : ∃ o, w2.o = o := ⟨_, rfl⟩
  rw [hod]
  simp (maxSteps:=2000000) only[bitvec_to_nat,seval,↓tcd]
  refine ⟨l, rfl, hlen, fun L5 T5 hst5 => ?_⟩
  simp (maxSteps:=2000000) only[bitvec_to_nat,seval,↓tcd,List.length_map]
  have hd5 := hd2.frame hst5 (fun _ _ h => h) (fun _ _ h => h)
  have hg5 : Step noS noS L1 T1 w2.S w2.R L5 T5 := hst2.via hst5 (fun _ h => h.elim) (fun _ h => h.elim)
  have hF := few_len l
  have hT0 : T.length ≤ T1.length := hst1.tlen
  have hL0 : L.length ≤ L1.length := hst1.len
  have hfin : ∀ {S R L' T'}, Step noS noS L1 T1 S R L' T' → Step (fun _ => True) (fun _ => True) L T noS noS L' T' := fun g => ⟨Nat.le_trans hL0 g.len, fun _ _ h => absurd trivial h, fun _ h => h.elim, Nat.le_trans hT0 g.tlen, fun _ _ h => absurd trivial h, fun _ h => h.elim⟩
  refine awpLoop_intro (α := {q : Nat × List (List UInt8) × LL × TT × MD × Own // q.1 ≤ (few l).length ∧ q.1 ≤ 30 ∧ q.2.1.length ≤ q.1 ∧ q.2.2.2.2.2.o = od ∧ dAt q.2.2.1 q.2.2.2.1 q.2.2.2.2.1 q.2.2.2.2.2 ∧ Step noS noS L1 T1 q.2.2.2.2.2.S q.2.2.2.2.2.R q.2.2.1 q.2.2.2.1 ∧ Noted (140 * q.1) q.2.1 q.2.2.2.2.1})
    (fun q => ⟨[.any, .any, .any, .any, .bool false, .bool true, .box od 0, .list 1 (q.1.2.1.map bv) none, .any, .any, .any, .any, .any, .any, .any, .any, .any, .any, .any, .any, .list 5 ((few l).map actV) none, .int .i64 ((few l).length : Int), .int .i64 (q.1.1 : Int), .any, .any, .any, .any, .any, .any, .any, .any, .any, .any, .any, .any, .any, .any, .any, .any, .any, .any, .any, .any, .any, .any, .any, .any, .any, .any, .any, .any, .any, .any, .any, .any, .any, .any, .any, .any, .any, .any, .any, .any, .any, .any, .any, .any, .any, .any, .any, .any, .any, .any, .any, .any, .any, .any, .any], q.1.2.2.1, q.1.2.2.2.1⟩) (fun q => (few l).length - q.1.1)
    ⟨(0, [], L5, T5, DiskM.new room, w2), Nat.zero_le _, Nat.zero_le _, Nat.le_refl _, hod, hd5, hg5, noted_new room⟩ ?_ ?_ (fun q => ⟨Nat.le_trans hL0 q.2.2.2.2.2.2.1.len, Nat.le_trans hT0 q.2.2.2.2.2.2.1.tlen⟩)
  · simp (maxSteps:=2000000) only[bitvec_to_nat,seval,↓tcd,leLL_self]
    all_goals first | done | exact ⟨rfl, rfl⟩ | simp
  · rintro ⟨⟨i, ns, L6, T6, M, wd⟩, hi, hi30, hnl, hwd, hd, hg, hN⟩
    simp only at hi hi30 hnl hwd hd hg hN
    by_cases him : i < (few l).length
    · have hdc : decide ((i : Int) < ((few l).length : Int)) = true := decide_eq_true (by omega)
      obtain ⟨a, ha⟩ : ∃ a, (few l)[i]? = some a := ⟨_, List.getElem?_eq_getElem him⟩
      obtain ⟨ham, hal⟩ := few_mem (List.mem_of_getElem? ha)
      have hgd : ((few l).map actV).getD i .any = .agg [.int .u8 a.kind.toNat, .bytes a.b none, .int .i64 a.w.names, wbV a.w.bytes, .int .i64 a.n] := by
        rw [List.getD_eq_getElem?_getD, List.getElem?_map, ha]; rfl
      have hi1 : IntKind.i64.wrap ((i : Int) + 1) = ((i + 1 : Nat) : Int) := by rw [i64w (by omega) (by omega)]; omega
      unfold wbV at hgd
      have hnb := hnn a hal
      by_cases h30 : i < 30
      · have d30 : decide (30 ≤ (i : Int)) = false := decide_eq_false (by omega)
        obtain ⟨N, hmx, hN9⟩ : ∃ N : Nat, (if a.n < 0 then 0 else a.n) = (N : Int) ∧ N ≤ 9223372036854775807 := by
          split
          · exact ⟨0, rfl, by omega⟩
          · exact ⟨a.n.toNat, by omega, by omega⟩
        simp (maxSteps:=2000000) only[bitvec_to_nat,seval,↓tcd,hdc,hgd,d30,Int.toNat_natCast,List.length_map,hmx]
        refine ⟨⟨by omega, by omega⟩, ?_⟩
        obtain ⟨C, hC⟩ : ∃ x, ([.int .u8 a.kind.toNat, .bytes a.b none, .int .i64 a.w.names, .list 1 (a.w.bytes.map fun n => .int .i64 n) none, .int .i64 a.n] : List V) = x := ⟨_, rfl⟩
        have hc7 : (L6 ++ [C])[L6.length]? = some [.int .u8 a.kind.toNat, .bytes a.b none, .int .i64 a.w.names, .list 1 (a.w.bytes.map fun n => .int .i64 n) none, .int .i64 a.n] := by rw [hC]; simp
        rw [hC]
        have hd7 : dAt (L6 ++ [C]) T6 M wd := hd.frame ((Step.refl noS noS L6 T6).app [C]) (fun _ _ h => h) (fun _ _ h => h)
        have hg7 : Step noS noS L1 T1 wd.S wd.R (L6 ++ [C]) T6 := hg.app [C]
        have hS7 : ¬ wd.S L6.length := fun h => by have := hd.lt _ h; omega
        have hdm : M.doom ((N : Nat) : Int) = (Dm M N, 0) := by
          unfold MD.doom
          rw [if_neg (by omega)]
          rfl
        obtain ⟨o1, o2, o3, o4⟩ := open_step (n := N) (w := a.w) hN ham.1 (by omega) (by omega) hN9 ham.2
        obtain ⟨R, hR⟩ : ∃ R, (addD a.b).f (Dm M N) = R := ⟨_, rfl⟩
        rw [hR] at o2 o3 o4
        refine op_o hwd (doomF_some (by omega)) hd7 (hN.sz.small (by omega)) fun L8 T8 w8 ho8 hd8 hst8 => ?_
        simp only [hdm, code_V, Int.natCast_zero] at hd8 ⊢
        have hg8 := hg7.trans hst8
        have hc8 : L8[L6.length]? = some [.int .u8 a.kind.toNat, .bytes a.b none, .int .i64 a.w.names, .list 1 (a.w.bytes.map fun n => .int .i64 n) none, .int .i64 a.n] := by rw [hst8.keep L6.length (by simp) hS7]; exact hc7
        have hl8 := lt_at hc8
        have hS8 : ¬ w8.S L6.length := fun h => (hst8.own _ h).elim hS7 (fun h => by simp at h; omega)
        simp (maxSteps:=2000000) only[bitvec_to_nat,seval,↓tcd,hc8,hl8]
        refine ⟨_, w8, a.b, none, by rw [ho8], hd8, o1, fun L9 T9 w9 ho9 hd9 hst9 => ?_⟩
        rw [ho8] at ho9
        rw [hR] at hd9 ⊢
        have hg9 := hg8.trans hst9
        have hc9 : L9[L6.length]? = some [.int .u8 a.kind.toNat, .bytes a.b none, .int .i64 a.w.names, .list 1 (a.w.bytes.map fun n => .int .i64 n) none, .int .i64 a.n] := by rw [hst9.keep L6.length hl8 hS8]; exact hc8
        have hl9 := lt_at hc9
        have hS9 : ¬ w9.S L6.length := fun h => (hst9.own _ h).elim hS8 (fun h => by omega)
        obtain ⟨e, he⟩ : ∃ e, R.2 = e := ⟨_, rfl⟩
        rw [he] at o4 ⊢
        simp only [code_V]
        simp (maxSteps:=2000000) only[bitvec_to_nat,seval,↓tcd,hc9,hl9]
        refine crash_o ho9 a.w.bytes (.inr ⟨none, rfl⟩) (by have := ham.2; omega) hd9 o2 fun L10 T10 w10 ho10 hd10 hst10 => ?_
        have hg10 := hg9.trans hst10
        have hc10 : L10[L6.length]? = some [.int .u8 a.kind.toNat, .bytes a.b none, .int .i64 a.w.names, .list 1 (a.w.bytes.map fun n => .int .i64 n) none, .int .i64 a.n] := by rw [hst10.keep L6.length hl9 hS9]; exact hc9
        have hl10 := lt_at hc10
        have hS10 : ¬ w10.S L6.length := fun h => (hst10.own _ h).elim hS9 (fun h => by omega)
        change dAt L10 T10 (R.1.crash a.w) w10 at hd10
        obtain ⟨M5, hM5⟩ : ∃ M5, R.1.crash a.w = M5 := ⟨_, rfl⟩
        rw [hM5] at hd10 o3 o4
        simp (maxSteps:=2000000) only[bitvec_to_nat,seval,↓tcd,code_V,Int.natCast_zero]
        refine ⟨M5, w10, by rw [ho10], hd10, o3, fun L11 T11 w11 ho11 hd11 hst11 => ?_⟩
        rw [ho10] at ho11
        have hg11 := hg10.trans hst11
        have hc11 : L11[L6.length]? = some [.int .u8 a.kind.toNat, .bytes a.b none, .int .i64 a.w.names, .list 1 (a.w.bytes.map fun n => .int .i64 n) none, .int .i64 a.n] := by rw [hst11.keep L6.length hl10 hS10]; exact hc10
        have hl11 := lt_at hc11
        obtain ⟨O, hO⟩ : ∃ O, openF M5 = O := ⟨_, rfl⟩
        rw [hO] at o4 hd11 ⊢
        obtain ⟨MO, out, f⟩ := O
        simp only at o4 hd11 ⊢
        rcases o4 with rfl | ⟨rfl, ho, hNO⟩
        · simp only [Int.cast_ofNat_Int]
          simp (maxSteps:=2000000) only[bitvec_to_nat,seval,↓tcd,Int.cast_ofNat_Int]
          exact ret_of (hfin hg11) (hK _ _)
        · simp only [Int.natCast_zero]
          have hmore : List.map bv ns ++ [V.bytes a.b none] = (ns ++ [a.b]).map bv := by simp [bv]
          have hT11 := hg11.tlen
          rcases ho with rfl | ⟨rfl, hez⟩
          · simp (maxSteps:=2000000) only[bitvec_to_nat,seval,↓tcd,hc11,hl11,hmore,sameM,unbv_map,eq_self,hi1]
            have hst : Step noS noS L11 T11 noS noS L11 ((T11 ++ [((List.map bv ns).length, 32)]).set T11.length ((List.map bv (ns ++ [a.b])).length, 32)) := ((Step.refl noS noS L11 T11).tapp _).tset (k := T11.length) (.inr (Nat.le_refl _)) _
            refine ⟨by kernel_rfl, by unfold maxBytes; rw [List.length_map]; omega, by unfold maxBytes; rw [List.length_map]; omega, ⟨bv_clean _, by rw [List.length_map]; simp; omega⟩, ⟨(i + 1, ns ++ [a.b], L11, (T11 ++ [((List.map bv ns).length, 32)]).set T11.length ((List.map bv (ns ++ [a.b])).length, 32), MO, w11), him, by omega, by simp; omega, ho11, hd11.frame hst (fun _ _ h => h) (fun _ _ h => h), hg11.via hst (fun _ h => h.elim) (fun _ h => h.elim), ?_⟩, ?_, by simp only; omega⟩
            · exact hNO
            · simp (maxSteps:=2000000) only[bitvec_to_nat,seval,↓tcd,leLL_self]
          · have de : decide ((e : Int) = 0) = false := decide_eq_false (by omega)
            have dn : decide (out = out ++ [a.b]) = false := decide_eq_false (fun h => by have := congrArg List.length h; simp at this)
            simp (maxSteps:=2000000) only[bitvec_to_nat,seval,↓tcd,hc11,hl11,hmore,sameM,unbv_map,eq_self,de,dn,hi1]
            have hst : Step noS noS L11 T11 noS noS L11 ((T11 ++ [((List.map bv out).length, 32)]).set T11.length ((List.map bv (out ++ [a.b])).length, 32)) := ((Step.refl noS noS L11 T11).tapp _).tset (k := T11.length) (.inr (Nat.le_refl _)) _
            refine ⟨by kernel_rfl, by unfold maxBytes; rw [List.length_map]; omega, by unfold maxBytes; rw [List.length_map]; omega, ⟨⟨bv_clean _, bv_clean _⟩, by rw [List.length_map]; omega⟩, ⟨bv_clean _, by rw [List.length_map]; omega⟩, ⟨(i + 1, out, L11, (T11 ++ [((List.map bv out).length, 32)]).set T11.length ((List.map bv (out ++ [a.b])).length, 32), MO, w11), him, by omega, by simp; omega, ho11, hd11.frame hst (fun _ _ h => h) (fun _ _ h => h), hg11.via hst (fun _ h => h.elim) (fun _ h => h.elim), ?_⟩, ?_, by simp only; omega⟩
            · exact hNO
            · simp (maxSteps:=2000000) only[bitvec_to_nat,seval,↓tcd,leLL_self]
      · have d30 : decide (30 ≤ (i : Int)) = true := decide_eq_true (by omega)
        simp (maxSteps:=2000000) only[bitvec_to_nat,seval,↓tcd,hdc,hgd,d30,Int.toNat_natCast,List.length_map]
        refine ⟨⟨by omega, by omega⟩, ?_⟩
        exact ret_of (hfin (hg.app _)) (hK _ _)
    · have hdc : decide ((i : Int) < ((few l).length : Int)) = false := decide_eq_false (by omega)
      simp (maxSteps:=2000000) only[bitvec_to_nat,seval,↓tcd,hdc]
      exact ret_of (hfin hg) (hK _ _)
end Go.Proofs.Ytpncnionnfomeaa.JourX
namespace Go.Proofs.Ytpncnionnfomeaa.JourO
open Go Go.Proofs Go.ChangeShapes Go.RowKit Go.Proofs.Ytpncnionnfomeaa.Aw Go.Proofs.Ytpncnionnfomeaa.DiskM Go.Proofs.Ytpncnionnfomeaa.DiskO
open Go.Proofs.Ytpncnionnfomeaa.DiskL (wbV)
open Go.Proofs.Ytpncnionnfomeaa.JourX (actV)
set_option linter.unusedVariables false
set_option linter.unusedSimpArgs false
theorem len5 : ∀ {l : List Value}, l.length = 5 → ∃ a b c d e, l = [a, b, c, d, e]
  | [a, b, c, d, e], _ => ⟨a, b, c, d, e, rfl⟩
section
variable {H : Type} {enc : TypeId × Value → H} {w : World} {base : Nat} {held : Bool}
theorem cact : Try.prog.cellsOf 60 = 5 := by kernel_rfl
theorem act_open {n : Nat} {cs : List Value} {x : DataW H × List MemPlace} (h : DataW.trod enc Try.prog w base (fun _ => true) held n 60 cs = some x) :
    ∃ a : JourX.Act, (Lit.int .i64 a.n).wf = true ∧ CellsAre w (actV a) cs := by
  obtain ⟨xs, m, _, _, hl, hxs, hall⟩ := DataW.trod_struct Try.underlying60 h
  rw [cact] at hl
  obtain ⟨c0, c1, c2, c3, c4, rfl⟩ := len5 hl
  have hn : xs.length = 4 := hxs
  obtain ⟨y0, e0⟩ := some_of (hall 0 _ rfl) (by omega)
  obtain ⟨y1, e1⟩ := some_of (hall 1 _ rfl) (by omega)
  obtain ⟨y2, e2⟩ := some_of (hall 2 _ rfl) (by omega)
  obtain ⟨y3, e3⟩ := some_of (hall 3 _ rfl) (by omega)
  simp only [List.getElem_toArray, List.getElem_cons_zero, List.getElem_cons_succ, cu8, cint, cbs, cwr, List.drop_zero, List.drop_succ_cons, List.take_succ_cons, List.take_zero] at e0 e1 e2 e3
  obtain ⟨k0, h0, _, w0⟩ := DataW.trod_int Try.underlying5 e0
  obtain ⟨A2, len2, cap2, l2, h2, _, r2⟩ := bytes_open Try.underlying32 Try.underlying5 cu8 e1
  obtain ⟨k4, A4, len4, cap4, l4, h4, _, _, r4⟩ := wreck_open e2
  obtain ⟨k5, h5, _, w5⟩ := DataW.trod_int Try.underlying3 e3
  simp only [List.cons.injEq, and_true] at h0 h2 h4 h5
  obtain ⟨h4, h6⟩ := h4
  subst h0 h2 h4 h5 h6
  have hk0 : ((UInt8.ofNat k0.toNat).toNat : Int) = k0 := by
    simp [Lit.wf, IntKind.min, IntKind.max, IntKind.signed, IntKind.bits] at w0
    simp only [UInt8.toNat_ofNat']
    omega
  refine ⟨⟨UInt8.ofNat k0.toNat, l2, ⟨k4, l4⟩, k5⟩, w5, rfl, fun j hj hj' => ?_⟩
  have hj5 : j < 5 := hj
  match j, hj5 with
  | 0, _ => exact ⟨by show Rel _ (.int .u8 ((UInt8.ofNat k0.toNat).toNat : Int)) _; rw [hk0]; exact .int _ _, rfl⟩
  | 1, _ => exact ⟨r2, rfl⟩
  | 2, _ => exact ⟨.int _ _, rfl⟩
  | 3, _ => exact ⟨r4, rfl⟩
  | 4, _ => exact ⟨.int _ _, rfl⟩
theorem acts_open {n : Nat} {cs : List Value} {x : DataW H × List MemPlace} (h : DataW.trod enc Try.prog w base (fun _ => true) held n 56 cs = some x) :
    ∃ (a : Option Addr) (len cap : Nat) (l : List JourX.Act), cs = [.slice a len cap] ∧ l.length = len ∧ len ≤ maxLen ∧ (∀ g ∈ l, (Lit.int .i64 g.n).wf = true) ∧ Rel (K0 w) (.list 5 (l.map actV) none) (.slice a len cap) :=
  slices_open Try.underlying56 cact (by omega) actV (fun g => (Lit.int .i64 g.n).wf = true) (fun g => rfl) (fun n cs x hx => act_open hx) h
end
end Go.Proofs.Ytpncnionnfomeaa.JourO
