import Derived.Test.YtpncnionnfomeaaAwX
import Derived.Test.YtpncnionnfomeaaFrameP
import Derived.Test.YtpncnionnfomeaaFrameM
import Derived.Test.YtpncnionnfomeaaPlaceL
import Derived.Test.YtpncnionnfomeaaPlaceZ
import Derived.Test.YtpncnionnfomeaaDiskO
namespace Go.Proofs.Ytpncnionnfomeaa.JourX
open Go Go.Proofs Go.Proofs.Ytpncnionnfomeaa.Aw Go.Proofs.Ytpncnionnfomeaa.Num Go.Proofs.Ytpncnionnfomeaa.DiskM Go.Proofs.Ytpncnionnfomeaa.DiskA Go.Proofs.Ytpncnionnfomeaa.DiskK Go.Proofs.Ytpncnionnfomeaa.DiskC Go.Proofs.Ytpncnionnfomeaa.Disk Go.Proofs.Ytpncnionnfomeaa.FrameM Go.Proofs.Ytpncnionnfomeaa.FrameM
open Go.Proofs.Ytpncnionnfomeaa.DiskL (readP syncP syncNamesP namesP doomP createP appendP wbV len_wbV Sz sz_new crash_o op_o small_crash)
open Go.Proofs.Ytpncnionnfomeaa.Frame (allM putM sameM all_ok put_ok same_ok)
open Go.Proofs.Ytpncnionnfomeaa.Place (Do Makes putAll growAll dropD putFP growFP makes_put makes_grow makes_syncNames)
set_option linter.unusedSimpArgs false
set_option linter.unusedVariables false
def I25 : TyI := ⟨.struct [(0, 3), (1, 23)], 2, 32, (.agg #[(.int .i64 0), (.slice none 0 0)])⟩
def I60 : TyI := ⟨.struct [(0, 5), (1, 32), (2, 25), (4, 3)], 5, 72, (.agg #[(.int .u8 0), (.slice none 0 0), (.int .i64 0), (.slice none 0 0), (.int .i64 0)])⟩
def I77 : TyI := ⟨.struct [(0, 3), (1, 3), (2, 74), (3, 74), (4, 75), (5, 4), (6, 4), (7, 3)], 8, 72, (.agg #[(.int .i64 0), (.int .i64 0), (.map none), (.map none), (.slice none 0 0), (.bool false), (.bool false), (.int .i64 0)])⟩
def I88 : TyI := ⟨.struct [(0, 9), (1, 9), (2, 86)], 3, 40, (.agg #[(.string .empty), (.string .empty), (.pointer none)])⟩
def tys : Tys := fun t => if t = 3 then some ⟨.int .i64, 1, 8, (.int .i64 0)⟩ else if t = 4 then some ⟨.bool, 1, 1, (.bool false)⟩ else if t = 5 then some ⟨.int .u8, 1, 1, (.int .u8 0)⟩ else if t = 9 then some ⟨.str, 1, 16, (.string .empty)⟩ else if t = 23 then some ⟨.slice 3, 1, 24, (.slice none 0 0)⟩ else if t = 25 then some I25 else if t = 27 then some ⟨.ptr 77, 1, 8, (.pointer none)⟩ else if t = 32 then some ⟨.slice 5, 1, 24, (.slice none 0 0)⟩ else if t = 37 then some ⟨.int .i64, 1, 8, (.int .i64 0)⟩ else if t = 56 then some ⟨.slice 60, 1, 24, (.slice none 0 0)⟩ else if t = 57 then some ⟨.slice 32, 1, 24, (.slice none 0 0)⟩ else if t = 60 then some I60 else if t = 71 then some ⟨.slice 72, 1, 24, (.slice none 0 0)⟩ else if t = 72 then some ⟨.int .u16, 1, 2, (.int .u16 0)⟩ else if t = 74 then some ⟨.map 9 86, 1, 8, (.map none)⟩ else if t = 75 then some ⟨.slice 88, 1, 24, (.slice none 0 0)⟩ else if t = 77 then some I77 else if t = 86 then some ⟨.ptr 94, 1, 8, (.pointer none)⟩ else if t = 88 then some I88 else none
theorem tysOk : TyOk Try.prog tys := by
  refine TyOk.cons ?_ 3 _ (by kernel_rfl) (by kernel_rfl)
  refine TyOk.cons ?_ 4 _ (by kernel_rfl) (by kernel_rfl)
  refine TyOk.cons ?_ 5 _ (by kernel_rfl) (by kernel_rfl)
  refine TyOk.cons ?_ 9 _ (by kernel_rfl) (by kernel_rfl)
  refine TyOk.cons ?_ 23 _ (by kernel_rfl) (by kernel_rfl)
  refine TyOk.cons ?_ 25 _ (by kernel_rfl) (by kernel_rfl)
  refine TyOk.cons ?_ 27 _ (by kernel_rfl) (by kernel_rfl)
  refine TyOk.cons ?_ 32 _ (by kernel_rfl) (by kernel_rfl)
  refine TyOk.cons ?_ 37 _ (by kernel_rfl) (by kernel_rfl)
  refine TyOk.cons ?_ 56 _ (by kernel_rfl) (by kernel_rfl)
  refine TyOk.cons ?_ 57 _ (by kernel_rfl) (by kernel_rfl)
  refine TyOk.cons ?_ 60 _ (by kernel_rfl) (by kernel_rfl)
  refine TyOk.cons ?_ 71 _ (by kernel_rfl) (by kernel_rfl)
  refine TyOk.cons ?_ 72 _ (by kernel_rfl) (by kernel_rfl)
  refine TyOk.cons ?_ 74 _ (by kernel_rfl) (by kernel_rfl)
  refine TyOk.cons ?_ 75 _ (by kernel_rfl) (by kernel_rfl)
  refine TyOk.cons ?_ 77 _ (by kernel_rfl) (by kernel_rfl)
  refine TyOk.cons ?_ 86 _ (by kernel_rfl) (by kernel_rfl)
  refine TyOk.cons ?_ 88 _ (by kernel_rfl) (by kernel_rfl)
  exact TyOk.nil _
theorem mix : Try.prog.follows .mixedOrders = true := by kernel_rfl
theorem ty3 : tys 3 = some ⟨.int .i64, 1, 8, (.int .i64 0)⟩ := rfl
theorem tk3 : kindV tys 3 = some (.int .i64) := rfl
theorem ts3 : sizeV tys 3 = 1 := rfl
theorem ta3 : TyI.isAgg ⟨.int .i64, 1, 8, (.int .i64 0)⟩ = false := rfl
theorem tu3 : isU8 ⟨.int .i64, 1, 8, (.int .i64 0)⟩ = false := rfl
theorem tn3 : notIntK tys 3 = false := rfl
theorem tr3 : isStrK tys 3 = false := rfl
theorem tz3 : zeroOk ⟨.int .i64, 1, 8, (.int .i64 0)⟩ = true := by kernel_rfl
theorem tv3 : zeroU8 ⟨.int .i64, 1, 8, (.int .i64 0)⟩ = false := rfl
theorem td3 : TyI.zeroV ⟨.int .i64, 1, 8, (.int .i64 0)⟩ = V.ofV1 (.int .i64 0) := rfl
theorem ty4 : tys 4 = some ⟨.bool, 1, 1, (.bool false)⟩ := rfl
theorem tk4 : kindV tys 4 = some (.bool) := rfl
theorem ts4 : sizeV tys 4 = 1 := rfl
theorem ta4 : TyI.isAgg ⟨.bool, 1, 1, (.bool false)⟩ = false := rfl
theorem tu4 : isU8 ⟨.bool, 1, 1, (.bool false)⟩ = false := rfl
theorem tn4 : notIntK tys 4 = true := rfl
theorem tr4 : isStrK tys 4 = false := rfl
theorem tz4 : zeroOk ⟨.bool, 1, 1, (.bool false)⟩ = true := by kernel_rfl
theorem tv4 : zeroU8 ⟨.bool, 1, 1, (.bool false)⟩ = false := rfl
theorem td4 : TyI.zeroV ⟨.bool, 1, 1, (.bool false)⟩ = V.ofV1 (.bool false) := rfl
theorem ty5 : tys 5 = some ⟨.int .u8, 1, 1, (.int .u8 0)⟩ := rfl
theorem tk5 : kindV tys 5 = some (.int .u8) := rfl
theorem ts5 : sizeV tys 5 = 1 := rfl
theorem ta5 : TyI.isAgg ⟨.int .u8, 1, 1, (.int .u8 0)⟩ = false := rfl
theorem tu5 : isU8 ⟨.int .u8, 1, 1, (.int .u8 0)⟩ = true := rfl
theorem tn5 : notIntK tys 5 = false := rfl
theorem tr5 : isStrK tys 5 = false := rfl
theorem tz5 : zeroOk ⟨.int .u8, 1, 1, (.int .u8 0)⟩ = true := by kernel_rfl
theorem tv5 : zeroU8 ⟨.int .u8, 1, 1, (.int .u8 0)⟩ = true := rfl
theorem td5 : TyI.zeroV ⟨.int .u8, 1, 1, (.int .u8 0)⟩ = V.ofV1 (.int .u8 0) := rfl
theorem ty9 : tys 9 = some ⟨.str, 1, 16, (.string .empty)⟩ := rfl
theorem tk9 : kindV tys 9 = some (.str) := rfl
theorem ts9 : sizeV tys 9 = 1 := rfl
theorem ta9 : TyI.isAgg ⟨.str, 1, 16, (.string .empty)⟩ = false := rfl
theorem tu9 : isU8 ⟨.str, 1, 16, (.string .empty)⟩ = false := rfl
theorem tn9 : notIntK tys 9 = true := rfl
theorem tr9 : isStrK tys 9 = true := rfl
theorem tz9 : zeroOk ⟨.str, 1, 16, (.string .empty)⟩ = true := by kernel_rfl
theorem tv9 : zeroU8 ⟨.str, 1, 16, (.string .empty)⟩ = false := rfl
theorem td9 : TyI.zeroV ⟨.str, 1, 16, (.string .empty)⟩ = V.ofV1 (.string .empty) := rfl
theorem ty23 : tys 23 = some ⟨.slice 3, 1, 24, (.slice none 0 0)⟩ := rfl
theorem tk23 : kindV tys 23 = some (.slice 3) := rfl
theorem ts23 : sizeV tys 23 = 1 := rfl
theorem ta23 : TyI.isAgg ⟨.slice 3, 1, 24, (.slice none 0 0)⟩ = false := rfl
theorem tb23 : isBytes tys 23 = false := rfl
theorem te23 : elemI tys 23 = some (3, ⟨.int .i64, 1, 8, (.int .i64 0)⟩) := rfl
theorem tu23 : isU8 ⟨.slice 3, 1, 24, (.slice none 0 0)⟩ = false := rfl
theorem tn23 : notIntK tys 23 = true := rfl
theorem tr23 : isStrK tys 23 = false := rfl
theorem tz23 : zeroOk ⟨.slice 3, 1, 24, (.slice none 0 0)⟩ = true := by kernel_rfl
theorem tv23 : zeroU8 ⟨.slice 3, 1, 24, (.slice none 0 0)⟩ = false := rfl
theorem td23 : TyI.zeroV ⟨.slice 3, 1, 24, (.slice none 0 0)⟩ = V.ofV1 (.slice none 0 0) := rfl
theorem ty25 : tys 25 = some I25 := rfl
theorem tk25 : kindV tys 25 = some (.struct [(0, 3), (1, 23)]) := rfl
theorem ts25 : sizeV tys 25 = 2 := rfl
theorem ta25 : TyI.isAgg I25 = true := rfl
theorem tg25 : I25.size = 2 ∧ I25.kind = .struct [(0, 3), (1, 23)] ∧ I25.bytes = 32 ∧ I25.zero = (.agg #[(.int .i64 0), (.slice none 0 0)]) := ⟨rfl, rfl, rfl, rfl⟩
theorem tu25 : isU8 I25 = false := rfl
theorem tn25 : notIntK tys 25 = true := rfl
theorem tr25 : isStrK tys 25 = false := rfl
theorem tz25 : zeroOk I25 = true := by kernel_rfl
theorem tv25 : zeroU8 I25 = false := rfl
theorem tc25 : V.ofV (.agg #[(.int .i64 0), (.slice none 0 0)]) = .agg [V.ofV1 (.int .i64 0), V.ofV1 (.slice none 0 0)] := by kernel_rfl
theorem tw25 : Value.oneCell' (.agg #[(.int .i64 0), (.slice none 0 0)]) = false := rfl
theorem tx25 : (#[(.int .i64 0), (.slice none 0 0)] : Array Value).all (fun x => x.oneCell') 0 2 = true := by kernel_rfl
theorem td25 : TyI.zeroV I25 = .agg [V.ofV1 (.int .i64 0), V.ofV1 (.slice none 0 0)] := by kernel_rfl
theorem tp25_0 : placeV tys [(0, 3), (1, 23)] 0 = some (0, 1) := rfl
theorem tp25_1 : placeV tys [(0, 3), (1, 23)] 1 = some (1, 1) := rfl
theorem tq25 : ([(0, 3), (1, 23)].all (fun f => (tys f.2).isSome)) = true := rfl
theorem ty27 : tys 27 = some ⟨.ptr 77, 1, 8, (.pointer none)⟩ := rfl
theorem tk27 : kindV tys 27 = some (.ptr 77) := rfl
theorem ts27 : sizeV tys 27 = 1 := rfl
theorem ta27 : TyI.isAgg ⟨.ptr 77, 1, 8, (.pointer none)⟩ = false := rfl
theorem tu27 : isU8 ⟨.ptr 77, 1, 8, (.pointer none)⟩ = false := rfl
theorem tn27 : notIntK tys 27 = true := rfl
theorem tr27 : isStrK tys 27 = false := rfl
theorem tz27 : zeroOk ⟨.ptr 77, 1, 8, (.pointer none)⟩ = true := by kernel_rfl
theorem tv27 : zeroU8 ⟨.ptr 77, 1, 8, (.pointer none)⟩ = false := rfl
theorem td27 : TyI.zeroV ⟨.ptr 77, 1, 8, (.pointer none)⟩ = V.ofV1 (.pointer none) := rfl
theorem ty32 : tys 32 = some ⟨.slice 5, 1, 24, (.slice none 0 0)⟩ := rfl
theorem tk32 : kindV tys 32 = some (.slice 5) := rfl
theorem ts32 : sizeV tys 32 = 1 := rfl
theorem ta32 : TyI.isAgg ⟨.slice 5, 1, 24, (.slice none 0 0)⟩ = false := rfl
theorem tb32 : isBytes tys 32 = true := rfl
theorem te32 : elemI tys 32 = some (5, ⟨.int .u8, 1, 1, (.int .u8 0)⟩) := rfl
theorem tu32 : isU8 ⟨.slice 5, 1, 24, (.slice none 0 0)⟩ = false := rfl
theorem tn32 : notIntK tys 32 = true := rfl
theorem tr32 : isStrK tys 32 = false := rfl
theorem tz32 : zeroOk ⟨.slice 5, 1, 24, (.slice none 0 0)⟩ = true := by kernel_rfl
theorem tv32 : zeroU8 ⟨.slice 5, 1, 24, (.slice none 0 0)⟩ = false := rfl
theorem td32 : TyI.zeroV ⟨.slice 5, 1, 24, (.slice none 0 0)⟩ = V.ofV1 (.slice none 0 0) := rfl
theorem ty37 : tys 37 = some ⟨.int .i64, 1, 8, (.int .i64 0)⟩ := rfl
theorem tk37 : kindV tys 37 = some (.int .i64) := rfl
theorem ts37 : sizeV tys 37 = 1 := rfl
theorem ta37 : TyI.isAgg ⟨.int .i64, 1, 8, (.int .i64 0)⟩ = false := rfl
theorem tu37 : isU8 ⟨.int .i64, 1, 8, (.int .i64 0)⟩ = false := rfl
theorem tn37 : notIntK tys 37 = false := rfl
theorem tr37 : isStrK tys 37 = false := rfl
theorem tz37 : zeroOk ⟨.int .i64, 1, 8, (.int .i64 0)⟩ = true := by kernel_rfl
theorem tv37 : zeroU8 ⟨.int .i64, 1, 8, (.int .i64 0)⟩ = false := rfl
theorem td37 : TyI.zeroV ⟨.int .i64, 1, 8, (.int .i64 0)⟩ = V.ofV1 (.int .i64 0) := rfl
theorem ty56 : tys 56 = some ⟨.slice 60, 1, 24, (.slice none 0 0)⟩ := rfl
theorem tk56 : kindV tys 56 = some (.slice 60) := rfl
theorem ts56 : sizeV tys 56 = 1 := rfl
theorem ta56 : TyI.isAgg ⟨.slice 60, 1, 24, (.slice none 0 0)⟩ = false := rfl
theorem tb56 : isBytes tys 56 = false := rfl
theorem te56 : elemI tys 56 = some (60, I60) := rfl
theorem tu56 : isU8 ⟨.slice 60, 1, 24, (.slice none 0 0)⟩ = false := rfl
theorem tn56 : notIntK tys 56 = true := rfl
theorem tr56 : isStrK tys 56 = false := rfl
theorem tz56 : zeroOk ⟨.slice 60, 1, 24, (.slice none 0 0)⟩ = true := by kernel_rfl
theorem tv56 : zeroU8 ⟨.slice 60, 1, 24, (.slice none 0 0)⟩ = false := rfl
theorem td56 : TyI.zeroV ⟨.slice 60, 1, 24, (.slice none 0 0)⟩ = V.ofV1 (.slice none 0 0) := rfl
theorem ty57 : tys 57 = some ⟨.slice 32, 1, 24, (.slice none 0 0)⟩ := rfl
theorem tk57 : kindV tys 57 = some (.slice 32) := rfl
theorem ts57 : sizeV tys 57 = 1 := rfl
theorem ta57 : TyI.isAgg ⟨.slice 32, 1, 24, (.slice none 0 0)⟩ = false := rfl
theorem tb57 : isBytes tys 57 = false := rfl
theorem te57 : elemI tys 57 = some (32, ⟨.slice 5, 1, 24, (.slice none 0 0)⟩) := rfl
theorem tu57 : isU8 ⟨.slice 32, 1, 24, (.slice none 0 0)⟩ = false := rfl
theorem tn57 : notIntK tys 57 = true := rfl
theorem tr57 : isStrK tys 57 = false := rfl
theorem tz57 : zeroOk ⟨.slice 32, 1, 24, (.slice none 0 0)⟩ = true := by kernel_rfl
theorem tv57 : zeroU8 ⟨.slice 32, 1, 24, (.slice none 0 0)⟩ = false := rfl
theorem td57 : TyI.zeroV ⟨.slice 32, 1, 24, (.slice none 0 0)⟩ = V.ofV1 (.slice none 0 0) := rfl
theorem ty60 : tys 60 = some I60 := rfl
theorem tk60 : kindV tys 60 = some (.struct [(0, 5), (1, 32), (2, 25), (4, 3)]) := rfl
theorem ts60 : sizeV tys 60 = 5 := rfl
theorem ta60 : TyI.isAgg I60 = true := rfl
theorem tg60 : I60.size = 5 ∧ I60.kind = .struct [(0, 5), (1, 32), (2, 25), (4, 3)] ∧ I60.bytes = 72 ∧ I60.zero = (.agg #[(.int .u8 0), (.slice none 0 0), (.int .i64 0), (.slice none 0 0), (.int .i64 0)]) := ⟨rfl, rfl, rfl, rfl⟩
theorem tu60 : isU8 I60 = false := rfl
theorem tn60 : notIntK tys 60 = true := rfl
theorem tr60 : isStrK tys 60 = false := rfl
theorem tz60 : zeroOk I60 = true := by kernel_rfl
theorem tv60 : zeroU8 I60 = false := rfl
theorem tc60 : V.ofV (.agg #[(.int .u8 0), (.slice none 0 0), (.int .i64 0), (.slice none 0 0), (.int .i64 0)]) = .agg [V.ofV1 (.int .u8 0), V.ofV1 (.slice none 0 0), V.ofV1 (.int .i64 0), V.ofV1 (.slice none 0 0), V.ofV1 (.int .i64 0)] := by kernel_rfl
theorem tw60 : Value.oneCell' (.agg #[(.int .u8 0), (.slice none 0 0), (.int .i64 0), (.slice none 0 0), (.int .i64 0)]) = false := rfl
theorem tx60 : (#[(.int .u8 0), (.slice none 0 0), (.int .i64 0), (.slice none 0 0), (.int .i64 0)] : Array Value).all (fun x => x.oneCell') 0 5 = true := by kernel_rfl
theorem td60 : TyI.zeroV I60 = .agg [V.ofV1 (.int .u8 0), V.ofV1 (.slice none 0 0), V.ofV1 (.int .i64 0), V.ofV1 (.slice none 0 0), V.ofV1 (.int .i64 0)] := by kernel_rfl
theorem tp60_0 : placeV tys [(0, 5), (1, 32), (2, 25), (4, 3)] 0 = some (0, 1) := rfl
theorem tp60_1 : placeV tys [(0, 5), (1, 32), (2, 25), (4, 3)] 1 = some (1, 1) := rfl
theorem tp60_2 : placeV tys [(0, 5), (1, 32), (2, 25), (4, 3)] 2 = some (2, 2) := rfl
theorem tp60_3 : placeV tys [(0, 5), (1, 32), (2, 25), (4, 3)] 3 = some (4, 1) := rfl
theorem tq60 : ([(0, 5), (1, 32), (2, 25), (4, 3)].all (fun f => (tys f.2).isSome)) = true := rfl
theorem ty71 : tys 71 = some ⟨.slice 72, 1, 24, (.slice none 0 0)⟩ := rfl
theorem tk71 : kindV tys 71 = some (.slice 72) := rfl
theorem ts71 : sizeV tys 71 = 1 := rfl
theorem ta71 : TyI.isAgg ⟨.slice 72, 1, 24, (.slice none 0 0)⟩ = false := rfl
theorem tb71 : isBytes tys 71 = false := rfl
theorem te71 : elemI tys 71 = some (72, ⟨.int .u16, 1, 2, (.int .u16 0)⟩) := rfl
theorem tu71 : isU8 ⟨.slice 72, 1, 24, (.slice none 0 0)⟩ = false := rfl
theorem tn71 : notIntK tys 71 = true := rfl
theorem tr71 : isStrK tys 71 = false := rfl
theorem tz71 : zeroOk ⟨.slice 72, 1, 24, (.slice none 0 0)⟩ = true := by kernel_rfl
theorem tv71 : zeroU8 ⟨.slice 72, 1, 24, (.slice none 0 0)⟩ = false := rfl
theorem td71 : TyI.zeroV ⟨.slice 72, 1, 24, (.slice none 0 0)⟩ = V.ofV1 (.slice none 0 0) := rfl
theorem ty72 : tys 72 = some ⟨.int .u16, 1, 2, (.int .u16 0)⟩ := rfl
theorem tk72 : kindV tys 72 = some (.int .u16) := rfl
theorem ts72 : sizeV tys 72 = 1 := rfl
theorem ta72 : TyI.isAgg ⟨.int .u16, 1, 2, (.int .u16 0)⟩ = false := rfl
theorem tu72 : isU8 ⟨.int .u16, 1, 2, (.int .u16 0)⟩ = false := rfl
theorem tn72 : notIntK tys 72 = false := rfl
theorem tr72 : isStrK tys 72 = false := rfl
theorem tz72 : zeroOk ⟨.int .u16, 1, 2, (.int .u16 0)⟩ = true := by kernel_rfl
theorem tv72 : zeroU8 ⟨.int .u16, 1, 2, (.int .u16 0)⟩ = false := rfl
theorem td72 : TyI.zeroV ⟨.int .u16, 1, 2, (.int .u16 0)⟩ = V.ofV1 (.int .u16 0) := rfl
theorem ty74 : tys 74 = some ⟨.map 9 86, 1, 8, (.map none)⟩ := rfl
theorem tk74 : kindV tys 74 = some (.map 9 86) := rfl
theorem ts74 : sizeV tys 74 = 1 := rfl
theorem ta74 : TyI.isAgg ⟨.map 9 86, 1, 8, (.map none)⟩ = false := rfl
theorem tu74 : isU8 ⟨.map 9 86, 1, 8, (.map none)⟩ = false := rfl
theorem tn74 : notIntK tys 74 = true := rfl
theorem tr74 : isStrK tys 74 = false := rfl
theorem tz74 : zeroOk ⟨.map 9 86, 1, 8, (.map none)⟩ = true := by kernel_rfl
theorem tv74 : zeroU8 ⟨.map 9 86, 1, 8, (.map none)⟩ = false := rfl
theorem td74 : TyI.zeroV ⟨.map 9 86, 1, 8, (.map none)⟩ = V.ofV1 (.map none) := rfl
theorem ty75 : tys 75 = some ⟨.slice 88, 1, 24, (.slice none 0 0)⟩ := rfl
theorem tk75 : kindV tys 75 = some (.slice 88) := rfl
theorem ts75 : sizeV tys 75 = 1 := rfl
theorem ta75 : TyI.isAgg ⟨.slice 88, 1, 24, (.slice none 0 0)⟩ = false := rfl
theorem tb75 : isBytes tys 75 = false := rfl
theorem te75 : elemI tys 75 = some (88, I88) := rfl
theorem tu75 : isU8 ⟨.slice 88, 1, 24, (.slice none 0 0)⟩ = false := rfl
theorem tn75 : notIntK tys 75 = true := rfl
theorem tr75 : isStrK tys 75 = false := rfl
theorem tz75 : zeroOk ⟨.slice 88, 1, 24, (.slice none 0 0)⟩ = true := by kernel_rfl
theorem tv75 : zeroU8 ⟨.slice 88, 1, 24, (.slice none 0 0)⟩ = false := rfl
theorem td75 : TyI.zeroV ⟨.slice 88, 1, 24, (.slice none 0 0)⟩ = V.ofV1 (.slice none 0 0) := rfl
theorem ty77 : tys 77 = some I77 := rfl
theorem tk77 : kindV tys 77 = some (.struct [(0, 3), (1, 3), (2, 74), (3, 74), (4, 75), (5, 4), (6, 4), (7, 3)]) := rfl
theorem ts77 : sizeV tys 77 = 8 := rfl
theorem ta77 : TyI.isAgg I77 = true := rfl
theorem tg77 : I77.size = 8 ∧ I77.kind = .struct [(0, 3), (1, 3), (2, 74), (3, 74), (4, 75), (5, 4), (6, 4), (7, 3)] ∧ I77.bytes = 72 ∧ I77.zero = (.agg #[(.int .i64 0), (.int .i64 0), (.map none), (.map none), (.slice none 0 0), (.bool false), (.bool false), (.int .i64 0)]) := ⟨rfl, rfl, rfl, rfl⟩
theorem tu77 : isU8 I77 = false := rfl
theorem tn77 : notIntK tys 77 = true := rfl
theorem tr77 : isStrK tys 77 = false := rfl
theorem tz77 : zeroOk I77 = true := by kernel_rfl
theorem tv77 : zeroU8 I77 = false := rfl
theorem tc77 : V.ofV (.agg #[(.int .i64 0), (.int .i64 0), (.map none), (.map none), (.slice none 0 0), (.bool false), (.bool false), (.int .i64 0)]) = .agg [V.ofV1 (.int .i64 0), V.ofV1 (.int .i64 0), V.ofV1 (.map none), V.ofV1 (.map none), V.ofV1 (.slice none 0 0), V.ofV1 (.bool false), V.ofV1 (.bool false), V.ofV1 (.int .i64 0)] := by kernel_rfl
theorem tw77 : Value.oneCell' (.agg #[(.int .i64 0), (.int .i64 0), (.map none), (.map none), (.slice none 0 0), (.bool false), (.bool false), (.int .i64 0)]) = false := rfl
theorem tx77 : (#[(.int .i64 0), (.int .i64 0), (.map none), (.map none), (.slice none 0 0), (.bool false), (.bool false), (.int .i64 0)] : Array Value).all (fun x => x.oneCell') 0 8 = true := by kernel_rfl
theorem td77 : TyI.zeroV I77 = .agg [V.ofV1 (.int .i64 0), V.ofV1 (.int .i64 0), V.ofV1 (.map none), V.ofV1 (.map none), V.ofV1 (.slice none 0 0), V.ofV1 (.bool false), V.ofV1 (.bool false), V.ofV1 (.int .i64 0)] := by kernel_rfl
theorem tp77_0 : placeV tys [(0, 3), (1, 3), (2, 74), (3, 74), (4, 75), (5, 4), (6, 4), (7, 3)] 0 = some (0, 1) := rfl
theorem tp77_1 : placeV tys [(0, 3), (1, 3), (2, 74), (3, 74), (4, 75), (5, 4), (6, 4), (7, 3)] 1 = some (1, 1) := rfl
theorem tp77_2 : placeV tys [(0, 3), (1, 3), (2, 74), (3, 74), (4, 75), (5, 4), (6, 4), (7, 3)] 2 = some (2, 1) := rfl
theorem tp77_3 : placeV tys [(0, 3), (1, 3), (2, 74), (3, 74), (4, 75), (5, 4), (6, 4), (7, 3)] 3 = some (3, 1) := rfl
theorem tp77_4 : placeV tys [(0, 3), (1, 3), (2, 74), (3, 74), (4, 75), (5, 4), (6, 4), (7, 3)] 4 = some (4, 1) := rfl
theorem tp77_5 : placeV tys [(0, 3), (1, 3), (2, 74), (3, 74), (4, 75), (5, 4), (6, 4), (7, 3)] 5 = some (5, 1) := rfl
theorem tp77_6 : placeV tys [(0, 3), (1, 3), (2, 74), (3, 74), (4, 75), (5, 4), (6, 4), (7, 3)] 6 = some (6, 1) := rfl
theorem tp77_7 : placeV tys [(0, 3), (1, 3), (2, 74), (3, 74), (4, 75), (5, 4), (6, 4), (7, 3)] 7 = some (7, 1) := rfl
theorem tq77 : ([(0, 3), (1, 3), (2, 74), (3, 74), (4, 75), (5, 4), (6, 4), (7, 3)].all (fun f => (tys f.2).isSome)) = true := rfl
theorem ty86 : tys 86 = some ⟨.ptr 94, 1, 8, (.pointer none)⟩ := rfl
theorem tk86 : kindV tys 86 = some (.ptr 94) := rfl
theorem ts86 : sizeV tys 86 = 1 := rfl
theorem ta86 : TyI.isAgg ⟨.ptr 94, 1, 8, (.pointer none)⟩ = false := rfl
theorem tu86 : isU8 ⟨.ptr 94, 1, 8, (.pointer none)⟩ = false := rfl
theorem tn86 : notIntK tys 86 = true := rfl
theorem tr86 : isStrK tys 86 = false := rfl
theorem tz86 : zeroOk ⟨.ptr 94, 1, 8, (.pointer none)⟩ = true := by kernel_rfl
theorem tv86 : zeroU8 ⟨.ptr 94, 1, 8, (.pointer none)⟩ = false := rfl
theorem td86 : TyI.zeroV ⟨.ptr 94, 1, 8, (.pointer none)⟩ = V.ofV1 (.pointer none) := rfl
theorem ty88 : tys 88 = some I88 := rfl
theorem tk88 : kindV tys 88 = some (.struct [(0, 9), (1, 9), (2, 86)]) := rfl
theorem ts88 : sizeV tys 88 = 3 := rfl
theorem ta88 : TyI.isAgg I88 = true := rfl
theorem tg88 : I88.size = 3 ∧ I88.kind = .struct [(0, 9), (1, 9), (2, 86)] ∧ I88.bytes = 40 ∧ I88.zero = (.agg #[(.string .empty), (.string .empty), (.pointer none)]) := ⟨rfl, rfl, rfl, rfl⟩
theorem tu88 : isU8 I88 = false := rfl
theorem tn88 : notIntK tys 88 = true := rfl
theorem tr88 : isStrK tys 88 = false := rfl
theorem tz88 : zeroOk I88 = true := by kernel_rfl
theorem tv88 : zeroU8 I88 = false := rfl
theorem tc88 : V.ofV (.agg #[(.string .empty), (.string .empty), (.pointer none)]) = .agg [V.ofV1 (.string .empty), V.ofV1 (.string .empty), V.ofV1 (.pointer none)] := by kernel_rfl
theorem tw88 : Value.oneCell' (.agg #[(.string .empty), (.string .empty), (.pointer none)]) = false := rfl
theorem tx88 : (#[(.string .empty), (.string .empty), (.pointer none)] : Array Value).all (fun x => x.oneCell') 0 3 = true := by kernel_rfl
theorem td88 : TyI.zeroV I88 = .agg [V.ofV1 (.string .empty), V.ofV1 (.string .empty), V.ofV1 (.pointer none)] := by kernel_rfl
theorem tp88_0 : placeV tys [(0, 9), (1, 9), (2, 86)] 0 = some (0, 1) := rfl
theorem tp88_1 : placeV tys [(0, 9), (1, 9), (2, 86)] 1 = some (1, 1) := rfl
theorem tp88_2 : placeV tys [(0, 9), (1, 9), (2, 86)] 2 = some (2, 1) := rfl
theorem tq88 : ([(0, 9), (1, 9), (2, 86)].all (fun f => (tys f.2).isSome)) = true := rfl
set_option linter.defProp false in
def tcd := And.intro @r_ifTrue (And.intro @r_ifFalse (And.intro tc25 (And.intro td25 (And.intro tc60 (And.intro td60 (And.intro tc77 (And.intro td77 (And.intro tc88 (td88)))))))))
attribute [bitvec_to_nat] ty3 tk3 ts3 ta3 tu3 tn3 tr3 tz3 tv3 td3 ty4 tk4 ts4 ta4 tu4 tn4 tr4 tz4 tv4 td4 ty5 tk5 ts5 ta5 tu5 tn5 tr5 tz5 tv5 td5 ty9 tk9 ts9 ta9 tu9 tn9 tr9 tz9 tv9 td9 ty23 tk23 ts23 ta23 tb23 te23 tu23 tn23 tr23 tz23 tv23 td23 ty25 tk25 ts25 ta25 tg25 tu25 tn25 tr25 tz25 tv25 tw25 tx25 tp25_0 tp25_1 tq25 ty27 tk27 ts27 ta27 tu27 tn27 tr27 tz27 tv27 td27 ty32 tk32 ts32 ta32 tb32 te32 tu32 tn32 tr32 tz32 tv32 td32 ty37 tk37 ts37 ta37 tu37 tn37 tr37 tz37 tv37 td37 ty56 tk56 ts56 ta56 tb56 te56 tu56 tn56 tr56 tz56 tv56 td56 ty57 tk57 ts57 ta57 tb57 te57 tu57 tn57 tr57 tz57 tv57 td57 ty60 tk60 ts60 ta60 tg60 tu60 tn60 tr60 tz60 tv60 tw60 tx60 tp60_0 tp60_1 tp60_2 tp60_3 tq60 ty71 tk71 ts71 ta71 tb71 te71 tu71 tn71 tr71 tz71 tv71 td71 ty72 tk72 ts72 ta72 tu72 tn72 tr72 tz72 tv72 td72 ty74 tk74 ts74 ta74 tu74 tn74 tr74 tz74 tv74 td74 ty75 tk75 ts75 ta75 tb75 te75 tu75 tn75 tr75 tz75 tv75 td75 ty77 tk77 ts77 ta77 tg77 tu77 tn77 tr77 tz77 tv77 tw77 tx77 tp77_0 tp77_1 tp77_2 tp77_3 tp77_4 tp77_5 tp77_6 tp77_7 tq77 ty86 tk86 ts86 ta86 tu86 tn86 tr86 tz86 tv86 td86 ty88 tk88 ts88 ta88 tg88 tu88 tn88 tr88 tz88 tv88 tw88 tx88 tp88_0 tp88_1 tp88_2 tq88
def J0 : Fns := { fn := fun _ => none }
theorem J0_fn (f : FuncId) : J0.fn f = none := rfl
theorem J0_mu (d : Tmp) : J0.mu d = .no := rfl
theorem J0_hp (f : FuncId) : J0.hp f = none := rfl
theorem J0_ord (i : Nat) : J0.ord i = none := rfl
theorem J0_it (f : FuncId) : J0.it f = none := rfl
theorem J0_hy (b : Nat) : J0.hy b = none := rfl
theorem J0ok : FnsOk Try.prog J0 := FnsOk.nil _ rfl rfl
attribute [bitvec_to_nat] J0_fn J0_mu J0_hp J0_ord J0_it J0_hy
def jn : Name := [106, 111, 117, 114, 110, 97, 108]
def addD (x : List UInt8) : Do := ⟨fun M => if 4096 < x.length then (M, 3) else (growAll jn (frameF x)).f M, fun M => ¬ 4096 < x.length → (growAll jn (frameF x)).pre M⟩
def begD : Do := putAll jn []
def J1 : Fns := { fn := fun f => if f = 70 then some putM else if f = 71 then some allM else J0.fn f, mu := fun d => .no, hp := fun f => if f = 26 then some putFP else if f = 28 then some growFP else if f = 27 then some readP else J0.hp f, ord := fun i => none, it := fun f => J0.it f }
theorem J1_fn (f : FuncId) : J1.fn f = (if f = 70 then some putM else if f = 71 then some allM else J0.fn f) := rfl
theorem J1_mu (d : Tmp) : J1.mu d = (.no) := rfl
theorem J1_hp (f : FuncId) : J1.hp f = (if f = 26 then some putFP else if f = 28 then some growFP else if f = 27 then some readP else J0.hp f) := rfl
theorem J1_ord (i : Nat) : J1.ord i = (none) := rfl
theorem J1_it (f : FuncId) : J1.it f = (J0.it f) := rfl
theorem J1_hy (b : Nat) : J1.hy b = none := rfl
theorem J1ok : FnsOk Try.prog J1 := FnsOk.same (FnsOk.consP (FnsOk.consP (FnsOk.consP (FnsOk.cons (FnsOk.cons J0ok _ _ all_ok Try.func71 (by decide) (fun h => by cases h)) _ _ put_ok Try.func70 (by decide) (fun h => by cases h)) _ _ read_ok Try.func27 (by decide) (fun h => by cases h)) _ _ Place.growF_ok Try.func28 (by decide) (fun h => by cases h)) _ _ Place.putF_ok Try.func26 (by decide) (fun h => by cases h)) rfl rfl
attribute [bitvec_to_nat] J1_fn J1_mu J1_hp J1_ord J1_it J1_hy
def addP : PM := fun args L T K => ∃ M w x t, args = [.box w.o 0, .bytes x t] ∧ dAt L T M w ∧ (addD x).pre M ∧
  ∀ L' T' w', w'.o = w.o → dAt L' T' ((addD x).f M).1 w' → Step w.S w.R L T w'.S w'.R L' T' → K (codeV ((addD x).f M).2) L' T'
theorem add_ok : PSound Try.prog 33 addP := by
  refine psound tysOk J1ok mix Try.func33 rfl ?_
  intro args L T K hm
  obtain ⟨M, w, x, t, rfl, hd, hp, hK⟩ := hm
  by_cases hx : 4096 < x.length
  · have e : (addD x).f M = (M, 3) := if_pos hx
    rw [e] at hK
    simp (maxSteps:=2000000) only[bitvec_to_nat,seval,↓tcd,Try.f33,putM,hx]
    exact ret_of (Step.refl w.S w.R L T) (hK L T w rfl hd (Step.refl _ _ _ _))
  · have e : (addD x).f M = (growAll jn (frameF x)).f M := if_neg hx
    rw [e] at hK
    have hp' := hp hx
    simp (maxSteps:=2000000) only[bitvec_to_nat,seval,↓tcd,Try.f33,putM,hx]
    have hst0 : Step w.S w.R L T w.S w.R L (T ++ [((frameF x).length, 5)]) := (Step.refl _ _ _ _).tapp _
    refine ⟨M, w, jn, frameF x, some T.length, rfl, by rw [frameF_length]; omega, hd.frame ((Step.refl noS noS L T).tapp _) (fun _ _ h => h) (fun _ _ h => h), hp', fun L1 T1 w1 ho1 hd1 hst1 => ?_⟩
    exact ret_of (hst0.trans hst1) (hK L1 T1 w1 ho1 hd1 (hst0.trans hst1))
def begP : PM := fun args L T K => ∃ M w, args = [.box w.o 0] ∧ dAt L T M w ∧ begD.pre M ∧
  ∀ L' T' w', w'.o = w.o → dAt L' T' (begD.f M).1 w' → Step w.S w.R L T w'.S w'.R L' T' → K (codeV (begD.f M).2) L' T'
theorem beg_ok : PSound Try.prog 36 begP := by
  refine psound tysOk J1ok mix Try.func36 rfl ?_
  intro args L T K hm
  obtain ⟨M, w, rfl, hd, hp, hK⟩ := hm
  simp (maxSteps:=2000000) only[bitvec_to_nat,seval,↓tcd,Try.f36]
  refine ⟨M, w, jn, [], none, rfl, by simp, hd, hp, fun L1 T1 w1 ho1 hd1 hst1 => ?_⟩
  exact ret_of hst1 (hK L1 T1 w1 ho1 hd1 hst1)
def openF (M : MD) : MD × List (List UInt8) × Nat :=
  if (M.read jn).2 = 2 then ((M.read jn).1, [], 0) else if (M.read jn).2 ≠ 0 then ((M.read jn).1, [], (M.read jn).2)
  else if (allF (M.readB jn)).2 < (M.readB jn).length then
    if ((putAll jn ((M.readB jn).take (allF (M.readB jn)).2)).f (M.read jn).1).2 ≠ 0 then (((putAll jn ((M.readB jn).take (allF (M.readB jn)).2)).f (M.read jn).1).1, [], ((putAll jn ((M.readB jn).take (allF (M.readB jn)).2)).f (M.read jn).1).2)
    else (((putAll jn ((M.readB jn).take (allF (M.readB jn)).2)).f (M.read jn).1).1, (allF (M.readB jn)).1, 0)
  else ((M.read jn).1, (allF (M.readB jn)).1, 0)
def openPre (M : MD) : Prop := Small M ∧ (M.readB jn).length ≤ 1000000 ∧ ∀ b : List UInt8, b.length ≤ (M.readB jn).length → (allF (M.readB jn)).2 < (M.readB jn).length → (putAll jn b).pre (M.read jn).1
def openP : PM := fun args L T K => ∃ M w, args = [.box w.o 0] ∧ dAt L T M w ∧ openPre M ∧
  ∀ L' T' w', w'.o = w.o → dAt L' T' (openF M).1 w' → Step w.S w.R L T w'.S w'.R L' T' → K (.tuple [.list 1 ((openF M).2.1.map bv) none, .int .i64 ((openF M).2.2 : Nat)]) L' T'
set_option maxHeartbeats 1000000 in
theorem open_ok : PSound Try.prog 34 openP := by
  refine psound tysOk J1ok mix Try.func34 rfl ?_
  intro args L T K hm
  obtain ⟨M, w, rfl, hd, ⟨hs, hbl, hpp⟩, hK⟩ := hm
  obtain ⟨od, hod⟩ : ∃ o, w.o = o := ⟨_, rfl⟩
  rw [hod] at hK ⊢
  simp (maxSteps:=2000000) only[bitvec_to_nat,seval,↓tcd,Try.f34]
  refine op_o hod rfl hd hs fun L1 T1 w1 ho1 hd1 hst1 => ?_
  unfold openF at hK
  obtain ⟨M1, hM1⟩ : ∃ M1, (M.read jn).1 = M1 := ⟨_, rfl⟩
  obtain ⟨c, hc⟩ : ∃ c, (M.read jn).2 = c := ⟨_, rfl⟩
  obtain ⟨b, hb⟩ : ∃ b, M.readB jn = b := ⟨_, rfl⟩
  change dAt L1 T1 (M.read jn).1 w1 at hd1
  have e1 : (M.read [106, 111, 117, 114, 110, 97, 108]).2 = c := hc
  have e2 : M.readB [106, 111, 117, 114, 110, 97, 108] = b := hb
  rw [hM1] at hd1 hpp
  rw [hM1, hc, hb] at hK
  rw [hb] at hbl hpp
  rw [e1, e2]
  by_cases h2 : c = 2
  · subst h2
    rw [if_pos rfl] at hK
    simp (maxSteps:=2000000) only[bitvec_to_nat,seval,↓tcd,code_V]
    exact ret_le hst1 (hK _ _ w1 ho1 hd1 hst1) (by refine ⟨⟨rfl, rfl⟩, ?_⟩; first | rfl | exact ⟨rfl, trivial⟩ | exact ⟨rfl, rfl⟩ | trivial)
  · rw [if_neg h2] at hK
    have d2 : decide ((c : Int) = 2) = false := decide_eq_false (by omega)
    by_cases h0 : c = 0
    · subst h0
      rw [if_neg (by simp)] at hK
      obtain ⟨n, hn⟩ : ∃ n, (allF b).2 = n := ⟨_, rfl⟩
      have hnl : n ≤ b.length := by rw [← hn]; exact allF_le b
      rw [hn] at hK hpp
      simp (maxSteps:=2000000) only[bitvec_to_nat,seval,↓tcd,code_V,allM,hn]
      refine ⟨⟨bv_clean _, by omega⟩, ?_⟩
      by_cases hlt : n < b.length
      · have d3 : decide ((n : Int) < (b.length : Int)) = true := decide_eq_true (by omega)
        rw [if_pos hlt] at hK
        simp (maxSteps:=2000000) only[bitvec_to_nat,seval,↓tcd,d3,Int.toNat_natCast]
        have hpb := hpp (b.take n) (by rw [List.length_take]; omega) hlt
        refine ⟨⟨by omega, by omega⟩, M1, w1, jn, b.take n, none, by rw [ho1]; rfl, by rw [List.length_take]; omega, hd1, hpb, fun L2 T2 w2 ho2 hd2 hst2 => ?_⟩
        rw [ho1] at ho2
        obtain ⟨R, hR⟩ : ∃ R, (putAll jn (b.take n)).f M1 = R := ⟨_, rfl⟩
        rw [hR] at hd2 hK ⊢
        have hg2 := hst1.trans hst2
        by_cases hz : R.2 = 0
        · rw [if_neg (by simpa using hz)] at hK
          simp only [hz, code_V, Int.natCast_zero]
          simp (maxSteps:=2000000) only[bitvec_to_nat,seval,↓tcd]
          exact ret_of hg2 (hK _ _ w2 ho2 hd2 hg2)
        · rw [if_pos hz] at hK
          obtain ⟨z, hzz⟩ : ∃ z, R.2 = z := ⟨_, rfl⟩
          rw [hzz] at hK hz ⊢
          have dz : decide ((z : Int) = 0) = false := decide_eq_false (by omega)
          simp only [code_V]
          simp (maxSteps:=2000000) only[bitvec_to_nat,seval,↓tcd,dz]
          exact ret_le hg2 (hK _ _ w2 ho2 hd2 hg2) (by refine ⟨⟨rfl, rfl⟩, ?_⟩; first | rfl | exact ⟨rfl, trivial⟩ | exact ⟨rfl, rfl⟩ | trivial)
      · have d3 : decide ((n : Int) < (b.length : Int)) = false := decide_eq_false (by omega)
        rw [if_neg hlt] at hK
        simp (maxSteps:=2000000) only[bitvec_to_nat,seval,↓tcd,d3]
        exact ret_of hst1 (hK _ _ w1 ho1 hd1 hst1)
    · rw [if_pos h0] at hK
      have d0 : decide ((c : Int) = 0) = false := decide_eq_false (by omega)
      simp (maxSteps:=2000000) only[bitvec_to_nat,seval,↓tcd,code_V,d2,d0]
      exact ret_le hst1 (hK _ _ w1 ho1 hd1 hst1) (by refine ⟨⟨rfl, rfl⟩, ?_⟩; first | rfl | exact ⟨rfl, trivial⟩ | exact ⟨rfl, rfl⟩ | trivial)
end Go.Proofs.Ytpncnionnfomeaa.JourX
namespace Go.Proofs.Ytpncnionnfomeaa.JourX
open Go Go.Proofs Go.Proofs.Ytpncnionnfomeaa.Aw Go.Proofs.Ytpncnionnfomeaa.Num Go.Proofs.Ytpncnionnfomeaa.DiskM Go.Proofs.Ytpncnionnfomeaa.DiskA Go.Proofs.Ytpncnionnfomeaa.DiskK Go.Proofs.Ytpncnionnfomeaa.DiskC Go.Proofs.Ytpncnionnfomeaa.Disk Go.Proofs.Ytpncnionnfomeaa.FrameM
open Go.Proofs.Ytpncnionnfomeaa.DiskL (readP syncP syncNamesP namesP doomP createP appendP wbV len_wbV Sz sz_new crash_o op_o small_crash)
open Go.Proofs.Ytpncnionnfomeaa.Frame (allM putM sameM all_ok put_ok same_ok)
open Go.Proofs.Ytpncnionnfomeaa.Place (Do Makes putAll growAll dropD putFP growFP makes_put makes_grow makes_syncNames)
set_option linter.unusedSimpArgs false
set_option linter.unusedVariables false
structure Act where
  kind : UInt8
  b : List UInt8
  w : Wreck
  n : Int
  deriving Inhabited
def actV (a : Act) : V := .agg [.int .u8 a.kind.toNat, .bytes a.b none, .int .i64 a.w.names, wbV a.w.bytes, .int .i64 a.n]
def Act.small (a : Act) : Prop := a.b.length ≤ 100 ∧ a.w.bytes.length ≤ 50
instance (a : Act) : Decidable a.small := by unfold Act.small; exact inferInstance
def few (l : List Act) : List Act := (l.take 60).filter fun a => decide a.small
theorem few_succ {l : List Act} {i : Nat} {a : Act} (h : l[i]? = some a) : few (l.take (i + 1)) = few (l.take i) ++ if i < 60 ∧ a.small then [a] else [] := by
  obtain ⟨hi, he⟩ := List.getElem?_eq_some_iff.1 h
  have e1 : l.take (i + 1) = l.take i ++ [a] := by rw [List.take_succ_eq_append_getElem hi, he]
  unfold few
  rw [e1]
  have hl : (l.take i).length = i := by rw [List.length_take]; omega
  by_cases h1 : i < 60
  · rw [List.take_append, List.filter_append, hl]
    have e2 : [a].take (60 - i) = [a] := by rw [List.take_of_length_le (by simp; omega)]
    rw [e2]
    congr 1
    by_cases h2 : a.small
    · rw [if_pos ⟨h1, h2⟩]; simp [h2]
    · rw [if_neg (fun h => h2 h.2)]; simp [h2]
  · rw [if_neg (fun h => h1 h.1), List.append_nil, List.take_append_of_le_length (by omega)]
theorem few_mem {l : List Act} {a : Act} (h : a ∈ few l) : a.small ∧ a ∈ l := by
  unfold few at h
  obtain ⟨h1, h2⟩ := List.mem_filter.1 h
  exact ⟨of_decide_eq_true h2, List.mem_of_mem_take h1⟩
theorem few_len (l : List Act) : (few l).length ≤ 60 := by
  unfold few
  refine Nat.le_trans (List.length_filter_le _ _) ?_
  rw [List.length_take]; omega
def J2 : Fns := { fn := fun f => J0.fn f, mu := fun d => bif d == 3 then .nil 56 else .no, hp := fun f => J0.hp f, ord := fun i => none, it := fun f => J0.it f }
theorem J2_fn (f : FuncId) : J2.fn f = (J0.fn f) := rfl
theorem J2_mu (d : Tmp) : J2.mu d = (bif d == 3 then .nil 56 else .no) := rfl
theorem J2_hp (f : FuncId) : J2.hp f = (J0.hp f) := rfl
theorem J2_ord (i : Nat) : J2.ord i = (none) := rfl
theorem J2_it (f : FuncId) : J2.it f = (J0.it f) := rfl
theorem J2_hy (b : Nat) : J2.hy b = none := rfl
theorem J2ok : FnsOk Try.prog J2 := FnsOk.same J0ok rfl rfl
attribute [bitvec_to_nat] J2_fn J2_mu J2_hp J2_ord J2_it J2_hy
def fewP : PM := fun args L T K => ∃ l : List Act, args = [.list 5 (l.map actV) none] ∧ l.length ≤ 9223372036854775807 ∧ ∀ L' T', Step noS noS L T noS noS L' T' → K (.list 5 ((few l).map actV) none) L' T'
theorem few_ok : PSound Try.prog 32 fewP := by
  refine psound tysOk J2ok mix Try.func32 rfl ?_
  intro args L T K hm
  obtain ⟨l, rfl, hlen, hK⟩ := hm
  simp (maxSteps:=2000000) only[bitvec_to_nat,seval,↓tcd,Try.f32,List.length_map]
  refine awpLoop_intro (α := {q : Nat × LL × TT // q.1 ≤ l.length ∧ Step noS noS L T noS noS q.2.1 q.2.2 ∧ q.2.2[T.length]? = some ((few (l.take q.1)).length, 60) ∧ T.length < q.2.2.length})
    (fun q => ⟨[.any, .any, .any, .list 5 ((few (l.take q.1.1)).map actV) (some T.length), .any, .any, .list 5 (l.map actV) none, .int .i64 (l.length : Int), .int .i64 (q.1.1 : Int), .any, .any, .any, .any, .any, .any, .any, .any, .any, .any, .any, .any, .any, .any, .any, .any, .any, .any, .any, .any, .any, .any, .any, .any, .any], q.1.2.1, q.1.2.2⟩) (fun q => l.length - q.1.1)
    ⟨(0, L, T ++ [(0, 60)]), Nat.zero_le _, (Step.refl _ _ _ _).tapp _, by rw [tat_new rfl]; rfl, by simp⟩ ?_ ?_ (fun q => ⟨q.2.2.1.len, q.2.2.1.tlen⟩)
  · simp (maxSteps:=2000000) only[bitvec_to_nat,seval,↓tcd,leLL_self]
    first | rfl | exact ⟨rfl, rfl⟩
  · rintro ⟨⟨i, L2, T2⟩, hi, hs2, hT, hTl⟩
    simp only at hi hs2 hT hTl
    by_cases him : i < l.length
    · have hdc : decide ((i : Int) < (l.length : Int)) = true := decide_eq_true (by omega)
      obtain ⟨a, ha⟩ : ∃ a, l[i]? = some a := ⟨_, List.getElem?_eq_getElem him⟩
      have hgd : (l.map actV).getD i .any = .agg [.int .u8 a.kind.toNat, .bytes a.b none, .int .i64 a.w.names, wbV a.w.bytes, .int .i64 a.n] := by
        rw [List.getD_eq_getElem?_getD, List.getElem?_map, ha]; rfl
      have hfs := few_succ ha
      have hi1 : IntKind.i64.wrap ((i : Int) + 1) = ((i + 1 : Nat) : Int) := by rw [i64w (by omega) (by omega)]; omega
      have hfl : (few (l.take i)).length ≤ 60 := by
        unfold few
        refine Nat.le_trans (List.length_filter_le _ _) ?_
        rw [List.length_take]; omega
      have hno : ¬ (i < 60 ∧ a.small) → few (l.take (i + 1)) = few (l.take i) := fun h => by rw [hfs, if_neg h, List.append_nil]
      simp (maxSteps:=2000000) only[bitvec_to_nat,seval,↓tcd,hdc,hgd,Int.toNat_natCast,List.length_map,len_wbV,hi1,hT,hTl]
      refine ⟨⟨by omega, by omega⟩, ?_⟩
      refine awpIf_intro (fun h1 => ?_) (fun h1 => ?_) <;> simp only [decide_eq_true_eq, decide_eq_false_iff_not] at h1
      · refine awpIf_intro (fun h2 => ?_) (fun h2 => ?_) <;> simp only [decide_eq_true_eq, decide_eq_false_iff_not] at h2
        · refine awpIf_intro (fun h3 => ?_) (fun h3 => ?_) <;> simp only [decide_eq_true_eq, decide_eq_false_iff_not] at h3
          · have hye : few (l.take (i + 1)) = few (l.take i) ++ [a] := by rw [hfs, if_pos ⟨by omega, by omega, by omega⟩]
            refine ⟨by unfold maxBytes; omega, ⟨(i + 1, L2 ++ [[.int .u8 a.kind.toNat, .bytes a.b none, .int .i64 a.w.names, .list 1 (a.w.bytes.map fun n => .int .i64 n) none, .int .i64 a.n]], (T2 ++ [(1, 60)]).set T.length ((few (l.take i)).length + 1, 60)), him, ((hs2.app _).tapp [(1, 60)]).tset (k := T.length) (.inr (Nat.le_refl _)) ((few (l.take i)).length + 1, 60), ?_, ?_⟩, ?_, by simp only; omega⟩
            · simp only
              rw [List.getElem?_set_self (by simp; omega), hye]; simp
            · simp only; simp; omega
            · simp (maxSteps:=2000000) only[bitvec_to_nat,seval,↓tcd,leLL_self,hye,List.map_append,List.length_append,List.length_map]
              all_goals first | rfl | exact ⟨rfl, rfl⟩
          · have hnoe := hno (by rintro ⟨q1, q2, q3⟩; omega)
            refine ⟨⟨(i + 1, L2 ++ [[.int .u8 a.kind.toNat, .bytes a.b none, .int .i64 a.w.names, .list 1 (a.w.bytes.map fun n => .int .i64 n) none, .int .i64 a.n]], T2), him, hs2.app _, by simp only; rw [hnoe]; exact hT, hTl⟩, ?_, by simp only; omega⟩
            simp (maxSteps:=2000000) only[bitvec_to_nat,seval,↓tcd,leLL_self,hnoe]
        · have hnoe := hno (by rintro ⟨q1, q2, q3⟩; omega)
          refine ⟨⟨(i + 1, L2 ++ [[.int .u8 a.kind.toNat, .bytes a.b none, .int .i64 a.w.names, .list 1 (a.w.bytes.map fun n => .int .i64 n) none, .int .i64 a.n]], T2), him, hs2.app _, by simp only; rw [hnoe]; exact hT, hTl⟩, ?_, by simp only; omega⟩
          simp (maxSteps:=2000000) only[bitvec_to_nat,seval,↓tcd,leLL_self,hnoe]
      · have hnoe := hno (by rintro ⟨q1, q2, q3⟩; omega)
        refine ⟨⟨(i + 1, L2 ++ [[.int .u8 a.kind.toNat, .bytes a.b none, .int .i64 a.w.names, .list 1 (a.w.bytes.map fun n => .int .i64 n) none, .int .i64 a.n]], T2), him, hs2.app _, by simp only; rw [hnoe]; exact hT, hTl⟩, ?_, by simp only; omega⟩
        simp (maxSteps:=2000000) only[bitvec_to_nat,seval,↓tcd,leLL_self,hnoe]
    · have hdc : decide ((i : Int) < (l.length : Int)) = false := decide_eq_false (by omega)
      have hie : i = l.length := by omega
      subst hie
      simp (maxSteps:=2000000) only[bitvec_to_nat,seval,↓tcd,hdc,List.take_length]
      exact ret_le hs2 (hK _ _ hs2) ⟨rfl, rfl⟩
theorem makes_add {x : List UInt8} (h : x.length ≤ 100) : Makes 16 (addD x) := by
  intro k M ok hs hk
  obtain ⟨a, b, c⟩ := makes_grow jn (b := frameF x) (by rw [frameF_length]; omega) k M ok hs hk
  have e : (addD x).f M = (growAll jn (frameF x)).f M := if_neg (by omega)
  rw [e]
  exact ⟨fun _ => a, b, c⟩
def e0 : MD := DiskM.new 100
def e1 : MD := ((addD [97]).f e0).1
def e2 : MD := ((addD [98]).f e1).1
def e3 : MD := e2.crash ⟨0, []⟩
theorem e1c : ((addD [97]).f e0).2 = 0 := by kernel_rfl
theorem e2c : ((addD [98]).f e1).2 = 0 := by kernel_rfl
theorem e3c : (e3.read jn).2 = 0 := by kernel_rfl
theorem e3b : e3.readB jn = framesF [[97], [98]] := by kernel_rfl
theorem e3o : openF e3 = ((e3.read jn).1, [[97], [98]], 0) := by
  have h := all_frames' [[97], [98]] (by intro x hx; simp at hx; rcases hx with rfl | rfl <;> simp)
  unfold openF
  rw [e3c, e3b, h]
  simp
end Go.Proofs.Ytpncnionnfomeaa.JourX
namespace Go.Proofs.Ytpncnionnfomeaa.JourX
open Go Go.Proofs Go.Proofs.Ytpncnionnfomeaa.Aw Go.Proofs.Ytpncnionnfomeaa.Num Go.Proofs.Ytpncnionnfomeaa.DiskM Go.Proofs.Ytpncnionnfomeaa.DiskA Go.Proofs.Ytpncnionnfomeaa.DiskK Go.Proofs.Ytpncnionnfomeaa.DiskC Go.Proofs.Ytpncnionnfomeaa.Disk Go.Proofs.Ytpncnionnfomeaa.FrameM
open Go.Proofs.Ytpncnionnfomeaa.DiskL (readP syncP syncNamesP namesP doomP createP appendP wbV len_wbV Sz sz_new crash_o op_o small_crash)
open Go.Proofs.Ytpncnionnfomeaa.Frame (allM putM sameM all_ok put_ok same_ok)
open Go.Proofs.Ytpncnionnfomeaa.Place (Do Makes putAll growAll dropD putFP growFP makes_put makes_grow makes_syncNames)
set_option linter.unusedSimpArgs false
set_option linter.unusedVariables false
theorem q0 : e0.Ok ∧ Sz 0 e0 := ⟨(new_dAt 100 [] []).ok, sz_new 100⟩
theorem q1 : (addD [97]).pre e0 ∧ e1.Ok ∧ Sz (0 + 16) e1 := makes_add (x := [97]) (by simp) 0 e0 q0.1 q0.2 (by omega)
theorem q2 : (addD [98]).pre e1 ∧ e2.Ok ∧ Sz (0 + 16 + 16) e2 := makes_add (x := [98]) (by simp) (0 + 16) e1 q1.2.1 q1.2.2 (by omega)
theorem sm3 : Small e3 := small_crash (q2.2.2.small (by omega)) q2.2.1 _
theorem e3p : openPre e3 := by
  have h := all_frames' [[97], [98]] (by intro x hx; simp at hx; rcases hx with rfl | rfl <;> simp)
  refine ⟨sm3, by rw [e3b]; simp [framesF, frameF_length], fun b _ hlt => ?_⟩
  rw [e3b, h] at hlt
  exact absurd hlt (Nat.lt_irrefl _)
def J3 : Fns := { fn := fun f => if f = 35 then some sameM else J0.fn f, mu := fun d => .no, hp := fun f => if f = 13 then some newP else if f = 33 then some addP else if f = 34 then some openP else if f = 17 then some crashP else J0.hp f, ord := fun i => none, it := fun f => J0.it f }
theorem J3_fn (f : FuncId) : J3.fn f = (if f = 35 then some sameM else J0.fn f) := rfl
theorem J3_mu (d : Tmp) : J3.mu d = (.no) := rfl
theorem J3_hp (f : FuncId) : J3.hp f = (if f = 13 then some newP else if f = 33 then some addP else if f = 34 then some openP else if f = 17 then some crashP else J0.hp f) := rfl
theorem J3_ord (i : Nat) : J3.ord i = (none) := rfl
theorem J3_it (f : FuncId) : J3.it f = (J0.it f) := rfl
theorem J3_hy (b : Nat) : J3.hy b = none := rfl
theorem J3ok : FnsOk Try.prog J3 := FnsOk.same (FnsOk.consP (FnsOk.consP (FnsOk.consP (FnsOk.consP (FnsOk.cons J0ok _ _ same_ok Try.func35 (by decide) (fun h => by cases h)) _ _ crash_sound Try.func17 (by decide) (fun h => by cases h)) _ _ open_ok Try.func34 (by decide) (fun h => by cases h)) _ _ add_ok Try.func33 (by decide) (fun h => by cases h)) _ _ new_ok Try.func13 (by decide) (fun h => by cases h)) rfl rfl
attribute [bitvec_to_nat] J3_fn J3_mu J3_hp J3_ord J3_it J3_hy
def shownP : PM := fun args L T K => args = [] ∧ ∀ L' T', Step noS noS L T noS noS L' T' → K (.bool true) L' T'
set_option maxHeartbeats 1000000 in
theorem shown_ok : PSound Try.prog 31 shownP := by
  refine psound tysOk J3ok mix Try.func31 rfl ?_
  intro args L T K hm
  obtain ⟨rfl, hK⟩ := hm
  simp (maxSteps:=2000000) only[bitvec_to_nat,seval,↓tcd,Try.f31]
  refine ⟨100, rfl, fun L0 w0 ho0 hd0 hst0 => ?_⟩
  obtain ⟨od, hod⟩ : ∃ o, w0.o = o := ⟨_, rfl⟩
  rw [hod]
  simp (maxSteps:=2000000) only[bitvec_to_nat,seval,↓tcd]
  have g1 : Step noS noS L0 T noS noS L0 ((T ++ [(1, 5)]).set T.length (deadN, 5)) := ((Step.refl noS noS L0 T).tapp [(1, 5)]).tset (k := T.length) (.inr (Nat.le_refl _)) _
  obtain ⟨T1, hT1⟩ : ∃ x, (T ++ [(1, 5)]).set T.length (deadN, 5) = x := ⟨_, rfl⟩
  rw [hT1] at g1 ⊢
  have f1 := hd0.frame g1 (fun _ _ h => h) (fun _ _ h => h)
  have h1 : Step noS noS L T w0.S w0.R L0 T1 := hst0.via g1 (fun _ h => h.elim) (fun _ h => h.elim)
  refine ⟨e0, w0, [97], none, by rw [hod], f1, q1.1, fun L2 T2 w2 ho2 hd2 hst2 => ?_⟩
  rw [hod] at ho2
  change dAt L2 T2 e1 w2 at hd2
  rw [show codeV ((addD [97]).f e0).2 = codeV 0 from congrArg codeV e1c]
  have h2 := h1.trans hst2
  simp only [code_V, Int.natCast_zero, Int.cast_ofNat_Int]
  simp (maxSteps:=2000000) only[bitvec_to_nat,seval,↓tcd,Int.natCast_zero,Int.cast_ofNat_Int]
  have g3 : Step noS noS L2 T2 noS noS L2 ((T2 ++ [(1, 5)]).set T2.length (deadN, 5)) := ((Step.refl noS noS L2 T2).tapp [(1, 5)]).tset (k := T2.length) (.inr (Nat.le_refl _)) _
  obtain ⟨T3, hT3⟩ : ∃ x, (T2 ++ [(1, 5)]).set T2.length (deadN, 5) = x := ⟨_, rfl⟩
  rw [hT3] at g3 ⊢
  have f3 := hd2.frame g3 (fun _ _ h => h) (fun _ _ h => h)
  have h3 := h2.via g3 (fun _ h => h.elim) (fun _ h => h.elim)
  refine ⟨e1, w2, [98], none, by rw [ho2], f3, q2.1, fun L4 T4 w4 ho4 hd4 hst4 => ?_⟩
  rw [ho2] at ho4
  change dAt L4 T4 e2 w4 at hd4
  rw [show codeV ((addD [98]).f e1).2 = codeV 0 from congrArg codeV e2c]
  have h4 := h3.trans hst4
  simp only [code_V, Int.natCast_zero, Int.cast_ofNat_Int]
  simp (maxSteps:=2000000) only[bitvec_to_nat,seval,↓tcd,Int.natCast_zero,Int.cast_ofNat_Int]
  refine crash_o ho4 [] (.inl ⟨rfl, rfl⟩) (by decide) hd4 (q2.2.2.small (by omega)) fun L5 T5 w5 ho5 hd5 hst5 => ?_
  change dAt L5 T5 e3 w5 at hd5
  have h5 := h4.trans hst5
  simp only [code_V, Int.natCast_zero]
  simp (maxSteps:=2000000) only[bitvec_to_nat,seval,↓tcd,Int.natCast_zero,Int.cast_ofNat_Int]
  refine ⟨e3, w5, by rw [ho5], hd5, e3p, fun L6 T6 w6 ho6 hd6 hst6 => ?_⟩
  have h6 := h5.trans hst6
  simp only [e3o, Int.natCast_zero]
  simp (maxSteps:=2000000) only[bitvec_to_nat,seval,↓tcd,sameM,bv,unbv,List.map_cons,List.map_nil,eq_self]
  have ht := h6.tlen
  have g := ((((h6.tapp [(1, 5)]).tset (k := T6.length) (.inr ht) (deadN, 5)).tapp [(1, 5)]).tset (k := (T6 ++ [(1, 5)]).length) (.inr (by simp; omega)) (deadN, 5)).tapp [(2, 32)]
  exact ret_of g (hK _ _ (g.less (fun _ h => h.elim) (fun _ h => h.elim)))
end Go.Proofs.Ytpncnionnfomeaa.JourX
namespace Go.Proofs.Ytpncnionnfomeaa.JourX
open Go Go.Proofs Go.Proofs.Ytpncnionnfomeaa.Aw Go.Proofs.Ytpncnionnfomeaa.Num Go.Proofs.Ytpncnionnfomeaa.DiskM Go.Proofs.Ytpncnionnfomeaa.DiskA Go.Proofs.Ytpncnionnfomeaa.DiskK Go.Proofs.Ytpncnionnfomeaa.DiskC Go.Proofs.Ytpncnionnfomeaa.Disk Go.Proofs.Ytpncnionnfomeaa.FrameM
open Go.Proofs.Ytpncnionnfomeaa.DiskL (readP syncP syncNamesP namesP doomP createP appendP wbV len_wbV Sz sz_new crash_o op_o small_crash Live begin_live read_live)
open Go.Proofs.Ytpncnionnfomeaa.Frame (allM putM sameM all_ok put_ok same_ok)
open Go.Proofs.Ytpncnionnfomeaa.Place (Do Makes putAll growAll dropD putFP growFP makes_put makes_grow makes_syncNames makes_append appendD growsOk put_live HasF hasF_read at_nil crash_of)
set_option linter.unusedSimpArgs false
set_option linter.unusedVariables false
theorem jn_ok : growsOk jn := by decide
def act6 (a : Act) : Do := if a.kind.toNat % 8 = 4 then begD else if a.kind.toNat % 8 = 7 then appendD jn a.b else addD a.b
theorem makes_act6 {a : Act} (h : a.small) : Makes 16 (act6 a) := by
  unfold act6
  split
  · exact makes_put jn (by simp)
  · split
    · exact (makes_append jn (b := a.b) (j := 2) (by have := h.1; omega)).mono (by omega)
    · exact makes_add h.1
theorem lives_add (x : List UInt8) : PlaceX.Lives (addD x) := fun M h => by
  show Live (if 4096 < x.length then (M, 3) else (growAll jn (frameF x)).f M).1
  split
  · exact h
  · exact PlaceX.lives_grow _ _ M h
theorem lives_act6 (a : Act) : PlaceX.Lives (act6 a) := by
  unfold act6
  split
  · exact PlaceX.lives_put _ _
  · split
    · exact PlaceX.lives_append _ _
    · exact lives_add _
theorem open_has {M : MD} {b : List UInt8} (ok : M.Ok) (h : HasF jn b b.length M) (w : Wreck) : (M.crash w).readB jn = b ∧ (M.crash w).read jn = (M.crash w, 0) := by
  refine ⟨hasF_read ok h w, ?_⟩
  obtain ⟨hc, f, hf, _⟩ := h
  obtain ⟨i, hi, _⟩ := (crash_of ok w jn).2 f (by rw [at_nil hc]; exact hf)
  rw [read_live (M := M.crash w) ⟨rfl, rfl⟩, hi]
  rfl
def J4 : Fns := { fn := fun f => J0.fn f, mu := fun d => .no, hp := fun f => if f = 31 then some shownP else if f = 13 then some newP else if f = 32 then some fewP else if f = 36 then some begP else if f = 33 then some addP else if f = 34 then some openP else if f = 37 then some appendP else if f = 17 then some crashP else J0.hp f, ord := fun i => none, it := fun f => J0.it f }
theorem J4_fn (f : FuncId) : J4.fn f = (J0.fn f) := rfl
theorem J4_mu (d : Tmp) : J4.mu d = (.no) := rfl
theorem J4_hp (f : FuncId) : J4.hp f = (if f = 31 then some shownP else if f = 13 then some newP else if f = 32 then some fewP else if f = 36 then some begP else if f = 33 then some addP else if f = 34 then some openP else if f = 37 then some appendP else if f = 17 then some crashP else J0.hp f) := rfl
theorem J4_ord (i : Nat) : J4.ord i = (none) := rfl
theorem J4_it (f : FuncId) : J4.it f = (J0.it f) := rfl
theorem J4_hy (b : Nat) : J4.hy b = none := rfl
theorem J4ok : FnsOk Try.prog J4 := FnsOk.same (FnsOk.consP (FnsOk.consP (FnsOk.consP (FnsOk.consP (FnsOk.consP (FnsOk.consP (FnsOk.consP (FnsOk.consP J0ok _ _ crash_sound Try.func17 (by decide) (fun h => by cases h)) _ _ append_ok Try.func37 (by decide) (fun h => by cases h)) _ _ open_ok Try.func34 (by decide) (fun h => by cases h)) _ _ add_ok Try.func33 (by decide) (fun h => by cases h)) _ _ beg_ok Try.func36 (by decide) (fun h => by cases h)) _ _ few_ok Try.func32 (by decide) (fun h => by cases h)) _ _ new_ok Try.func13 (by decide) (fun h => by cases h)) _ _ shown_ok Try.func31 (by decide) (fun h => by cases h)) rfl rfl
attribute [bitvec_to_nat] J4_fn J4_mu J4_hp J4_ord J4_it J4_hy
def beginsP : PM := fun args L T K => ∃ (room : Int) (l : List Act) (wr : Wreck), args = [.int .i64 room, .list 5 (l.map actV) none, .agg [.int .i64 wr.names, wbV wr.bytes]] ∧ l.length ≤ 9223372036854775807 ∧ wr.bytes.length ≤ 9223372036854775807 ∧ ∀ L' T', K (.bool true) L' T'
set_option maxHeartbeats 4000000 in
theorem begins_ok : PSound Try.prog 9 beginsP := by
  refine psound tysOk J4ok mix Try.func9 rfl ?_
  intro args L T K hm
  obtain ⟨room, l, wr, rfl, hlen, hwb, hK⟩ := hm
  unfold wbV
  simp (maxSteps:=2000000) only[bitvec_to_nat,seval,↓tcd,Try.f9]
  refine ⟨rfl, fun L1 T1 hst1 => ?_⟩
  simp (maxSteps:=2000000) only[bitvec_to_nat,seval,↓tcd]
  refine ⟨room, rfl, fun L2 w2 ho2 hd2 hst2 => ?_⟩
  have hwr1 : L1[L.length]? = some [.int .i64 wr.names, .list 1 (wr.bytes.map fun n => .int .i64 n) none] := by rw [hst1.keep L.length (by simp) (fun h => h), at_new rfl]
  have hlw := lt_at hwr1
  obtain ⟨od, hod⟩ : ∃ o, w2.o = o := ⟨_, rfl⟩
  rw [hod]
  simp (maxSteps:=2000000) only[bitvec_to_nat,seval,↓tcd]
  refine ⟨l, rfl, hlen, fun L5 T5 hst5 => ?_⟩
  simp (maxSteps:=2000000) only[bitvec_to_nat,seval,↓tcd,List.length_map]
  have hd5 := hd2.frame hst5 (fun _ _ h => h) (fun _ _ h => h)
  have hg5 : Step noS noS L1 T1 w2.S w2.R L5 T5 := hst2.via hst5 (fun _ h => h.elim) (fun _ h => h.elim)
  have hF := few_len l
  have hT0 : T.length ≤ T1.length := hst1.tlen
  have hL0 : L.length ≤ L1.length := by omega
  refine awpLoop_intro (α := {q : Nat × LL × TT × MD × Own // q.1 ≤ (few l).length ∧ q.2.2.2.2.o = od ∧ dAt q.2.1 q.2.2.1 q.2.2.2.1 q.2.2.2.2 ∧ Step noS noS L1 T1 q.2.2.2.2.S q.2.2.2.2.R q.2.1 q.2.2.1 ∧ Live q.2.2.2.1 ∧ Sz (16 * q.1) q.2.2.2.1})
    (fun q => ⟨[.any, .any, .any, .any, .any, .box L.length 0, .bool false, .bool true, .box od 0, .any, .any, .any, .any, .any, .any, .any, .any, .any, .any, .list 5 ((few l).map actV) none, .int .i64 ((few l).length : Int), .int .i64 (q.1.1 : Int), .any, .any, .any, .any, .any, .any, .any, .any, .any, .any, .any, .any, .any, .any, .any, .any, .any, .any, .any, .any, .any, .any, .any, .any, .any, .any, .any, .any, .any, .any, .any, .any, .any, .any, .any, .any, .any, .any, .any, .any, .any, .any, .any, .any, .any], q.1.2.1, q.1.2.2.1⟩) (fun q => (few l).length - q.1.1)
    ⟨(0, L5, T5, DiskM.new room, w2), Nat.zero_le _, hod, hd5, hg5, ⟨rfl, rfl⟩, sz_new room⟩ ?_ ?_ (fun q => ⟨Nat.le_trans hL0 q.2.2.2.2.1.len, Nat.le_trans hT0 q.2.2.2.2.1.tlen⟩)
  · simp (maxSteps:=2000000) only[bitvec_to_nat,seval,↓tcd,leLL_self]
    all_goals simp
  · rintro ⟨⟨i, L6, T6, M, wd⟩, hi, hwd, hd, hg, hlv, hsz⟩
    simp only at hi hwd hd hg hlv hsz
    by_cases him : i < (few l).length
    · have hdc : decide ((i : Int) < ((few l).length : Int)) = true := decide_eq_true (by omega)
      obtain ⟨a, ha⟩ : ∃ a, (few l)[i]? = some a := ⟨_, List.getElem?_eq_getElem him⟩
      obtain ⟨ham, hal⟩ := few_mem (List.mem_of_getElem? ha)
      have hgd : ((few l).map actV).getD i .any = .agg [.int .u8 a.kind.toNat, .bytes a.b none, .int .i64 a.w.names, wbV a.w.bytes, .int .i64 a.n] := by
        rw [List.getD_eq_getElem?_getD, List.getElem?_map, ha]; rfl
      have hi1 : IntKind.i64.wrap ((i : Int) + 1) = ((i + 1 : Nat) : Int) := by rw [i64w (by omega) (by omega)]; omega
      unfold wbV at hgd
      have hmod : ((a.kind.toNat : Nat) : Int).tmod 8 = ((a.kind.toNat % 8 : Nat) : Int) := rfl
      obtain ⟨k, hk⟩ : ∃ k, a.kind.toNat % 8 = k := ⟨_, rfl⟩
      rw [hk] at hmod
      obtain ⟨A, hA⟩ : ∃ x, ([.int .u8 a.kind.toNat, .bytes a.b none, .int .i64 a.w.names, .list 1 (a.w.bytes.map fun n => .int .i64 n) none, .int .i64 a.n] : List V) = x := ⟨_, rfl⟩
      have hd7 : dAt (L6 ++ [A]) T6 M wd := hd.frame ((Step.refl noS noS L6 T6).app [A]) (fun _ _ h => h) (fun _ _ h => h)
      obtain ⟨m1, m2, m3⟩ := makes_act6 ham (16 * i) M hd.ok hsz (by omega)
      have hlv3 := lives_act6 a M hlv
      have hb := ham.1
      by_cases h4 : k = 4
      · have d4 : decide ((k : Int) = 4) = true := decide_eq_true (by omega)
        have e : act6 a = begD := if_pos (hk.trans h4)
        rw [e] at m1 m2 m3 hlv3
        simp (maxSteps:=2000000) only[bitvec_to_nat,seval,↓tcd,hdc,hgd,Int.toNat_natCast,List.length_map,hmod,d4]
        refine ⟨⟨by omega, by omega⟩, ?_⟩
        rw [hA]
        refine ⟨M, wd, by rw [hwd], hd7, m1, fun L8 T8 w8 ho8 hd8 hst8 => ?_⟩
        rw [hwd] at ho8
        simp (maxSteps:=2000000) only[bitvec_to_nat,seval,↓tcd,hi1]
        refine ⟨⟨(i + 1, L8, T8, (begD.f M).1, w8), him, ho8, hd8, (hg.app [A]).trans hst8, hlv3, m3.mono (by omega)⟩, ?_, by simp only; omega⟩
        simp (maxSteps:=2000000) only[bitvec_to_nat,seval,↓tcd,leLL_self,hi1]
      · have d4 : decide ((k : Int) = 4) = false := decide_eq_false (by omega)
        by_cases h7 : k = 7
        · have d7 : decide ((k : Int) = 7) = true := decide_eq_true (by omega)
          have e : act6 a = appendD jn a.b := by unfold act6; rw [hk, if_neg h4, if_pos h7]
          rw [e] at m1 m2 m3 hlv3
          simp (maxSteps:=2000000) only[bitvec_to_nat,seval,↓tcd,hdc,hgd,Int.toNat_natCast,List.length_map,hmod,d4,d7]
          refine ⟨⟨by omega, by omega⟩, ?_⟩
          rw [hA]
          refine op_o hwd (if_pos (by omega)) hd7 m1 fun L8 T8 w8 ho8 hd8 hst8 => ?_
          simp (maxSteps:=2000000) only[bitvec_to_nat,seval,↓tcd,hi1]
          refine ⟨⟨(i + 1, L8, T8, ((appendD jn a.b).f M).1, w8), him, ho8, hd8, (hg.app [A]).trans hst8, hlv3, m3.mono (by omega)⟩, ?_, by simp only; omega⟩
          simp (maxSteps:=2000000) only[bitvec_to_nat,seval,↓tcd,leLL_self,hi1]
        · have d7 : decide ((k : Int) = 7) = false := decide_eq_false (by omega)
          have e : act6 a = addD a.b := by unfold act6; rw [hk, if_neg h4, if_neg h7]
          rw [e] at m1 m2 m3 hlv3
          simp (maxSteps:=2000000) only[bitvec_to_nat,seval,↓tcd,hdc,hgd,Int.toNat_natCast,List.length_map,hmod,d4,d7]
          refine ⟨⟨by omega, by omega⟩, ?_⟩
          rw [hA]
          refine ⟨M, wd, a.b, none, by rw [hwd], hd7, m1, fun L8 T8 w8 ho8 hd8 hst8 => ?_⟩
          rw [hwd] at ho8
          simp (maxSteps:=2000000) only[bitvec_to_nat,seval,↓tcd,hi1]
          refine ⟨⟨(i + 1, L8, T8, ((addD a.b).f M).1, w8), him, ho8, hd8, (hg.app [A]).trans hst8, hlv3, m3.mono (by omega)⟩, ?_, by simp only; omega⟩
          simp (maxSteps:=2000000) only[bitvec_to_nat,seval,↓tcd,leLL_self,hi1]
    · have hdc : decide ((i : Int) < ((few l).length : Int)) = false := decide_eq_false (by omega)
      obtain ⟨m1, m2, m3⟩ := makes_put jn (b := []) (by simp) (16 * i) M hd.ok hsz (by omega)
      obtain ⟨p1, p2, _⟩ := put_live hlv hd.ok hsz jn_ok (x := []) (by simp) (by omega) (fun h => absurd rfl h)
      have hwr6 : L6[L.length]? = some [.int .i64 wr.names, .list 1 (wr.bytes.map fun n => .int .i64 n) none] := by rw [hg.keep L.length hlw (fun h => h)]; exact hwr1
      simp (maxSteps:=2000000) only[bitvec_to_nat,seval,↓tcd,hdc]
      refine ⟨M, wd, by rw [hwd], hd, m1, fun L8 T8 w8 ho8 hd8 hst8 => ?_⟩
      rw [hwd] at ho8
      have hg8 := hg.trans hst8
      have hwr8 : L8[L.length]? = some [.int .i64 wr.names, .list 1 (wr.bytes.map fun n => .int .i64 n) none] := by rw [hg8.keep L.length hlw (fun h => h)]; exact hwr1
      have hlw8 := lt_at hwr8
      change dAt L8 T8 ((putAll jn []).f M).1 w8 at hd8
      rw [show (begD.f M).2 = 0 from p1]
      simp only [code_V, Int.natCast_zero]
      simp (maxSteps:=2000000) only[bitvec_to_nat,seval,↓tcd,hwr8,hlw8]
      refine crash_o ho8 wr.bytes (.inr ⟨none, rfl⟩) hwb hd8 (m3.small (by omega)) fun L9 T9 w9 ho9 hd9 hst9 => ?_
      obtain ⟨o1, o2⟩ := open_has m2 p2 ⟨wr.names, wr.bytes⟩
      have hs5 := small_crash (m3.small (by omega)) m2 ⟨wr.names, wr.bytes⟩
      obtain ⟨M5, hM5⟩ : ∃ M5, ((putAll jn []).f M).1.crash ⟨wr.names, wr.bytes⟩ = M5 := ⟨_, rfl⟩
      rw [hM5] at hd9 o1 o2 hs5
      have hop : openF M5 = (M5, [], 0) := by
        unfold openF
        rw [o1, o2, all_nil]
        simp
      simp (maxSteps:=2000000) only[bitvec_to_nat,seval,↓tcd,code_V,Int.natCast_zero]
      refine ⟨M5, w9, by rw [ho9], hd9, ⟨hs5, by rw [o1]; simp, fun b hb hlt => (by rw [o1, all_nil] at hlt; exact absurd hlt (by simp))⟩, fun L10 T10 w10 ho10 hd10 hst10 => ?_⟩
      simp only [hop, Int.natCast_zero]
      have hg10 := (hg8.trans hst9).trans hst10
      simp (maxSteps:=2000000) only[bitvec_to_nat,seval,↓tcd,List.map_nil,List.length_nil]
      exact ret_of (⟨Nat.le_trans hL0 hg10.len, fun _ _ h => absurd trivial h, fun _ h => h.elim, Nat.le_trans hT0 hg10.tlen, fun _ _ h => absurd trivial h, fun _ h => h.elim⟩ : Step (fun _ => True) (fun _ => True) L T noS noS L10 T10) (hK _ _)
end Go.Proofs.Ytpncnionnfomeaa.JourX
namespace Go.Proofs.Ytpncnionnfomeaa.JourX
open Go Go.Proofs Go.Proofs.Ytpncnionnfomeaa.Aw Go.Proofs.Ytpncnionnfomeaa.Num Go.Proofs.Ytpncnionnfomeaa.DiskM Go.Proofs.Ytpncnionnfomeaa.DiskA Go.Proofs.Ytpncnionnfomeaa.DiskC Go.Proofs.Ytpncnionnfomeaa.Disk Go.Proofs.Ytpncnionnfomeaa.FrameM
set_option linter.unusedSimpArgs false
set_option linter.unusedVariables false
def tv (p : List UInt8 × Option Nat) : V := .bytes p.1 p.2
theorem getD_tv {l : List (List UInt8 × Option Nat)} {k : Nat} (h : k < l.length) : (l.map tv).getD k .any = .bytes l[k].1 l[k].2 := by
  rw [List.getD_eq_getElem?_getD, List.getElem?_map, List.getElem?_eq_getElem h]; rfl
def sameTP : PM := fun args L T K => ∃ (x : List (List UInt8)) (ps : List (List UInt8 × Option Nat)) (t : Nat), args = [.list 1 (x.map bv) none, .list 1 (ps.map tv) (some t)] ∧ x.length ≤ 1099511627776 ∧ ∀ L' T', Step noS noS L T noS noS L' T' → K (.bool (decide (x = ps.map (·.1)))) L' T'
def J8 : Fns := { fn := fun f => J0.fn f, mu := fun d => .no, hp := fun f => J0.hp f, ord := fun i => none, it := fun f => J0.it f }
theorem J8_fn (f : FuncId) : J8.fn f = (J0.fn f) := rfl
theorem J8_mu (d : Tmp) : J8.mu d = (.no) := rfl
theorem J8_hp (f : FuncId) : J8.hp f = (J0.hp f) := rfl
theorem J8_ord (i : Nat) : J8.ord i = (none) := rfl
theorem J8_it (f : FuncId) : J8.it f = (J0.it f) := rfl
theorem J8_hy (b : Nat) : J8.hy b = none := rfl
theorem J8ok : FnsOk Try.prog J8 := FnsOk.same J0ok rfl rfl
attribute [bitvec_to_nat] J8_fn J8_mu J8_hp J8_ord J8_it J8_hy
theorem sameT_ok : PSound Try.prog 35 sameTP := by
  refine psound tysOk J8ok mix Try.func35 rfl ?_
  intro args L T K hm
  obtain ⟨x, ps, t, rfl, hlen, hK⟩ := hm
  have hK' : K (.bool (decide (x = ps.map (·.1)))) L T := hK L T (Step.refl _ _ _ _)
  simp (maxSteps:=2000000) only[bitvec_to_nat,seval,↓tcd,Try.f35,List.length_map]
  refine awpIf_intro (fun h => ?_) (fun h => ?_) <;> simp only [decide_eq_true_eq, decide_eq_false_iff_not] at h
  · have hxy : x.length = ps.length := by omega
    refine awpLoop_intro (α := {i : Nat // i ≤ x.length ∧ x.take i = (ps.map (·.1)).take i}) (fun i => ⟨[.list 1 (x.map bv) none, .list 1 (ps.map tv) (some t), .any, .any, .any, .int .i64 (i.1 : Int), .any, .any, .any, .any, .any, .any, .any, .any, .any, .any, .any, .any, .any, .any, .any, .any, .any, .any, .any, .any, .any, .any], L, T⟩) (fun i => x.length - i.1) ⟨0, by omega, by simp⟩ ?_ ?_ (fun q => ⟨Nat.le_refl _, Nat.le_refl _⟩)
    · simp (maxSteps:=2000000) only[bitvec_to_nat,seval,↓tcd,leLL_self]
      all_goals simp
    · rintro ⟨i, hi, heq⟩
      by_cases hlt : i < x.length
      · have g1 := getD_bv hlt
        have g2 := getD_tv (show i < ps.length by omega)
        have hi1 : IntKind.i64.wrap ((i : Int) + 1) = ((i + 1 : Nat) : Int) := by rw [i64w (by omega) (by omega)]; omega
        have d1 : decide ((i : Int) < (x.length : Int)) = true := decide_eq_true (by omega)
        simp (maxSteps:=2000000) only[bitvec_to_nat,seval,↓tcd,Try.f35,List.length_map,Int.toNat_natCast,g1,g2,d1,hi1]
        have e1 : List.take (i + 1) x = List.take i x ++ [x.getD i []] := by rw [List.take_succ_eq_append_getElem hlt]; simp [List.getD_eq_getElem?_getD, List.getElem?_eq_getElem hlt]
        have e2 : List.take (i + 1) (ps.map (·.1)) = List.take i (ps.map (·.1)) ++ [(ps[i]'(by omega)).1] := by rw [List.take_succ_eq_append_getElem (by rw [List.length_map]; omega), List.getElem_map]
        refine ⟨by kernel_rfl, ⟨by omega, by omega⟩, ⟨by omega, by omega⟩, awpIf_intro (fun hs => ?_) (fun hs => ?_)⟩ <;> simp only [decide_eq_true_eq, decide_eq_false_iff_not] at hs
        · refine ⟨⟨i + 1, by omega, by rw [e1, e2, heq, hs]⟩, ?_, by simp only; omega⟩
          simp (maxSteps:=2000000) only[bitvec_to_nat,seval,↓tcd,leLL_self]
        · have hd : decide (x = ps.map (·.1)) = false := decide_eq_false fun e => hs (by
            have := congrArg (List.take (i + 1)) e
            rw [e1, e2, heq] at this
            have := List.append_cancel_left this
            exact (List.cons.inj this).1)
          rw [hd] at hK'
          exact ret_of (Step.refl noS noS L T) hK'
      · have d1 : decide ((i : Int) < (x.length : Int)) = false := decide_eq_false (by omega)
        have e1 : x = ps.map (·.1) := by
          rw [List.take_of_length_le (by omega), List.take_of_length_le (by rw [List.length_map]; omega)] at heq
          exact heq
        rw [show decide (x = ps.map (·.1)) = true from decide_eq_true e1] at hK'
        simp (maxSteps:=2000000) only[bitvec_to_nat,seval,↓tcd,Try.f35,List.length_map,d1]
        exact ret_of (Step.refl noS noS L T) hK'
  · rw [show decide (x = ps.map (·.1)) = false from decide_eq_false fun e => h (by rw [e, List.length_map])] at hK'
    exact ret_of (Step.refl noS noS L T) hK'
end Go.Proofs.Ytpncnionnfomeaa.JourX
namespace Go.Proofs.Ytpncnionnfomeaa.JourX
open Go Go.Proofs Go.Proofs.Ytpncnionnfomeaa.Aw Go.Proofs.Ytpncnionnfomeaa.Num Go.Proofs.Ytpncnionnfomeaa.DiskM Go.Proofs.Ytpncnionnfomeaa.DiskA Go.Proofs.Ytpncnionnfomeaa.DiskK Go.Proofs.Ytpncnionnfomeaa.DiskC Go.Proofs.Ytpncnionnfomeaa.Disk Go.Proofs.Ytpncnionnfomeaa.FrameM
open Go.Proofs.Ytpncnionnfomeaa.DiskL (readP syncP syncNamesP namesP doomP createP appendP wbV len_wbV Sz sz_new crash_o op_o small_crash Live begin_live read_live)
open Go.Proofs.Ytpncnionnfomeaa.Frame (allM putM sameM all_ok put_ok same_ok)
open Go.Proofs.Ytpncnionnfomeaa.Place (Do Makes putAll growAll dropD putFP growFP makes_put makes_grow makes_syncNames makes_append appendD growsOk put_live HasF WasF hasF_now hasF_read at_nil crash_of grow_live makes_growB)
set_option linter.unusedSimpArgs false
set_option linter.unusedVariables false
structure Notes (R : Int) (k : Nat) (l : List (List UInt8)) (M : MD) : Prop where
  live : Live M
  ok : M.Ok
  sz : Sz k M
  chs : M.chs = []
  room : M.room = R
  was : WasF M jn (framesF l)
  short : ∀ x ∈ l, x.length ≤ 4096
theorem hasF_was {M : MD} {s : Name} {b : List UInt8} (h : HasF s b b.length M) : WasF M s b := by
  obtain ⟨_, f, hf, hb⟩ := h
  exact ⟨fun hn => (by rw [hf] at hn; cases hn), fun g hg => (by rw [hf] at hg; cases hg; exact hb)⟩
theorem makes_addB {x : List UInt8} (h : x.length ≤ 5000) : Makes 90 (addD x) := by
  intro k M ok hs hk
  by_cases hx : 4096 < x.length
  · have e : (addD x).f M = (M, 3) := if_pos hx
    rw [e]
    exact ⟨fun h => absurd hx h, ok, hs.mono (by omega)⟩
  · obtain ⟨a, b, c⟩ := makes_growB jn (b := frameF x) (j := 87) (by rw [frameF_length]; omega) k M ok hs (by omega)
    have e : (addD x).f M = (growAll jn (frameF x)).f M := if_neg hx
    rw [e]
    exact ⟨fun _ => a, b, c⟩
theorem notes_add {R : Int} {k : Nat} {l : List (List UInt8)} {M : MD} (h : Notes R k l M) {x : List UInt8} (hx : x.length ≤ 4096) (hk : k ≤ 8000) (hr : ((50 * (k + 2) + 4104 : Nat) : Int) ≤ R) : ((addD x).f M).2 = 0 ∧ Notes R (k + 90) (l ++ [x]) ((addD x).f M).1 := by
  obtain ⟨_, m2, m3⟩ := makes_addB (x := x) (by omega) k M h.ok h.sz (by omega)
  have hl := lives_add x M h.live
  have e : (addD x).f M = (growAll jn (frameF x)).f M := if_neg (by omega)
  rw [e] at m2 m3 hl ⊢
  obtain ⟨g1, g2, g3⟩ := grow_live (b := frameF x) h.live h.ok h.sz jn_ok h.chs h.was hk (by rw [frameF_length, h.room]; omega)
  have hw := hasF_was g3
  rw [← framesF_snoc] at hw
  exact ⟨g1, hl, m2, m3, g3.1, g2.trans h.room, hw, fun y hy => by
    rcases List.mem_append.1 hy with hy | hy
    · exact h.short y hy
    · obtain rfl := List.mem_singleton.1 hy; exact hx⟩
theorem notes_new (R : Int) (hR : 0 ≤ R) : Notes R 0 [] (DiskM.new R) := ⟨⟨rfl, rfl⟩, (new_dAt R [] []).ok, sz_new R, rfl, if_neg (by omega), ⟨fun _ => rfl, fun f hf => by cases hf⟩, fun x hx => by cases hx⟩
theorem notes_read {R : Int} {k : Nat} {l : List (List UInt8)} {M : MD} (h : Notes R k l M) : M.readB jn = framesF l := by
  have hn : M.now = M.kept := by unfold MD.now; rw [h.chs]; rfl
  unfold MD.readB
  rw [begin_live h.live, hn]
  cases hk : nfind M.kept jn with
  | none => rw [h.was.none hk]; rfl
  | some f =>
    show (M.file f).1 = _
    rw [h.was.some f hk]
theorem notes_open {R : Int} {k : Nat} {l : List (List UInt8)} {M : MD} (h : Notes R k l M) : openF M = (M, l, 0) := by
  have hn : M.now = M.kept := by unfold MD.now; rw [h.chs]; rfl
  unfold openF
  rw [notes_read h, read_live h.live, hn, all_frames' l h.short]
  cases hk : nfind M.kept jn with
  | none =>
    have h0 := h.was.none hk
    cases l with
    | nil => simp
    | cons x r => rw [framesF_cons] at h0; have := congrArg List.length h0; simp [frameF_length] at this
  | some f => simp
theorem notes_pre {R : Int} {k : Nat} {l : List (List UInt8)} {M : MD} (h : Notes R k l M) (hk : k ≤ 10000) : openPre M := by
  have hb : (M.readB jn).length ≤ 50 * k := by
    unfold MD.readB
    rw [begin_live h.live]
    simp only [Bool.true_eq_false, if_false]
    split
    · simp
    · exact h.sz.file _
  refine ⟨h.sz.small hk, by omega, fun b _ hlt => ?_⟩
  rw [notes_read h, all_frames' l h.short] at hlt
  exact absurd hlt (Nat.lt_irrefl _)
def J5 : Fns := { fn := fun f => J0.fn f, mu := fun d => bif d == 5 then .nil 57 else .no, hp := fun f => if f = 31 then some shownP else if f = 13 then some newP else if f = 33 then some addP else if f = 34 then some openP else if f = 35 then some sameTP else J0.hp f, ord := fun i => none, it := fun f => J0.it f }
theorem J5_fn (f : FuncId) : J5.fn f = (J0.fn f) := rfl
theorem J5_mu (d : Tmp) : J5.mu d = (bif d == 5 then .nil 57 else .no) := rfl
theorem J5_hp (f : FuncId) : J5.hp f = (if f = 31 then some shownP else if f = 13 then some newP else if f = 33 then some addP else if f = 34 then some openP else if f = 35 then some sameTP else J0.hp f) := rfl
theorem J5_ord (i : Nat) : J5.ord i = (none) := rfl
theorem J5_it (f : FuncId) : J5.it f = (J0.it f) := rfl
theorem J5_hy (b : Nat) : J5.hy b = none := rfl
theorem J5ok : FnsOk Try.prog J5 := FnsOk.same (FnsOk.consP (FnsOk.consP (FnsOk.consP (FnsOk.consP (FnsOk.consP J0ok _ _ sameT_ok Try.func35 (by decide) (fun h => by cases h)) _ _ open_ok Try.func34 (by decide) (fun h => by cases h)) _ _ add_ok Try.func33 (by decide) (fun h => by cases h)) _ _ new_ok Try.func13 (by decide) (fun h => by cases h)) _ _ shown_ok Try.func31 (by decide) (fun h => by cases h)) rfl rfl
attribute [bitvec_to_nat] J5_fn J5_mu J5_hp J5_ord J5_it J5_hy
def longP : PM := fun args L T K => ∃ (l : List Int), args = [.list 1 (l.map fun n => .int .u16 n) none] ∧ (∀ n ∈ l, 0 ≤ n ∧ n ≤ 65535) ∧ l.length ≤ 9223372036854775807 ∧ ∀ L' T', K (.bool true) L' T'
set_option maxHeartbeats 4000000 in
theorem long_ok : PSound Try.prog 11 longP := by
  refine psound tysOk J5ok mix Try.func11 rfl ?_
  intro args L T K hm
  obtain ⟨l, rfl, hl16, hlen, hK⟩ := hm
  simp (maxSteps:=2000000) only[bitvec_to_nat,seval,↓tcd,Try.f11]
  refine ⟨rfl, fun L1 T1 hst1 => ?_⟩
  simp (maxSteps:=2000000) only[bitvec_to_nat,seval,↓tcd]
  refine ⟨1048576, rfl, fun L2 w2 ho2 hd2 hst2 => ?_⟩
  obtain ⟨od, hod⟩ : ∃ o, w2.o = o := ⟨_, rfl⟩
  rw [hod]
  simp (maxSteps:=2000000) only[bitvec_to_nat,seval,↓tcd,List.length_map]
  have hfin : ∀ {S R L' T'}, Step noS noS L1 T1 S R L' T' → Step (fun _ => True) (fun _ => True) L T noS noS L' T' := fun g => ⟨Nat.le_trans hst1.len g.len, fun _ _ h => absurd trivial h, fun _ h => h.elim, Nat.le_trans hst1.tlen g.tlen, fun _ _ h => absurd trivial h, fun _ h => h.elim⟩
  refine awpLoop_intro (α := {q : Nat × List (List UInt8 × Option Nat) × LL × TT × MD × Own // q.1 ≤ l.length ∧ q.1 ≤ 10 ∧ q.2.1.length ≤ q.1 ∧ q.2.2.2.2.2.o = od ∧ dAt q.2.2.1 q.2.2.2.1 q.2.2.2.2.1 q.2.2.2.2.2 ∧ Step noS noS L1 T1 q.2.2.2.2.2.S q.2.2.2.2.2.R q.2.2.1 q.2.2.2.1 ∧ Notes 1048576 (90 * q.1) (q.2.1.map (·.1)) q.2.2.2.2.1 ∧ q.2.2.2.1[T1.length]? = some (q.2.1.length, 32) ∧ ¬ q.2.2.2.2.2.R T1.length})
    (fun q => ⟨[.any, .any, .bool false, .bool true, .box od 0, .list 1 (q.1.2.1.map tv) (some T1.length), .any, .any, .any, .any, .any, .any, .any, .any, .any, .any, .list 1 (l.map fun n => .int .u16 n) none, .int .i64 (l.length : Int), .int .i64 (q.1.1 : Int), .any, .any, .any, .any, .any, .any, .any, .any, .any, .any, .any, .any, .any, .any, .any, .any, .any, .any, .any, .any, .any, .any, .any, .any, .any, .any, .any, .any, .any, .any, .any, .any, .any, .any, .any, .any, .any, .any, .any, .any, .any, .any, .any, .any, .any, .any, .any, .any, .any], q.1.2.2.1, q.1.2.2.2.1⟩) (fun q => l.length - q.1.1)
    ⟨(0, [], L2, T1 ++ [(0, 32)], DiskM.new 1048576, w2), Nat.zero_le _, Nat.zero_le _, Nat.le_refl _, hod, hd2.frame ((Step.refl noS noS L2 T1).tapp _) (fun _ _ h => h) (fun _ _ h => h), hst2.tapp _, notes_new _ (by decide), by rw [tat_new rfl]; rfl, fun h => (by have := hd2.tlt _ h; omega)⟩ ?_ ?_ (fun q => ⟨Nat.le_trans hst1.len q.2.2.2.2.2.2.1.len, Nat.le_trans hst1.tlen q.2.2.2.2.2.2.1.tlen⟩)
  · simp (maxSteps:=2000000) only[bitvec_to_nat,seval,↓tcd,leLL_self]
    all_goals simp
  · rintro ⟨⟨i, ps, L6, T6, M, wd⟩, hi, hi10, hnl, hwd, hd, hg, hN, hT, hR⟩
    simp only at hi hi10 hnl hwd hd hg hN hT hR
    by_cases him : i < l.length
    · have hdc : decide ((i : Int) < (l.length : Int)) = true := decide_eq_true (by omega)
      by_cases h10 : i < 10
      · have d10 : decide (10 ≤ (i : Int)) = false := decide_eq_false (by omega)
        obtain ⟨z, hz⟩ : ∃ z, l[i] = z := ⟨_, rfl⟩
        have hzb := hl16 l[i] (List.getElem_mem him)
        rw [hz] at hzb
        have hgd : (l.map fun n => V.int .u16 n).getD i .any = .int .u16 z := by
          rw [List.getD_eq_getElem?_getD, List.getElem?_map, List.getElem?_eq_getElem him, ← hz]; rfl
        have hi1 : IntKind.i64.wrap ((i : Int) + 1) = ((i + 1 : Nat) : Int) := by rw [i64w (by omega) (by omega)]; omega
        obtain ⟨m, hm⟩ : ∃ m : Nat, z.tmod 5001 = (m : Int) ∧ m ≤ 5000 := by
          obtain ⟨y, rfl⟩ := Int.eq_ofNat_of_zero_le hzb.1
          exact ⟨y % 5001, rfl, by omega⟩
        have hmw : IntKind.i64.wrap ((m : Nat) : Int) = ((m : Nat) : Int) := i64w (by omega) (by omega)
        obtain ⟨x, hx⟩ : ∃ x : List UInt8, List.replicate m 0 = x := ⟨_, rfl⟩
        have hxl : x.length = m := by rw [← hx]; simp
        simp (maxSteps:=2000000) only[bitvec_to_nat,seval,↓tcd,hdc,hgd,d10,Int.toNat_natCast,List.length_map,hm.1,hmw,hx]
        obtain ⟨_, hm5⟩ := hm
        refine ⟨⟨by omega, by omega⟩, ⟨by omega, by omega, by omega, by omega⟩, ?_⟩
        have hd7 : dAt L6 (T6 ++ [(x.length, 5)]) M wd := hd.frame ((Step.refl noS noS L6 T6).tapp _) (fun _ _ h => h) (fun _ _ h => h)
        have hg7 : Step noS noS L1 T1 wd.S wd.R L6 (T6 ++ [(x.length, 5)]) := hg.tapp _
        obtain ⟨m1, m2, m3⟩ := makes_addB (x := x) (by omega) (90 * i) M hN.ok hN.sz (by omega)
        have hTl : T1.length < T6.length := (List.getElem?_eq_some_iff.1 hT).1
        refine ⟨M, wd, x, some T6.length, by rw [hwd], hd7, m1, fun L8 T8 w8 ho8 hd8 hst8 => ?_⟩
        rw [hwd] at ho8
        have hg8 := hg7.trans hst8
        have hT8 : T8[T1.length]? = some (ps.length, 32) := by
          rw [hst8.tkeep T1.length (by simp; omega) hR, List.getElem?_append_left hTl]; exact hT
        have hR8 : ¬ w8.R T1.length := fun h => (hst8.town _ h).elim hR (fun h => by simp at h; omega)
        by_cases hlx : 4096 < x.length
        · have e : (addD x).f M = (M, 3) := if_pos hlx
          have dl : decide ((x.length : Int) ≤ 4096) = false := decide_eq_false (by omega)
          rw [e] at hd8 ⊢
          simp only [code_V, Int.cast_ofNat_Int]
          simp (maxSteps:=2000000) only[bitvec_to_nat,seval,↓tcd,dl,hi1]
          refine ⟨⟨(i + 1, ps, L8, T8, M, w8), him, by simp only; omega, by simp only; omega, ho8, hd8, hg8, ⟨hN.live, hN.ok, hN.sz.mono (by omega), hN.chs, hN.room, hN.was, hN.short⟩, hT8, hR8⟩, ?_, by simp only; omega⟩
          simp (maxSteps:=2000000) only[bitvec_to_nat,seval,↓tcd,leLL_self]
        · obtain ⟨n1, n2⟩ := notes_add hN (x := x) (by omega) (by omega) (by omega)
          have dl : decide ((x.length : Int) ≤ 4096) = true := decide_eq_true (by omega)
          obtain ⟨M8, hM8⟩ : ∃ M8, ((addD x).f M).1 = M8 := ⟨_, rfl⟩
          rw [hM8] at n2 hd8
          rw [n1]
          simp only [code_V, Int.natCast_zero]
          have happ : List.map tv ps ++ [V.bytes x (some T6.length)] = (ps ++ [(x, some T6.length)]).map tv := by simp [tv]
          simp (maxSteps:=2000000) only[bitvec_to_nat,seval,↓tcd,dl,hi1,happ]
          have hTl8 : T1.length < T8.length := (List.getElem?_eq_some_iff.1 hT8).1
          have hst : Step noS (fun k => k = T1.length) L8 T8 noS (fun k => k = T1.length) L8 ((T8 ++ [(1, 32)]).set T1.length (((ps ++ [(x, some T6.length)]).map tv).length, 32)) := ((Step.refl noS (fun k => k = T1.length) L8 T8).tapp [(1, 32)]).tset (k := T1.length) (.inl (show T1.length = T1.length from rfl)) _
          have hRk : ∀ k, w8.R k → ¬ k = T1.length := fun k hk e => hR8 (by rw [← e]; exact hk)
          refine ⟨⟨by rw [List.getElem?_append_left hTl8, List.length_map]; exact hT8, by unfold maxBytes; rw [List.length_map]; omega⟩, ⟨(i + 1, ps ++ [(x, some T6.length)], L8, (T8 ++ [(1, 32)]).set T1.length (((ps ++ [(x, some T6.length)]).map tv).length, 32), M8, w8), him, by simp only; omega, by simp; omega, ho8, hd8.frame hst (fun _ _ h => h) hRk, (hg8.tapp [(1, 32)]).tset (k := T1.length) (.inr (Nat.le_refl _)) _, ?_, ?_, hR8⟩, ?_, by simp only; omega⟩
          · simp only [List.map_append, List.map_cons, List.map_nil]
            exact n2
          · simp only
            rw [List.getElem?_set_self (by simp; omega), List.length_map]
          · simp (maxSteps:=2000000) only[bitvec_to_nat,seval,↓tcd,leLL_self]
      · have d10 : decide (10 ≤ (i : Int)) = true := decide_eq_true (by omega)
        have hzb := hl16 l[i] (List.getElem_mem him)
        have hgd : (l.map fun n => V.int .u16 n).getD i .any = .int .u16 l[i] := by
          rw [List.getD_eq_getElem?_getD, List.getElem?_map, List.getElem?_eq_getElem him]; rfl
        simp (maxSteps:=2000000) only[bitvec_to_nat,seval,↓tcd,hdc,hgd,d10,Int.toNat_natCast,List.length_map]
        refine ⟨⟨by omega, by omega⟩, ?_⟩
        refine ⟨M, wd, by rw [hwd], hd, notes_pre hN (by omega), fun L10 T10 w10 ho10 hd10 hst10 => ?_⟩
        simp only [notes_open hN, Int.natCast_zero]
        have hg10 := hg.trans hst10
        simp (maxSteps:=2000000) only[bitvec_to_nat,seval,↓tcd]
        refine ⟨ps.map (·.1), ps, T1.length, rfl, by rw [List.length_map]; omega, fun L11 T11 hst11 => ?_⟩
        rw [show decide (ps.map (·.1) = ps.map (·.1)) = true from decide_eq_true rfl]
        simp (maxSteps:=2000000) only[bitvec_to_nat,seval,↓tcd]
        exact ret_of (hfin (hg10.via hst11 (fun _ h => h.elim) (fun _ h => h.elim))) (hK _ _)
    · have hdc : decide ((i : Int) < (l.length : Int)) = false := decide_eq_false (by omega)
      simp (maxSteps:=2000000) only[bitvec_to_nat,seval,↓tcd,hdc]
      refine ⟨M, wd, by rw [hwd], hd, notes_pre hN (by omega), fun L10 T10 w10 ho10 hd10 hst10 => ?_⟩
      simp only [notes_open hN, Int.natCast_zero]
      have hg10 := hg.trans hst10
      simp (maxSteps:=2000000) only[bitvec_to_nat,seval,↓tcd]
      refine ⟨ps.map (·.1), ps, T1.length, rfl, by rw [List.length_map]; omega, fun L11 T11 hst11 => ?_⟩
      rw [show decide (ps.map (·.1) = ps.map (·.1)) = true from decide_eq_true rfl]
      simp (maxSteps:=2000000) only[bitvec_to_nat,seval,↓tcd]
      exact ret_of (hfin (hg10.via hst11 (fun _ h => h.elim) (fun _ h => h.elim))) (hK _ _)
end Go.Proofs.Ytpncnionnfomeaa.JourX
namespace Go.Proofs.Ytpncnionnfomeaa.JourU
open Go Go.Proofs Go.ChangeShapes Go.RowKit Go.Proofs.Ytpncnionnfomeaa.Aw
section
variable {H : Type} {enc : TypeId × Value → H} {w : World} {base : Nat} {held : Bool}
theorem cu16 : Try.prog.cellsOf 72 = 1 := by kernel_rfl
theorem u16s_open {n : Nat} {cs : List Value} {x : DataW H × List MemPlace} (h : DataW.trod enc Try.prog w base (fun _ => true) held n 71 cs = some x) :
    ∃ (a : Option Addr) (len cap : Nat) (l : List Int), cs = [.slice a len cap] ∧ l.length = len ∧ len ≤ maxLen ∧ (∀ g ∈ l, (Lit.int .u16 g).wf = true) ∧ Rel (K0 w) (.list 1 (l.map fun n => .int .u16 n) none) (.slice a len cap) :=
  slices_open Try.underlying71 cu16 (by omega) (fun n => .int .u16 n) (fun g => (Lit.int .u16 g).wf = true) (fun g => rfl) (fun n cs x hx => by
    obtain ⟨g, rfl, _, hw⟩ := DataW.trod_int Try.underlying72 hx
    refine ⟨g, hw, rfl, fun j h1 h2 => ?_⟩
    have : j = 0 := by simpa using h1
    subst this
    exact ⟨.int _ _, rfl⟩) h
end
end Go.Proofs.Ytpncnionnfomeaa.JourU
