import Derived.Test.YthlmfalfnpjndaaGreatAwX
import Derived.Test.YthlmfalfnpjndaaGreatProg
import Derived.Test.YthlmfalfnpjndaaGreatDiskA
import Derived.Test.YthlmfalfnpjndaaGreatNum
import Derived.Test.YthlmfalfnpjndaaGreatDiskP
import Derived.KernelRfl
namespace Go.Proofs.YthlmfalfnpjndaaGreat.Disk
open Go Go.Proofs Aw Num DiskM DiskA DiskK
set_option linter.unusedSimpArgs false
set_option linter.unusedVariables false
def I25 : TyI := ⟨.struct [(0,3),(1,23)],2,32,(.agg #[(.int .i64 0),(.slice none 0 0)])⟩
def I50 : TyI := ⟨.struct [(0,3),(1,3),(2,47),(3,47),(4,48),(5,4),(6,4),(7,3)],8,72,(.agg #[(.int .i64 0),(.int .i64 0),(.map none),(.map none),(.slice none 0 0),(.bool false),(.bool false),(.int .i64 0)])⟩
def I64 : TyI := ⟨.struct [(0,9),(1,9),(2,62)],3,40,(.agg #[(.string .empty),(.string .empty),(.pointer none)])⟩
def I71 : TyI := ⟨.struct [(0,32),(1,3)],2,32,(.agg #[(.slice none 0 0),(.int .i64 0)])⟩
def tys : Tys := fun t => if t = 3 then some ⟨.int .i64,1,8,(.int .i64 0)⟩ else if t = 4 then some ⟨.bool,1,1,(.bool false)⟩ else if t = 5 then some ⟨.int .u8,1,1,(.int .u8 0)⟩ else if t = 9 then some ⟨.str,1,16,(.string .empty)⟩ else if t = 23 then some ⟨.slice 3,1,24,(.slice none 0 0)⟩ else if t = 25 then some I25 else if t = 27 then some ⟨.ptr 50,1,8,(.pointer none)⟩ else if t = 32 then some ⟨.slice 5,1,24,(.slice none 0 0)⟩ else if t = 36 then some ⟨.int .i64,1,8,(.int .i64 0)⟩ else if t = 47 then some ⟨.map 9 62,1,8,(.map none)⟩ else if t = 48 then some ⟨.slice 64,1,24,(.slice none 0 0)⟩ else if t = 50 then some I50 else if t = 62 then some ⟨.ptr 71,1,8,(.pointer none)⟩ else if t = 64 then some I64 else if t = 67 then some ⟨.slice 9,1,24,(.slice none 0 0)⟩ else if t = 71 then some I71 else none
theorem tysOk : TyOk Tryz.prog tys := by
 refine TyOk.cons ?_ 3 _ (by kernel_rfl) (by kernel_rfl)
 refine TyOk.cons ?_ 4 _ (by kernel_rfl) (by kernel_rfl)
 refine TyOk.cons ?_ 5 _ (by kernel_rfl) (by kernel_rfl)
 refine TyOk.cons ?_ 9 _ (by kernel_rfl) (by kernel_rfl)
 refine TyOk.cons ?_ 23 _ (by kernel_rfl) (by kernel_rfl)
 refine TyOk.cons ?_ 25 _ (by kernel_rfl) (by kernel_rfl)
 refine TyOk.cons ?_ 27 _ (by kernel_rfl) (by kernel_rfl)
 refine TyOk.cons ?_ 32 _ (by kernel_rfl) (by kernel_rfl)
 refine TyOk.cons ?_ 36 _ (by kernel_rfl) (by kernel_rfl)
 refine TyOk.cons ?_ 47 _ (by kernel_rfl) (by kernel_rfl)
 refine TyOk.cons ?_ 48 _ (by kernel_rfl) (by kernel_rfl)
 refine TyOk.cons ?_ 50 _ (by kernel_rfl) (by kernel_rfl)
 refine TyOk.cons ?_ 62 _ (by kernel_rfl) (by kernel_rfl)
 refine TyOk.cons ?_ 64 _ (by kernel_rfl) (by kernel_rfl)
 refine TyOk.cons ?_ 67 _ (by kernel_rfl) (by kernel_rfl)
 refine TyOk.cons ?_ 71 _ (by kernel_rfl) (by kernel_rfl)
 exact TyOk.nil _
theorem mix : Tryz.prog.follows .mixedOrders = true := by kernel_rfl
theorem ty3 : tys 3 = some ⟨.int .i64,1,8,(.int .i64 0)⟩ := rfl
theorem tk3 : kindV tys 3 = some (.int .i64) := rfl
theorem ts3 : sizeV tys 3 = 1 := rfl
theorem ta3 : TyI.isAgg ⟨.int .i64,1,8,(.int .i64 0)⟩ = false := rfl
theorem tu3 : isU8 ⟨.int .i64,1,8,(.int .i64 0)⟩ = false := rfl
theorem tn3 : notIntK tys 3 = false := rfl
theorem tr3 : isStrK tys 3 = false := rfl
theorem tv3 : zeroU8 ⟨.int .i64,1,8,(.int .i64 0)⟩ = false := rfl
theorem td3 : TyI.zeroV ⟨.int .i64,1,8,(.int .i64 0)⟩ = V.ofV1 (.int .i64 0) := rfl
theorem ty4 : tys 4 = some ⟨.bool,1,1,(.bool false)⟩ := rfl
theorem tk4 : kindV tys 4 = some (.bool) := rfl
theorem ts4 : sizeV tys 4 = 1 := rfl
theorem ta4 : TyI.isAgg ⟨.bool,1,1,(.bool false)⟩ = false := rfl
theorem tu4 : isU8 ⟨.bool,1,1,(.bool false)⟩ = false := rfl
theorem tn4 : notIntK tys 4 = true := rfl
theorem tr4 : isStrK tys 4 = false := rfl
theorem tz4 : zeroOk ⟨.bool,1,1,(.bool false)⟩ = true := by kernel_rfl
theorem tv4 : zeroU8 ⟨.bool,1,1,(.bool false)⟩ = false := rfl
theorem td4 : TyI.zeroV ⟨.bool,1,1,(.bool false)⟩ = V.ofV1 (.bool false) := rfl
theorem ty5 : tys 5 = some ⟨.int .u8,1,1,(.int .u8 0)⟩ := rfl
theorem tk5 : kindV tys 5 = some (.int .u8) := rfl
theorem ts5 : sizeV tys 5 = 1 := rfl
theorem ta5 : TyI.isAgg ⟨.int .u8,1,1,(.int .u8 0)⟩ = false := rfl
theorem tu5 : isU8 ⟨.int .u8,1,1,(.int .u8 0)⟩ = true := rfl
theorem tn5 : notIntK tys 5 = false := rfl
theorem tr5 : isStrK tys 5 = false := rfl
theorem tz5 : zeroOk ⟨.int .u8,1,1,(.int .u8 0)⟩ = true := by kernel_rfl
theorem tv5 : zeroU8 ⟨.int .u8,1,1,(.int .u8 0)⟩ = true := rfl
theorem td5 : TyI.zeroV ⟨.int .u8,1,1,(.int .u8 0)⟩ = V.ofV1 (.int .u8 0) := rfl
theorem ty9 : tys 9 = some ⟨.str,1,16,(.string .empty)⟩ := rfl
theorem tk9 : kindV tys 9 = some (.str) := rfl
theorem ts9 : sizeV tys 9 = 1 := rfl
theorem ta9 : TyI.isAgg ⟨.str,1,16,(.string .empty)⟩ = false := rfl
theorem tu9 : isU8 ⟨.str,1,16,(.string .empty)⟩ = false := rfl
theorem tn9 : notIntK tys 9 = true := rfl
theorem tr9 : isStrK tys 9 = true := rfl
theorem tv9 : zeroU8 ⟨.str,1,16,(.string .empty)⟩ = false := rfl
theorem td9 : TyI.zeroV ⟨.str,1,16,(.string .empty)⟩ = V.ofV1 (.string .empty) := rfl
theorem ty23 : tys 23 = some ⟨.slice 3,1,24,(.slice none 0 0)⟩ := rfl
theorem tk23 : kindV tys 23 = some (.slice 3) := rfl
theorem ts23 : sizeV tys 23 = 1 := rfl
theorem ta23 : TyI.isAgg ⟨.slice 3,1,24,(.slice none 0 0)⟩ = false := rfl
theorem tb23 : isBytes tys 23 = false := rfl
theorem te23 : elemI tys 23 = some (3,⟨.int .i64,1,8,(.int .i64 0)⟩) := rfl
theorem tu23 : isU8 ⟨.slice 3,1,24,(.slice none 0 0)⟩ = false := rfl
theorem tn23 : notIntK tys 23 = true := rfl
theorem tr23 : isStrK tys 23 = false := rfl
theorem tv23 : zeroU8 ⟨.slice 3,1,24,(.slice none 0 0)⟩ = false := rfl
theorem td23 : TyI.zeroV ⟨.slice 3,1,24,(.slice none 0 0)⟩ = V.ofV1 (.slice none 0 0) := rfl
theorem ty25 : tys 25 = some I25 := rfl
theorem tk25 : kindV tys 25 = some (.struct [(0,3),(1,23)]) := rfl
theorem ts25 : sizeV tys 25 = 2 := rfl
theorem ta25 : TyI.isAgg I25 = true := rfl
theorem tu25 : isU8 I25 = false := rfl
theorem tn25 : notIntK tys 25 = true := rfl
theorem tr25 : isStrK tys 25 = false := rfl
theorem tv25 : zeroU8 I25 = false := rfl
theorem tc25 : V.ofV (.agg #[(.int .i64 0),(.slice none 0 0)]) = .agg [V.ofV1 (.int .i64 0),V.ofV1 (.slice none 0 0)] := by kernel_rfl
theorem tw25 : Value.oneCell' (.agg #[(.int .i64 0),(.slice none 0 0)]) = false := rfl
theorem tx25 : (#[(.int .i64 0),(.slice none 0 0)] : Array Value).all (fun x => x.oneCell') 0 2 = true := by kernel_rfl
theorem td25 : TyI.zeroV I25 = .agg [V.ofV1 (.int .i64 0),V.ofV1 (.slice none 0 0)] := by kernel_rfl
theorem tp25_0 : placeV tys [(0,3),(1,23)] 0 = some (0,1) := rfl
theorem tp25_1 : placeV tys [(0,3),(1,23)] 1 = some (1,1) := rfl
theorem tq25 : ([(0,3),(1,23)].all (fun f => (tys f.2).isSome)) = true := rfl
theorem ty27 : tys 27 = some ⟨.ptr 50,1,8,(.pointer none)⟩ := rfl
theorem tk27 : kindV tys 27 = some (.ptr 50) := rfl
theorem ts27 : sizeV tys 27 = 1 := rfl
theorem ta27 : TyI.isAgg ⟨.ptr 50,1,8,(.pointer none)⟩ = false := rfl
theorem tu27 : isU8 ⟨.ptr 50,1,8,(.pointer none)⟩ = false := rfl
theorem tn27 : notIntK tys 27 = true := rfl
theorem tr27 : isStrK tys 27 = false := rfl
theorem tv27 : zeroU8 ⟨.ptr 50,1,8,(.pointer none)⟩ = false := rfl
theorem td27 : TyI.zeroV ⟨.ptr 50,1,8,(.pointer none)⟩ = V.ofV1 (.pointer none) := rfl
theorem ty32 : tys 32 = some ⟨.slice 5,1,24,(.slice none 0 0)⟩ := rfl
theorem tk32 : kindV tys 32 = some (.slice 5) := rfl
theorem ts32 : sizeV tys 32 = 1 := rfl
theorem ta32 : TyI.isAgg ⟨.slice 5,1,24,(.slice none 0 0)⟩ = false := rfl
theorem tb32 : isBytes tys 32 = true := rfl
theorem te32 : elemI tys 32 = some (5,⟨.int .u8,1,1,(.int .u8 0)⟩) := rfl
theorem tu32 : isU8 ⟨.slice 5,1,24,(.slice none 0 0)⟩ = false := rfl
theorem tn32 : notIntK tys 32 = true := rfl
theorem tr32 : isStrK tys 32 = false := rfl
theorem tv32 : zeroU8 ⟨.slice 5,1,24,(.slice none 0 0)⟩ = false := rfl
theorem td32 : TyI.zeroV ⟨.slice 5,1,24,(.slice none 0 0)⟩ = V.ofV1 (.slice none 0 0) := rfl
theorem ty36 : tys 36 = some ⟨.int .i64,1,8,(.int .i64 0)⟩ := rfl
theorem tk36 : kindV tys 36 = some (.int .i64) := rfl
theorem ts36 : sizeV tys 36 = 1 := rfl
theorem ta36 : TyI.isAgg ⟨.int .i64,1,8,(.int .i64 0)⟩ = false := rfl
theorem tu36 : isU8 ⟨.int .i64,1,8,(.int .i64 0)⟩ = false := rfl
theorem tn36 : notIntK tys 36 = false := rfl
theorem tr36 : isStrK tys 36 = false := rfl
theorem tv36 : zeroU8 ⟨.int .i64,1,8,(.int .i64 0)⟩ = false := rfl
theorem td36 : TyI.zeroV ⟨.int .i64,1,8,(.int .i64 0)⟩ = V.ofV1 (.int .i64 0) := rfl
theorem ty47 : tys 47 = some ⟨.map 9 62,1,8,(.map none)⟩ := rfl
theorem tk47 : kindV tys 47 = some (.map 9 62) := rfl
theorem ts47 : sizeV tys 47 = 1 := rfl
theorem ta47 : TyI.isAgg ⟨.map 9 62,1,8,(.map none)⟩ = false := rfl
theorem tu47 : isU8 ⟨.map 9 62,1,8,(.map none)⟩ = false := rfl
theorem tn47 : notIntK tys 47 = true := rfl
theorem tr47 : isStrK tys 47 = false := rfl
theorem tv47 : zeroU8 ⟨.map 9 62,1,8,(.map none)⟩ = false := rfl
theorem td47 : TyI.zeroV ⟨.map 9 62,1,8,(.map none)⟩ = V.ofV1 (.map none) := rfl
theorem ty48 : tys 48 = some ⟨.slice 64,1,24,(.slice none 0 0)⟩ := rfl
theorem tk48 : kindV tys 48 = some (.slice 64) := rfl
theorem ts48 : sizeV tys 48 = 1 := rfl
theorem ta48 : TyI.isAgg ⟨.slice 64,1,24,(.slice none 0 0)⟩ = false := rfl
theorem tb48 : isBytes tys 48 = false := rfl
theorem te48 : elemI tys 48 = some (64,I64) := rfl
theorem tu48 : isU8 ⟨.slice 64,1,24,(.slice none 0 0)⟩ = false := rfl
theorem tn48 : notIntK tys 48 = true := rfl
theorem tr48 : isStrK tys 48 = false := rfl
theorem tv48 : zeroU8 ⟨.slice 64,1,24,(.slice none 0 0)⟩ = false := rfl
theorem td48 : TyI.zeroV ⟨.slice 64,1,24,(.slice none 0 0)⟩ = V.ofV1 (.slice none 0 0) := rfl
theorem ty50 : tys 50 = some I50 := rfl
theorem tk50 : kindV tys 50 = some (.struct [(0,3),(1,3),(2,47),(3,47),(4,48),(5,4),(6,4),(7,3)]) := rfl
theorem ts50 : sizeV tys 50 = 8 := rfl
theorem ta50 : TyI.isAgg I50 = true := rfl
theorem tg50 : I50.size = 8 ∧ I50.kind = .struct [(0,3),(1,3),(2,47),(3,47),(4,48),(5,4),(6,4),(7,3)] ∧ I50.bytes = 72 ∧ I50.zero = (.agg #[(.int .i64 0),(.int .i64 0),(.map none),(.map none),(.slice none 0 0),(.bool false),(.bool false),(.int .i64 0)]) := ⟨rfl,rfl,rfl,rfl⟩
theorem tu50 : isU8 I50 = false := rfl
theorem tn50 : notIntK tys 50 = true := rfl
theorem tr50 : isStrK tys 50 = false := rfl
theorem tz50 : zeroOk I50 = true := by kernel_rfl
theorem tv50 : zeroU8 I50 = false := rfl
theorem tc50 : V.ofV (.agg #[(.int .i64 0),(.int .i64 0),(.map none),(.map none),(.slice none 0 0),(.bool false),(.bool false),(.int .i64 0)]) = .agg [V.ofV1 (.int .i64 0),V.ofV1 (.int .i64 0),V.ofV1 (.map none),V.ofV1 (.map none),V.ofV1 (.slice none 0 0),V.ofV1 (.bool false),V.ofV1 (.bool false),V.ofV1 (.int .i64 0)] := by kernel_rfl
theorem tw50 : Value.oneCell' (.agg #[(.int .i64 0),(.int .i64 0),(.map none),(.map none),(.slice none 0 0),(.bool false),(.bool false),(.int .i64 0)]) = false := rfl
theorem tx50 : (#[(.int .i64 0),(.int .i64 0),(.map none),(.map none),(.slice none 0 0),(.bool false),(.bool false),(.int .i64 0)] : Array Value).all (fun x => x.oneCell') 0 8 = true := by kernel_rfl
theorem td50 : TyI.zeroV I50 = .agg [V.ofV1 (.int .i64 0),V.ofV1 (.int .i64 0),V.ofV1 (.map none),V.ofV1 (.map none),V.ofV1 (.slice none 0 0),V.ofV1 (.bool false),V.ofV1 (.bool false),V.ofV1 (.int .i64 0)] := by kernel_rfl
theorem tp50_0 : placeV tys [(0,3),(1,3),(2,47),(3,47),(4,48),(5,4),(6,4),(7,3)] 0 = some (0,1) := rfl
theorem tp50_1 : placeV tys [(0,3),(1,3),(2,47),(3,47),(4,48),(5,4),(6,4),(7,3)] 1 = some (1,1) := rfl
theorem tp50_2 : placeV tys [(0,3),(1,3),(2,47),(3,47),(4,48),(5,4),(6,4),(7,3)] 2 = some (2,1) := rfl
theorem tp50_3 : placeV tys [(0,3),(1,3),(2,47),(3,47),(4,48),(5,4),(6,4),(7,3)] 3 = some (3,1) := rfl
theorem tp50_4 : placeV tys [(0,3),(1,3),(2,47),(3,47),(4,48),(5,4),(6,4),(7,3)] 4 = some (4,1) := rfl
theorem tp50_5 : placeV tys [(0,3),(1,3),(2,47),(3,47),(4,48),(5,4),(6,4),(7,3)] 5 = some (5,1) := rfl
theorem tp50_6 : placeV tys [(0,3),(1,3),(2,47),(3,47),(4,48),(5,4),(6,4),(7,3)] 6 = some (6,1) := rfl
theorem tp50_7 : placeV tys [(0,3),(1,3),(2,47),(3,47),(4,48),(5,4),(6,4),(7,3)] 7 = some (7,1) := rfl
theorem tq50 : ([(0,3),(1,3),(2,47),(3,47),(4,48),(5,4),(6,4),(7,3)].all (fun f => (tys f.2).isSome)) = true := rfl
theorem ty62 : tys 62 = some ⟨.ptr 71,1,8,(.pointer none)⟩ := rfl
theorem tk62 : kindV tys 62 = some (.ptr 71) := rfl
theorem ts62 : sizeV tys 62 = 1 := rfl
theorem ta62 : TyI.isAgg ⟨.ptr 71,1,8,(.pointer none)⟩ = false := rfl
theorem tu62 : isU8 ⟨.ptr 71,1,8,(.pointer none)⟩ = false := rfl
theorem tn62 : notIntK tys 62 = true := rfl
theorem tr62 : isStrK tys 62 = false := rfl
theorem tv62 : zeroU8 ⟨.ptr 71,1,8,(.pointer none)⟩ = false := rfl
theorem td62 : TyI.zeroV ⟨.ptr 71,1,8,(.pointer none)⟩ = V.ofV1 (.pointer none) := rfl
theorem ty64 : tys 64 = some I64 := rfl
theorem tk64 : kindV tys 64 = some (.struct [(0,9),(1,9),(2,62)]) := rfl
theorem ts64 : sizeV tys 64 = 3 := rfl
theorem ta64 : TyI.isAgg I64 = true := rfl
theorem tg64 : I64.size = 3 ∧ I64.kind = .struct [(0,9),(1,9),(2,62)] ∧ I64.bytes = 40 ∧ I64.zero = (.agg #[(.string .empty),(.string .empty),(.pointer none)]) := ⟨rfl,rfl,rfl,rfl⟩
theorem tu64 : isU8 I64 = false := rfl
theorem tn64 : notIntK tys 64 = true := rfl
theorem tr64 : isStrK tys 64 = false := rfl
theorem tz64 : zeroOk I64 = true := by kernel_rfl
theorem tv64 : zeroU8 I64 = false := rfl
theorem tc64 : V.ofV (.agg #[(.string .empty),(.string .empty),(.pointer none)]) = .agg [V.ofV1 (.string .empty),V.ofV1 (.string .empty),V.ofV1 (.pointer none)] := by kernel_rfl
theorem tw64 : Value.oneCell' (.agg #[(.string .empty),(.string .empty),(.pointer none)]) = false := rfl
theorem tx64 : (#[(.string .empty),(.string .empty),(.pointer none)] : Array Value).all (fun x => x.oneCell') 0 3 = true := by kernel_rfl
theorem td64 : TyI.zeroV I64 = .agg [V.ofV1 (.string .empty),V.ofV1 (.string .empty),V.ofV1 (.pointer none)] := by kernel_rfl
theorem tp64_0 : placeV tys [(0,9),(1,9),(2,62)] 0 = some (0,1) := rfl
theorem tp64_1 : placeV tys [(0,9),(1,9),(2,62)] 1 = some (1,1) := rfl
theorem tp64_2 : placeV tys [(0,9),(1,9),(2,62)] 2 = some (2,1) := rfl
theorem tq64 : ([(0,9),(1,9),(2,62)].all (fun f => (tys f.2).isSome)) = true := rfl
theorem ty67 : tys 67 = some ⟨.slice 9,1,24,(.slice none 0 0)⟩ := rfl
theorem tk67 : kindV tys 67 = some (.slice 9) := rfl
theorem ts67 : sizeV tys 67 = 1 := rfl
theorem ta67 : TyI.isAgg ⟨.slice 9,1,24,(.slice none 0 0)⟩ = false := rfl
theorem tb67 : isBytes tys 67 = false := rfl
theorem te67 : elemI tys 67 = some (9,⟨.str,1,16,(.string .empty)⟩) := rfl
theorem tu67 : isU8 ⟨.slice 9,1,24,(.slice none 0 0)⟩ = false := rfl
theorem tn67 : notIntK tys 67 = true := rfl
theorem tr67 : isStrK tys 67 = false := rfl
theorem tv67 : zeroU8 ⟨.slice 9,1,24,(.slice none 0 0)⟩ = false := rfl
theorem td67 : TyI.zeroV ⟨.slice 9,1,24,(.slice none 0 0)⟩ = V.ofV1 (.slice none 0 0) := rfl
theorem ty71 : tys 71 = some I71 := rfl
theorem tk71 : kindV tys 71 = some (.struct [(0,32),(1,3)]) := rfl
theorem ts71 : sizeV tys 71 = 2 := rfl
theorem ta71 : TyI.isAgg I71 = true := rfl
theorem tg71 : I71.size = 2 ∧ I71.kind = .struct [(0,32),(1,3)] ∧ I71.bytes = 32 ∧ I71.zero = (.agg #[(.slice none 0 0),(.int .i64 0)]) := ⟨rfl,rfl,rfl,rfl⟩
theorem tu71 : isU8 I71 = false := rfl
theorem tn71 : notIntK tys 71 = true := rfl
theorem tr71 : isStrK tys 71 = false := rfl
theorem tz71 : zeroOk I71 = true := by kernel_rfl
theorem tv71 : zeroU8 I71 = false := rfl
theorem tc71 : V.ofV (.agg #[(.slice none 0 0),(.int .i64 0)]) = .agg [V.ofV1 (.slice none 0 0),V.ofV1 (.int .i64 0)] := by kernel_rfl
theorem tw71 : Value.oneCell' (.agg #[(.slice none 0 0),(.int .i64 0)]) = false := rfl
theorem tx71 : (#[(.slice none 0 0),(.int .i64 0)] : Array Value).all (fun x => x.oneCell') 0 2 = true := by kernel_rfl
theorem td71 : TyI.zeroV I71 = .agg [V.ofV1 (.slice none 0 0),V.ofV1 (.int .i64 0)] := by kernel_rfl
theorem tp71_0 : placeV tys [(0,32),(1,3)] 0 = some (0,1) := rfl
theorem tp71_1 : placeV tys [(0,32),(1,3)] 1 = some (1,1) := rfl
theorem tq71 : ([(0,32),(1,3)].all (fun f => (tys f.2).isSome)) = true := rfl
set_option linter.defProp false in
def tcd := And.intro @r_ifTrue (And.intro @r_ifFalse (And.intro tc25 (And.intro td25 (And.intro tc50 (And.intro td50 (And.intro tc64 (And.intro td64 (And.intro tc71 (td71)))))))))
attribute [bitvec_to_nat] ty3 tk3 ts3 ta3 tu3 tn3 tr3 tv3 td3 ty4 tk4 ts4 ta4 tu4 tn4 tr4 tz4 tv4 td4 ty5 tk5 ts5 ta5 tu5 tn5 tr5 tz5 tv5 td5 ty9 tk9 ts9 ta9 tu9 tn9 tr9 tv9 td9 ty23 tk23 ts23 ta23 tb23 te23 tu23 tn23 tr23 tv23 td23 ty25 tk25 ts25 ta25 tu25 tn25 tr25 tv25 tw25 tx25 tp25_0 tp25_1 tq25 ty27 tk27 ts27 ta27 tu27 tn27 tr27 tv27 td27 ty32 tk32 ts32 ta32 tb32 te32 tu32 tn32 tr32 tv32 td32 ty36 tk36 ts36 ta36 tu36 tn36 tr36 tv36 td36 ty47 tk47 ts47 ta47 tu47 tn47 tr47 tv47 td47 ty48 tk48 ts48 ta48 tb48 te48 tu48 tn48 tr48 tv48 td48 ty50 tk50 ts50 ta50 tg50 tu50 tn50 tr50 tz50 tv50 tw50 tx50 tp50_0 tp50_1 tp50_2 tp50_3 tp50_4 tp50_5 tp50_6 tp50_7 tq50 ty62 tk62 ts62 ta62 tu62 tn62 tr62 tv62 td62 ty64 tk64 ts64 ta64 tg64 tu64 tn64 tr64 tz64 tv64 tw64 tx64 tp64_0 tp64_1 tp64_2 tq64 ty67 tk67 ts67 ta67 tb67 te67 tu67 tn67 tr67 tv67 td67 ty71 tk71 ts71 ta71 tg71 tu71 tn71 tr71 tz71 tv71 tw71 tx71 tp71_0 tp71_1 tq71
def G0 : Fns := { fn := fun _ => none }
theorem G0_fn (f : FuncId) : G0.fn f = none := rfl
theorem G0_mu (d : Tmp) : G0.mu d = .no := rfl
theorem G0_hp (f : FuncId) : G0.hp f = none := rfl
theorem G0_ord (i : Nat) : G0.ord i = none := rfl
theorem G0_it (f : FuncId) : G0.it f = none := rfl
theorem G0_hy (b : Nat) : G0.hy b = none := rfl
theorem G0ok : FnsOk Tryz.prog G0 := FnsOk.nil _ rfl rfl
attribute [bitvec_to_nat] G0_fn G0_mu G0_hp G0_ord G0_it G0_hy
def withinM : FM
 | [.int .i64 n,.int .i64 m] => some (0 ≤ m,.int .i64 (within n m.toNat : Nat),[])
 | _ => none
theorem within_ok : FSound Tryz.prog 24 withinM := by
 refine fsound tysOk G0ok mix Tryz.func24 rfl ?_
 intro args p r fr hm hp
 unfold withinM at hm
 split at hm
 · rename_i n m
   cases hm
   simp (maxSteps:=2000000) only[bitvec_to_nat,seval,↓tcd,Tryz.f24]
   congr 1
   unfold within
   split <;> split <;> omega
 · cases hm
abbrev dAt := DiskAt 5 64
def beginP : PM := fun args L T K => ∃ M w,args = [.box w.o 0] ∧ dAt L T M w ∧ ∀ L' T' w',w'.o = w.o → w'.fs = w.fs → dAt L' T' M.begin.1 w' → (M.begin.2 = true → w'.ms.isSome = true) → Step w.S w.R L T w'.S w'.R L' T' → K (.int .i64 (if M.begin.2 = true then 0 else 40)) L' T'
theorem wrap_pred {n : Nat} (h : n ≠ 0) (hn : (n : Int) ≤ 9223372036854775807) : IntKind.i64.wrap ((n : Int) - 1) = ((n - 1 : Nat) : Int) := by
 rw [i64w (by omega) (by omega)]; omega
theorem begin_ok : PSound Tryz.prog 70 beginP := by
 refine psound tysOk G0ok mix Tryz.func70 rfl ?_
 intro args L T K hm
 obtain ⟨M,w,rfl,hd,hK⟩ := hm
 have hd' := hd
 obtain ⟨ok,⟨lf,h1,h2⟩,hmaps,hch,hn,hf,hnd⟩ := hd
 have hlt := lt_at h1
 obtain ⟨room,hroom⟩ : ∃ r,M.room = r := ⟨_,rfl⟩
 unfold headV at h1
 have hdown : ∀ K : V → LL → TT → Prop,(∀ L' T' w',w'.o = w.o → w'.fs = w.fs → dAt L' T' M.begin.1 w' → (M.begin.2 = true → w'.ms.isSome = true) → Step w.S w.R L T w'.S w'.R L' T' → K (.int .i64 (if M.begin.2 = true then 0 else 40)) L' T') → M.begin = ({ M with down := true },false) → M.down = true → K (.int .i64 40) L T := fun K hK hb hdn => by
  have := hK L T w rfl rfl (by rw [hb]; exact (show { M with down := true } = M by rw [← hdn]) ▸ hd') (by rw [hb]; intro h; cases h) (Step.refl _ _ _ _)
  rw [hb] at this
  exact this
 cases hdn : M.down with
 | true =>
  have hb : M.begin = ({ M with down := true },false) := by simp [MD.begin,hdn]
  have hgo := hdown K hK hb hdn
  rw [hdn] at h1
  cases hdo : M.doomed <;> rw [hdo] at h1
  · simp (maxSteps:=2000000) only[bitvec_to_nat,seval,↓tcd,Tryz.f70,h1,hlt]
    exact ret_of (Step.refl w.S w.R L T) hgo
  · simp (maxSteps:=2000000) only[bitvec_to_nat,seval,↓tcd,Tryz.f70,h1,hlt]
    refine awpIf_intro (fun _ => ?_) fun _ => ret_of (Step.refl w.S w.R L T) hgo
    have hs := hd'.setHead (M' := M) rfl rfl rfl ok.room ok.leftB (lf := lf) h2
    have hst := (Step.refl w.S w.R L T).set (.inl (mem_o w)) (headV w M lf)
    have := hK _ T w rfl rfl (by rw [hb]; exact (show { M with down := true } = M by rw [← hdn]) ▸ hs) (by rw [hb]; intro h; cases h) hst
    rw [hb] at this
    unfold headV at this hst
    rw [hdn,hdo] at this hst
    exact ret_of hst this
 | false =>
  rw [hdn] at h1
  cases hdo : M.doomed with
  | true =>
   have hl := h2 hdo hdn
   subst hl
   rw [hdo] at h1
   by_cases h0 : M.left = 0
   · have hb : M.begin = ({ M with down := true },false) := by simp [MD.begin,hdn,hdo,h0]
     rw [h0] at h1
     simp (maxSteps:=2000000) only[bitvec_to_nat,seval,↓tcd,Tryz.f70,h1,hlt,Int.natCast_zero,Int.cast_ofNat_Int]
     have hs := hd'.setHead (M' := { M with down := true }) rfl rfl rfl ok.room ok.leftB (lf := 0) (by intro _ h; cases h)
     have hst := (Step.refl w.S w.R L T).set (.inl (mem_o w)) (headV w { M with down := true } 0)
     have := hK _ T w rfl rfl (by rw [hb]; exact hs) (by rw [hb]; intro h; cases h) hst
     rw [hb] at this
     unfold headV at this hst
     simp only [hdo] at this hst
     exact ret_of hst this
   · have hb : M.begin = ({ M with left := M.left - 1 },true) := by simp [MD.begin,hdn,hdo,h0]
     have hw := wrap_pred h0 ok.leftB
     cases hms : w.ms with
     | none =>
      simp only [hms,mapV,nilM] at h1
      simp (maxSteps:=2000000) only[bitvec_to_nat,seval,↓tcd,Tryz.f70,h1,hlt,hw,Int.natCast_eq_zero,h0]
      obtain ⟨hs,hst⟩ := hd'.setMaps hms (M' := { M with left := M.left - 1 }) rfl rfl rfl ok.room (by show ((M.left - 1 : Nat) : Int) ≤ _; have := ok.leftB; omega) (lf := (M.left - 1 : Nat)) (fun _ _ => rfl)
      have := hK _ T { w with ms := some (L.length,L.length + 1) } rfl rfl (by rw [hb]; exact hs) (fun _ => rfl) hst
      rw [hb] at this
      simp only [headV,mapV,hdn,hdo,if_true] at this hst
      simp only [List.length_append,List.length_set,List.length_cons,List.length_nil,Nat.zero_add]
      exact ret_of hst this
     | some ab =>
      obtain ⟨a,b⟩ := ab
      simp only [hms,mapV] at h1
      simp (maxSteps:=2000000) only[bitvec_to_nat,seval,↓tcd,Tryz.f70,h1,hlt,hw,Int.natCast_eq_zero,h0]
      have hs := hd'.setHead (M' := { M with left := M.left - 1 }) rfl rfl rfl ok.room (by show ((M.left - 1 : Nat) : Int) ≤ _; have := ok.leftB; omega) (lf := (M.left - 1 : Nat)) (fun _ _ => rfl)
      have hst := (Step.refl w.S w.R L T).set (.inl (mem_o w)) (headV w { M with left := M.left - 1 } (M.left - 1 : Nat))
      have := hK _ T w rfl rfl (by rw [hb]; exact hs) (fun _ => by rw [hms]; rfl) hst
      rw [hb] at this
      simp only [headV,hms,mapV,hdn,hdo,if_true] at this hst
      exact ret_of hst this
  | false =>
   have hb : M.begin = (M,true) := by simp [MD.begin,hdn,hdo]
   rw [hdo] at h1
   cases hms : w.ms with
   | none =>
    simp only [hms,mapV,nilM] at h1
    simp (maxSteps:=2000000) only[bitvec_to_nat,seval,↓tcd,Tryz.f70,h1,hlt]
    obtain ⟨hs,hst⟩ := hd'.setMaps hms (M' := M) rfl rfl rfl ok.room ok.leftB (lf := lf) h2
    have := hK _ T { w with ms := some (L.length,L.length + 1) } rfl rfl (by rw [hb]; exact hs) (fun _ => rfl) hst
    rw [hb] at this
    simp only [headV,mapV,hdn,hdo,if_true] at this hst
    simp only [List.length_append,List.length_set,List.length_cons,List.length_nil,Nat.zero_add]
    exact ret_of hst this
   | some ab =>
    obtain ⟨a,b⟩ := ab
    simp only [hms,mapV] at h1
    simp (maxSteps:=2000000) only[bitvec_to_nat,seval,↓tcd,Tryz.f70,h1,hlt]
    have := hK _ T w rfl rfl (by rw [hb]; exact hd') (fun _ => by rw [hms]; rfl) (Step.refl _ _ _ _)
    rw [hb] at this
    exact ret_of (Step.refl w.S w.R L T) this
def rightM : FM
 | [.str n] => some (True,.bool (decide (right n)),[])
 | _ => none
theorem right_ok : FSound Tryz.prog 85 rightM := by
 refine fsound tysOk G0ok mix Tryz.func85 rfl ?_
 intro args p r fr hm hp
 unfold rightM at hm
 split at hm
 · rename_i n
   cases hm
   simp (maxSteps:=2000000) only[bitvec_to_nat,seval,↓tcd,Tryz.f85]
   refine awpIf_intro (fun h => ?_) (fun h => ?_) <;> simp only [decide_eq_true_eq,decide_eq_false_iff_not] at h
   · simp [right,h]
   · exact decide_eq_decide.2 ⟨fun h2 => ⟨h,by omega⟩,fun h2 => by have := h2.2; omega⟩
 · cases hm
def G1 : Fns := { fn := fun f => if f = 85 then some rightM else if f = 24 then some withinM else G0.fn f,mu := fun d => .no,hp := fun f => if f = 70 then some beginP else G0.hp f,ord := fun i => none,it := fun f => G0.it f }
theorem G1_fn (f : FuncId) : G1.fn f = (if f = 85 then some rightM else if f = 24 then some withinM else G0.fn f) := rfl
theorem G1_mu (d : Tmp) : G1.mu d = (.no) := rfl
theorem G1_hp (f : FuncId) : G1.hp f = (if f = 70 then some beginP else G0.hp f) := rfl
theorem G1_ord (i : Nat) : G1.ord i = (none) := rfl
theorem G1_it (f : FuncId) : G1.it f = (G0.it f) := rfl
theorem G1_hy (b : Nat) : G1.hy b = none := rfl
theorem G1ok : FnsOk Tryz.prog G1 := FnsOk.same (FnsOk.consP (FnsOk.cons (FnsOk.cons G0ok _ _ within_ok Tryz.func24 (by decide) (fun h => by cases h)) _ _ right_ok Tryz.func85 (by decide) (fun h => by cases h)) _ _ begin_ok Tryz.func70 (by decide) (fun h => by cases h)) rfl rfl
attribute [bitvec_to_nat] G1_fn G1_mu G1_hp G1_ord G1_it G1_hy
def findV (fs : List Fl) (M : MD) (n : Name) : V := if M.begin.2 = false then .tuple [nilP,.int .i64 40] else match nfind M.now n with
 | none => .tuple [nilP,.int .i64 2]
 | some f => .tuple [locV fs f,.int .i64 0]
def findP : PM := fun args L T K => ∃ M w n,args = [.box w.o 0,.str n] ∧ dAt L T M w ∧ ∀ L' T' w',w'.o = w.o → w'.fs = w.fs → dAt L' T' M.begin.1 w' → (M.begin.2 = true → w'.ms.isSome = true) → Step w.S w.R L T w'.S w'.R L' T' → K (findV w.fs M n) L' T'
theorem begin_now (M : MD) : M.begin.1.now = M.now := by
 unfold MD.begin
 split
 · rfl
 · split <;> rfl
theorem names_at {L : LL} {T : TT} {M : MD} {w : Own} (h : dAt L T M w) {a b : Nat} (hms : w.ms = some (a,b)) : (∃ ck l,L[a]? = some [.mapc none ck l] ∧ NMap w.fs l M.now) ∧ ∃ ck l,L[b]? = some [.mapc none ck l] ∧ NMap w.fs l M.kept := by
 have := h.maps
 unfold MapsAt at this
 rw [hms] at this
 exact this
theorem find_ok : PSound Tryz.prog 35 findP := by
 refine psound tysOk G1ok mix Tryz.func35 rfl ?_
 intro args L T K hm
 obtain ⟨M,w,n,rfl,hd,hK⟩ := hm
 simp (maxSteps:=2000000) only[bitvec_to_nat,seval,↓tcd,Tryz.f35]
 unfold beginP
 refine ⟨M,w,rfl,hd,fun L' T' w' ho hfs hd' hms hst => ?_⟩
 have hk := hK L' T' w' ho hfs hd' hms hst
 cases hb : M.begin.2 with
 | false =>
  rw [show findV w.fs M n = .tuple [nilP,.int .i64 40] by simp [findV,hb]] at hk
  simp (maxSteps:=2000000) only[bitvec_to_nat,seval,↓tcd]
  exact ret_of hst hk
 | true =>
  obtain ⟨⟨a,b⟩,hab⟩ := Option.isSome_iff_exists.1 (hms hb)
  obtain ⟨⟨ck,l,hl,hnm⟩,_⟩ := names_at hd' hab
  obtain ⟨ok,⟨lf,h1,h2⟩,_⟩ := hd'
  have hfind := hnm.2.2 n
  rw [begin_now] at hfind
  unfold headV at h1
  rw [ho] at h1
  simp only [hab,mapV] at h1
  have hlt := lt_at h1
  have hlta := lt_at hl
  cases hf : nfind M.now n with
  | none =>
   rw [hf] at hfind
   simp only [Option.map_none] at hfind
   rw [show findV w.fs M n = .tuple [nilP,.int .i64 2] by simp [findV,hb,hf]] at hk
   simp (maxSteps:=2000000) only[bitvec_to_nat,seval,↓tcd,h1,hl,hfind]
   exact ret_of hst hk
  | some f =>
   rw [hf] at hfind
   simp only [Option.map_some,locV] at hfind
   rw [show findV w.fs M n = .tuple [locV w.fs f,.int .i64 0] by simp [findV,hb,hf]] at hk
   simp (maxSteps:=2000000) only[bitvec_to_nat,seval,↓tcd,h1,hl,hfind]
   unfold locV at hk
   rw [← hfs] at hk
   exact ret_of hst hk
def onP : PM := fun args L T K => ∃ fs c m a ck l,args = [chgV fs c,.mref a] ∧ L[a]? = some [.mapc none ck l] ∧ NMap fs l m ∧ CanDo m c ∧
 ∀ L' ck' l',L'[a]? = some [.mapc none ck' l'] → NMap fs l' (chg m c) → Step (· = a) (fun _ => False) L T (· = a) (fun _ => False) L' T → K (optV fs (gone m c)) L' T
theorem on_ok : PSound Tryz.prog 25 onP := by
 refine psound tysOk G1ok mix Tryz.func25 rfl ?_
 intro args L T K hm
 obtain ⟨fs,c,m,a,ck,l,rfl,hl,hn,hc,hK⟩ := hm
 have hlt := lt_at hl
 unfold chgV madeV
 rcases hc with ⟨h1,h2,h3⟩ | ⟨h1,h2,h3⟩
 · have e1 : cleft m c = m := by simp [cleft,h1]
   have e2 : cfile m c = c.file := by simp [cfile,h1]
   have hto : c.to ≠ [] := h2.1
   have e3 : chg m c = nwith m c.to c.file := by simp [chg,hto,e1,e2]
   have e4 : gone m c = none := by simp [gone,hto,e1,h3]
   have hf : mfind l (.str c.to) = none := by rw [hn.2.2,h3]; rfl
   rw [if_pos h1]
   unfold locV
   simp (maxSteps:=2000000) only[bitvec_to_nat,seval,↓tcd,Tryz.f25,hl,hlt,hf,h1,hto]
   have hst := (((Step.refl (· = a) (fun _ => False) L T).set (.inl rfl) [.mapc none (mclock ck l (.str c.to)) (mput ck l (.str c.to) (locV fs c.file))]).app [[.str [],.str c.to,locV fs c.file]])
   have := hK _ _ _ (by rw [at_app (by simpa using hlt),at_set hlt]) (by rw [e3]; exact hn.put ck c.to c.file) hst
   rw [e4] at this
   exact ret_of hst this
 · obtain ⟨f,hf⟩ := Option.isSome_iff_exists.1 h2
   have e1 : cleft m c = nwithout m c.frm := by simp [cleft,h1]
   have e2 : cfile m c = f := by simp [cfile,h1,hf]
   have hff : mfind l (.str c.frm) = some (locV fs f) := by rw [hn.2.2,hf]; rfl
   have hnd := hn.del c.frm
   have hft := hnd.2.2 c.to
   rw [if_neg h1]
   unfold locV at hff
   by_cases hto : c.to = []
   · simp (maxSteps:=2000000) only[bitvec_to_nat,seval,↓tcd,Tryz.f25,hl,hlt,hff,hft,h1,hto,nilP]
     have hst := (((Step.refl (· = a) (fun _ => False) L T).set (.inl rfl) [.mapc none ck (mdel l (.str c.frm))]).app [[.str c.frm,.str [],nilP]])
     have := hK _ _ _ (by rw [at_app (by simpa using hlt),at_set hlt]) (by rw [show chg m c = nwithout m c.frm by simp [chg,hto,e1]]; exact hnd) hst
     rw [show gone m c = some f by simp [gone,hto,e2]] at this
     exact ret_of hst this
   · simp (maxSteps:=2000000) only[bitvec_to_nat,seval,↓tcd,Tryz.f25,hl,hlt,hff,hft,h1,hto,nilP]
     have hst := (((Step.refl (· = a) (fun _ => False) L T).set (.inl rfl) [.mapc none (mclock ck (mdel l (.str c.frm)) (.str c.to)) (mput ck (mdel l (.str c.frm)) (.str c.to) (locV fs f))]).app [[.str c.frm,.str c.to,nilP]])
     have := hK _ _ _ (by rw [at_app (by simpa using hlt),at_set hlt]) (by rw [show chg m c = nwith (nwithout m c.frm) c.to f by simp [chg,hto,e1,e2]]; exact hnd.put ck c.to f) hst
     rw [show gone m c = nfind (nwithout m c.frm) c.to by simp [gone,hto,e1],← opt_getD] at this
     exact ret_of hst this
def G2 : Fns := { fn := fun f => G1.fn f,mu := fun d => bif d == 17 then .seq else .no,hp := fun f => if f = 25 then some onP else G1.hp f,ord := fun i => if i = 1 then some [(1,0),(2,0),(3,0),(0,2),(4,2),(5,1)] else if i = 2 then some [(0,0),(1,0),(2,0),(3,0),(4,2),(5,2),(6,0),(7,1),(8,0),(9,0),(10,1)] else none,it := fun f => G1.it f }
theorem G2_fn (f : FuncId) : G2.fn f = (G1.fn f) := rfl
theorem G2_mu (d : Tmp) : G2.mu d = (bif d == 17 then .seq else .no) := rfl
theorem G2_hp (f : FuncId) : G2.hp f = (if f = 25 then some onP else G1.hp f) := rfl
theorem G2_ord (i : Nat) : G2.ord i = (if i = 1 then some [(1,0),(2,0),(3,0),(0,2),(4,2),(5,1)] else if i = 2 then some [(0,0),(1,0),(2,0),(3,0),(4,2),(5,2),(6,0),(7,1),(8,0),(9,0),(10,1)] else none) := rfl
theorem G2_it (f : FuncId) : G2.it f = (G1.it f) := rfl
theorem G2_hy (b : Nat) : G2.hy b = none := rfl
theorem G2ok : FnsOk Tryz.prog G2 := FnsOk.same (FnsOk.consP G1ok _ _ on_ok Tryz.func25 (by decide) (fun h => by cases h)) rfl rfl
attribute [bitvec_to_nat] G2_fn G2_mu G2_hp G2_ord G2_it G2_hy
def changeP : PM := fun args L T K => ∃ M w c a b,args = [.box w.o 0,chgV w.fs c] ∧ dAt L T M w ∧ w.ms = some (a,b) ∧ (M.does c).Ok ∧ (M.does c).used = M.used ∧ CanDo M.now c ∧ M.chs.length ≤ 1099511627776 ∧
 ∀ L' T' w',w'.o = w.o → w'.fs = w.fs → w'.ms = w.ms → dAt L' T' (M.does c) w' → Step w.S w.R L T w'.S w'.R L' T' → K (.tuple []) L' T'
theorem does_now (M : MD) (c : Chg) : (M.does c).now = chg M.now c := play_snoc _ _ _
theorem change_ok : PSound Tryz.prog 84 changeP := by
 refine psound tysOk G2ok mix Tryz.func84 rfl ?_
 intro args L T K hm
 obtain ⟨M,w,c,a,b,rfl,hd,hms,hok,hu,hc,hlen,hK⟩ := hm
 obtain ⟨⟨ck,l,hl,hn⟩,ck2,l2,hl2,hn2⟩ := names_at hd hms
 have hd' := hd
 obtain ⟨ok,⟨lf,h1,h2⟩,_⟩ := hd
 unfold headV at h1
 simp only [hms,mapV] at h1
 have hlt := lt_at h1
 have hlta := lt_at hl
 unfold chgV
 simp (maxSteps:=2000000) only[bitvec_to_nat,seval,↓tcd,Tryz.f84,h1,hl,hlt,hlta]
 refine ⟨by kernel_rfl,?_⟩
 unfold onP
 refine ⟨w.fs,c,M.now,a,ck,l,rfl,by rw [at_app hlta]; exact hl,hn,hc,fun L' ck' l' hl' hn' hst => ?_⟩
 have hoa : w.o ≠ a := (hd'.o_ne.1 a b hms).1
 have k1 := hst.keep w.o (by simp; omega) hoa
 rw [at_app hlt,h1] at k1
 have k2 := hst.keep L.length (by simp) (by omega)
 rw [at_new rfl] at k2
 have hch := hd'.chs
 unfold ChsAt at hch
 cases htk : w.tk with
 | none =>
  rw [htk] at hch
  rw [htk] at k1
  unfold chsV at k1
  have hlt' := lt_at k1
  simp (maxSteps:=2000000) only[bitvec_to_nat,seval,↓tcd,k1,k2,hlt']
  refine ⟨by kernel_rfl,by decide,?_⟩
  have e1 : M.chs = [] := hch
  have hE : headV { w with tk := some T.length } (M.does c) lf = [.int .i64 M.room,.int .i64 (M.used : Int),.mref a,.mref b,.list 3 [.agg [.str c.frm,.str c.to,madeV w.fs c]] (some T.length),.bool M.down,.bool M.doomed,.int .i64 lf] := by
   unfold headV; rw [hu]; simp [hms,mapV,chsV,MD.does,e1,chgV]
  have hst2 := ((((Step.refl w.S w.R L T).app _).via hst (fun i hi => by subst hi; exact .inl (mem_ms hms).1) (fun _ h => h.elim)).set (.inl (mem_o w)) (headV { w with tk := some T.length } (M.does c) lf)).tapp [(1,64)]
   |>.less (S2 := w.S) (R2 := ({ w with tk := some T.length } : Own).R) (fun i hi => .inl hi) fun k hk => .inr (by simp only [Own.R,Option.some.injEq] at hk; omega)
  have hfin := hd'.turn (L' := L'.set w.o (headV { w with tk := some T.length } (M.does c) lf)) (T' := T ++ [(1,64)]) (tk' := some T.length) hms (M' := M.does c) rfl hok (at_set hlt' _) h2
   ⟨ck',l',by rw [at_other hoa]; exact hl',by rw [does_now]; exact hn'⟩ ⟨ck2,l2,by rw [at_other (hd'.o_ne.1 a b hms).2.1,hst.keep b (by have := lt_at hl2; simp; omega) (Ne.symm (hd'.o_ne.1 a b hms).2.2),at_app (lt_at hl2)]; exact hl2,hn2⟩
   (by simp only [ChsAt]; rw [tat_new rfl]; simp [MD.does,e1]) (fun i hi i1 i2 i3 => by rw [at_other (Ne.symm i1),hst.keep i (by simp; omega) i2,at_app hi])
  have := hK _ _ { w with tk := some T.length } rfl rfl rfl hfin hst2
  rw [hE] at this hst2
  exact ret_of hst2 this
 | some k =>
  rw [htk] at hch
  rw [htk] at k1
  unfold chsV at k1
  simp only at hch k1
  have hlt' := lt_at k1
  simp (maxSteps:=2000000) only[bitvec_to_nat,seval,↓tcd,k1,k2,hlt',hch,List.length_map]
  refine ⟨by kernel_rfl,by unfold maxBytes; omega,?_⟩
  have hE : headV { w with tk := some k } (M.does c) lf = [.int .i64 M.room,.int .i64 (M.used : Int),.mref a,.mref b,.list 3 (M.chs.map (chgV w.fs) ++ [.agg [.str c.frm,.str c.to,madeV w.fs c]]) (some k),.bool M.down,.bool M.doomed,.int .i64 lf] := by
   unfold headV; rw [hu]; simp [hms,mapV,chsV,MD.does,chgV]
  have hlen2 : (M.chs.map (chgV w.fs) ++ [V.agg [.str c.frm,.str c.to,madeV w.fs c]]).length = M.chs.length + 1 := by simp
  have hst2 := ((((Step.refl w.S w.R L T).app _).via hst (fun i hi => by subst hi; exact .inl (mem_ms hms).1) (fun _ h => h.elim)).set (.inl (mem_o w)) (headV { w with tk := some k } (M.does c) lf)).tset (k := k) (.inl htk) (M.chs.length + 1,64)
   |>.less (S2 := w.S) (R2 := ({ w with tk := some k } : Own).R) (fun i hi => .inl hi) fun k hk => .inl (by simp only [Own.R] at hk ⊢; rw [htk,hk])
  have hfin := hd'.turn (L' := L'.set w.o (headV { w with tk := some k } (M.does c) lf)) (T' := T.set k (M.chs.length + 1,64)) (tk' := some k) hms (M' := M.does c) rfl hok (at_set hlt' _) h2
   ⟨ck',l',by rw [at_other hoa]; exact hl',by rw [does_now]; exact hn'⟩ ⟨ck2,l2,by rw [at_other (hd'.o_ne.1 a b hms).2.1,hst.keep b (by have := lt_at hl2; simp; omega) (Ne.symm (hd'.o_ne.1 a b hms).2.2),at_app (lt_at hl2)]; exact hl2,hn2⟩
   (by simp only [ChsAt]; rw [List.getElem?_set_self (tlt_at hch)]; simp [MD.does]) (fun i hi i1 i2 i3 => by rw [at_other (Ne.symm i1),hst.keep i (by simp; omega) i2,at_app hi])
  have := hK _ _ { w with tk := some k } rfl rfl rfl hfin hst2
  rw [hE] at this hst2
  rw [hlen2]
  exact ret_of hst2 this
structure Small (M : MD) : Prop where
 chs : M.chs.length ≤ 1099511627776
 used : M.used ≤ 1099511627776
 files : ∀ x ∈ M.files,x.1.length ≤ 1099511627776
 nf : M.files.length ≤ 1099511627776
def opP (op : List V → Option (MD → MD × V)) : PM := fun args L T K => ∃ M w rest g,args = .box w.o 0 :: rest ∧ op rest = some g ∧ dAt L T M w ∧ Small M ∧
 ∀ L' T' w',w'.o = w.o → dAt L' T' (g M).1 w' → Step w.S w.R L T w'.S w'.R L' T' → K (g M).2 L' T'
def codeV (n : Nat) : V := .int .i64 (n : Int)
theorem code_V (n : Nat) : codeV n = .int .i64 (n : Int) := rfl
def G3 : Fns := { fn := fun f => G1.fn f,mu := fun d => .no,hp := fun f => if f = 35 then some findP else if f = 84 then some changeP else G1.hp f,ord := fun i => none,it := fun f => G1.it f }
theorem G3_fn (f : FuncId) : G3.fn f = (G1.fn f) := rfl
theorem G3_mu (d : Tmp) : G3.mu d = (.no) := rfl
theorem G3_hp (f : FuncId) : G3.hp f = (if f = 35 then some findP else if f = 84 then some changeP else G1.hp f) := rfl
theorem G3_ord (i : Nat) : G3.ord i = (none) := rfl
theorem G3_it (f : FuncId) : G3.it f = (G1.it f) := rfl
theorem G3_hy (b : Nat) : G3.hy b = none := rfl
theorem G3ok : FnsOk Tryz.prog G3 := FnsOk.same (FnsOk.consP (FnsOk.consP G1ok _ _ change_ok Tryz.func84 (by decide) (fun h => by cases h)) _ _ find_ok Tryz.func35 (by decide) (fun h => by cases h)) rfl rfl
attribute [bitvec_to_nat] G3_fn G3_mu G3_hp G3_ord G3_it G3_hy
def createF : List V → Option (MD → MD × V)
 | [.str n] => some fun M => ((M.create n).1,codeV (M.create n).2)
 | _ => none
theorem create_ok : PSound Tryz.prog 55 (opP createF) := by
 refine psound tysOk G3ok mix Tryz.func55 rfl ?_
 intro args L T K hm
 obtain ⟨M,w,rest,g,rfl,hg,hd,hsm,hK⟩ := hm
 obtain ⟨n,rfl,rfl⟩ : ∃ n,rest = [.str n] ∧ g = fun M => ((M.create n).1,codeV (M.create n).2) := by
  unfold createF at hg; split at hg <;> cases hg; exact ⟨_,rfl,rfl⟩
 simp only at hK
 simp (maxSteps:=2000000) only[bitvec_to_nat,seval,↓tcd,Tryz.f55,rightM]
 unfold beginP
 refine ⟨M,w,rfl,hd,fun L1 T1 w1 ho hfs hd1 hms hst => ?_⟩
 cases hb : M.begin.2 with
 | false =>
  have e : M.create n = (M.begin.1,40) := by simp [MD.create,hb]
  have := hK L1 T1 w1 ho (by rw [e]; exact hd1) hst
  rw [e] at this
  simp (maxSteps:=2000000) only[bitvec_to_nat,seval,↓tcd]
  exact ret_of hst this
 | true =>
  by_cases hr : right n
  rotate_left
  · have e : M.create n = (M.begin.1,1) := by simp [MD.create,hb,hr]
    have := hK L1 T1 w1 ho (by rw [e]; exact hd1) hst
    rw [e] at this
    have hrd : decide (right n) = false := decide_eq_false hr
    simp (maxSteps:=2000000) only[bitvec_to_nat,seval,↓tcd,rightM,hrd]
    exact ret_of hst this
  · have hrd : decide (right n) = true := decide_eq_true hr
    obtain ⟨⟨a,b⟩,hab⟩ := Option.isSome_iff_exists.1 (hms hb)
    obtain ⟨⟨ck,l,hl,hnm⟩,_⟩ := names_at hd1 hab
    have hd1' := hd1
    obtain ⟨ok,⟨lf,h1,h2⟩,_⟩ := hd1'
    have hfind := hnm.2.2 n
    rw [begin_now] at hfind
    unfold headV at h1
    rw [ho] at h1
    simp only [hab,mapV] at h1
    have hlt := lt_at h1
    have hlta := lt_at hl
    cases hf : nfind M.now n with
    | some f =>
     have e : M.create n = (M.begin.1,4) := by simp [MD.create,hb,hr,hf]
     have := hK L1 T1 w1 ho (by rw [e]; exact hd1) hst
     rw [e] at this
     rw [hf] at hfind
     simp only [Option.map_some,locV] at hfind
     simp (maxSteps:=2000000) only[bitvec_to_nat,seval,↓tcd,rightM,hrd,h1,hl,hfind]
     exact ret_of hst this
    | none =>
     rw [hf] at hfind
     simp only [Option.map_none] at hfind
     have e : M.create n = (M.begin.1.newFile.does ⟨[],n,M.begin.1.files.length⟩,0) := by
      rw [begin_files]; simp only [MD.create,hb,hr,hf]; simp [MD.newFile,begin_files]
     obtain ⟨a1,a2⟩ := hd1.addFile
     obtain ⟨c1,c2,c3⟩ := ok.create hr (by rw [begin_now]; exact hf)
     simp (maxSteps:=2000000) only[bitvec_to_nat,seval,↓tcd,rightM,hrd,h1,hl,hfind]
     unfold changeP
     refine ⟨M.begin.1.newFile,{ w1 with fs := w1.fs ++ [(L1.length,none)] },⟨[],n,M.begin.1.files.length⟩,a,b,?_,a1,hab,c2,by rw [c3,used_newFile ok],c1,?_,fun L2 T2 w2 ho2 hfs2 hms2 hd2 hst2 => ?_⟩
     · simp only [chgV,madeV,if_true,locV_new hd1.nfs.symm,ho]
     · show M.begin.1.chs.length ≤ _
       rw [begin_chs]; exact hsm.chs
     · have hs2 := hst.trans (a2.trans hst2)
       have := hK L2 T2 w2 (by rw [ho2]; exact ho) (by rw [e]; exact hd2) hs2
       rw [e] at this
       simp (maxSteps:=2000000) only[bitvec_to_nat,seval,↓tcd]
       exact ret_of hs2 this
theorem file_at {L : LL} {T : TT} {M : MD} {w : Own} (h : dAt L T M w) {f : Nat} (hf : f < M.files.length) : ∃ a ob,w.fs[f]? = some (a,ob) ∧ locV w.fs f = .box a 0 ∧ w.o ≠ a ∧ L[a]? = some [bytesV 5 ob (M.file f).1,.int .i64 ((M.file f).2 : Int)] ∧ RowAt L ob (M.file f).1 := by
 have hl : f < w.fs.length := by rw [h.nfs]; exact hf
 obtain ⟨a,ob,hx⟩ : ∃ a ob,w.fs[f] = (a,ob) := ⟨_,_,rfl⟩
 have h1 : w.fs[f]? = some (a,ob) := by rw [List.getElem?_eq_getElem hl,hx]
 have h2 : M.files[f]? = some (M.file f) := by
  rw [List.getElem?_eq_getElem hf]; unfold MD.file; simp [List.getD_eq_getElem?_getD,hf]
 obtain ⟨g1,g2⟩ := h.files f _ _ h1 h2
 refine ⟨a,ob,h1,?_,(h.o_ne.2 f _ h1).1,g1,g2⟩
 unfold locV
 simp [List.getD_eq_getElem?_getD,h1]
def noS : Nat → Prop := fun _ => False
def bytesA (u8 : TypeId) (x : Option Nat) (b : List UInt8) : V := match x with
 | none => .bytes [] none
 | some ob => .vrow u8 1 ob b.length
def cloneP1 : PM := fun args L T K => ∃ ob b,args = [bytesA 5 ob b] ∧ RowAt L ob b ∧ b.length ≤ 1099511627776 ∧ ∀ L' T',Step noS noS L T noS noS L' T' → K (.bytes b none) L' T'
theorem clone1_ok : PSound Tryz.prog 36 cloneP1 := by
 refine psound tysOk G0ok mix Tryz.func36 rfl ?_
 intro args L T K hm
 obtain ⟨ob,b,rfl,hr,hlen,hK⟩ := hm
 cases ob with
 | none =>
  have hb : b = [] := hr
  subst hb
  unfold bytesA
  simp (maxSteps:=2000000) only[bitvec_to_nat,seval,↓tcd,Tryz.f36]
  refine awpMay_intro (fun _ => ?_) (fun _ => ?_)
  · exact ret_le (Step.refl noS noS L T) (hK _ _ (Step.refl _ _ _ _)) ⟨rfl,rfl⟩
  · have hst := (Step.refl noS noS L T).tapp [(0,5)]
    exact ⟨by decide,ret_le hst (hK _ _ hst) rfl⟩
 | some ob =>
  obtain ⟨cs,hcs,hcs0,hb⟩ := hr
  have hfit : b.length ≤ cs.length := by
   have := congrArg List.length hb
   simp only [List.length_take,List.length_map] at this
   omega
  unfold bytesA
  simp (maxSteps:=2000000) only[bitvec_to_nat,seval,↓tcd,Tryz.f36,hcs,hb,unbyte_map]
  refine awpMay_intro (fun h0 => ?_) (fun _ => ?_)
  · have hb0 : b = [] := List.eq_nil_of_length_eq_zero h0
    subst hb0
    exact ret_le (Step.refl noS noS L T) (hK _ _ (Step.refl _ _ _ _)) ⟨rfl,rfl⟩
  · have hst := (Step.refl noS noS L T).tapp [(b.length,5)]
    exact ⟨⟨hfit,by unfold maxBytes; omega⟩,ret_le hst (hK _ _ hst) rfl⟩
theorem onFile_no {M : MD} {n : Name} {X : MD → Nat → MD × Nat} (h : M.begin.2 = false) : M.onFile n X = (M.begin.1,40) := by simp [MD.onFile,h]
theorem onFile_none {M : MD} {n : Name} {X : MD → Nat → MD × Nat} (h : M.begin.2 = true) (hf : nfind M.now n = none) : M.onFile n X = (M.begin.1,2) := by simp [MD.onFile,h,hf]
theorem onFile_some {M : MD} {n : Name} {X : MD → Nat → MD × Nat} {f : Nat} (h : M.begin.2 = true) (hf : nfind M.now n = some f) : M.onFile n X = X M.begin.1 f := by simp [MD.onFile,h,hf]
theorem findV_no {fs : List Fl} {M : MD} {n : Name} (h : M.begin.2 = false) : findV fs M n = .tuple [nilP,.int .i64 40] := by simp [findV,h]
theorem findV_none {fs : List Fl} {M : MD} {n : Name} (h : M.begin.2 = true) (hf : nfind M.now n = none) : findV fs M n = .tuple [nilP,.int .i64 2] := by simp [findV,h,hf]
theorem findV_some {fs : List Fl} {M : MD} {n : Name} {f : Nat} (h : M.begin.2 = true) (hf : nfind M.now n = some f) : findV fs M n = .tuple [locV fs f,.int .i64 0] := by simp [findV,h,hf]
theorem file_small {M : MD} (h : Small M) (f : Nat) : (M.file f).1.length ≤ 1099511627776 := by
 unfold MD.file
 rw [List.getD_eq_getElem?_getD]
 cases hf : M.files[f]? with
 | none => simp
 | some x => simpa using h.files x (List.mem_of_getElem? hf)
theorem begin_file (M : MD) (f : Nat) : M.begin.1.file f = M.file f := by unfold MD.file; rw [begin_files]
def G4 : Fns := { fn := fun f => G3.fn f,mu := fun d => .no,hp := fun f => if f = 36 then some cloneP1 else G3.hp f,ord := fun i => none,it := fun f => G3.it f }
theorem G4_fn (f : FuncId) : G4.fn f = (G3.fn f) := rfl
theorem G4_mu (d : Tmp) : G4.mu d = (.no) := rfl
theorem G4_hp (f : FuncId) : G4.hp f = (if f = 36 then some cloneP1 else G3.hp f) := rfl
theorem G4_ord (i : Nat) : G4.ord i = (none) := rfl
theorem G4_it (f : FuncId) : G4.it f = (G3.it f) := rfl
theorem G4_hy (b : Nat) : G4.hy b = none := rfl
theorem G4ok : FnsOk Tryz.prog G4 := FnsOk.same (FnsOk.consP G3ok _ _ clone1_ok Tryz.func36 (by decide) (fun h => by cases h)) rfl rfl
attribute [bitvec_to_nat] G4_fn G4_mu G4_hp G4_ord G4_it G4_hy
def readF : List V → Option (MD → MD × V)
 | [.str n] => some fun M => ((M.read n).1,.tuple [.bytes (M.readB n) none,codeV (M.read n).2])
 | _ => none
theorem read_ok : PSound Tryz.prog 13 (opP readF) := by
 refine psound tysOk G4ok mix Tryz.func13 rfl ?_
 intro args L T K hm
 obtain ⟨M,w,rest,g,rfl,hg,hd,hsm,hK⟩ := hm
 obtain ⟨n,rfl,rfl⟩ : ∃ n,rest = [.str n] ∧ g = fun M => ((M.read n).1,.tuple [.bytes (M.readB n) none,codeV (M.read n).2]) := by
  unfold readF at hg; split at hg <;> cases hg; exact ⟨_,rfl,rfl⟩
 simp only at hK
 simp (maxSteps:=2000000) only[bitvec_to_nat,seval,↓tcd,Tryz.f13]
 unfold findP
 refine ⟨M,w,n,rfl,hd,fun L1 T1 w1 ho hfs hd1 hms hst => ?_⟩
 cases hb : M.begin.2 with
 | false =>
  have e : M.read n = (M.begin.1,40) := onFile_no hb
  have := hK L1 T1 w1 ho (by rw [e]; exact hd1) hst
  rw [e,show M.readB n = [] by simp [MD.readB,hb]] at this
  rw [findV_no hb]
  simp (maxSteps:=2000000) only[bitvec_to_nat,seval,↓tcd]
  exact ret_le hst this ⟨⟨rfl,rfl⟩,rfl,trivial⟩
 | true =>
  cases hf : nfind M.now n with
  | none =>
   have e : M.read n = (M.begin.1,2) := onFile_none hb hf
   have := hK L1 T1 w1 ho (by rw [e]; exact hd1) hst
   rw [e,show M.readB n = [] by simp [MD.readB,hb,hf]] at this
   rw [findV_none hb hf]
   simp (maxSteps:=2000000) only[bitvec_to_nat,seval,↓tcd]
   exact ret_le hst this ⟨⟨rfl,rfl⟩,rfl,trivial⟩
  | some f =>
   have e : M.read n = (M.begin.1,0) := onFile_some hb hf
   have hrb : M.readB n = (M.file f).1 := by simp [MD.readB,hb,hf]
   obtain ⟨a,ob,k1,k2,k3,k4,k5⟩ := file_at hd1 (f := f) (by rw [begin_files]; exact (now_lt hd.ok hf).2)
   rw [begin_file] at k4 k5
   rw [findV_some hb hf,← hfs,k2]
   have hlta := lt_at k4
   simp (maxSteps:=2000000) only[bitvec_to_nat,seval,↓tcd,k4,hlta,bytesV_one]
   unfold cloneP1
   refine ⟨ob,(M.file f).1,?_,k5,file_small hsm f,fun L2 T2 hst2 => ?_⟩
   · cases ob <;> rfl
   have hs2 := hst.via hst2 (fun _ h => h.elim) (fun _ h => h.elim)
   have := hK L2 T2 w1 ho (by rw [e]; exact hd1.frame hst2 (fun _ _ h => h) (fun _ _ h => h)) hs2
   rw [e,hrb] at this
   simp (maxSteps:=2000000) only[bitvec_to_nat,seval,↓tcd]
   exact ret_of hs2 this
theorem cell_ne {L : LL} {T : TT} {M : MD} {w : Own} (h : dAt L T M w) {f a r : Nat} (hx : w.fs[f]? = some (a,some r)) : a ≠ r := by
 have hn := h.nodup
 rw [mine_eq] at hn
 have h2 := (List.nodup_append.1 (List.nodup_cons.1 hn).2).2.1
 obtain ⟨l1,l2,e⟩ := List.append_of_mem (List.mem_of_getElem? hx)
 rw [e,List.flatMap_append,List.flatMap_cons] at h2
 have := (List.nodup_append.1 (List.nodup_append.1 h2).2.1).1
 intro e1
 simp [cellsOf,e1] at this
def syncF : List V → Option (MD → MD × V)
 | [.str n] => some fun M => ((M.sync n).1,codeV (M.sync n).2)
 | _ => none
theorem sync_ok : PSound Tryz.prog 58 (opP syncF) := by
 refine psound tysOk G4ok mix Tryz.func58 rfl ?_
 intro args L T K hm
 obtain ⟨M,w,rest,g,rfl,hg,hd,hsm,hK⟩ := hm
 obtain ⟨n,rfl,rfl⟩ : ∃ n,rest = [.str n] ∧ g = fun M => ((M.sync n).1,codeV (M.sync n).2) := by
  unfold syncF at hg; split at hg <;> cases hg; exact ⟨_,rfl,rfl⟩
 simp only at hK
 simp (maxSteps:=2000000) only[bitvec_to_nat,seval,↓tcd,Tryz.f58]
 unfold findP
 refine ⟨M,w,n,rfl,hd,fun L1 T1 w1 ho hfs hd1 hms hst => ?_⟩
 cases hb : M.begin.2 with
 | false =>
  have e : M.sync n = (M.begin.1,40) := onFile_no hb
  have := hK L1 T1 w1 ho (by rw [e]; exact hd1) hst
  rw [e] at this
  rw [findV_no hb]
  simp (maxSteps:=2000000) only[bitvec_to_nat,seval,↓tcd]
  exact ret_of hst this
 | true =>
  cases hf : nfind M.now n with
  | none =>
   have e : M.sync n = (M.begin.1,2) := onFile_none hb hf
   have := hK L1 T1 w1 ho (by rw [e]; exact hd1) hst
   rw [e] at this
   rw [findV_none hb hf]
   simp (maxSteps:=2000000) only[bitvec_to_nat,seval,↓tcd]
   exact ret_of hst this
  | some f =>
   have e : M.sync n = (M.begin.1.setFile f ((M.begin.1.file f).1,(M.begin.1.file f).1.length),0) := onFile_some hb hf
   obtain ⟨hrf,hflt⟩ := now_lt hd.ok hf
   obtain ⟨a,ob,k1,k2,k3,k4,k5⟩ := file_at hd1 (f := f) (by rw [begin_files]; exact hflt)
   rw [findV_some hb hf,← hfs,k2]
   have hlta := lt_at k4
   obtain ⟨lf,h1,h2⟩ := hd1.head
   have hx : ((M.begin.1.file f).1.length) ≤ (M.begin.1.file f).1.length := Nat.le_refl _
   have hus : (M.begin.1.setFile f ((M.begin.1.file f).1,(M.begin.1.file f).1.length)).used = M.begin.1.used := by
    have := used_set hd1.ok (f := f) (by rw [begin_kept,begin_chs]; exact hrf) ((M.begin.1.file f).1,(M.begin.1.file f).1.length)
    unfold MD.size at this
    simp only at this
    omega
   obtain ⟨t1,t2⟩ := hd1.turnFile (L' := L1.set a [bytesV 5 ob (M.begin.1.file f).1,.int .i64 ((M.begin.1.file f).1.length : Int)]) k1 (x := ((M.begin.1.file f).1,(M.begin.1.file f).1.length)) hx (.inl rfl) (lf := lf)
    (by rw [at_other (Ne.symm k3),h1,hus]; rfl) h2 (at_set hlta _) (by
     unfold RowAt at k5 ⊢
     cases ob with
     | none => exact k5
     | some r =>
      obtain ⟨cs,v1,v2⟩ := k5
      exact ⟨cs,by rw [at_other (cell_ne hd1 k1)]; exact v1,v2⟩) (fun i _ _ hi _ => at_other (Ne.symm hi) _)
   have hst2 := (hst.set (hst.own a (mem_fs k1).1) [bytesV 5 ob (M.begin.1.file f).1,.int .i64 ((M.begin.1.file f).1.length : Int)]).less (S2 := ({ w1 with fs := w1.fs.set f (a,ob) } : Own).S) (R2 := w1.R)
    (fun i hi => (t2 i hi).elim .inl fun h => .inr (Nat.le_trans hst.len h)) fun k hk => .inl hk
   have fin := hK _ T1 { w1 with fs := w1.fs.set f (a,ob) } ho (by rw [e]; exact t1) hst2
   rw [e] at fin
   have fin2 := ret_of (v0 := codeV 0) hst2 fin
   cases ob with
   | none =>
    have hb0 : (M.begin.1.file f).1 = [] := k5
    simp only [bytesV,hb0,List.length_nil] at k4 fin2
    simp (maxSteps:=2000000) only[bitvec_to_nat,seval,↓tcd,k4,hlta]
    exact fin2
   | some r =>
    simp only [bytesV] at k4 fin2
    simp (maxSteps:=2000000) only[bitvec_to_nat,seval,↓tcd,k4,hlta]
    exact fin2
def G5 : Fns := { fn := fun f => G4.fn f,mu := fun d => bif d == 36 then .grow else .no,hp := fun f => G4.hp f,ord := fun i => none,it := fun f => G4.it f }
theorem G5_fn (f : FuncId) : G5.fn f = (G4.fn f) := rfl
theorem G5_mu (d : Tmp) : G5.mu d = (bif d == 36 then .grow else .no) := rfl
theorem G5_hp (f : FuncId) : G5.hp f = (G4.hp f) := rfl
theorem G5_ord (i : Nat) : G5.ord i = (none) := rfl
theorem G5_it (f : FuncId) : G5.it f = (G4.it f) := rfl
theorem G5_hy (b : Nat) : G5.hy b = none := rfl
theorem G5ok : FnsOk Tryz.prog G5 := FnsOk.same G4ok rfl rfl
attribute [bitvec_to_nat] G5_fn G5_mu G5_hp G5_ord G5_it G5_hy
def appendF : List V → Option (MD → MD × V)
 | [.str n,.bytes b _] => if b.length ≤ 1099511627776 then some fun M => ((M.append n b).1,codeV (M.append n b).2) else none
 | _ => none
set_option maxRecDepth 4000 in
set_option maxHeartbeats 1000000 in
theorem append_ok : PSound Tryz.prog 21 (opP appendF) := by
 refine psound tysOk G5ok mix Tryz.func21 rfl ?_
 intro args L T K hm
 obtain ⟨M,w,rest,g,rfl,hg,hd,hsm,hK⟩ := hm
 obtain ⟨n,b,bt,rfl,rfl,hbl⟩ : ∃ n b bt,rest = [.str n,.bytes b bt] ∧ g = (fun M => ((M.append n b).1,codeV (M.append n b).2)) ∧ b.length ≤ 1099511627776 := by
  unfold appendF at hg; split at hg
  · split at hg <;> cases hg
    rename_i hb; exact ⟨_,_,_,rfl,rfl,hb⟩
  · cases hg
 simp only at hK
 simp (maxSteps:=2000000) only[bitvec_to_nat,seval,↓tcd,Tryz.f21]
 unfold findP
 refine ⟨M,w,n,rfl,hd,fun L1 T1 w1 ho hfs hd1 hms hst => ?_⟩
 cases hb : M.begin.2 with
 | false =>
  have e : M.append n b = (M.begin.1,40) := onFile_no hb
  have := hK L1 T1 w1 ho (by rw [e]; exact hd1) hst
  rw [e] at this
  rw [findV_no hb]
  simp (maxSteps:=2000000) only[bitvec_to_nat,seval,↓tcd]
  exact ret_of hst this
 | true =>
  cases hf : nfind M.now n with
  | none =>
   have e : M.append n b = (M.begin.1,2) := onFile_none hb hf
   have := hK L1 T1 w1 ho (by rw [e]; exact hd1) hst
   rw [e] at this
   rw [findV_none hb hf]
   simp (maxSteps:=2000000) only[bitvec_to_nat,seval,↓tcd]
   exact ret_of hst this
  | some f =>
   have e0 : M.append n b = if M.begin.1.room < (M.begin.1.used : Int) + b.length then (M.begin.1,41) else (M.begin.1.setFile f ((M.begin.1.file f).1 ++ b,(M.begin.1.file f).2),0) := onFile_some hb hf
   obtain ⟨hrf,hflt⟩ := now_lt hd.ok hf
   obtain ⟨a,ob,k1,k2,k3,k4,k5⟩ := file_at hd1 (f := f) (by rw [begin_files]; exact hflt)
   rw [findV_some hb hf,← hfs,k2]
   have hlta := lt_at k4
   obtain ⟨lf,h1,h2⟩ := hd1.head
   have hhead := h1
   unfold headV at h1
   rw [ho] at h1 k3
   have hlt := lt_at h1
   have hus : (M.begin.1.used : Int) ≤ 1099511627776 := by have := hsm.used; rw [begin_used]; omega
   have hw : IntKind.i64.wrap ((M.begin.1.used : Int) + (b.length : Int)) = ((M.begin.1.used + b.length : Nat) : Int) := by rw [i64w (by omega) (by omega)]; omega
   by_cases hroom : M.begin.1.room < (M.begin.1.used : Int) + b.length
   · have e : M.append n b = (M.begin.1,41) := by rw [e0,if_pos hroom]
     have := hK L1 T1 w1 ho (by rw [e]; exact hd1) hst
     rw [e] at this
     have hd2 : decide (M.begin.1.room < ((M.begin.1.used + b.length : Nat) : Int)) = true := decide_eq_true (by omega)
     simp (maxSteps:=2000000) only[bitvec_to_nat,seval,↓tcd,h1,hlt,hw,hd2]
     exact ⟨by kernel_rfl,ret_of hst this⟩
   · have e : M.append n b = (M.begin.1.setFile f ((M.begin.1.file f).1 ++ b,(M.begin.1.file f).2),0) := by rw [e0,if_neg hroom]
     have hd2 : decide (M.begin.1.room < ((M.begin.1.used + b.length : Nat) : Int)) = false := decide_eq_false (by omega)
     have hk3 := Ne.symm k3
     have hx : ((M.begin.1.file f).2) ≤ ((M.begin.1.file f).1 ++ b).length := by
      have : (M.begin.1.file f).2 ≤ (M.begin.1.file f).1.length := hd1.ok.cut _ (by unfold MD.file; rw [begin_files,List.getD_eq_getElem?_getD,List.getElem?_eq_getElem hflt]; exact List.getElem_mem hflt)
      rw [List.length_append]; omega
     have hus2 : (M.begin.1.setFile f ((M.begin.1.file f).1 ++ b,(M.begin.1.file f).2)).used = M.begin.1.used + b.length := by
      have := used_set hd1.ok (f := f) (by rw [begin_kept,begin_chs]; exact hrf) ((M.begin.1.file f).1 ++ b,(M.begin.1.file f).2)
      unfold MD.size at this
      simp only [List.length_append] at this
      omega
     have fin : ∀ (L2 : LL) (ob' : Option Nat),L1.length ≤ L2.length → (∀ i,i < L1.length → i ≠ w.o → i ≠ a → some i ≠ ob → L2[i]? = L1[i]?) → (ob' = ob ∨ ∃ r,ob' = some r ∧ L1.length ≤ r) → (∀ r,ob' = some r → r ≠ a ∧ r ≠ w.o) → RowAt L2 ob' ((M.begin.1.file f).1 ++ b) → Step w.S w.R L T w1.S w1.R L2 T1 →
      ∃ v r L' T',codeV 0 = v ∧ (L.length ≤ L'.length ∧ T.length ≤ T'.length) ∧ St.le ⟨[v],(L2.set a [bytesV 5 ob' ((M.begin.1.file f).1 ++ b),.int .i64 ((M.begin.1.file f).2 : Int)]).set w.o [.int .i64 M.begin.1.room,.int .i64 ((M.begin.1.used + b.length : Nat) : Int),mapV w1.ms false,mapV w1.ms true,chsV w1.fs w1.tk M.begin.1.chs,.bool M.begin.1.down,.bool M.begin.1.doomed,.int .i64 lf],T1⟩ ⟨[r],L',T'⟩ ∧ K r L' T' := by
      intro L2 ob' g0 g1 g2 g3 g4 g5
      have hla : a < (L2.set a [bytesV 5 ob' ((M.begin.1.file f).1 ++ b),.int .i64 ((M.begin.1.file f).2 : Int)]).length := by rw [List.length_set]; omega
      have hlo : w.o < (L2.set a [bytesV 5 ob' ((M.begin.1.file f).1 ++ b),.int .i64 ((M.begin.1.file f).2 : Int)]).length := by rw [List.length_set]; omega
      obtain ⟨t1,t2⟩ := hd1.turnFile (L' := (L2.set a [bytesV 5 ob' ((M.begin.1.file f).1 ++ b),.int .i64 ((M.begin.1.file f).2 : Int)]).set w.o [.int .i64 M.begin.1.room,.int .i64 ((M.begin.1.used + b.length : Nat) : Int),mapV w1.ms false,mapV w1.ms true,chsV w1.fs w1.tk M.begin.1.chs,.bool M.begin.1.down,.bool M.begin.1.doomed,.int .i64 lf])
       k1 (x := ((M.begin.1.file f).1 ++ b,(M.begin.1.file f).2)) hx g2 (lf := lf) (by rw [ho,at_set hlo,hus2]) h2 (by rw [at_other k3,at_set (by omega)])
       (by
        unfold RowAt at g4 ⊢
        cases ob' with
        | none => exact g4
        | some r =>
         obtain ⟨cs,v1,v2⟩ := g4
         obtain ⟨q1,q2⟩ := g3 r rfl
         exact ⟨cs,by rw [at_other (Ne.symm q2),at_other (Ne.symm q1)]; exact v1,v2⟩)
       (fun i hi i1 i2 i3 => by rw [ho] at i1; rw [at_other (Ne.symm i1),at_other (Ne.symm i2),g1 i hi i1 i2 i3])
      have hst2 := ((g5.set (hst.own a (mem_fs k1).1) [bytesV 5 ob' ((M.begin.1.file f).1 ++ b),.int .i64 ((M.begin.1.file f).2 : Int)]).set (.inl (mem_o w)) [.int .i64 M.begin.1.room,.int .i64 ((M.begin.1.used + b.length : Nat) : Int),mapV w1.ms false,mapV w1.ms true,chsV w1.fs w1.tk M.begin.1.chs,.bool M.begin.1.down,.bool M.begin.1.doomed,.int .i64 lf]).less (S2 := ({ w1 with fs := w1.fs.set f (a,ob') } : Own).S) (R2 := w1.R)
       (fun i hi => (t2 i hi).elim .inl fun h => .inr (Nat.le_trans hst.len h)) fun k hk => .inl hk
      have fin := hK _ T1 { w1 with fs := w1.fs.set f (a,ob') } ho (by rw [e]; exact t1) hst2
      rw [e] at fin
      exact ret_of hst2 fin
     cases ob with
     | none =>
      have hb0 : (M.begin.1.file f).1 = [] := k5
      simp only [bytesV,hb0] at k4
      simp (maxSteps:=2000000) only[bitvec_to_nat,seval,↓tcd,h1,hlt,hw,hd2,k4,hlta,k3,hk3]
      refine ⟨by kernel_rfl,by unfold maxBytes; omega,fun h0 => ?_,fun h0 => ?_⟩
      · have hb1 : b = [] := List.eq_nil_of_length_eq_zero h0
        have := fin L1 none (Nat.le_refl _) (fun _ _ _ _ _ => rfl) (.inl rfl) (fun r h => by cases h) (by rw [hb0,hb1]; rfl) hst
        simp only [bytesV] at this
        exact this
      · have := fin (L1 ++ [b.map byteV]) (some L1.length) (by simp) (fun i hi _ _ _ => at_app hi _) (.inr ⟨_,rfl,Nat.le_refl _⟩) (fun r h => by cases h; exact ⟨by omega,by omega⟩)
         ⟨_,at_new rfl _,fun h => by
          have h3 := congrArg List.length h
          rw [List.length_map,List.length_nil] at h3
          omega,by rw [hb0,List.nil_append,← List.length_map (f := byteV),List.take_length]⟩ (hst.app _)
        rw [hb0] at this
        simp only [bytesV,List.nil_append] at this
        rw [set_app hlta,set_app (by rw [List.length_set]; exact hlt)] at this
        exact this
     | some r =>
      obtain ⟨cs,v1,v2,v3⟩ := k5
      have hltr := lt_at v1
      simp only [bytesV] at k4
      have har := cell_ne hd1 k1
      have hor := (hd1.o_ne.2 f _ k1).2 r rfl
      rw [ho] at hor
      have hra := Ne.symm har
      have hro := Ne.symm hor
      have hfit : (M.begin.1.file f).1.length ≤ cs.length := by
       have := congrArg List.length v3
       simp only [List.length_take,List.length_map] at this
       omega
      have hsm2 := file_small hsm f
      rw [← begin_file] at hsm2
      simp (maxSteps:=2000000) only[bitvec_to_nat,seval,↓tcd,h1,hlt,hw,hd2,k4,hlta,k3,hk3,v1,hltr,har,hor,hra,hro]
      have hlb : ((M.begin.1.file f).1 ++ b).length = (M.begin.1.file f).1.length + b.length := List.length_append
      refine ⟨by kernel_rfl,⟨hfit,v2,by unfold maxBytes; omega⟩,?_,?_⟩
      · have := fin (L1.set r (cs.take (M.begin.1.file f).1.length ++ b.map byteV ++ cs.drop ((M.begin.1.file f).1.length + (b.map byteV).length))) (some r) (by simp) (fun i hi i1 i2 i3 => at_other (fun e => i3 (by rw [e])) _) (.inl rfl) (fun r' h => by cases h; exact ⟨hra,hro⟩)
         ⟨_,at_set hltr _,fun h => ?_,?_⟩ (hst.set (hst.own r ((mem_fs k1).2 r rfl)) _)
        · simp only [bytesV,hlb] at this
          exact this
        · have h2 := congrArg List.length h
          simp only [List.length_append,List.length_take,List.length_map,List.length_drop,List.length_nil] at h2
          exact v2 (List.eq_nil_of_length_eq_zero (by omega))
        · rw [v3,← List.map_append,List.take_left' (by simp)]
      · intro hm0
        have := fin (L1 ++ [cs.take (M.begin.1.file f).1.length ++ b.map byteV]) (some L1.length) (by simp) (fun i hi _ _ _ => at_app hi _) (.inr ⟨_,rfl,Nat.le_refl _⟩) (fun r h => by cases h; exact ⟨by omega,by omega⟩)
         ⟨_,at_new rfl _,fun h => ?_,?_⟩ (hst.app _)
        · simp only [bytesV,hlb] at this
          rw [set_app hlta,set_app (by rw [List.length_set]; exact hlt)] at this
          exact this
        · have h3 := congrArg List.length h
          rw [List.length_append,List.length_map,List.length_nil] at h3
          omega
        · rw [v3,← List.map_append,← List.length_map (f := byteV),List.take_length]
theorem now_ne {M : MD} (h : M.Ok) {n : Name} {f : Nat} (hf : nfind M.now n = some f) : n ≠ [] := (now_right h _ (nfind_mem hf)).1
theorem does_used0 {M : MD} {c : Chg} (h : made c = none) : (M.does c).used = M.used := by rw [used_does,h]; simp
def renameF : List V → Option (MD → MD × V)
 | [.str n,.str t] => some fun M => ((M.rename n t).1,codeV (M.rename n t).2)
 | _ => none
theorem rename_ok : PSound Tryz.prog 60 (opP renameF) := by
 refine psound tysOk G4ok mix Tryz.func60 rfl ?_
 intro args L T K hm
 obtain ⟨M,w,rest,g,rfl,hg,hd,hsm,hK⟩ := hm
 obtain ⟨n,t,rfl,rfl⟩ : ∃ n t,rest = [.str n,.str t] ∧ g = fun M => ((M.rename n t).1,codeV (M.rename n t).2) := by
  unfold renameF at hg; split at hg <;> cases hg; exact ⟨_,_,rfl,rfl⟩
 simp only at hK
 simp (maxSteps:=2000000) only[bitvec_to_nat,seval,↓tcd,Tryz.f60]
 unfold findP
 refine ⟨M,w,n,rfl,hd,fun L1 T1 w1 ho hfs hd1 hms hst => ?_⟩
 cases hb : M.begin.2 with
 | false =>
  have e : M.rename n t = (M.begin.1,40) := onFile_no hb
  have := hK L1 T1 w1 ho (by rw [e]; exact hd1) hst
  rw [e] at this
  rw [findV_no hb]
  simp (maxSteps:=2000000) only[bitvec_to_nat,seval,↓tcd]
  exact ret_of hst this
 | true =>
  cases hf : nfind M.now n with
  | none =>
   have e : M.rename n t = (M.begin.1,2) := onFile_none hb hf
   have := hK L1 T1 w1 ho (by rw [e]; exact hd1) hst
   rw [e] at this
   rw [findV_none hb hf]
   simp (maxSteps:=2000000) only[bitvec_to_nat,seval,↓tcd]
   exact ret_of hst this
  | some f =>
   have e0 : M.rename n t = if right t then (M.begin.1.does ⟨n,t,0⟩,0) else (M.begin.1,1) := onFile_some hb hf
   rw [findV_some hb hf]
   unfold locV
   by_cases hr : right t
   rotate_left
   · have e : M.rename n t = (M.begin.1,1) := by rw [e0,if_neg hr]
     have := hK L1 T1 w1 ho (by rw [e]; exact hd1) hst
     rw [e] at this
     have hrd : decide (right t) = false := decide_eq_false hr
     simp (maxSteps:=2000000) only[bitvec_to_nat,seval,↓tcd,rightM,hrd]
     exact ret_of hst this
   · have e : M.rename n t = (M.begin.1.does ⟨n,t,0⟩,0) := by rw [e0,if_pos hr]
     have hrd : decide (right t) = true := decide_eq_true hr
     obtain ⟨⟨a,b⟩,hab⟩ := Option.isSome_iff_exists.1 (hms hb)
     have hn0 := now_ne hd.ok hf
     have hmd : made ⟨n,t,0⟩ = none := by simp [made,hn0]
     have hc : CanDo M.begin.1.now ⟨n,t,0⟩ := .inr ⟨hn0,by rw [begin_now]; show (nfind M.now n).isSome = true; rw [hf]; rfl,.inr hr⟩
     simp (maxSteps:=2000000) only[bitvec_to_nat,seval,↓tcd,rightM,hrd]
     unfold changeP
     refine ⟨M.begin.1,w1,⟨n,t,0⟩,a,b,?_,hd1,hab,hd1.ok.does hc (by rw [hmd]; intro f h; cases h),does_used0 hmd,hc,?_,fun L2 T2 w2 ho2 hfs2 hms2 hd2 hst2 => ?_⟩
     · simp only [chgV,madeV,hn0,if_false,ho,nilP]
     · rw [begin_chs]; exact hsm.chs
     · have hs2 := hst.trans hst2
       have := hK L2 T2 w2 (by rw [ho2]; exact ho) (by rw [e]; exact hd2) hs2
       rw [e] at this
       simp (maxSteps:=2000000) only[bitvec_to_nat,seval,↓tcd]
       exact ret_of hs2 this
def removeF : List V → Option (MD → MD × V)
 | [.str n] => some fun M => ((M.remove n).1,codeV (M.remove n).2)
 | _ => none
theorem remove_ok : PSound Tryz.prog 54 (opP removeF) := by
 refine psound tysOk G4ok mix Tryz.func54 rfl ?_
 intro args L T K hm
 obtain ⟨M,w,rest,g,rfl,hg,hd,hsm,hK⟩ := hm
 obtain ⟨n,rfl,rfl⟩ : ∃ n,rest = [.str n] ∧ g = fun M => ((M.remove n).1,codeV (M.remove n).2) := by
  unfold removeF at hg; split at hg <;> cases hg; exact ⟨_,rfl,rfl⟩
 simp only at hK
 simp (maxSteps:=2000000) only[bitvec_to_nat,seval,↓tcd,Tryz.f54]
 unfold findP
 refine ⟨M,w,n,rfl,hd,fun L1 T1 w1 ho hfs hd1 hms hst => ?_⟩
 cases hb : M.begin.2 with
 | false =>
  have e : M.remove n = (M.begin.1,40) := onFile_no hb
  have := hK L1 T1 w1 ho (by rw [e]; exact hd1) hst
  rw [e] at this
  rw [findV_no hb]
  simp (maxSteps:=2000000) only[bitvec_to_nat,seval,↓tcd]
  exact ret_of hst this
 | true =>
  cases hf : nfind M.now n with
  | none =>
   have e : M.remove n = (M.begin.1,2) := onFile_none hb hf
   have := hK L1 T1 w1 ho (by rw [e]; exact hd1) hst
   rw [e] at this
   rw [findV_none hb hf]
   simp (maxSteps:=2000000) only[bitvec_to_nat,seval,↓tcd]
   exact ret_of hst this
  | some f =>
   have e : M.remove n = (M.begin.1.does ⟨n,[],0⟩,0) := onFile_some hb hf
   rw [findV_some hb hf]
   unfold locV
   obtain ⟨⟨a,b⟩,hab⟩ := Option.isSome_iff_exists.1 (hms hb)
   have hn0 := now_ne hd.ok hf
   have hmd : made ⟨n,[],0⟩ = none := by simp [made,hn0]
   have hc : CanDo M.begin.1.now ⟨n,[],0⟩ := .inr ⟨hn0,by rw [begin_now]; show (nfind M.now n).isSome = true; rw [hf]; rfl,.inl rfl⟩
   simp (maxSteps:=2000000) only[bitvec_to_nat,seval,↓tcd]
   unfold changeP
   refine ⟨M.begin.1,w1,⟨n,[],0⟩,a,b,?_,hd1,hab,hd1.ok.does hc (by rw [hmd]; intro f h; cases h),does_used0 hmd,hc,?_,fun L2 T2 w2 ho2 hfs2 hms2 hd2 hst2 => ?_⟩
   · simp only [chgV,madeV,hn0,if_false,ho,nilP]
   · rw [begin_chs]; exact hsm.chs
   · have hs2 := hst.trans hst2
     have := hK L2 T2 w2 (by rw [ho2]; exact ho) (by rw [e]; exact hd2) hs2
     rw [e] at this
     simp (maxSteps:=2000000) only[bitvec_to_nat,seval,↓tcd]
     exact ret_of hs2 this
def doomF : List V → Option (MD → MD × V)
 | [.int .i64 n] => if n ≤ 9223372036854775807 then some fun M => ((M.doom n).1,codeV (M.doom n).2) else none
 | _ => none
theorem doom_ok : PSound Tryz.prog 19 (opP doomF) := by
 refine psound tysOk G0ok mix Tryz.func19 rfl ?_
 intro args L T K hm
 obtain ⟨M,w,rest,g,rfl,hg,hd,hsm,hK⟩ := hm
 obtain ⟨n,rfl,rfl,hn⟩ : ∃ n,rest = [.int .i64 n] ∧ g = (fun M => ((M.doom n).1,codeV (M.doom n).2)) ∧ n ≤ 9223372036854775807 := by
  unfold doomF at hg; split at hg
  · split at hg <;> cases hg
    rename_i h; exact ⟨_,rfl,rfl,h⟩
  · cases hg
 simp only at hK
 have hd' := hd
 obtain ⟨ok,⟨lf,h1,h2⟩,_⟩ := hd
 unfold headV at h1
 have hlt := lt_at h1
 by_cases h0 : n < 0
 · have e : M.doom n = (M,1) := by simp [MD.doom,h0]
   have := hK L T w rfl (by rw [e]; exact hd') (Step.refl _ _ _ _)
   rw [e] at this
   have hdc : decide (n < 0) = true := decide_eq_true h0
   simp (maxSteps:=2000000) only[bitvec_to_nat,seval,↓tcd,Tryz.f19,h1,hlt,hdc]
   exact ret_of (Step.refl w.S w.R L T) this
 · have e : M.doom n = ({ M with doomed := true,left := n.toNat },0) := by simp [MD.doom,h0]
   have hs := hd'.setHead (M' := { M with doomed := true,left := n.toNat }) rfl rfl rfl ok.room (by show ((n.toNat : Nat) : Int) ≤ _; omega) (lf := n) (by intro _ _; show n = ((n.toNat : Nat) : Int); omega)
   have hst := (Step.refl w.S w.R L T).set (.inl (mem_o w)) (headV w { M with doomed := true,left := n.toNat } n)
   have := hK _ T w rfl (by rw [e]; exact hs) hst
   rw [e] at this
   have hdc : decide (n < 0) = false := decide_eq_false h0
   simp (maxSteps:=2000000) only[bitvec_to_nat,seval,↓tcd,Tryz.f19,h1,hlt,hdc]
   exact ret_of hst this
def newP : PMf := fun args L T K => ∃ n,args = [.int .i64 n] ∧ ∀ L' w,w.o = L.length → dAt L' T (DiskM.new n) w → Step noS noS L T w.S w.R L' T → K (.box w.o 0) L' T
theorem new_dAt (n : Int) (L : LL) (T : TT) : dAt (L ++ [headV ⟨L.length,none,[],none⟩ (DiskM.new n) 0]) T (DiskM.new n) ⟨L.length,none,[],none⟩ := by
 refine ⟨⟨by simp [DiskM.new,Rise],trivial,by simp [DiskM.new,reach],by intro f hf; simp [DiskM.new,reach] at hf,by intro e he; simp [DiskM.new] at he,by intro x hx; simp [DiskM.new] at hx,by unfold DiskM.new; simp only; split <;> omega,by simp [DiskM.new]⟩,⟨0,by rw [at_new rfl],by intro h; cases h⟩,⟨rfl,rfl⟩,rfl,rfl,?_,by simp [Own.mine]⟩
 intro f x y hx
 cases hx
theorem new_ok : PSound Tryz.prog 5 newP := by
 refine psound tysOk G0ok mix Tryz.func5 rfl ?_
 intro args L T K hm
 obtain ⟨n,rfl,hK⟩ := hm
 have hst := ((Step.refl noS noS L T).app [headV ⟨L.length,none,[],none⟩ (DiskM.new n) 0]).less (S2 := ({ o := L.length,ms := none,fs := [],tk := none } : Own).S) (R2 := ({ o := L.length,ms := none,fs := [],tk := none } : Own).R) (fun i hi => by simp [Own.S,Own.mine] at hi; exact .inr (by omega)) fun k hk => by cases hk
 have := hK _ _ rfl (new_dAt n L T) hst
 simp (maxSteps:=2000000) only[bitvec_to_nat,seval,↓tcd,Tryz.f5]
 have e : headV ⟨L.length,none,[],none⟩ (DiskM.new n) 0 = [V.int IntKind.i64 (if n < 0 then 0 else n),V.int IntKind.i64 0,V.raw (Value.map none),V.raw (Value.map none),V.nils,V.bool false,V.bool false,V.int IntKind.i64 0] := rfl
 rw [e] at this hst
 exact ret_of hst this
theorem gones_in {l : Names} (hr : Rise l) {cs : List Chg} (h : CanAll l cs) {f : Nat} (hf : f ∈ gones l cs) : f ∈ reach l cs := (reach_perm hr h).subset (List.mem_append_right _ hf)
theorem gones_app (l : Names) (xs ys : List Chg) : gones l (xs ++ ys) = gones l xs ++ gones (play l xs) ys := by
 induction xs generalizing l with
 | nil => rfl
 | cons c cs ih => show (gone l c).toList ++ gones (chg l c) (cs ++ ys) = _; rw [ih]; simp [gones,play]
theorem canAll_app {l : Names} {xs ys : List Chg} (h : CanAll l (xs ++ ys)) : CanAll (play l xs) ys := by
 induction xs generalizing l with
 | nil => exact h
 | cons c cs ih => exact ih h.2
theorem leLL_self (l : LL) : leLL l l = True := propext ⟨fun _ => trivial,fun _ => (St.le_self ⟨[],l,[]⟩).2.1⟩
theorem gone_cons {l : Names} {c : Chg} {cs : List Chg} : gones l (c :: cs) = (gone l c).toList ++ gones (chg l c) cs := rfl
def G6 : Fns := { fn := fun f => G4.fn f,mu := fun d => .no,hp := fun f => if f = 25 then some onP else G4.hp f,ord := fun i => if i = 7 then some [(1,0),(2,0),(3,0),(0,2),(4,2),(5,1),(6,0)] else if i = 9 then some [(0,0),(1,0),(2,0),(4,0),(5,0),(3,2),(6,2),(7,2),(8,0),(9,0),(10,0),(11,0),(12,1)] else none,it := fun f => G4.it f }
theorem G6_fn (f : FuncId) : G6.fn f = (G4.fn f) := rfl
theorem G6_mu (d : Tmp) : G6.mu d = (.no) := rfl
theorem G6_hp (f : FuncId) : G6.hp f = (if f = 25 then some onP else G4.hp f) := rfl
theorem G6_ord (i : Nat) : G6.ord i = (if i = 7 then some [(1,0),(2,0),(3,0),(0,2),(4,2),(5,1),(6,0)] else if i = 9 then some [(0,0),(1,0),(2,0),(4,0),(5,0),(3,2),(6,2),(7,2),(8,0),(9,0),(10,0),(11,0),(12,1)] else none) := rfl
theorem G6_it (f : FuncId) : G6.it f = (G4.it f) := rfl
theorem G6_hy (b : Nat) : G6.hy b = none := rfl
theorem G6ok : FnsOk Tryz.prog G6 := FnsOk.same (FnsOk.consP G4ok _ _ on_ok Tryz.func25 (by decide) (fun h => by cases h)) rfl rfl
attribute [bitvec_to_nat] G6_fn G6_mu G6_hp G6_ord G6_it G6_hy
def syncNamesF : List V → Option (MD → MD × V)
 | [] => some fun M => ((M.syncNames).1,codeV (M.syncNames).2)
 | _ => none
theorem syncNames_ok : PSound Tryz.prog 61 (opP syncNamesF) := by
 refine psound tysOk G6ok mix Tryz.func61 rfl ?_
 intro args L T K hm
 obtain ⟨M,w,rest,g,rfl,hg,hd,hsm,hK⟩ := hm
 obtain ⟨rfl,rfl⟩ : rest = [] ∧ g = fun M => ((M.syncNames).1,codeV (M.syncNames).2) := by
  unfold syncNamesF at hg; split at hg <;> cases hg; exact ⟨rfl,rfl⟩
 simp only at hK
 simp (maxSteps:=2000000) only[bitvec_to_nat,seval,↓tcd,Tryz.f61]
 unfold beginP
 refine ⟨M,w,rfl,hd,fun L1 T1 w1 ho hfs hd1 hms hst => ?_⟩
 cases hb : M.begin.2 with
 | false =>
  have e : M.syncNames = (M.begin.1,40) := by simp [MD.syncNames,hb]
  have := hK L1 T1 w1 ho (by rw [e]; exact hd1) hst
  rw [e] at this
  simp (maxSteps:=2000000) only[bitvec_to_nat,seval,↓tcd]
  exact ret_of hst this
 | true =>
  have e : M.syncNames = ({ M.begin.1 with kept := M.now,chs := [] },0) := by simp [MD.syncNames,hb]
  obtain ⟨⟨a,b⟩,hab⟩ := Option.isSome_iff_exists.1 (hms hb)
  obtain ⟨⟨ck,l,hl,hnm⟩,ck2,l2,hl2,hnm2⟩ := names_at hd1 hab
  have hd1' := hd1
  obtain ⟨ok,⟨lf,h1,h2⟩,_⟩ := hd1'
  unfold headV at h1
  rw [ho] at h1
  simp only [hab,mapV] at h1
  have hlt := lt_at h1
  have hch := hd1.chs
  unfold ChsAt at hch
  have hoab := hd1.o_ne.1 a b hab
  rw [ho] at hoab
  have hbase := used_kept ok
  have hnow : M.begin.1.now = M.now := begin_now M
  have fin : ∀ L2,Step (fun i => i = w.o ∨ i = b) noS L1 T1 (fun i => i = w.o ∨ i = b) noS L2 T1 → (∃ ck l,L2[b]? = some [.mapc none ck l] ∧ NMap w1.fs l M.begin.1.now) →
   ∃ v r L' T',codeV 0 = v ∧ (L.length ≤ L'.length ∧ T.length ≤ T'.length) ∧ St.le ⟨[v],L2.set w.o [.int .i64 M.begin.1.room,.int .i64 (({ M.begin.1 with kept := M.begin.1.now,chs := [] } : MD).used : Int),.mref a,.mref b,.nils,.bool M.begin.1.down,.bool M.begin.1.doomed,.int .i64 lf],T1⟩ ⟨[r],L',T'⟩ ∧ K r L' T' := by
   intro L2 hs2 hb2
   have hlo : w.o < L2.length := by have := hs2.len; omega
   have hne : ∀ i,i ≠ w.o → ∀ x,(L2.set w.o x)[i]? = L2[i]? := fun i hi x => at_other (Ne.symm hi) x
   have ht := hd1.turn (L' := L2.set w.o (headV { w1 with tk := none } { M.begin.1 with kept := M.begin.1.now,chs := [] } lf)) (T' := T1) (tk' := none) hab (M' := { M.begin.1 with kept := M.begin.1.now,chs := [] }) rfl ok.keptNow
    (by rw [ho,at_set hlo]) h2 (by
     refine ⟨ck,l,?_,by simpa [MD.now,play] using (show NMap w1.fs l M.begin.1.now by rw [hnow]; rw [begin_now] at hnm; exact hnm)⟩
     rw [hne a (Ne.symm hoab.1),hs2.keep a (lt_at hl) (by rintro (h | h); exact hoab.1 h.symm; exact hoab.2.2 h)]
     exact hl) (by
     obtain ⟨ck',l',v1,v2⟩ := hb2
     exact ⟨ck',l',by rw [hne b (Ne.symm hoab.2.1)]; exact v1,v2⟩) rfl fun i hi i1 i2 i3 => by
      rw [ho] at i1
      rw [hne i i1,hs2.keep i hi (by rintro (h | h); exact i1 h; exact i3 h)]
   have hst2 := ((hst.via hs2 (by rintro i (rfl | rfl); exact .inl (mem_o w); exact hst.own _ (mem_ms hab).2) (fun _ h => h.elim)).set (.inl (mem_o w)) (headV { w1 with tk := none } { M.begin.1 with kept := M.begin.1.now,chs := [] } lf)).less (S2 := ({ w1 with tk := none } : Own).S) (R2 := ({ w1 with tk := none } : Own).R) (fun i hi => .inl hi) (fun k hk => by cases hk)
   have := hK _ T1 { w1 with tk := none } ho (by rw [e]; rw [← hnow]; exact ht) hst2
   rw [e] at this
   have hE : headV { w1 with tk := none } { M.begin.1 with kept := M.begin.1.now,chs := [] } lf = [.int .i64 M.begin.1.room,.int .i64 (({ M.begin.1 with kept := M.begin.1.now,chs := [] } : MD).used : Int),.mref a,.mref b,.nils,.bool M.begin.1.down,.bool M.begin.1.doomed,.int .i64 lf] := by
    unfold headV; simp only [hab,mapV,chsV]
   rw [hE] at this hst2
   exact ret_of hst2 this
  cases htk : w1.tk with
  | none =>
   rw [htk] at hch h1
   simp only [chsV] at h1
   have hc0 : M.begin.1.chs = [] := hch
   have hn0 : M.begin.1.now = M.begin.1.kept := by unfold MD.now; rw [hc0]; rfl
   have hu0 : M.begin.1.used = ({ M.begin.1 with kept := M.begin.1.now,chs := [] } : MD).used := by rw [← hbase,hc0]; simp [gones]
   rw [hu0] at h1
   simp (maxSteps:=2000000) only[bitvec_to_nat,seval,↓tcd,h1,hlt]
   refine awpLoop_intro (α := Unit) (fun q => ⟨[.box w.o 0,.any,.int .i64 0,.any,.any,.any,.any,.any,.any,.any,.any,.any,.any,.any,.any,.nils,.int .i64 0,.int .i64 0,.any,.any,.any,.any,.any,.any,.any,.any,.any,.any,.any,.any,.any,.any,.any,.any,.any,.any,.any,.any,.any,.any,.any,.any,.any,.any,.any],L1,T1⟩) (fun q => 0) () ?_ ?_ (fun _ => ⟨hst.len,hst.tlen⟩)
   · simp (maxSteps:=2000000) only[bitvec_to_nat,seval,↓tcd,leLL_self]
   · rintro ⟨⟩
     simp (maxSteps:=2000000) only[bitvec_to_nat,seval,↓tcd,h1,hlt]
     exact fin L1 (Step.refl _ _ _ _) ⟨ck2,l2,hl2,by rw [hn0]; exact hnm2⟩
  | some k =>
   rw [htk] at hch h1
   simp only [chsV] at h1 hch
   simp (maxSteps:=2000000) only[bitvec_to_nat,seval,↓tcd,h1,hlt,hch,List.length_map]
   refine awpLoop_intro (α := {q : List Chg × List Chg × LL // M.begin.1.chs = q.1 ++ q.2.1 ∧ Step (fun i => i = w.o ∨ i = b) noS L1 T1 (fun i => i = w.o ∨ i = b) noS q.2.2 T1 ∧
    (∃ ck l,q.2.2[b]? = some [.mapc none ck l] ∧ NMap w1.fs l (play M.begin.1.kept q.1)) ∧
    q.2.2[w.o]? = some [.int .i64 M.begin.1.room,.int .i64 ((({ M.begin.1 with kept := M.begin.1.now,chs := [] } : MD).used + ((gones (play M.begin.1.kept q.1) q.2.1).map M.begin.1.size).sum : Nat) : Int),.mref a,.mref b,.list 3 (M.begin.1.chs.map (chgV w1.fs)) (some k),.bool M.begin.1.down,.bool M.begin.1.doomed,.int .i64 lf]})
    (fun q => ⟨[.box w.o 0,.any,.int .i64 0,.any,.any,.any,.any,.any,.any,.any,.any,.any,.any,.any,.any,.list 3 (M.begin.1.chs.map (chgV w1.fs)) none,.int .i64 (M.begin.1.chs.length : Int),.int .i64 (q.1.1.length : Int),.any,.any,.any,.any,.any,.any,.any,.any,.any,.any,.any,.any,.any,.any,.any,.any,.any,.any,.any,.any,.any,.any,.any,.any,.any,.any,.any],q.1.2.2,T1⟩) (fun q => q.1.2.1.length)
    ⟨([],M.begin.1.chs,L1),rfl,Step.refl _ _ _ _,⟨ck2,l2,hl2,hnm2⟩,by rw [h1,← hbase]; rfl⟩ ?_ ?_ (fun q => ⟨Nat.le_trans hst.len q.2.2.1.len,hst.tlen⟩)
   · simp (maxSteps:=2000000) only[bitvec_to_nat,seval,↓tcd,leLL_self]
     all_goals simp
   · rintro ⟨⟨pre,cs,L2⟩,hpre,hs2,⟨ck3,l3,hl3,hnm3⟩,h3⟩
     simp only at hpre hs2 hl3 hnm3 h3
     have hlt2 := lt_at h3
     cases cs with
     | nil =>
      rw [List.append_nil] at hpre
      have hdc : decide ((pre.length : Int) < (M.begin.1.chs.length : Int)) = false := decide_eq_false (by rw [hpre]; omega)
      have hp : play M.begin.1.kept pre = M.begin.1.now := by unfold MD.now; rw [hpre]
      rw [hp] at hnm3 h3
      simp only [gones,List.map_nil,List.sum_nil,Nat.add_zero] at h3
      simp (maxSteps:=2000000) only[bitvec_to_nat,seval,↓tcd,h3,hlt2,hdc]
      exact fin L2 hs2 ⟨ck3,l3,hl3,hnm3⟩
     | cons c cs =>
      have hdc : decide ((pre.length : Int) < (M.begin.1.chs.length : Int)) = true := decide_eq_true (by rw [hpre]; simp; omega)
      have hgd : (List.map (chgV w1.fs) M.begin.1.chs).getD pre.length .any = .agg [.str c.frm,.str c.to,madeV w1.fs c] := by
       rw [hpre,List.map_append,List.getD_eq_getElem?_getD,List.getElem?_append_right (by simp),List.length_map]
       simp [chgV]
      simp (maxSteps:=2000000) only[bitvec_to_nat,seval,↓tcd,h3,hlt2,hdc,hgd,Int.toNat_natCast,List.length_map]
      have hcan : CanAll (play M.begin.1.kept pre) (c :: cs) := canAll_app (hpre ▸ ok.can)
      have hpl : play M.begin.1.kept (pre ++ [c]) = chg (play M.begin.1.kept pre) c := play_snoc _ _ _
      refine ⟨⟨by omega,of_decide_eq_true hdc⟩,by kernel_rfl,?_⟩
      unfold onP
      refine ⟨w1.fs,c,play M.begin.1.kept pre,b,ck3,l3,rfl,by rw [at_app (lt_at hl3)]; exact hl3,hnm3,hcan.1,fun L3 ck4 l4 hl4 hn4 hst3 => ?_⟩
      have hsum : ((gones (play M.begin.1.kept pre) (c :: cs)).map M.begin.1.size).sum = (((gone (play M.begin.1.kept pre) c).toList).map M.begin.1.size).sum + ((gones (play M.begin.1.kept (pre ++ [c])) cs).map M.begin.1.size).sum := by
       rw [gone_cons,List.map_append,List.sum_append,hpl]
      have hk3 : L3[w.o]? = L2[w.o]? := by rw [hst3.keep w.o (by simp; omega) hoab.2.1,at_app hlt2]
      rw [h3] at hk3
      have hlt3 := lt_at hk3
      have hs3 : Step (fun i => i = w.o ∨ i = b) noS L1 T1 (fun i => i = w.o ∨ i = b) noS L3 T1 := (hs2.app _).via hst3 (fun i hi => .inl (.inr hi)) (fun _ h => h.elim)
      have hpre' : M.begin.1.chs = (pre ++ [c]) ++ cs := by rw [hpre]; simp
      have hi : IntKind.i64.wrap ((pre.length : Int) + 1) = ((pre ++ [c]).length : Int) := by
       have : pre.length ≤ M.chs.length := by rw [← begin_chs M,hpre]; simp
       have := hsm.chs
       rw [i64w (by omega) (by omega)]; simp
      cases hg : gone (play M.begin.1.kept pre) c with
      | none =>
       rw [hg] at hsum
       simp only [Option.toList_none,List.map_nil,List.sum_nil,Nat.zero_add] at hsum
       rw [hsum] at hk3
       simp (maxSteps:=2000000) only[bitvec_to_nat,seval,↓tcd,optV,nilP,hi]
       refine ⟨⟨(pre ++ [c],cs,L3),hpre',hs3,⟨ck4,l4,hl4,by rw [hpl]; exact hn4⟩,hk3⟩,?_,Nat.lt_succ_self _⟩
       simp (maxSteps:=2000000) only[bitvec_to_nat,seval,↓tcd,leLL_self]
      | some f =>
       rw [hg] at hsum
       simp only [Option.toList_some,List.map_cons,List.map_nil,List.sum_cons,List.sum_nil,Nat.add_zero] at hsum
       have hfr : f ∈ reach M.begin.1.kept M.begin.1.chs := gones_in ok.rise ok.can (by rw [hpre,gones_app]; exact List.mem_append_right _ (by rw [gone_cons,hg]; simp))
       obtain ⟨fa,ob,k1,k2,k3,k4,k5⟩ := file_at hd1 (ok.lt f hfr)
       rw [ho] at k3
       have k6 : L3[fa]? = L1[fa]? := by rw [hs3.keep fa (lt_at k4) (by rintro (h | h); exact k3 h.symm; exact (hd1.ms_ne hab k1).2.1 h.symm)]
       rw [k4] at k6
       have hlt6 := lt_at k6
       have hsz : M.begin.1.size f = (M.begin.1.file f).1.length := rfl
       rw [hsum,hsz] at hk3
       rw [show optV w1.fs (some f) = .box fa 0 from k2]
       obtain ⟨B,hB⟩ : ∃ B,({ M.begin.1 with kept := M.begin.1.now,chs := [] } : MD).used = B := ⟨_,rfl⟩
       obtain ⟨G,hG⟩ : ∃ G,((gones (play M.begin.1.kept (pre ++ [c])) cs).map M.begin.1.size).sum = G := ⟨_,rfl⟩
       have hle : B + ((M.begin.1.file f).1.length + G) ≤ 1099511627776 := by
        have q1 := hsm.used
        rw [← begin_used M,← hbase,hB,hpre,gones_app,List.map_append,List.sum_append,hsum,hsz,hG] at q1
        omega
       rw [hB,hG] at hk3
       have fin2 : ∀ x,x = [.int .i64 M.begin.1.room,.int .i64 ((B + G : Nat) : Int),.mref a,.mref b,.list 3 (M.begin.1.chs.map (chgV w1.fs)) (some k),.bool M.begin.1.down,.bool M.begin.1.doomed,.int .i64 lf] →
        Step (fun i => i = w.o ∨ i = b) noS L1 T1 (fun i => i = w.o ∨ i = b) noS (L3.set w.o x) T1 ∧ (∃ ck l,(L3.set w.o x)[b]? = some [.mapc none ck l] ∧ NMap w1.fs l (play M.begin.1.kept (pre ++ [c]))) ∧
        (L3.set w.o x)[w.o]? = some [.int .i64 M.begin.1.room,.int .i64 ((({ M.begin.1 with kept := M.begin.1.now,chs := [] } : MD).used + ((gones (play M.begin.1.kept (pre ++ [c])) cs).map M.begin.1.size).sum : Nat) : Int),.mref a,.mref b,.list 3 (M.begin.1.chs.map (chgV w1.fs)) (some k),.bool M.begin.1.down,.bool M.begin.1.doomed,.int .i64 lf] := by
        rintro x rfl
        exact ⟨hs3.set (.inl (.inl rfl)) _,⟨ck4,l4,by rw [at_other hoab.2.1]; exact hl4,by rw [hpl]; exact hn4⟩,by rw [at_set hlt3,hB,hG]⟩
       cases ob with
       | none =>
        have hb0 : (M.begin.1.file f).1 = [] := k5
        simp only [bytesV] at k6
        simp only [hb0,List.length_nil,Nat.zero_add] at hk3 hle
        have hw : IntKind.i64.wrap (((B + G : Nat) : Int) - 0) = ((B + G : Nat) : Int) := by rw [i64w (by omega) (by omega)]; omega
        simp (maxSteps:=2000000) only[bitvec_to_nat,seval,↓tcd,hk3,k6,hlt3,hlt6,hi,hw]
        obtain ⟨v1,v2,v3⟩ := fin2 _ rfl
        refine ⟨by kernel_rfl,⟨(pre ++ [c],cs,_),hpre',v1,v2,v3⟩,?_,Nat.lt_succ_self _⟩
        simp (maxSteps:=2000000) only[bitvec_to_nat,seval,↓tcd,leLL_self]
       | some r =>
        simp only [bytesV] at k6
        have hw : IntKind.i64.wrap (((B + ((M.begin.1.file f).1.length + G) : Nat) : Int) - ((M.begin.1.file f).1.length : Int)) = ((B + G : Nat) : Int) := by rw [i64w (by omega) (by omega)]; omega
        simp (maxSteps:=2000000) only[bitvec_to_nat,seval,↓tcd,hk3,k6,hlt3,hlt6,hi,hw]
        obtain ⟨v1,v2,v3⟩ := fin2 _ rfl
        refine ⟨by kernel_rfl,⟨(pre ++ [c],cs,_),hpre',v1,v2,v3⟩,?_,Nat.lt_succ_self _⟩
        simp (maxSteps:=2000000) only[bitvec_to_nat,seval,↓tcd,leLL_self]
theorem nmap_perm {fs : List Fl} {l : List (MKey × Nat × V)} {m : Names} (h : NMap fs l m) (hm : (m.map (·.1)).Nodup) : (l.map (·.1)).Perm ((m.map (·.1)).map .str) := by
 obtain ⟨h1,h2,h3⟩ := h
 have hn2 : ((m.map (·.1)).map MKey.str).Nodup := List.pairwise_map.2 (List.Pairwise.imp (fun hab e => hab (by cases e; rfl)) hm)
 refine (List.perm_ext_iff_of_nodup h1 hn2).2 fun k => ⟨fun hk => ?_,fun hk => ?_⟩
 · obtain ⟨n,rfl⟩ := h2 k hk
   refine List.mem_map.2 ⟨n,?_,rfl⟩
   apply Classical.byContradiction
   intro hn
   have := h3 n
   rw [nfind_none.2 hn] at this
   exact mfind_none.1 this hk
 · obtain ⟨n,hn,rfl⟩ := List.mem_map.1 hk
   apply Classical.byContradiction
   intro hk2
   have := h3 n
   rw [mfind_none.2 hk2] at this
   cases hf : nfind m n with
   | none => exact nfind_none.1 hf hn
   | some f => rw [hf] at this; cases this
theorem nodup_len {l r : List Nat} (hn : l.Nodup) (hs : ∀ x ∈ l,x ∈ r) : l.length ≤ r.length := by
 induction l generalizing r with
 | nil => simp
 | cons x l ih =>
  simp only [List.nodup_cons] at hn
  obtain ⟨r1,r2,rfl⟩ := List.append_of_mem (hs x (by simp))
  have := ih (r := r1 ++ r2) hn.2 fun y hy => by
   have := hs y (List.mem_cons_of_mem _ hy)
   simp only [List.mem_append,List.mem_cons] at this ⊢
   rcases this with h | h | h
   · exact .inl h
   · exact absurd (h ▸ hy) hn.1
   · exact .inr h
  simp only [List.length_append,List.length_cons] at this ⊢
  omega
theorem reach_len {M : MD} (h : M.Ok) : (reach M.kept M.chs).length ≤ M.files.length := by
 have := nodup_len (r := List.range M.files.length) h.once fun f hf => List.mem_range.2 (h.lt f hf)
 rwa [List.length_range] at this
theorem now_len {M : MD} (h : M.Ok) : M.now.length ≤ M.files.length := by
 have h1 := (reach_perm h.rise h.can).length_eq
 have h2 := reach_len h
 rw [List.length_append,List.length_map] at h1
 have : (play M.kept M.chs).length = M.now.length := rfl
 omega
theorem at_rising {L : LL} {T : TT} {fs : List Fl} {m : Names} {a ck : Nat} {l : List (MKey × Nat × V)} {K : V → LL → TT → Prop} (hl : L[a]? = some [.mapc none ck l]) (hn : NMap fs l m) (hr : Rise m) (hrt : ∀ e ∈ m,right e.1) (hlen : m.length ≤ 1099511627776)
 (hK : K (.list 1 ((m.map (·.1)).map .str) none) L T) : risingP [.mref a] L T K := by
 refine .inl ⟨a,none,ck,l,m.map (·.1),rfl,hl,nmap_perm hn hr.nodup,fun n hn => ?_,hr.imp fun h => Std.le_of_lt h,by simpa using hlen,hK⟩
 obtain ⟨e,he,rfl⟩ := List.mem_map.1 hn
 have := (hrt e he).2
 omega
def G7 : Fns := { fn := fun f => G6.fn f,mu := fun d => .no,hp := fun f => if f = 27 then some risingP else G6.hp f,ord := fun i => none,it := fun f => G6.it f }
theorem G7_fn (f : FuncId) : G7.fn f = (G6.fn f) := rfl
theorem G7_mu (d : Tmp) : G7.mu d = (.no) := rfl
theorem G7_hp (f : FuncId) : G7.hp f = (if f = 27 then some risingP else G6.hp f) := rfl
theorem G7_ord (i : Nat) : G7.ord i = (none) := rfl
theorem G7_it (f : FuncId) : G7.it f = (G6.it f) := rfl
theorem G7_hy (b : Nat) : G7.hy b = none := rfl
theorem G7ok : FnsOk Tryz.prog G7 := FnsOk.same (FnsOk.consP G6ok _ _ rising_ok Tryz.func27 (by decide) (fun h => by cases h)) rfl rfl
attribute [bitvec_to_nat] G7_fn G7_mu G7_hp G7_ord G7_it G7_hy
def G8 : Fns := { fn := fun f => if f = 24 then some withinM else G7.fn f,mu := fun d => .no,hp := fun f => G7.hp f,ord := fun i => if i = 3 then some [(0,0),(1,0),(2,0),(4,0),(5,0),(6,0),(7,0),(10,0),(11,0),(12,0),(3,2),(8,2),(9,0),(13,2),(14,0),(15,0),(16,0),(17,0),(18,0),(19,1)] else if i = 4 then some [(0,0),(1,0),(2,0),(3,0),(5,0),(6,0),(7,0),(4,2),(8,2),(9,0),(10,0),(11,0),(12,1)] else none,it := fun f => G7.it f }
theorem G8_fn (f : FuncId) : G8.fn f = (if f = 24 then some withinM else G7.fn f) := rfl
theorem G8_mu (d : Tmp) : G8.mu d = (.no) := rfl
theorem G8_hp (f : FuncId) : G8.hp f = (G7.hp f) := rfl
theorem G8_ord (i : Nat) : G8.ord i = (if i = 3 then some [(0,0),(1,0),(2,0),(4,0),(5,0),(6,0),(7,0),(10,0),(11,0),(12,0),(3,2),(8,2),(9,0),(13,2),(14,0),(15,0),(16,0),(17,0),(18,0),(19,1)] else if i = 4 then some [(0,0),(1,0),(2,0),(3,0),(5,0),(6,0),(7,0),(4,2),(8,2),(9,0),(10,0),(11,0),(12,1)] else none) := rfl
theorem G8_it (f : FuncId) : G8.it f = (G7.it f) := rfl
theorem G8_hy (b : Nat) : G8.hy b = none := rfl
theorem G8ok : FnsOk Tryz.prog G8 := FnsOk.same (FnsOk.cons G7ok _ _ within_ok Tryz.func24 (by decide) (fun h => by cases h)) rfl rfl
attribute [bitvec_to_nat] G8_fn G8_mu G8_hp G8_ord G8_it G8_hy
def wreckX (X : V) (bs : List Int) : Prop := (X = .nils ∧ bs = []) ∨ ∃ t,X = .list 1 (bs.map fun n => .int .i64 n) t
def crashFP : PM := fun args L T K => ∃ (a : Nat) (X : V) (bs : List Int) (i : Nat) (ob : Option Nat) (b : List UInt8) (kept : Nat),args = [.box a 0,X,.int .i64 (i : Nat)] ∧ wreckX X bs ∧ bs.length ≤ 9223372036854775807 ∧ L[a]? = some [bytesV 5 ob b,.int .i64 (kept : Int)] ∧ kept ≤ b.length ∧ (ob = none → b = []) ∧ b.length ≤ 1099511627776 ∧ i ≤ 1099511627776 ∧
 K (.tuple []) (L.set a [bytesV 5 ob (crashF ⟨0,bs⟩ i (b,kept)).1,.int .i64 ((crashF ⟨0,bs⟩ i (b,kept)).2 : Int)]) T
theorem within_le (n : Int) (m : Nat) : within n m ≤ m := Nat.min_le_right _ _
theorem within_zero (m : Nat) : within 0 m = 0 := Nat.zero_min m
theorem crashF_le (bs : List Int) (i : Nat) {b : List UInt8} {kept : Nat} (hk : kept ≤ b.length) : (crashF ⟨0,bs⟩ i (b,kept)).2 ≤ b.length ∧ (crashF ⟨0,bs⟩ i (b,kept)).1 = b.take (crashF ⟨0,bs⟩ i (b,kept)).2 := by
 refine ⟨?_,rfl⟩
 show kept + wleft ⟨0,bs⟩ i (b.length - kept) ≤ b.length
 have : wleft ⟨0,bs⟩ i (b.length - kept) ≤ b.length - kept := by
  unfold wleft
  split
  · omega
  · exact within_le _ _
 omega
theorem bs_get {bs : List Int} (h : bs ≠ []) (i : Nat) : (0 < bs.length ∧ i % bs.length < bs.length) ∧ decide ((0 : Int) < (bs.length : Int)) = true ∧ ((i : Nat) : Int).tmod (bs.length : Int) = ((i % bs.length : Nat) : Int) ∧ (bs.map fun n => V.int .i64 n).getD (i % bs.length) .any = .int .i64 (bs.getD (i % bs.length) 0) := by
 have hl : 0 < bs.length := List.length_pos_iff.2 h
 have hm := Nat.mod_lt i hl
 refine ⟨⟨hl,hm⟩,decide_eq_true (by omega),rfl,?_⟩
 simp only [List.getD_eq_getElem?_getD,List.getElem?_map,List.getElem?_eq_getElem hm]
 rfl
theorem crashF_ok : PSound Tryz.prog 28 crashFP := by
 refine psound tysOk G8ok mix Tryz.func28 rfl ?_
 intro args L T K hm
 obtain ⟨a,X,bs,i,ob,b,kept,rfl,hX,hbs,h1,hk,hob,hbl,hi,hK⟩ := hm
 have hlt := lt_at h1
 obtain ⟨hle,htk⟩ := crashF_le bs i hk
 obtain ⟨q,hq⟩ : ∃ q,(crashF ⟨0,bs⟩ i (b,kept)).2 = q := ⟨_,rfl⟩
 rw [hq] at hK hle htk
 rw [htk] at hK
 have hw1 : IntKind.i64.wrap ((b.length : Int) - (kept : Int)) = ((b.length - kept : Nat) : Int) := by rw [i64w (by omega) (by omega)]; omega
 have hw2 : ∀ x : Nat,x ≤ b.length - kept → IntKind.i64.wrap ((kept : Int) + (x : Int)) = ((kept + x : Nat) : Int) := fun x hx => by rw [i64w (by omega) (by omega)]; omega
 have hfin : ∀ L',L' = L.set a [bytesV 5 ob (b.take q),.int .i64 (q : Int)] → ∃ v r L'' T',V.tuple [] = v ∧ (L.length ≤ L''.length ∧ T.length ≤ T'.length) ∧ St.le ⟨[v],L',T⟩ ⟨[r],L'',T'⟩ ∧ K r L'' T' := by
  rintro L' rfl
  exact ret_of ((Step.refl (· = a) noS L T).set (.inl rfl) _) hK
 have hlen : (b.take q).length = q := by rw [List.length_take]; omega
 have hcase : (bs = [] ∧ (q = kept)) ∨ (bs ≠ [] ∧ q = kept + within (bs.getD (i % bs.length) 0) (b.length - kept)) := by
  by_cases h : bs = []
  · refine .inl ⟨h,?_⟩
    rw [← hq]
    simp [crashF,wleft,h]
  · refine .inr ⟨h,?_⟩
    rw [← hq]
    simp [crashF,wleft,h]
 cases ob with
 | none =>
  have hb0 := hob rfl
  subst hb0
  have hk0 : kept = 0 := by simpa using hk
  have hq0 : q = 0 := by simpa using hle
  subst hk0 hq0
  simp only [bytesV,List.length_nil,Nat.sub_zero,Int.natCast_zero,Int.sub_zero,List.take_nil,Int.cast_ofNat_Int] at h1 hw1 hfin
  have hz : IntKind.i64.wrap 0 = 0 := by decide
  have hw : ∀ n,within n 0 = 0 := fun n => Nat.le_zero.1 (within_le n 0)
  rcases hX with ⟨rfl,rfl⟩ | ⟨xt,rfl⟩
  · simp (maxSteps:=2000000) only[bitvec_to_nat,seval,↓tcd,Tryz.f28,h1,hlt,withinM,Int.sub_zero,Int.add_zero,hz,hw,Int.natCast_zero,Int.cast_ofNat_Int,Int.toNat_zero]
    exact ⟨by kernel_rfl,by kernel_rfl,hfin _ rfl⟩
  · by_cases hbs0 : bs = []
    · subst hbs0
      simp (maxSteps:=2000000) only[bitvec_to_nat,seval,↓tcd,Tryz.f28,h1,hlt,withinM,Int.sub_zero,Int.add_zero,hz,hw,Int.natCast_zero,Int.cast_ofNat_Int,Int.toNat_zero,List.length_map]
      exact ⟨by kernel_rfl,by kernel_rfl,hfin _ rfl⟩
    · obtain ⟨⟨g0,gm⟩,g1,g2,g3⟩ := bs_get hbs0 i
      simp (maxSteps:=2000000) only[bitvec_to_nat,seval,↓tcd,Tryz.f28,h1,hlt,withinM,Int.sub_zero,Int.add_zero,hz,hw,Int.natCast_zero,Int.cast_ofNat_Int,Int.toNat_zero,List.length_map,g1,g2,g3,Int.toNat_natCast]
      exact ⟨by omega,⟨by omega,by omega⟩,by kernel_rfl,by kernel_rfl,hfin _ rfl⟩
 | some r =>
  simp only [bytesV,hlen] at h1 hfin
  rcases hX with ⟨rfl,rfl⟩ | ⟨xt,rfl⟩
  · have hqk : q = kept := by rcases hcase with ⟨_,h⟩ | ⟨h,_⟩; exact h; exact absurd rfl h
    have hw3 := hw2 0 (Nat.zero_le _)
    rw [Nat.add_zero,← hqk] at hw3
    simp (maxSteps:=2000000) only[bitvec_to_nat,Nat.reduceAdd,Nat.reduceSub,Nat.reduceMul,Nat.reduceLT,Nat.reduceLeDiff,Nat.reduceEqDiff,Nat.reduceBEq,Nat.reduceBNe,Int.reduceToNat,Int.reduceLE,Int.reduceLT,Int.reduceEq,Int.reduceNe,Int.reduceNeg,Nat.reducePow,Int.reducePow,reduceIte,reduceCtorEq,↓tcd,Tryz.f28,h1,hlt,withinM,hw1,Int.toNat_natCast,within_zero]
    rw [← hqk,hw3,Int.toNat_natCast]
    exact ⟨by kernel_rfl,by omega,by kernel_rfl,⟨by omega,by omega⟩,hfin _ rfl⟩
  · by_cases hbs0 : bs = []
    · subst hbs0
      have hqk : q = kept := by rcases hcase with ⟨_,h⟩ | ⟨h,_⟩; exact h; exact absurd rfl h
      have hw3 := hw2 0 (Nat.zero_le _)
      rw [Nat.add_zero,← hqk,show ((0 : Nat) : Int) = 0 from rfl] at hw3
      simp (maxSteps:=2000000) only[bitvec_to_nat,seval,↓tcd,Tryz.f28,h1,hlt,withinM,hw1,Int.toNat_natCast,within_zero,Int.natCast_zero,Int.cast_ofNat_Int]
      rw [← hqk,hw3,Int.toNat_natCast]
      exact ⟨by kernel_rfl,by omega,by kernel_rfl,⟨by omega,by omega⟩,hfin _ rfl⟩
    · obtain ⟨⟨g0,gm⟩,g1,g2,g3⟩ := bs_get hbs0 i
      have hqk : q = kept + within (bs.getD (i % bs.length) 0) (b.length - kept) := by rcases hcase with ⟨h,_⟩ | ⟨_,h⟩; exact absurd h hbs0; exact h
      have hw3 := hw2 _ (within_le (bs.getD (i % bs.length) 0) (b.length - kept))
      rw [← hqk] at hw3
      simp (maxSteps:=2000000) only[bitvec_to_nat,seval,↓tcd,Tryz.f28,h1,hlt,withinM,hw1,List.length_map,g1,g2,g3,Int.toNat_natCast,hw3]
      exact ⟨by omega,⟨by omega,by omega⟩,by kernel_rfl,by omega,by kernel_rfl,⟨by omega,by omega⟩,hfin _ rfl⟩
end Go.Proofs.YthlmfalfnpjndaaGreat.Disk
