import Derived.Test.YthlmfalfnpjndaaGreatAwX
import Derived.Test.YthlmfalfnpjndaaGreatFrameP
import Derived.Test.YthlmfalfnpjndaaGreatVaryM
import Derived.Test.YthlmfalfnpjndaaGreatPlaceD
namespace Go.Proofs.YthlmfalfnpjndaaGreat.JourX
open Go Go.Proofs Aw Num DiskM DiskA DiskK DiskC Disk FrameM FrameM
open DiskL (readP syncP syncNamesP doomP createP appendP wbV len_wbV Sz sz_new crash_o op_o small_crash)
open Frame (allM putM sameM all_ok put_ok same_ok)
open Place (Do Makes putAll growAll putFP growFP makes_put makes_grow makes_syncNames)
set_option linter.unusedSimpArgs false
set_option linter.unusedVariables false
def I25 : TyI := ⟨.struct [(0,3),(1,23)],2,32,(.agg #[(.int .i64 0),(.slice none 0 0)])⟩
def I34 : TyI := ⟨.struct [(0,5),(1,32),(2,25),(4,3)],5,72,(.agg #[(.int .u8 0),(.slice none 0 0),(.int .i64 0),(.slice none 0 0),(.int .i64 0)])⟩
def I50 : TyI := ⟨.struct [(0,3),(1,3),(2,47),(3,47),(4,48),(5,4),(6,4),(7,3)],8,72,(.agg #[(.int .i64 0),(.int .i64 0),(.map none),(.map none),(.slice none 0 0),(.bool false),(.bool false),(.int .i64 0)])⟩
def I64 : TyI := ⟨.struct [(0,9),(1,9),(2,62)],3,40,(.agg #[(.string .empty),(.string .empty),(.pointer none)])⟩
def tys : Tys := fun t => if t = 3 then some ⟨.int .i64,1,8,(.int .i64 0)⟩ else if t = 4 then some ⟨.bool,1,1,(.bool false)⟩ else if t = 5 then some ⟨.int .u8,1,1,(.int .u8 0)⟩ else if t = 9 then some ⟨.str,1,16,(.string .empty)⟩ else if t = 22 then some ⟨.slice 34,1,24,(.slice none 0 0)⟩ else if t = 23 then some ⟨.slice 3,1,24,(.slice none 0 0)⟩ else if t = 25 then some I25 else if t = 27 then some ⟨.ptr 50,1,8,(.pointer none)⟩ else if t = 32 then some ⟨.slice 5,1,24,(.slice none 0 0)⟩ else if t = 34 then some I34 else if t = 36 then some ⟨.int .i64,1,8,(.int .i64 0)⟩ else if t = 38 then some ⟨.slice 32,1,24,(.slice none 0 0)⟩ else if t = 47 then some ⟨.map 9 62,1,8,(.map none)⟩ else if t = 48 then some ⟨.slice 64,1,24,(.slice none 0 0)⟩ else if t = 50 then some I50 else if t = 62 then some ⟨.ptr 71,1,8,(.pointer none)⟩ else if t = 64 then some I64 else none
theorem tysOk : TyOk Tryz.prog tys := by
 refine TyOk.cons ?_ 3 _ (by kernel_rfl) (by kernel_rfl)
 refine TyOk.cons ?_ 4 _ (by kernel_rfl) (by kernel_rfl)
 refine TyOk.cons ?_ 5 _ (by kernel_rfl) (by kernel_rfl)
 refine TyOk.cons ?_ 9 _ (by kernel_rfl) (by kernel_rfl)
 refine TyOk.cons ?_ 22 _ (by kernel_rfl) (by kernel_rfl)
 refine TyOk.cons ?_ 23 _ (by kernel_rfl) (by kernel_rfl)
 refine TyOk.cons ?_ 25 _ (by kernel_rfl) (by kernel_rfl)
 refine TyOk.cons ?_ 27 _ (by kernel_rfl) (by kernel_rfl)
 refine TyOk.cons ?_ 32 _ (by kernel_rfl) (by kernel_rfl)
 refine TyOk.cons ?_ 34 _ (by kernel_rfl) (by kernel_rfl)
 refine TyOk.cons ?_ 36 _ (by kernel_rfl) (by kernel_rfl)
 refine TyOk.cons ?_ 38 _ (by kernel_rfl) (by kernel_rfl)
 refine TyOk.cons ?_ 47 _ (by kernel_rfl) (by kernel_rfl)
 refine TyOk.cons ?_ 48 _ (by kernel_rfl) (by kernel_rfl)
 refine TyOk.cons ?_ 50 _ (by kernel_rfl) (by kernel_rfl)
 refine TyOk.cons ?_ 62 _ (by kernel_rfl) (by kernel_rfl)
 refine TyOk.cons ?_ 64 _ (by kernel_rfl) (by kernel_rfl)
 exact TyOk.nil _
theorem mix : Tryz.prog.follows .mixedOrders = true := by kernel_rfl
theorem ty3 : tys 3 = some ⟨.int .i64,1,8,(.int .i64 0)⟩ := rfl
theorem tk3 : kindV tys 3 = some (.int .i64) := rfl
theorem ts3 : sizeV tys 3 = 1 := rfl
theorem ta3 : TyI.isAgg ⟨.int .i64,1,8,(.int .i64 0)⟩ = false := rfl
theorem tu3 : isU8 ⟨.int .i64,1,8,(.int .i64 0)⟩ = false := rfl
theorem tn3 : notIntK tys 3 = false := rfl
theorem tr3 : isStrK tys 3 = false := rfl
theorem tv3 : zeroU8 ⟨.int .i64,1,8,(.int .i64 0)⟩ = false := rfl
theorem td3 : TyI.zeroV ⟨.int .i64,1,8,(.int .i64 0)⟩ = V.ofV1 (.int .i64 0) := rfl
theorem ty4 : tys 4 = some ⟨.bool,1,1,(.bool false)⟩ := rfl
theorem tk4 : kindV tys 4 = some (.bool) := rfl
theorem ts4 : sizeV tys 4 = 1 := rfl
theorem ta4 : TyI.isAgg ⟨.bool,1,1,(.bool false)⟩ = false := rfl
theorem tu4 : isU8 ⟨.bool,1,1,(.bool false)⟩ = false := rfl
theorem tn4 : notIntK tys 4 = true := rfl
theorem tr4 : isStrK tys 4 = false := rfl
theorem tv4 : zeroU8 ⟨.bool,1,1,(.bool false)⟩ = false := rfl
theorem td4 : TyI.zeroV ⟨.bool,1,1,(.bool false)⟩ = V.ofV1 (.bool false) := rfl
theorem ty5 : tys 5 = some ⟨.int .u8,1,1,(.int .u8 0)⟩ := rfl
theorem tk5 : kindV tys 5 = some (.int .u8) := rfl
theorem ts5 : sizeV tys 5 = 1 := rfl
theorem ta5 : TyI.isAgg ⟨.int .u8,1,1,(.int .u8 0)⟩ = false := rfl
theorem tu5 : isU8 ⟨.int .u8,1,1,(.int .u8 0)⟩ = true := rfl
theorem tn5 : notIntK tys 5 = false := rfl
theorem tr5 : isStrK tys 5 = false := rfl
theorem tv5 : zeroU8 ⟨.int .u8,1,1,(.int .u8 0)⟩ = true := rfl
theorem td5 : TyI.zeroV ⟨.int .u8,1,1,(.int .u8 0)⟩ = V.ofV1 (.int .u8 0) := rfl
theorem ty9 : tys 9 = some ⟨.str,1,16,(.string .empty)⟩ := rfl
theorem tk9 : kindV tys 9 = some (.str) := rfl
theorem ts9 : sizeV tys 9 = 1 := rfl
theorem ta9 : TyI.isAgg ⟨.str,1,16,(.string .empty)⟩ = false := rfl
theorem tu9 : isU8 ⟨.str,1,16,(.string .empty)⟩ = false := rfl
theorem tn9 : notIntK tys 9 = true := rfl
theorem tr9 : isStrK tys 9 = true := rfl
theorem tv9 : zeroU8 ⟨.str,1,16,(.string .empty)⟩ = false := rfl
theorem td9 : TyI.zeroV ⟨.str,1,16,(.string .empty)⟩ = V.ofV1 (.string .empty) := rfl
theorem ty22 : tys 22 = some ⟨.slice 34,1,24,(.slice none 0 0)⟩ := rfl
theorem tk22 : kindV tys 22 = some (.slice 34) := rfl
theorem ts22 : sizeV tys 22 = 1 := rfl
theorem ta22 : TyI.isAgg ⟨.slice 34,1,24,(.slice none 0 0)⟩ = false := rfl
theorem tb22 : isBytes tys 22 = false := rfl
theorem te22 : elemI tys 22 = some (34,I34) := rfl
theorem tu22 : isU8 ⟨.slice 34,1,24,(.slice none 0 0)⟩ = false := rfl
theorem tn22 : notIntK tys 22 = true := rfl
theorem tr22 : isStrK tys 22 = false := rfl
theorem tv22 : zeroU8 ⟨.slice 34,1,24,(.slice none 0 0)⟩ = false := rfl
theorem td22 : TyI.zeroV ⟨.slice 34,1,24,(.slice none 0 0)⟩ = V.ofV1 (.slice none 0 0) := rfl
theorem ty23 : tys 23 = some ⟨.slice 3,1,24,(.slice none 0 0)⟩ := rfl
theorem tk23 : kindV tys 23 = some (.slice 3) := rfl
theorem ts23 : sizeV tys 23 = 1 := rfl
theorem ta23 : TyI.isAgg ⟨.slice 3,1,24,(.slice none 0 0)⟩ = false := rfl
theorem tb23 : isBytes tys 23 = false := rfl
theorem te23 : elemI tys 23 = some (3,⟨.int .i64,1,8,(.int .i64 0)⟩) := rfl
theorem tu23 : isU8 ⟨.slice 3,1,24,(.slice none 0 0)⟩ = false := rfl
theorem tn23 : notIntK tys 23 = true := rfl
theorem tr23 : isStrK tys 23 = false := rfl
theorem tv23 : zeroU8 ⟨.slice 3,1,24,(.slice none 0 0)⟩ = false := rfl
theorem td23 : TyI.zeroV ⟨.slice 3,1,24,(.slice none 0 0)⟩ = V.ofV1 (.slice none 0 0) := rfl
theorem ty25 : tys 25 = some I25 := rfl
theorem tk25 : kindV tys 25 = some (.struct [(0,3),(1,23)]) := rfl
theorem ts25 : sizeV tys 25 = 2 := rfl
theorem ta25 : TyI.isAgg I25 = true := rfl
theorem tg25 : I25.size = 2 ∧ I25.kind = .struct [(0,3),(1,23)] ∧ I25.bytes = 32 ∧ I25.zero = (.agg #[(.int .i64 0),(.slice none 0 0)]) := ⟨rfl,rfl,rfl,rfl⟩
theorem tu25 : isU8 I25 = false := rfl
theorem tn25 : notIntK tys 25 = true := rfl
theorem tr25 : isStrK tys 25 = false := rfl
theorem tz25 : zeroOk I25 = true := by kernel_rfl
theorem tv25 : zeroU8 I25 = false := rfl
theorem tc25 : V.ofV (.agg #[(.int .i64 0),(.slice none 0 0)]) = .agg [V.ofV1 (.int .i64 0),V.ofV1 (.slice none 0 0)] := by kernel_rfl
theorem tw25 : Value.oneCell' (.agg #[(.int .i64 0),(.slice none 0 0)]) = false := rfl
theorem td25 : TyI.zeroV I25 = .agg [V.ofV1 (.int .i64 0),V.ofV1 (.slice none 0 0)] := by kernel_rfl
theorem tp25_0 : placeV tys [(0,3),(1,23)] 0 = some (0,1) := rfl
theorem tp25_1 : placeV tys [(0,3),(1,23)] 1 = some (1,1) := rfl
theorem tq25 : ([(0,3),(1,23)].all (fun f => (tys f.2).isSome)) = true := rfl
theorem ty27 : tys 27 = some ⟨.ptr 50,1,8,(.pointer none)⟩ := rfl
theorem tk27 : kindV tys 27 = some (.ptr 50) := rfl
theorem ts27 : sizeV tys 27 = 1 := rfl
theorem ta27 : TyI.isAgg ⟨.ptr 50,1,8,(.pointer none)⟩ = false := rfl
theorem tu27 : isU8 ⟨.ptr 50,1,8,(.pointer none)⟩ = false := rfl
theorem tn27 : notIntK tys 27 = true := rfl
theorem tr27 : isStrK tys 27 = false := rfl
theorem tv27 : zeroU8 ⟨.ptr 50,1,8,(.pointer none)⟩ = false := rfl
theorem td27 : TyI.zeroV ⟨.ptr 50,1,8,(.pointer none)⟩ = V.ofV1 (.pointer none) := rfl
theorem ty32 : tys 32 = some ⟨.slice 5,1,24,(.slice none 0 0)⟩ := rfl
theorem tk32 : kindV tys 32 = some (.slice 5) := rfl
theorem ts32 : sizeV tys 32 = 1 := rfl
theorem ta32 : TyI.isAgg ⟨.slice 5,1,24,(.slice none 0 0)⟩ = false := rfl
theorem tb32 : isBytes tys 32 = true := rfl
theorem te32 : elemI tys 32 = some (5,⟨.int .u8,1,1,(.int .u8 0)⟩) := rfl
theorem tu32 : isU8 ⟨.slice 5,1,24,(.slice none 0 0)⟩ = false := rfl
theorem tn32 : notIntK tys 32 = true := rfl
theorem tr32 : isStrK tys 32 = false := rfl
theorem tv32 : zeroU8 ⟨.slice 5,1,24,(.slice none 0 0)⟩ = false := rfl
theorem td32 : TyI.zeroV ⟨.slice 5,1,24,(.slice none 0 0)⟩ = V.ofV1 (.slice none 0 0) := rfl
theorem ty34 : tys 34 = some I34 := rfl
theorem tk34 : kindV tys 34 = some (.struct [(0,5),(1,32),(2,25),(4,3)]) := rfl
theorem ts34 : sizeV tys 34 = 5 := rfl
theorem ta34 : TyI.isAgg I34 = true := rfl
theorem tg34 : I34.size = 5 ∧ I34.kind = .struct [(0,5),(1,32),(2,25),(4,3)] ∧ I34.bytes = 72 ∧ I34.zero = (.agg #[(.int .u8 0),(.slice none 0 0),(.int .i64 0),(.slice none 0 0),(.int .i64 0)]) := ⟨rfl,rfl,rfl,rfl⟩
theorem tu34 : isU8 I34 = false := rfl
theorem tn34 : notIntK tys 34 = true := rfl
theorem tr34 : isStrK tys 34 = false := rfl
theorem tz34 : zeroOk I34 = true := by kernel_rfl
theorem tv34 : zeroU8 I34 = false := rfl
theorem tc34 : V.ofV (.agg #[(.int .u8 0),(.slice none 0 0),(.int .i64 0),(.slice none 0 0),(.int .i64 0)]) = .agg [V.ofV1 (.int .u8 0),V.ofV1 (.slice none 0 0),V.ofV1 (.int .i64 0),V.ofV1 (.slice none 0 0),V.ofV1 (.int .i64 0)] := by kernel_rfl
theorem tw34 : Value.oneCell' (.agg #[(.int .u8 0),(.slice none 0 0),(.int .i64 0),(.slice none 0 0),(.int .i64 0)]) = false := rfl
theorem td34 : TyI.zeroV I34 = .agg [V.ofV1 (.int .u8 0),V.ofV1 (.slice none 0 0),V.ofV1 (.int .i64 0),V.ofV1 (.slice none 0 0),V.ofV1 (.int .i64 0)] := by kernel_rfl
theorem tp34_0 : placeV tys [(0,5),(1,32),(2,25),(4,3)] 0 = some (0,1) := rfl
theorem tp34_1 : placeV tys [(0,5),(1,32),(2,25),(4,3)] 1 = some (1,1) := rfl
theorem tp34_2 : placeV tys [(0,5),(1,32),(2,25),(4,3)] 2 = some (2,2) := rfl
theorem tp34_3 : placeV tys [(0,5),(1,32),(2,25),(4,3)] 3 = some (4,1) := rfl
theorem tq34 : ([(0,5),(1,32),(2,25),(4,3)].all (fun f => (tys f.2).isSome)) = true := rfl
theorem ty36 : tys 36 = some ⟨.int .i64,1,8,(.int .i64 0)⟩ := rfl
theorem tk36 : kindV tys 36 = some (.int .i64) := rfl
theorem ts36 : sizeV tys 36 = 1 := rfl
theorem ta36 : TyI.isAgg ⟨.int .i64,1,8,(.int .i64 0)⟩ = false := rfl
theorem tu36 : isU8 ⟨.int .i64,1,8,(.int .i64 0)⟩ = false := rfl
theorem tn36 : notIntK tys 36 = false := rfl
theorem tr36 : isStrK tys 36 = false := rfl
theorem tv36 : zeroU8 ⟨.int .i64,1,8,(.int .i64 0)⟩ = false := rfl
theorem td36 : TyI.zeroV ⟨.int .i64,1,8,(.int .i64 0)⟩ = V.ofV1 (.int .i64 0) := rfl
theorem ty38 : tys 38 = some ⟨.slice 32,1,24,(.slice none 0 0)⟩ := rfl
theorem tk38 : kindV tys 38 = some (.slice 32) := rfl
theorem ts38 : sizeV tys 38 = 1 := rfl
theorem ta38 : TyI.isAgg ⟨.slice 32,1,24,(.slice none 0 0)⟩ = false := rfl
theorem tb38 : isBytes tys 38 = false := rfl
theorem te38 : elemI tys 38 = some (32,⟨.slice 5,1,24,(.slice none 0 0)⟩) := rfl
theorem tu38 : isU8 ⟨.slice 32,1,24,(.slice none 0 0)⟩ = false := rfl
theorem tn38 : notIntK tys 38 = true := rfl
theorem tr38 : isStrK tys 38 = false := rfl
theorem tv38 : zeroU8 ⟨.slice 32,1,24,(.slice none 0 0)⟩ = false := rfl
theorem td38 : TyI.zeroV ⟨.slice 32,1,24,(.slice none 0 0)⟩ = V.ofV1 (.slice none 0 0) := rfl
theorem ty47 : tys 47 = some ⟨.map 9 62,1,8,(.map none)⟩ := rfl
theorem tk47 : kindV tys 47 = some (.map 9 62) := rfl
theorem ts47 : sizeV tys 47 = 1 := rfl
theorem ta47 : TyI.isAgg ⟨.map 9 62,1,8,(.map none)⟩ = false := rfl
theorem tu47 : isU8 ⟨.map 9 62,1,8,(.map none)⟩ = false := rfl
theorem tn47 : notIntK tys 47 = true := rfl
theorem tr47 : isStrK tys 47 = false := rfl
theorem tv47 : zeroU8 ⟨.map 9 62,1,8,(.map none)⟩ = false := rfl
theorem td47 : TyI.zeroV ⟨.map 9 62,1,8,(.map none)⟩ = V.ofV1 (.map none) := rfl
theorem ty48 : tys 48 = some ⟨.slice 64,1,24,(.slice none 0 0)⟩ := rfl
theorem tk48 : kindV tys 48 = some (.slice 64) := rfl
theorem ts48 : sizeV tys 48 = 1 := rfl
theorem ta48 : TyI.isAgg ⟨.slice 64,1,24,(.slice none 0 0)⟩ = false := rfl
theorem tb48 : isBytes tys 48 = false := rfl
theorem te48 : elemI tys 48 = some (64,I64) := rfl
theorem tu48 : isU8 ⟨.slice 64,1,24,(.slice none 0 0)⟩ = false := rfl
theorem tn48 : notIntK tys 48 = true := rfl
theorem tr48 : isStrK tys 48 = false := rfl
theorem tv48 : zeroU8 ⟨.slice 64,1,24,(.slice none 0 0)⟩ = false := rfl
theorem td48 : TyI.zeroV ⟨.slice 64,1,24,(.slice none 0 0)⟩ = V.ofV1 (.slice none 0 0) := rfl
theorem ty50 : tys 50 = some I50 := rfl
theorem tk50 : kindV tys 50 = some (.struct [(0,3),(1,3),(2,47),(3,47),(4,48),(5,4),(6,4),(7,3)]) := rfl
theorem ts50 : sizeV tys 50 = 8 := rfl
theorem ta50 : TyI.isAgg I50 = true := rfl
theorem tu50 : isU8 I50 = false := rfl
theorem tn50 : notIntK tys 50 = true := rfl
theorem tr50 : isStrK tys 50 = false := rfl
theorem tv50 : zeroU8 I50 = false := rfl
theorem tc50 : V.ofV (.agg #[(.int .i64 0),(.int .i64 0),(.map none),(.map none),(.slice none 0 0),(.bool false),(.bool false),(.int .i64 0)]) = .agg [V.ofV1 (.int .i64 0),V.ofV1 (.int .i64 0),V.ofV1 (.map none),V.ofV1 (.map none),V.ofV1 (.slice none 0 0),V.ofV1 (.bool false),V.ofV1 (.bool false),V.ofV1 (.int .i64 0)] := by kernel_rfl
theorem tw50 : Value.oneCell' (.agg #[(.int .i64 0),(.int .i64 0),(.map none),(.map none),(.slice none 0 0),(.bool false),(.bool false),(.int .i64 0)]) = false := rfl
theorem td50 : TyI.zeroV I50 = .agg [V.ofV1 (.int .i64 0),V.ofV1 (.int .i64 0),V.ofV1 (.map none),V.ofV1 (.map none),V.ofV1 (.slice none 0 0),V.ofV1 (.bool false),V.ofV1 (.bool false),V.ofV1 (.int .i64 0)] := by kernel_rfl
theorem tp50_0 : placeV tys [(0,3),(1,3),(2,47),(3,47),(4,48),(5,4),(6,4),(7,3)] 0 = some (0,1) := rfl
theorem tp50_1 : placeV tys [(0,3),(1,3),(2,47),(3,47),(4,48),(5,4),(6,4),(7,3)] 1 = some (1,1) := rfl
theorem tp50_2 : placeV tys [(0,3),(1,3),(2,47),(3,47),(4,48),(5,4),(6,4),(7,3)] 2 = some (2,1) := rfl
theorem tp50_3 : placeV tys [(0,3),(1,3),(2,47),(3,47),(4,48),(5,4),(6,4),(7,3)] 3 = some (3,1) := rfl
theorem tp50_4 : placeV tys [(0,3),(1,3),(2,47),(3,47),(4,48),(5,4),(6,4),(7,3)] 4 = some (4,1) := rfl
theorem tp50_5 : placeV tys [(0,3),(1,3),(2,47),(3,47),(4,48),(5,4),(6,4),(7,3)] 5 = some (5,1) := rfl
theorem tp50_6 : placeV tys [(0,3),(1,3),(2,47),(3,47),(4,48),(5,4),(6,4),(7,3)] 6 = some (6,1) := rfl
theorem tp50_7 : placeV tys [(0,3),(1,3),(2,47),(3,47),(4,48),(5,4),(6,4),(7,3)] 7 = some (7,1) := rfl
theorem tq50 : ([(0,3),(1,3),(2,47),(3,47),(4,48),(5,4),(6,4),(7,3)].all (fun f => (tys f.2).isSome)) = true := rfl
theorem ty62 : tys 62 = some ⟨.ptr 71,1,8,(.pointer none)⟩ := rfl
theorem tk62 : kindV tys 62 = some (.ptr 71) := rfl
theorem ts62 : sizeV tys 62 = 1 := rfl
theorem ta62 : TyI.isAgg ⟨.ptr 71,1,8,(.pointer none)⟩ = false := rfl
theorem tu62 : isU8 ⟨.ptr 71,1,8,(.pointer none)⟩ = false := rfl
theorem tn62 : notIntK tys 62 = true := rfl
theorem tr62 : isStrK tys 62 = false := rfl
theorem tv62 : zeroU8 ⟨.ptr 71,1,8,(.pointer none)⟩ = false := rfl
theorem td62 : TyI.zeroV ⟨.ptr 71,1,8,(.pointer none)⟩ = V.ofV1 (.pointer none) := rfl
theorem ty64 : tys 64 = some I64 := rfl
theorem tk64 : kindV tys 64 = some (.struct [(0,9),(1,9),(2,62)]) := rfl
theorem ts64 : sizeV tys 64 = 3 := rfl
theorem ta64 : TyI.isAgg I64 = true := rfl
theorem tu64 : isU8 I64 = false := rfl
theorem tn64 : notIntK tys 64 = true := rfl
theorem tr64 : isStrK tys 64 = false := rfl
theorem tv64 : zeroU8 I64 = false := rfl
theorem tc64 : V.ofV (.agg #[(.string .empty),(.string .empty),(.pointer none)]) = .agg [V.ofV1 (.string .empty),V.ofV1 (.string .empty),V.ofV1 (.pointer none)] := by kernel_rfl
theorem tw64 : Value.oneCell' (.agg #[(.string .empty),(.string .empty),(.pointer none)]) = false := rfl
theorem td64 : TyI.zeroV I64 = .agg [V.ofV1 (.string .empty),V.ofV1 (.string .empty),V.ofV1 (.pointer none)] := by kernel_rfl
theorem tp64_0 : placeV tys [(0,9),(1,9),(2,62)] 0 = some (0,1) := rfl
theorem tp64_1 : placeV tys [(0,9),(1,9),(2,62)] 1 = some (1,1) := rfl
theorem tp64_2 : placeV tys [(0,9),(1,9),(2,62)] 2 = some (2,1) := rfl
theorem tq64 : ([(0,9),(1,9),(2,62)].all (fun f => (tys f.2).isSome)) = true := rfl
set_option linter.defProp false in
def tcd := And.intro @r_ifTrue (And.intro @r_ifFalse (And.intro tc25 (And.intro td25 (And.intro tc34 (And.intro td34 (And.intro tc50 (And.intro td50 (And.intro tc64 (td64)))))))))
attribute [bitvec_to_nat] ty3 tk3 ts3 ta3 tu3 tn3 tr3 tv3 td3 ty4 tk4 ts4 ta4 tu4 tn4 tr4 tv4 td4 ty5 tk5 ts5 ta5 tu5 tn5 tr5 tv5 td5 ty9 tk9 ts9 ta9 tu9 tn9 tr9 tv9 td9 ty22 tk22 ts22 ta22 tb22 te22 tu22 tn22 tr22 tv22 td22 ty23 tk23 ts23 ta23 tb23 te23 tu23 tn23 tr23 tv23 td23 ty25 tk25 ts25 ta25 tg25 tu25 tn25 tr25 tz25 tv25 tw25 tp25_0 tp25_1 tq25 ty27 tk27 ts27 ta27 tu27 tn27 tr27 tv27 td27 ty32 tk32 ts32 ta32 tb32 te32 tu32 tn32 tr32 tv32 td32 ty34 tk34 ts34 ta34 tg34 tu34 tn34 tr34 tz34 tv34 tw34 tp34_0 tp34_1 tp34_2 tp34_3 tq34 ty36 tk36 ts36 ta36 tu36 tn36 tr36 tv36 td36 ty38 tk38 ts38 ta38 tb38 te38 tu38 tn38 tr38 tv38 td38 ty47 tk47 ts47 ta47 tu47 tn47 tr47 tv47 td47 ty48 tk48 ts48 ta48 tb48 te48 tu48 tn48 tr48 tv48 td48 ty50 tk50 ts50 ta50 tu50 tn50 tr50 tv50 tw50 tp50_0 tp50_1 tp50_2 tp50_3 tp50_4 tp50_5 tp50_6 tp50_7 tq50 ty62 tk62 ts62 ta62 tu62 tn62 tr62 tv62 td62 ty64 tk64 ts64 ta64 tu64 tn64 tr64 tv64 tw64 tp64_0 tp64_1 tp64_2 tq64
def J0 : Fns := { fn := fun _ => none }
theorem J0_fn (f : FuncId) : J0.fn f = none := rfl
theorem J0_mu (d : Tmp) : J0.mu d = .no := rfl
theorem J0_hp (f : FuncId) : J0.hp f = none := rfl
theorem J0_ord (i : Nat) : J0.ord i = none := rfl
theorem J0_it (f : FuncId) : J0.it f = none := rfl
theorem J0_hy (b : Nat) : J0.hy b = none := rfl
theorem J0ok : FnsOk Tryz.prog J0 := FnsOk.nil _ rfl rfl
attribute [bitvec_to_nat] J0_fn J0_mu J0_hp J0_ord J0_it J0_hy
def jn : Name := [106,111,117,114,110,97,108]
def addD (x : List UInt8) : Do := ⟨fun M => if 4096 < x.length then (M,3) else (growAll jn (frameF x)).f M,fun M => ¬ 4096 < x.length → (growAll jn (frameF x)).pre M⟩
def begD : Do := putAll jn []
def J1 : Fns := { fn := fun f => if f = 39 then some putM else if f = 31 then some allM else J0.fn f,mu := fun d => .no,hp := fun f => if f = 32 then some putFP else if f = 40 then some growFP else if f = 13 then some readP else J0.hp f,ord := fun i => none,it := fun f => J0.it f }
theorem J1_fn (f : FuncId) : J1.fn f = (if f = 39 then some putM else if f = 31 then some allM else J0.fn f) := rfl
theorem J1_mu (d : Tmp) : J1.mu d = (.no) := rfl
theorem J1_hp (f : FuncId) : J1.hp f = (if f = 32 then some putFP else if f = 40 then some growFP else if f = 13 then some readP else J0.hp f) := rfl
theorem J1_ord (i : Nat) : J1.ord i = (none) := rfl
theorem J1_it (f : FuncId) : J1.it f = (J0.it f) := rfl
theorem J1_hy (b : Nat) : J1.hy b = none := rfl
theorem J1ok : FnsOk Tryz.prog J1 := FnsOk.same (FnsOk.consP (FnsOk.consP (FnsOk.consP (FnsOk.cons (FnsOk.cons J0ok _ _ all_ok Tryz.func31 (by decide) (fun h => by cases h)) _ _ put_ok Tryz.func39 (by decide) (fun h => by cases h)) _ _ read_ok Tryz.func13 (by decide) (fun h => by cases h)) _ _ Place.growF_ok Tryz.func40 (by decide) (fun h => by cases h)) _ _ Place.putF_ok Tryz.func32 (by decide) (fun h => by cases h)) rfl rfl
attribute [bitvec_to_nat] J1_fn J1_mu J1_hp J1_ord J1_it J1_hy
def addP : PM := fun args L T K => ∃ M w x t,args = [.box w.o 0,.bytes x t] ∧ dAt L T M w ∧ (addD x).pre M ∧
 ∀ L' T' w',w'.o = w.o → dAt L' T' ((addD x).f M).1 w' → Step w.S w.R L T w'.S w'.R L' T' → K (codeV ((addD x).f M).2) L' T'
theorem add_ok : PSound Tryz.prog 16 addP := by
 refine psound tysOk J1ok mix Tryz.func16 rfl ?_
 intro args L T K hm
 obtain ⟨M,w,x,t,rfl,hd,hp,hK⟩ := hm
 by_cases hx : 4096 < x.length
 · have e : (addD x).f M = (M,3) := if_pos hx
   rw [e] at hK
   simp (maxSteps:=2000000) only[bitvec_to_nat,seval,↓tcd,Tryz.f16,putM,hx]
   exact ret_of (Step.refl w.S w.R L T) (hK L T w rfl hd (Step.refl _ _ _ _))
 · have e : (addD x).f M = (growAll jn (frameF x)).f M := if_neg hx
   rw [e] at hK
   have hp' := hp hx
   simp (maxSteps:=2000000) only[bitvec_to_nat,seval,↓tcd,Tryz.f16,putM,hx]
   have hst0 : Step w.S w.R L T w.S w.R L (T ++ [((frameF x).length,5)]) := (Step.refl _ _ _ _).tapp _
   refine ⟨M,w,jn,frameF x,some T.length,rfl,by rw [frameF_length]; omega,hd.frame ((Step.refl noS noS L T).tapp _) (fun _ _ h => h) (fun _ _ h => h),hp',fun L1 T1 w1 ho1 hd1 hst1 => ?_⟩
   exact ret_of (hst0.trans hst1) (hK L1 T1 w1 ho1 hd1 (hst0.trans hst1))
def begP : PM := fun args L T K => ∃ M w,args = [.box w.o 0] ∧ dAt L T M w ∧ begD.pre M ∧
 ∀ L' T' w',w'.o = w.o → dAt L' T' (begD.f M).1 w' → Step w.S w.R L T w'.S w'.R L' T' → K (codeV (begD.f M).2) L' T'
theorem beg_ok : PSound Tryz.prog 17 begP := by
 refine psound tysOk J1ok mix Tryz.func17 rfl ?_
 intro args L T K hm
 obtain ⟨M,w,rfl,hd,hp,hK⟩ := hm
 simp (maxSteps:=2000000) only[bitvec_to_nat,seval,↓tcd,Tryz.f17]
 refine ⟨M,w,jn,[],none,rfl,by simp,hd,hp,fun L1 T1 w1 ho1 hd1 hst1 => ?_⟩
 exact ret_of hst1 (hK L1 T1 w1 ho1 hd1 hst1)
def openF (M : MD) : MD × List (List UInt8) × Nat :=
 if (M.read jn).2 = 2 then ((M.read jn).1,[],0) else if (M.read jn).2 ≠ 0 then ((M.read jn).1,[],(M.read jn).2)
 else if (allF (M.readB jn)).2 < (M.readB jn).length then
  if ((putAll jn ((M.readB jn).take (allF (M.readB jn)).2)).f (M.read jn).1).2 ≠ 0 then (((putAll jn ((M.readB jn).take (allF (M.readB jn)).2)).f (M.read jn).1).1,[],((putAll jn ((M.readB jn).take (allF (M.readB jn)).2)).f (M.read jn).1).2)
  else (((putAll jn ((M.readB jn).take (allF (M.readB jn)).2)).f (M.read jn).1).1,(allF (M.readB jn)).1,0)
 else ((M.read jn).1,(allF (M.readB jn)).1,0)
def openPre (M : MD) : Prop := Small M ∧ (M.readB jn).length ≤ 1000000 ∧ ∀ b : List UInt8,b.length ≤ (M.readB jn).length → (allF (M.readB jn)).2 < (M.readB jn).length → (putAll jn b).pre (M.read jn).1
def openP : PM := fun args L T K => ∃ M w,args = [.box w.o 0] ∧ dAt L T M w ∧ openPre M ∧
 ∀ L' T' w',w'.o = w.o → dAt L' T' (openF M).1 w' → Step w.S w.R L T w'.S w'.R L' T' → K (.tuple [.list 1 ((openF M).2.1.map bv) none,.int .i64 ((openF M).2.2 : Nat)]) L' T'
set_option maxHeartbeats 1000000 in
theorem open_ok : PSound Tryz.prog 11 openP := by
 refine psound tysOk J1ok mix Tryz.func11 rfl ?_
 intro args L T K hm
 obtain ⟨M,w,rfl,hd,⟨hs,hbl,hpp⟩,hK⟩ := hm
 obtain ⟨od,hod⟩ : ∃ o,w.o = o := ⟨_,rfl⟩
 rw [hod] at hK ⊢
 simp (maxSteps:=2000000) only[bitvec_to_nat,seval,↓tcd,Tryz.f11]
 refine op_o hod rfl hd hs fun L1 T1 w1 ho1 hd1 hst1 => ?_
 unfold openF at hK
 obtain ⟨M1,hM1⟩ : ∃ M1,(M.read jn).1 = M1 := ⟨_,rfl⟩
 obtain ⟨c,hc⟩ : ∃ c,(M.read jn).2 = c := ⟨_,rfl⟩
 obtain ⟨b,hb⟩ : ∃ b,M.readB jn = b := ⟨_,rfl⟩
 change dAt L1 T1 (M.read jn).1 w1 at hd1
 have e1 : (M.read [106,111,117,114,110,97,108]).2 = c := hc
 have e2 : M.readB [106,111,117,114,110,97,108] = b := hb
 rw [hM1] at hd1 hpp
 rw [hM1,hc,hb] at hK
 rw [hb] at hbl hpp
 rw [e1,e2]
 by_cases h2 : c = 2
 · subst h2
   rw [if_pos rfl] at hK
   simp (maxSteps:=2000000) only[bitvec_to_nat,seval,↓tcd,code_V]
   exact ret_le hst1 (hK _ _ w1 ho1 hd1 hst1) (by refine ⟨⟨rfl,rfl⟩,?_⟩; first | rfl | exact ⟨rfl,trivial⟩ | exact ⟨rfl,rfl⟩ | trivial)
 · rw [if_neg h2] at hK
   have d2 : decide ((c : Int) = 2) = false := decide_eq_false (by omega)
   by_cases h0 : c = 0
   · subst h0
     rw [if_neg (by simp)] at hK
     obtain ⟨n,hn⟩ : ∃ n,(allF b).2 = n := ⟨_,rfl⟩
     have hnl : n ≤ b.length := by rw [← hn]; exact allF_le b
     rw [hn] at hK hpp
     simp (maxSteps:=2000000) only[bitvec_to_nat,seval,↓tcd,code_V,allM,hn]
     refine ⟨⟨bv_clean _,by omega⟩,?_⟩
     by_cases hlt : n < b.length
     · have d3 : decide ((n : Int) < (b.length : Int)) = true := decide_eq_true (by omega)
       rw [if_pos hlt] at hK
       simp (maxSteps:=2000000) only[bitvec_to_nat,seval,↓tcd,d3,Int.toNat_natCast]
       have hpb := hpp (b.take n) (by rw [List.length_take]; omega) hlt
       refine ⟨⟨by omega,by omega⟩,M1,w1,jn,b.take n,none,by rw [ho1]; rfl,by rw [List.length_take]; omega,hd1,hpb,fun L2 T2 w2 ho2 hd2 hst2 => ?_⟩
       rw [ho1] at ho2
       obtain ⟨R,hR⟩ : ∃ R,(putAll jn (b.take n)).f M1 = R := ⟨_,rfl⟩
       rw [hR] at hd2 hK ⊢
       have hg2 := hst1.trans hst2
       by_cases hz : R.2 = 0
       · rw [if_neg (by simpa using hz)] at hK
         simp only [hz,code_V,Int.natCast_zero]
         simp (maxSteps:=2000000) only[bitvec_to_nat,seval,↓tcd]
         exact ret_of hg2 (hK _ _ w2 ho2 hd2 hg2)
       · rw [if_pos hz] at hK
         obtain ⟨z,hzz⟩ : ∃ z,R.2 = z := ⟨_,rfl⟩
         rw [hzz] at hK hz ⊢
         have dz : decide ((z : Int) = 0) = false := decide_eq_false (by omega)
         simp only [code_V]
         simp (maxSteps:=2000000) only[bitvec_to_nat,seval,↓tcd,dz]
         exact ret_le hg2 (hK _ _ w2 ho2 hd2 hg2) (by refine ⟨⟨rfl,rfl⟩,?_⟩; first | rfl | exact ⟨rfl,trivial⟩ | exact ⟨rfl,rfl⟩ | trivial)
     · have d3 : decide ((n : Int) < (b.length : Int)) = false := decide_eq_false (by omega)
       rw [if_neg hlt] at hK
       simp (maxSteps:=2000000) only[bitvec_to_nat,seval,↓tcd,d3]
       exact ret_of hst1 (hK _ _ w1 ho1 hd1 hst1)
   · rw [if_pos h0] at hK
     have d0 : decide ((c : Int) = 0) = false := decide_eq_false (by omega)
     simp (maxSteps:=2000000) only[bitvec_to_nat,seval,↓tcd,code_V,d2,d0]
     exact ret_le hst1 (hK _ _ w1 ho1 hd1 hst1) (by refine ⟨⟨rfl,rfl⟩,?_⟩; first | rfl | exact ⟨rfl,trivial⟩ | exact ⟨rfl,rfl⟩ | trivial)
end Go.Proofs.YthlmfalfnpjndaaGreat.JourX
