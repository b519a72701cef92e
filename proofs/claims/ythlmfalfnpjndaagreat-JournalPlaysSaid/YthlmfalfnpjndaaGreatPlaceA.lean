import Derived.Test.YthlmfalfnpjndaaGreatAwX
import Derived.Test.YthlmfalfnpjndaaGreatDiskS
namespace Go.Proofs.YthlmfalfnpjndaaGreat.Place
open Go Go.Proofs Aw Num DiskM DiskA DiskK DiskC Disk DiskL
set_option linter.unusedSimpArgs false
set_option linter.unusedVariables false
def I50 : TyI := ⟨.struct [(0,3),(1,3),(2,47),(3,47),(4,48),(5,4),(6,4),(7,3)],8,72,(.agg #[(.int .i64 0),(.int .i64 0),(.map none),(.map none),(.slice none 0 0),(.bool false),(.bool false),(.int .i64 0)])⟩
def I64 : TyI := ⟨.struct [(0,9),(1,9),(2,62)],3,40,(.agg #[(.string .empty),(.string .empty),(.pointer none)])⟩
def tys : Tys := fun t => if t = 3 then some ⟨.int .i64,1,8,(.int .i64 0)⟩ else if t = 4 then some ⟨.bool,1,1,(.bool false)⟩ else if t = 5 then some ⟨.int .u8,1,1,(.int .u8 0)⟩ else if t = 9 then some ⟨.str,1,16,(.string .empty)⟩ else if t = 27 then some ⟨.ptr 50,1,8,(.pointer none)⟩ else if t = 32 then some ⟨.slice 5,1,24,(.slice none 0 0)⟩ else if t = 36 then some ⟨.int .i64,1,8,(.int .i64 0)⟩ else if t = 47 then some ⟨.map 9 62,1,8,(.map none)⟩ else if t = 48 then some ⟨.slice 64,1,24,(.slice none 0 0)⟩ else if t = 50 then some I50 else if t = 62 then some ⟨.ptr 71,1,8,(.pointer none)⟩ else if t = 64 then some I64 else if t = 67 then some ⟨.slice 9,1,24,(.slice none 0 0)⟩ else if t = 102 then some ⟨.func,1,8,.nilFunc⟩ else if t = 105 then some ⟨.func,1,8,.nilFunc⟩ else if t = 117 then some ⟨.slice 102,1,24,(.slice none 0 0)⟩ else none
theorem tysOk : TyOk Tryz.prog tys := by
 refine TyOk.cons ?_ 3 _ (by kernel_rfl) (by kernel_rfl)
 refine TyOk.cons ?_ 4 _ (by kernel_rfl) (by kernel_rfl)
 refine TyOk.cons ?_ 5 _ (by kernel_rfl) (by kernel_rfl)
 refine TyOk.cons ?_ 9 _ (by kernel_rfl) (by kernel_rfl)
 refine TyOk.cons ?_ 27 _ (by kernel_rfl) (by kernel_rfl)
 refine TyOk.cons ?_ 32 _ (by kernel_rfl) (by kernel_rfl)
 refine TyOk.cons ?_ 36 _ (by kernel_rfl) (by kernel_rfl)
 refine TyOk.cons ?_ 47 _ (by kernel_rfl) (by kernel_rfl)
 refine TyOk.cons ?_ 48 _ (by kernel_rfl) (by kernel_rfl)
 refine TyOk.cons ?_ 50 _ (by kernel_rfl) (by kernel_rfl)
 refine TyOk.cons ?_ 62 _ (by kernel_rfl) (by kernel_rfl)
 refine TyOk.cons ?_ 64 _ (by kernel_rfl) (by kernel_rfl)
 refine TyOk.cons ?_ 67 _ (by kernel_rfl) (by kernel_rfl)
 refine TyOk.cons ?_ 102 _ (by kernel_rfl) (by kernel_rfl)
 refine TyOk.cons ?_ 105 _ (by kernel_rfl) (by kernel_rfl)
 refine TyOk.cons ?_ 117 _ (by kernel_rfl) (by kernel_rfl)
 exact TyOk.nil _
theorem mix : Tryz.prog.follows .mixedOrders = true := by kernel_rfl
theorem ty3 : tys 3 = some ⟨.int .i64,1,8,(.int .i64 0)⟩ := rfl
theorem tk3 : kindV tys 3 = some (.int .i64) := rfl
theorem ts3 : sizeV tys 3 = 1 := rfl
theorem ta3 : TyI.isAgg ⟨.int .i64,1,8,(.int .i64 0)⟩ = false := rfl
theorem tu3 : isU8 ⟨.int .i64,1,8,(.int .i64 0)⟩ = false := rfl
theorem tn3 : notIntK tys 3 = false := rfl
theorem tr3 : isStrK tys 3 = false := rfl
theorem tv3 : zeroU8 ⟨.int .i64,1,8,(.int .i64 0)⟩ = false := rfl
theorem td3 : TyI.zeroV ⟨.int .i64,1,8,(.int .i64 0)⟩ = V.ofV1 (.int .i64 0) := rfl
theorem ty4 : tys 4 = some ⟨.bool,1,1,(.bool false)⟩ := rfl
theorem tk4 : kindV tys 4 = some (.bool) := rfl
theorem ts4 : sizeV tys 4 = 1 := rfl
theorem ta4 : TyI.isAgg ⟨.bool,1,1,(.bool false)⟩ = false := rfl
theorem tu4 : isU8 ⟨.bool,1,1,(.bool false)⟩ = false := rfl
theorem tn4 : notIntK tys 4 = true := rfl
theorem tr4 : isStrK tys 4 = false := rfl
theorem tv4 : zeroU8 ⟨.bool,1,1,(.bool false)⟩ = false := rfl
theorem td4 : TyI.zeroV ⟨.bool,1,1,(.bool false)⟩ = V.ofV1 (.bool false) := rfl
theorem ty5 : tys 5 = some ⟨.int .u8,1,1,(.int .u8 0)⟩ := rfl
theorem tk5 : kindV tys 5 = some (.int .u8) := rfl
theorem ts5 : sizeV tys 5 = 1 := rfl
theorem ta5 : TyI.isAgg ⟨.int .u8,1,1,(.int .u8 0)⟩ = false := rfl
theorem tu5 : isU8 ⟨.int .u8,1,1,(.int .u8 0)⟩ = true := rfl
theorem tn5 : notIntK tys 5 = false := rfl
theorem tr5 : isStrK tys 5 = false := rfl
theorem tv5 : zeroU8 ⟨.int .u8,1,1,(.int .u8 0)⟩ = true := rfl
theorem td5 : TyI.zeroV ⟨.int .u8,1,1,(.int .u8 0)⟩ = V.ofV1 (.int .u8 0) := rfl
theorem ty9 : tys 9 = some ⟨.str,1,16,(.string .empty)⟩ := rfl
theorem tk9 : kindV tys 9 = some (.str) := rfl
theorem ts9 : sizeV tys 9 = 1 := rfl
theorem ta9 : TyI.isAgg ⟨.str,1,16,(.string .empty)⟩ = false := rfl
theorem tu9 : isU8 ⟨.str,1,16,(.string .empty)⟩ = false := rfl
theorem tn9 : notIntK tys 9 = true := rfl
theorem tr9 : isStrK tys 9 = true := rfl
theorem tv9 : zeroU8 ⟨.str,1,16,(.string .empty)⟩ = false := rfl
theorem td9 : TyI.zeroV ⟨.str,1,16,(.string .empty)⟩ = V.ofV1 (.string .empty) := rfl
theorem ty27 : tys 27 = some ⟨.ptr 50,1,8,(.pointer none)⟩ := rfl
theorem tk27 : kindV tys 27 = some (.ptr 50) := rfl
theorem ts27 : sizeV tys 27 = 1 := rfl
theorem ta27 : TyI.isAgg ⟨.ptr 50,1,8,(.pointer none)⟩ = false := rfl
theorem tu27 : isU8 ⟨.ptr 50,1,8,(.pointer none)⟩ = false := rfl
theorem tn27 : notIntK tys 27 = true := rfl
theorem tr27 : isStrK tys 27 = false := rfl
theorem tv27 : zeroU8 ⟨.ptr 50,1,8,(.pointer none)⟩ = false := rfl
theorem td27 : TyI.zeroV ⟨.ptr 50,1,8,(.pointer none)⟩ = V.ofV1 (.pointer none) := rfl
theorem ty32 : tys 32 = some ⟨.slice 5,1,24,(.slice none 0 0)⟩ := rfl
theorem tk32 : kindV tys 32 = some (.slice 5) := rfl
theorem ts32 : sizeV tys 32 = 1 := rfl
theorem ta32 : TyI.isAgg ⟨.slice 5,1,24,(.slice none 0 0)⟩ = false := rfl
theorem tb32 : isBytes tys 32 = true := rfl
theorem te32 : elemI tys 32 = some (5,⟨.int .u8,1,1,(.int .u8 0)⟩) := rfl
theorem tu32 : isU8 ⟨.slice 5,1,24,(.slice none 0 0)⟩ = false := rfl
theorem tn32 : notIntK tys 32 = true := rfl
theorem tr32 : isStrK tys 32 = false := rfl
theorem tv32 : zeroU8 ⟨.slice 5,1,24,(.slice none 0 0)⟩ = false := rfl
theorem td32 : TyI.zeroV ⟨.slice 5,1,24,(.slice none 0 0)⟩ = V.ofV1 (.slice none 0 0) := rfl
theorem ty36 : tys 36 = some ⟨.int .i64,1,8,(.int .i64 0)⟩ := rfl
theorem tk36 : kindV tys 36 = some (.int .i64) := rfl
theorem ts36 : sizeV tys 36 = 1 := rfl
theorem ta36 : TyI.isAgg ⟨.int .i64,1,8,(.int .i64 0)⟩ = false := rfl
theorem tu36 : isU8 ⟨.int .i64,1,8,(.int .i64 0)⟩ = false := rfl
theorem tn36 : notIntK tys 36 = false := rfl
theorem tr36 : isStrK tys 36 = false := rfl
theorem tv36 : zeroU8 ⟨.int .i64,1,8,(.int .i64 0)⟩ = false := rfl
theorem td36 : TyI.zeroV ⟨.int .i64,1,8,(.int .i64 0)⟩ = V.ofV1 (.int .i64 0) := rfl
theorem ty47 : tys 47 = some ⟨.map 9 62,1,8,(.map none)⟩ := rfl
theorem tk47 : kindV tys 47 = some (.map 9 62) := rfl
theorem ts47 : sizeV tys 47 = 1 := rfl
theorem ta47 : TyI.isAgg ⟨.map 9 62,1,8,(.map none)⟩ = false := rfl
theorem tu47 : isU8 ⟨.map 9 62,1,8,(.map none)⟩ = false := rfl
theorem tn47 : notIntK tys 47 = true := rfl
theorem tr47 : isStrK tys 47 = false := rfl
theorem tv47 : zeroU8 ⟨.map 9 62,1,8,(.map none)⟩ = false := rfl
theorem td47 : TyI.zeroV ⟨.map 9 62,1,8,(.map none)⟩ = V.ofV1 (.map none) := rfl
theorem ty48 : tys 48 = some ⟨.slice 64,1,24,(.slice none 0 0)⟩ := rfl
theorem tk48 : kindV tys 48 = some (.slice 64) := rfl
theorem ts48 : sizeV tys 48 = 1 := rfl
theorem ta48 : TyI.isAgg ⟨.slice 64,1,24,(.slice none 0 0)⟩ = false := rfl
theorem tb48 : isBytes tys 48 = false := rfl
theorem te48 : elemI tys 48 = some (64,I64) := rfl
theorem tu48 : isU8 ⟨.slice 64,1,24,(.slice none 0 0)⟩ = false := rfl
theorem tn48 : notIntK tys 48 = true := rfl
theorem tr48 : isStrK tys 48 = false := rfl
theorem tv48 : zeroU8 ⟨.slice 64,1,24,(.slice none 0 0)⟩ = false := rfl
theorem td48 : TyI.zeroV ⟨.slice 64,1,24,(.slice none 0 0)⟩ = V.ofV1 (.slice none 0 0) := rfl
theorem ty50 : tys 50 = some I50 := rfl
theorem tk50 : kindV tys 50 = some (.struct [(0,3),(1,3),(2,47),(3,47),(4,48),(5,4),(6,4),(7,3)]) := rfl
theorem ts50 : sizeV tys 50 = 8 := rfl
theorem ta50 : TyI.isAgg I50 = true := rfl
theorem tu50 : isU8 I50 = false := rfl
theorem tn50 : notIntK tys 50 = true := rfl
theorem tr50 : isStrK tys 50 = false := rfl
theorem tv50 : zeroU8 I50 = false := rfl
theorem tc50 : V.ofV (.agg #[(.int .i64 0),(.int .i64 0),(.map none),(.map none),(.slice none 0 0),(.bool false),(.bool false),(.int .i64 0)]) = .agg [V.ofV1 (.int .i64 0),V.ofV1 (.int .i64 0),V.ofV1 (.map none),V.ofV1 (.map none),V.ofV1 (.slice none 0 0),V.ofV1 (.bool false),V.ofV1 (.bool false),V.ofV1 (.int .i64 0)] := by kernel_rfl
theorem tw50 : Value.oneCell' (.agg #[(.int .i64 0),(.int .i64 0),(.map none),(.map none),(.slice none 0 0),(.bool false),(.bool false),(.int .i64 0)]) = false := rfl
theorem td50 : TyI.zeroV I50 = .agg [V.ofV1 (.int .i64 0),V.ofV1 (.int .i64 0),V.ofV1 (.map none),V.ofV1 (.map none),V.ofV1 (.slice none 0 0),V.ofV1 (.bool false),V.ofV1 (.bool false),V.ofV1 (.int .i64 0)] := by kernel_rfl
theorem tp50_0 : placeV tys [(0,3),(1,3),(2,47),(3,47),(4,48),(5,4),(6,4),(7,3)] 0 = some (0,1) := rfl
theorem tp50_1 : placeV tys [(0,3),(1,3),(2,47),(3,47),(4,48),(5,4),(6,4),(7,3)] 1 = some (1,1) := rfl
theorem tp50_2 : placeV tys [(0,3),(1,3),(2,47),(3,47),(4,48),(5,4),(6,4),(7,3)] 2 = some (2,1) := rfl
theorem tp50_3 : placeV tys [(0,3),(1,3),(2,47),(3,47),(4,48),(5,4),(6,4),(7,3)] 3 = some (3,1) := rfl
theorem tp50_4 : placeV tys [(0,3),(1,3),(2,47),(3,47),(4,48),(5,4),(6,4),(7,3)] 4 = some (4,1) := rfl
theorem tp50_5 : placeV tys [(0,3),(1,3),(2,47),(3,47),(4,48),(5,4),(6,4),(7,3)] 5 = some (5,1) := rfl
theorem tp50_6 : placeV tys [(0,3),(1,3),(2,47),(3,47),(4,48),(5,4),(6,4),(7,3)] 6 = some (6,1) := rfl
theorem tp50_7 : placeV tys [(0,3),(1,3),(2,47),(3,47),(4,48),(5,4),(6,4),(7,3)] 7 = some (7,1) := rfl
theorem tq50 : ([(0,3),(1,3),(2,47),(3,47),(4,48),(5,4),(6,4),(7,3)].all (fun f => (tys f.2).isSome)) = true := rfl
theorem ty62 : tys 62 = some ⟨.ptr 71,1,8,(.pointer none)⟩ := rfl
theorem tk62 : kindV tys 62 = some (.ptr 71) := rfl
theorem ts62 : sizeV tys 62 = 1 := rfl
theorem ta62 : TyI.isAgg ⟨.ptr 71,1,8,(.pointer none)⟩ = false := rfl
theorem tu62 : isU8 ⟨.ptr 71,1,8,(.pointer none)⟩ = false := rfl
theorem tn62 : notIntK tys 62 = true := rfl
theorem tr62 : isStrK tys 62 = false := rfl
theorem tv62 : zeroU8 ⟨.ptr 71,1,8,(.pointer none)⟩ = false := rfl
theorem td62 : TyI.zeroV ⟨.ptr 71,1,8,(.pointer none)⟩ = V.ofV1 (.pointer none) := rfl
theorem ty64 : tys 64 = some I64 := rfl
theorem tk64 : kindV tys 64 = some (.struct [(0,9),(1,9),(2,62)]) := rfl
theorem ts64 : sizeV tys 64 = 3 := rfl
theorem ta64 : TyI.isAgg I64 = true := rfl
theorem tu64 : isU8 I64 = false := rfl
theorem tn64 : notIntK tys 64 = true := rfl
theorem tr64 : isStrK tys 64 = false := rfl
theorem tv64 : zeroU8 I64 = false := rfl
theorem tc64 : V.ofV (.agg #[(.string .empty),(.string .empty),(.pointer none)]) = .agg [V.ofV1 (.string .empty),V.ofV1 (.string .empty),V.ofV1 (.pointer none)] := by kernel_rfl
theorem tw64 : Value.oneCell' (.agg #[(.string .empty),(.string .empty),(.pointer none)]) = false := rfl
theorem td64 : TyI.zeroV I64 = .agg [V.ofV1 (.string .empty),V.ofV1 (.string .empty),V.ofV1 (.pointer none)] := by kernel_rfl
theorem tp64_0 : placeV tys [(0,9),(1,9),(2,62)] 0 = some (0,1) := rfl
theorem tp64_1 : placeV tys [(0,9),(1,9),(2,62)] 1 = some (1,1) := rfl
theorem tp64_2 : placeV tys [(0,9),(1,9),(2,62)] 2 = some (2,1) := rfl
theorem tq64 : ([(0,9),(1,9),(2,62)].all (fun f => (tys f.2).isSome)) = true := rfl
theorem ty67 : tys 67 = some ⟨.slice 9,1,24,(.slice none 0 0)⟩ := rfl
theorem tk67 : kindV tys 67 = some (.slice 9) := rfl
theorem ts67 : sizeV tys 67 = 1 := rfl
theorem ta67 : TyI.isAgg ⟨.slice 9,1,24,(.slice none 0 0)⟩ = false := rfl
theorem tb67 : isBytes tys 67 = false := rfl
theorem te67 : elemI tys 67 = some (9,⟨.str,1,16,(.string .empty)⟩) := rfl
theorem tu67 : isU8 ⟨.slice 9,1,24,(.slice none 0 0)⟩ = false := rfl
theorem tn67 : notIntK tys 67 = true := rfl
theorem tr67 : isStrK tys 67 = false := rfl
theorem tv67 : zeroU8 ⟨.slice 9,1,24,(.slice none 0 0)⟩ = false := rfl
theorem td67 : TyI.zeroV ⟨.slice 9,1,24,(.slice none 0 0)⟩ = V.ofV1 (.slice none 0 0) := rfl
theorem ty102 : tys 102 = some ⟨.func,1,8,.nilFunc⟩ := rfl
theorem tk102 : kindV tys 102 = some (.func) := rfl
theorem ts102 : sizeV tys 102 = 1 := rfl
theorem ta102 : TyI.isAgg ⟨.func,1,8,.nilFunc⟩ = false := rfl
theorem tu102 : isU8 ⟨.func,1,8,.nilFunc⟩ = false := rfl
theorem tn102 : notIntK tys 102 = true := rfl
theorem tr102 : isStrK tys 102 = false := rfl
theorem tz102 : zeroOk ⟨.func,1,8,.nilFunc⟩ = true := by kernel_rfl
theorem tv102 : zeroU8 ⟨.func,1,8,.nilFunc⟩ = false := rfl
theorem td102 : TyI.zeroV ⟨.func,1,8,.nilFunc⟩ = V.ofV1 .nilFunc := rfl
theorem ty105 : tys 105 = some ⟨.func,1,8,.nilFunc⟩ := rfl
theorem tk105 : kindV tys 105 = some (.func) := rfl
theorem ts105 : sizeV tys 105 = 1 := rfl
theorem ta105 : TyI.isAgg ⟨.func,1,8,.nilFunc⟩ = false := rfl
theorem tu105 : isU8 ⟨.func,1,8,.nilFunc⟩ = false := rfl
theorem tn105 : notIntK tys 105 = true := rfl
theorem tr105 : isStrK tys 105 = false := rfl
theorem tv105 : zeroU8 ⟨.func,1,8,.nilFunc⟩ = false := rfl
theorem td105 : TyI.zeroV ⟨.func,1,8,.nilFunc⟩ = V.ofV1 .nilFunc := rfl
theorem ty117 : tys 117 = some ⟨.slice 102,1,24,(.slice none 0 0)⟩ := rfl
theorem tk117 : kindV tys 117 = some (.slice 102) := rfl
theorem ts117 : sizeV tys 117 = 1 := rfl
theorem ta117 : TyI.isAgg ⟨.slice 102,1,24,(.slice none 0 0)⟩ = false := rfl
theorem tb117 : isBytes tys 117 = false := rfl
theorem te117 : elemI tys 117 = some (102,⟨.func,1,8,.nilFunc⟩) := rfl
theorem tu117 : isU8 ⟨.slice 102,1,24,(.slice none 0 0)⟩ = false := rfl
theorem tn117 : notIntK tys 117 = true := rfl
theorem tr117 : isStrK tys 117 = false := rfl
theorem tv117 : zeroU8 ⟨.slice 102,1,24,(.slice none 0 0)⟩ = false := rfl
theorem td117 : TyI.zeroV ⟨.slice 102,1,24,(.slice none 0 0)⟩ = V.ofV1 (.slice none 0 0) := rfl
set_option linter.defProp false in
def tcd := And.intro @r_ifTrue (And.intro @r_ifFalse (And.intro tc50 (And.intro td50 (And.intro tc64 (td64)))))
attribute [bitvec_to_nat] ty3 tk3 ts3 ta3 tu3 tn3 tr3 tv3 td3 ty4 tk4 ts4 ta4 tu4 tn4 tr4 tv4 td4 ty5 tk5 ts5 ta5 tu5 tn5 tr5 tv5 td5 ty9 tk9 ts9 ta9 tu9 tn9 tr9 tv9 td9 ty27 tk27 ts27 ta27 tu27 tn27 tr27 tv27 td27 ty32 tk32 ts32 ta32 tb32 te32 tu32 tn32 tr32 tv32 td32 ty36 tk36 ts36 ta36 tu36 tn36 tr36 tv36 td36 ty47 tk47 ts47 ta47 tu47 tn47 tr47 tv47 td47 ty48 tk48 ts48 ta48 tb48 te48 tu48 tn48 tr48 tv48 td48 ty50 tk50 ts50 ta50 tu50 tn50 tr50 tv50 tw50 tp50_0 tp50_1 tp50_2 tp50_3 tp50_4 tp50_5 tp50_6 tp50_7 tq50 ty62 tk62 ts62 ta62 tu62 tn62 tr62 tv62 td62 ty64 tk64 ts64 ta64 tu64 tn64 tr64 tv64 tw64 tp64_0 tp64_1 tp64_2 tq64 ty67 tk67 ts67 ta67 tb67 te67 tu67 tn67 tr67 tv67 td67 ty102 tk102 ts102 ta102 tu102 tn102 tr102 tz102 tv102 td102 ty105 tk105 ts105 ta105 tu105 tn105 tr105 tv105 td105 ty117 tk117 ts117 ta117 tb117 te117 tu117 tn117 tr117 tv117 td117
def P0 : Fns := { fn := fun _ => none }
theorem P0_fn (f : FuncId) : P0.fn f = none := rfl
theorem P0_mu (d : Tmp) : P0.mu d = .no := rfl
theorem P0_hp (f : FuncId) : P0.hp f = none := rfl
theorem P0_ord (i : Nat) : P0.ord i = none := rfl
theorem P0_it (f : FuncId) : P0.it f = none := rfl
theorem P0_hy (b : Nat) : P0.hy b = none := rfl
theorem P0ok : FnsOk Tryz.prog P0 := FnsOk.nil _ rfl rfl
attribute [bitvec_to_nat] P0_fn P0_mu P0_hp P0_ord P0_it P0_hy
def GH (H : FuncId → Option PM) : Fns := { fn := fun _ => none,hp := H }
section
variable (H : FuncId → Option PM)
theorem GH_fn (f : FuncId) : (GH H).fn f = none := rfl
theorem GH_mu (d : Tmp) : (GH H).mu d = .no := rfl
theorem GH_hp (f : FuncId) : (GH H).hp f = H f := rfl
theorem GH_ord (i : Nat) : (GH H).ord i = none := rfl
theorem GH_it (f : FuncId) : (GH H).it f = none := rfl
theorem GH_hy (b : Nat) : (GH H).hy b = none := rfl
end
attribute [bitvec_to_nat] GH_fn GH_mu GH_hp GH_ord GH_it GH_hy
def callV (H : FuncId → Option PM) (v : V) (xs : List V) (L : LL) (T : TT) (K : V → LL → TT → Prop) : Prop :=
 match v with
 | .fn (.func f) first cap => match H f with
  | some m => m (first ++ xs ++ cap) L T K
  | none => False
 | _ => False
theorem callV_inv {H : FuncId → Option PM} {v : V} {xs : List V} {L : LL} {T : TT} {K : V → LL → TT → Prop} (h : callV H v xs L T K) :
 ∃ f first cap m,v = .fn (.func f) first cap ∧ H f = some m ∧ m (first ++ xs ++ cap) L T K := by
 unfold callV at h
 split at h
 · rename_i f first cap
   split at h
   · rename_i m hm; exact ⟨f,first,cap,m,rfl,hm,h⟩
   · exact h.elim
 · exact h.elim
theorem up_ok {f : FuncId} {m : PM} (h : PSound Tryz.prog f m) : PSound Tryz.prog f (up m) := h.up
structure HOk (H : FuncId → Option PM) : Prop where
 fns : FnsOk Tryz.prog (GH H)
 mono : ∀ f m,H f = some m → Mono m
def toP : PM := fun args L T K => ∃ n f first cap,args = [.str n,.fn (.func f) first cap] ∧ K (.fn (.func 83) [] [.box (L ++ [[V.str n]]).length 0,.box L.length 0]) (L ++ [[.str n]] ++ [[.fn (.func f) first cap]]) T
theorem to_ok : PSound Tryz.prog 53 toP := by
 refine psound tysOk P0ok mix Tryz.func53 rfl ?_
 intro args L T K hm
 obtain ⟨n,f,first,cap,rfl,hK⟩ := hm
 simp (maxSteps:=2000000) only[bitvec_to_nat,seval,↓tcd,Tryz.f53]
 exact ret_of (((Step.refl noS noS L T).app _).app _) hK
def butP : PM := fun args L T K => ∃ c f first cap,args = [codeV c,.fn (.func f) first cap] ∧ K (.fn (.func 82) [] [.box (L ++ [[codeV c]]).length 0,.box L.length 0]) (L ++ [[codeV c]] ++ [[.fn (.func f) first cap]]) T
theorem but_ok : PSound Tryz.prog 52 butP := by
 refine psound tysOk P0ok mix Tryz.func52 rfl ?_
 intro args L T K hm
 obtain ⟨c,f,first,cap,rfl,hK⟩ := hm
 simp (maxSteps:=2000000) only[bitvec_to_nat,seval,↓tcd,Tryz.f52,code_V]
 exact ret_of (((Step.refl noS noS L T).app _).app _) hK
def to1P (H : FuncId → Option PM) : PM := fun args L T K => ∃ bv bn n v,args = [.box bv 0,.box bn 0] ∧ L[bv]? = some [v] ∧ v.isAgg = false ∧ L[bn]? = some [.str n] ∧
 callV H v [.str n] L T fun r L' T' => L.length ≤ L'.length ∧ T.length ≤ T'.length ∧ K r L' T'
theorem to1_ok (H : FuncId → Option PM) (hH : HOk H) : PSound Tryz.prog 83 (to1P H) := by
 refine psound tysOk hH.fns mix Tryz.func83 rfl ?_
 intro args L T K hm
 obtain ⟨bv,bn,n,v,rfl,h1,hv,h2,hc⟩ := hm
 obtain ⟨f,first,cap,m,rfl,hf,hc⟩ := callV_inv hc
 simp (maxSteps:=2000000) only[bitvec_to_nat,seval,↓tcd,Tryz.f83,h1,h2,hf]
 exact hH.mono f m hf _ _ _ _ _ (fun r L' T' ⟨g1,g2,hk⟩ => ⟨r,r,L',T',rfl,⟨g1,g2⟩,St.le_self _,hk⟩) hc
def but1P (H : FuncId → Option PM) : PM := fun args L T K => ∃ bv bc c v,args = [.box bv 0,.box bc 0] ∧ L[bv]? = some [v] ∧ v.isAgg = false ∧ L[bc]? = some [codeV c] ∧
 callV H v [] L T fun r L' T' => L.length ≤ L'.length ∧ T.length ≤ T'.length ∧ L'[bc]? = some [codeV c] ∧ ∃ d : Nat,r = codeV d ∧ K (codeV (if d = c then 0 else d)) L' T'
theorem but1_ok (H : FuncId → Option PM) (hH : HOk H) : PSound Tryz.prog 82 (but1P H) := by
 refine psound tysOk hH.fns mix Tryz.func82 rfl ?_
 intro args L T K hm
 obtain ⟨bv,bc,c,v,rfl,h1,hv,h2,hc⟩ := hm
 obtain ⟨f,first,cap,m,rfl,hf,hc⟩ := callV_inv hc
 simp (maxSteps:=2000000) only[bitvec_to_nat,seval,↓tcd,Tryz.f82,h1,h2,hf]
 rw [List.append_nil] at hc
 refine hH.mono f m hf _ _ _ _ _ (fun r L' T' ⟨g1,g2,h3,d,hd,hk⟩ => ?_) hc
 rw [code_V] at h3
 rw [hd,code_V]
 by_cases hdc : d = c
 · have hcc : decide ((d : Int) = (c : Int)) = true := decide_eq_true (by omega)
   rw [if_pos hdc] at hk
   simp (maxSteps:=2000000) only[bitvec_to_nat,seval,↓tcd,h3,hcc]
   exact ⟨_,_,L',T',rfl,⟨g1,g2⟩,St.le_self _,hk⟩
 · have hcc : decide ((d : Int) = (c : Int)) = false := decide_eq_false (by omega)
   rw [if_neg hdc] at hk
   simp (maxSteps:=2000000) only[bitvec_to_nat,seval,↓tcd,h3,hcc]
   exact ⟨_,_,L',T',rfl,⟨g1,g2⟩,St.le_self _,hk⟩
def stepsK (H : FuncId → Option PM) : List V → LL → TT → (V → LL → TT → Prop) → Prop
 | [],L,T,K => K (codeV 0) L T
 | v :: vs,L,T,K => callV H v [] L T fun r L' T' => L.length ≤ L'.length ∧ T.length ≤ T'.length ∧ ∃ c : Nat,r = codeV c ∧ if c = 0 then stepsK H vs L' T' K else K (codeV c) L' T'
def inOrderP (H : FuncId → Option PM) : PM := fun args L T K => ∃ vs t,args = [.list 1 vs t] ∧ vs.length ≤ 1099511627776 ∧ stepsK H vs L T K
set_option maxHeartbeats 1000000 in
theorem inOrder_ok (H : FuncId → Option PM) (hH : HOk H) : PSound Tryz.prog 51 (inOrderP H) := by
 refine psound tysOk hH.fns mix Tryz.func51 rfl ?_
 intro args L T K hm
 obtain ⟨vs,t,rfl,hlen,hst⟩ := hm
 simp (maxSteps:=2000000) only[bitvec_to_nat,seval,↓tcd,Tryz.f51]
 refine awpLoop_intro (α := {q : Nat × LL × TT // q.1 ≤ vs.length ∧ L.length ≤ q.2.1.length ∧ T.length ≤ q.2.2.length ∧ stepsK H (vs.drop q.1) q.2.1 q.2.2 K})
  (fun q => ⟨[.list 1 vs none,.any,.int .i64 0,.any,.any,.any,.list 1 vs none,.int .i64 (vs.length : Int),.int .i64 (q.1.1 : Int),.any,.any,.any,.any,.any,.any,.any,.any,.any],q.1.2.1,q.1.2.2⟩) (fun q => vs.length - q.1.1)
  ⟨(0,L,T),Nat.zero_le _,Nat.le_refl _,Nat.le_refl _,hst⟩ ?_ ?_ (fun q => ⟨q.2.2.1,q.2.2.2.1⟩)
 · simp (maxSteps:=2000000) only[bitvec_to_nat,seval,↓tcd,leLL_self]
   all_goals simp
 · rintro ⟨⟨i,L1,T1⟩,hi,hl1,ht1,hst1⟩
   simp only at hi hl1 ht1 hst1
   by_cases him : i < vs.length
   · have hdc : decide ((i : Int) < (vs.length : Int)) = true := decide_eq_true (by omega)
     have hdr : vs.drop i = vs[i] :: vs.drop (i + 1) := List.drop_eq_getElem_cons him
     rw [hdr] at hst1
     obtain ⟨f,first,cap,m,hv,hf,hc⟩ := callV_inv hst1
     rw [List.append_nil] at hc
     have hgd : vs.getD i .any = .fn (.func f) first cap := by rw [List.getD_eq_getElem?_getD,List.getElem?_eq_getElem him,← hv]; rfl
     have hi1 : IntKind.i64.wrap ((i : Int) + 1) = ((i + 1 : Nat) : Int) := by rw [i64w (by omega) (by omega)]; omega
     simp (maxSteps:=2000000) only[bitvec_to_nat,seval,↓tcd,hdc,hgd,hf,Int.toNat_natCast]
     refine ⟨⟨by omega,by omega⟩,?_⟩
     refine hH.mono f m hf _ _ _ _ _ (fun r L2 T2 ⟨g1,g2,c,hr,hk⟩ => ?_) hc
     rw [hr,code_V]
     by_cases hc0 : c = 0
     · have hcc : decide ((c : Int) = 0) = true := decide_eq_true (by omega)
       rw [if_pos hc0] at hk
       simp (maxSteps:=2000000) only[bitvec_to_nat,seval,↓tcd,hcc,hi1]
       refine ⟨⟨(i + 1,L2,T2),him,by simp only; omega,by simp only; omega,hk⟩,?_,by simp only; omega⟩
       simp (maxSteps:=2000000) only[bitvec_to_nat,seval,↓tcd,leLL_self]
     · have hcc : decide ((c : Int) = 0) = false := decide_eq_false (by omega)
       rw [if_neg hc0] at hk
       simp (maxSteps:=2000000) only[bitvec_to_nat,seval,↓tcd,hcc,hi1]
       exact ⟨_,_,L2,T2,rfl,⟨by omega,by omega⟩,St.le_self _,hk⟩
   · have hdc : decide ((i : Int) < (vs.length : Int)) = false := decide_eq_false (by omega)
     have hdr : vs.drop i = [] := List.drop_eq_nil_of_le (by omega)
     rw [hdr] at hst1
     simp (maxSteps:=2000000) only[bitvec_to_nat,seval,↓tcd,hdc]
     exact ⟨_,_,L1,T1,rfl,⟨hl1,ht1⟩,St.le_self _,hst1⟩
end Go.Proofs.YthlmfalfnpjndaaGreat.Place
