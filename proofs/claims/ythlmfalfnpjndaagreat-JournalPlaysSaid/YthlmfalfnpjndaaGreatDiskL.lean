import Derived.Test.YthlmfalfnpjndaaGreatAwX
import Derived.Test.YthlmfalfnpjndaaGreatDisk2
namespace Go.Proofs.YthlmfalfnpjndaaGreat.DiskL
open Go Go.Proofs Aw Num DiskM DiskA DiskK DiskC Disk
set_option linter.unusedSimpArgs false
set_option linter.unusedVariables false
def I25 : TyI := ⟨.struct [(0,3),(1,23)],2,32,(.agg #[(.int .i64 0),(.slice none 0 0)])⟩
def I50 : TyI := ⟨.struct [(0,3),(1,3),(2,47),(3,47),(4,48),(5,4),(6,4),(7,3)],8,72,(.agg #[(.int .i64 0),(.int .i64 0),(.map none),(.map none),(.slice none 0 0),(.bool false),(.bool false),(.int .i64 0)])⟩
def I64 : TyI := ⟨.struct [(0,9),(1,9),(2,62)],3,40,(.agg #[(.string .empty),(.string .empty),(.pointer none)])⟩
def I71 : TyI := ⟨.struct [(0,32),(1,3)],2,32,(.agg #[(.slice none 0 0),(.int .i64 0)])⟩
def tys : Tys := fun t => if t = 3 then some ⟨.int .i64,1,8,(.int .i64 0)⟩ else if t = 4 then some ⟨.bool,1,1,(.bool false)⟩ else if t = 5 then some ⟨.int .u8,1,1,(.int .u8 0)⟩ else if t = 9 then some ⟨.str,1,16,(.string .empty)⟩ else if t = 23 then some ⟨.slice 3,1,24,(.slice none 0 0)⟩ else if t = 25 then some I25 else if t = 27 then some ⟨.ptr 50,1,8,(.pointer none)⟩ else if t = 32 then some ⟨.slice 5,1,24,(.slice none 0 0)⟩ else if t = 36 then some ⟨.int .i64,1,8,(.int .i64 0)⟩ else if t = 47 then some ⟨.map 9 62,1,8,(.map none)⟩ else if t = 48 then some ⟨.slice 64,1,24,(.slice none 0 0)⟩ else if t = 50 then some I50 else if t = 62 then some ⟨.ptr 71,1,8,(.pointer none)⟩ else if t = 64 then some I64 else if t = 67 then some ⟨.slice 9,1,24,(.slice none 0 0)⟩ else if t = 71 then some I71 else none
theorem ty3 : tys 3 = some ⟨.int .i64,1,8,(.int .i64 0)⟩ := rfl
theorem tk3 : kindV tys 3 = some (.int .i64) := rfl
theorem ts3 : sizeV tys 3 = 1 := rfl
theorem ta3 : TyI.isAgg ⟨.int .i64,1,8,(.int .i64 0)⟩ = false := rfl
theorem tu3 : isU8 ⟨.int .i64,1,8,(.int .i64 0)⟩ = false := rfl
theorem tn3 : notIntK tys 3 = false := rfl
theorem tr3 : isStrK tys 3 = false := rfl
theorem tv3 : zeroU8 ⟨.int .i64,1,8,(.int .i64 0)⟩ = false := rfl
theorem td3 : TyI.zeroV ⟨.int .i64,1,8,(.int .i64 0)⟩ = V.ofV1 (.int .i64 0) := rfl
theorem ty4 : tys 4 = some ⟨.bool,1,1,(.bool false)⟩ := rfl
theorem tk4 : kindV tys 4 = some (.bool) := rfl
theorem ts4 : sizeV tys 4 = 1 := rfl
theorem ta4 : TyI.isAgg ⟨.bool,1,1,(.bool false)⟩ = false := rfl
theorem tu4 : isU8 ⟨.bool,1,1,(.bool false)⟩ = false := rfl
theorem tn4 : notIntK tys 4 = true := rfl
theorem tr4 : isStrK tys 4 = false := rfl
theorem tv4 : zeroU8 ⟨.bool,1,1,(.bool false)⟩ = false := rfl
theorem td4 : TyI.zeroV ⟨.bool,1,1,(.bool false)⟩ = V.ofV1 (.bool false) := rfl
theorem ty5 : tys 5 = some ⟨.int .u8,1,1,(.int .u8 0)⟩ := rfl
theorem tk5 : kindV tys 5 = some (.int .u8) := rfl
theorem ts5 : sizeV tys 5 = 1 := rfl
theorem ta5 : TyI.isAgg ⟨.int .u8,1,1,(.int .u8 0)⟩ = false := rfl
theorem tu5 : isU8 ⟨.int .u8,1,1,(.int .u8 0)⟩ = true := rfl
theorem tn5 : notIntK tys 5 = false := rfl
theorem tr5 : isStrK tys 5 = false := rfl
theorem tv5 : zeroU8 ⟨.int .u8,1,1,(.int .u8 0)⟩ = true := rfl
theorem td5 : TyI.zeroV ⟨.int .u8,1,1,(.int .u8 0)⟩ = V.ofV1 (.int .u8 0) := rfl
theorem ty9 : tys 9 = some ⟨.str,1,16,(.string .empty)⟩ := rfl
theorem tk9 : kindV tys 9 = some (.str) := rfl
theorem ts9 : sizeV tys 9 = 1 := rfl
theorem ta9 : TyI.isAgg ⟨.str,1,16,(.string .empty)⟩ = false := rfl
theorem tu9 : isU8 ⟨.str,1,16,(.string .empty)⟩ = false := rfl
theorem tn9 : notIntK tys 9 = true := rfl
theorem tr9 : isStrK tys 9 = true := rfl
theorem tv9 : zeroU8 ⟨.str,1,16,(.string .empty)⟩ = false := rfl
theorem td9 : TyI.zeroV ⟨.str,1,16,(.string .empty)⟩ = V.ofV1 (.string .empty) := rfl
theorem ty23 : tys 23 = some ⟨.slice 3,1,24,(.slice none 0 0)⟩ := rfl
theorem tk23 : kindV tys 23 = some (.slice 3) := rfl
theorem ts23 : sizeV tys 23 = 1 := rfl
theorem ta23 : TyI.isAgg ⟨.slice 3,1,24,(.slice none 0 0)⟩ = false := rfl
theorem tb23 : isBytes tys 23 = false := rfl
theorem te23 : elemI tys 23 = some (3,⟨.int .i64,1,8,(.int .i64 0)⟩) := rfl
theorem tu23 : isU8 ⟨.slice 3,1,24,(.slice none 0 0)⟩ = false := rfl
theorem tn23 : notIntK tys 23 = true := rfl
theorem tr23 : isStrK tys 23 = false := rfl
theorem tv23 : zeroU8 ⟨.slice 3,1,24,(.slice none 0 0)⟩ = false := rfl
theorem td23 : TyI.zeroV ⟨.slice 3,1,24,(.slice none 0 0)⟩ = V.ofV1 (.slice none 0 0) := rfl
theorem ty25 : tys 25 = some I25 := rfl
theorem tk25 : kindV tys 25 = some (.struct [(0,3),(1,23)]) := rfl
theorem ts25 : sizeV tys 25 = 2 := rfl
theorem ta25 : TyI.isAgg I25 = true := rfl
theorem tu25 : isU8 I25 = false := rfl
theorem tn25 : notIntK tys 25 = true := rfl
theorem tr25 : isStrK tys 25 = false := rfl
theorem tv25 : zeroU8 I25 = false := rfl
theorem tw25 : Value.oneCell' (.agg #[(.int .i64 0),(.slice none 0 0)]) = false := rfl
theorem tp25_0 : placeV tys [(0,3),(1,23)] 0 = some (0,1) := rfl
theorem tp25_1 : placeV tys [(0,3),(1,23)] 1 = some (1,1) := rfl
theorem tq25 : ([(0,3),(1,23)].all (fun f => (tys f.2).isSome)) = true := rfl
theorem ty27 : tys 27 = some ⟨.ptr 50,1,8,(.pointer none)⟩ := rfl
theorem tk27 : kindV tys 27 = some (.ptr 50) := rfl
theorem ts27 : sizeV tys 27 = 1 := rfl
theorem ta27 : TyI.isAgg ⟨.ptr 50,1,8,(.pointer none)⟩ = false := rfl
theorem tu27 : isU8 ⟨.ptr 50,1,8,(.pointer none)⟩ = false := rfl
theorem tn27 : notIntK tys 27 = true := rfl
theorem tr27 : isStrK tys 27 = false := rfl
theorem tv27 : zeroU8 ⟨.ptr 50,1,8,(.pointer none)⟩ = false := rfl
theorem td27 : TyI.zeroV ⟨.ptr 50,1,8,(.pointer none)⟩ = V.ofV1 (.pointer none) := rfl
theorem ty32 : tys 32 = some ⟨.slice 5,1,24,(.slice none 0 0)⟩ := rfl
theorem tk32 : kindV tys 32 = some (.slice 5) := rfl
theorem ts32 : sizeV tys 32 = 1 := rfl
theorem ta32 : TyI.isAgg ⟨.slice 5,1,24,(.slice none 0 0)⟩ = false := rfl
theorem tb32 : isBytes tys 32 = true := rfl
theorem te32 : elemI tys 32 = some (5,⟨.int .u8,1,1,(.int .u8 0)⟩) := rfl
theorem tu32 : isU8 ⟨.slice 5,1,24,(.slice none 0 0)⟩ = false := rfl
theorem tn32 : notIntK tys 32 = true := rfl
theorem tr32 : isStrK tys 32 = false := rfl
theorem tv32 : zeroU8 ⟨.slice 5,1,24,(.slice none 0 0)⟩ = false := rfl
theorem td32 : TyI.zeroV ⟨.slice 5,1,24,(.slice none 0 0)⟩ = V.ofV1 (.slice none 0 0) := rfl
theorem ty36 : tys 36 = some ⟨.int .i64,1,8,(.int .i64 0)⟩ := rfl
theorem tk36 : kindV tys 36 = some (.int .i64) := rfl
theorem ts36 : sizeV tys 36 = 1 := rfl
theorem ta36 : TyI.isAgg ⟨.int .i64,1,8,(.int .i64 0)⟩ = false := rfl
theorem tu36 : isU8 ⟨.int .i64,1,8,(.int .i64 0)⟩ = false := rfl
theorem tn36 : notIntK tys 36 = false := rfl
theorem tr36 : isStrK tys 36 = false := rfl
theorem tv36 : zeroU8 ⟨.int .i64,1,8,(.int .i64 0)⟩ = false := rfl
theorem td36 : TyI.zeroV ⟨.int .i64,1,8,(.int .i64 0)⟩ = V.ofV1 (.int .i64 0) := rfl
theorem ty47 : tys 47 = some ⟨.map 9 62,1,8,(.map none)⟩ := rfl
theorem tk47 : kindV tys 47 = some (.map 9 62) := rfl
theorem ts47 : sizeV tys 47 = 1 := rfl
theorem ta47 : TyI.isAgg ⟨.map 9 62,1,8,(.map none)⟩ = false := rfl
theorem tu47 : isU8 ⟨.map 9 62,1,8,(.map none)⟩ = false := rfl
theorem tn47 : notIntK tys 47 = true := rfl
theorem tr47 : isStrK tys 47 = false := rfl
theorem tv47 : zeroU8 ⟨.map 9 62,1,8,(.map none)⟩ = false := rfl
theorem td47 : TyI.zeroV ⟨.map 9 62,1,8,(.map none)⟩ = V.ofV1 (.map none) := rfl
theorem ty48 : tys 48 = some ⟨.slice 64,1,24,(.slice none 0 0)⟩ := rfl
theorem tk48 : kindV tys 48 = some (.slice 64) := rfl
theorem ts48 : sizeV tys 48 = 1 := rfl
theorem ta48 : TyI.isAgg ⟨.slice 64,1,24,(.slice none 0 0)⟩ = false := rfl
theorem tb48 : isBytes tys 48 = false := rfl
theorem te48 : elemI tys 48 = some (64,I64) := rfl
theorem tu48 : isU8 ⟨.slice 64,1,24,(.slice none 0 0)⟩ = false := rfl
theorem tn48 : notIntK tys 48 = true := rfl
theorem tr48 : isStrK tys 48 = false := rfl
theorem tv48 : zeroU8 ⟨.slice 64,1,24,(.slice none 0 0)⟩ = false := rfl
theorem td48 : TyI.zeroV ⟨.slice 64,1,24,(.slice none 0 0)⟩ = V.ofV1 (.slice none 0 0) := rfl
theorem ty50 : tys 50 = some I50 := rfl
theorem tk50 : kindV tys 50 = some (.struct [(0,3),(1,3),(2,47),(3,47),(4,48),(5,4),(6,4),(7,3)]) := rfl
theorem ts50 : sizeV tys 50 = 8 := rfl
theorem ta50 : TyI.isAgg I50 = true := rfl
theorem tu50 : isU8 I50 = false := rfl
theorem tn50 : notIntK tys 50 = true := rfl
theorem tr50 : isStrK tys 50 = false := rfl
theorem tv50 : zeroU8 I50 = false := rfl
theorem tw50 : Value.oneCell' (.agg #[(.int .i64 0),(.int .i64 0),(.map none),(.map none),(.slice none 0 0),(.bool false),(.bool false),(.int .i64 0)]) = false := rfl
theorem tp50_0 : placeV tys [(0,3),(1,3),(2,47),(3,47),(4,48),(5,4),(6,4),(7,3)] 0 = some (0,1) := rfl
theorem tp50_1 : placeV tys [(0,3),(1,3),(2,47),(3,47),(4,48),(5,4),(6,4),(7,3)] 1 = some (1,1) := rfl
theorem tp50_2 : placeV tys [(0,3),(1,3),(2,47),(3,47),(4,48),(5,4),(6,4),(7,3)] 2 = some (2,1) := rfl
theorem tp50_3 : placeV tys [(0,3),(1,3),(2,47),(3,47),(4,48),(5,4),(6,4),(7,3)] 3 = some (3,1) := rfl
theorem tp50_4 : placeV tys [(0,3),(1,3),(2,47),(3,47),(4,48),(5,4),(6,4),(7,3)] 4 = some (4,1) := rfl
theorem tp50_5 : placeV tys [(0,3),(1,3),(2,47),(3,47),(4,48),(5,4),(6,4),(7,3)] 5 = some (5,1) := rfl
theorem tp50_6 : placeV tys [(0,3),(1,3),(2,47),(3,47),(4,48),(5,4),(6,4),(7,3)] 6 = some (6,1) := rfl
theorem tp50_7 : placeV tys [(0,3),(1,3),(2,47),(3,47),(4,48),(5,4),(6,4),(7,3)] 7 = some (7,1) := rfl
theorem tq50 : ([(0,3),(1,3),(2,47),(3,47),(4,48),(5,4),(6,4),(7,3)].all (fun f => (tys f.2).isSome)) = true := rfl
theorem ty62 : tys 62 = some ⟨.ptr 71,1,8,(.pointer none)⟩ := rfl
theorem tk62 : kindV tys 62 = some (.ptr 71) := rfl
theorem ts62 : sizeV tys 62 = 1 := rfl
theorem ta62 : TyI.isAgg ⟨.ptr 71,1,8,(.pointer none)⟩ = false := rfl
theorem tu62 : isU8 ⟨.ptr 71,1,8,(.pointer none)⟩ = false := rfl
theorem tn62 : notIntK tys 62 = true := rfl
theorem tr62 : isStrK tys 62 = false := rfl
theorem tv62 : zeroU8 ⟨.ptr 71,1,8,(.pointer none)⟩ = false := rfl
theorem td62 : TyI.zeroV ⟨.ptr 71,1,8,(.pointer none)⟩ = V.ofV1 (.pointer none) := rfl
theorem ty64 : tys 64 = some I64 := rfl
theorem tk64 : kindV tys 64 = some (.struct [(0,9),(1,9),(2,62)]) := rfl
theorem ts64 : sizeV tys 64 = 3 := rfl
theorem ta64 : TyI.isAgg I64 = true := rfl
theorem tu64 : isU8 I64 = false := rfl
theorem tn64 : notIntK tys 64 = true := rfl
theorem tr64 : isStrK tys 64 = false := rfl
theorem tv64 : zeroU8 I64 = false := rfl
theorem tw64 : Value.oneCell' (.agg #[(.string .empty),(.string .empty),(.pointer none)]) = false := rfl
theorem tp64_0 : placeV tys [(0,9),(1,9),(2,62)] 0 = some (0,1) := rfl
theorem tp64_1 : placeV tys [(0,9),(1,9),(2,62)] 1 = some (1,1) := rfl
theorem tp64_2 : placeV tys [(0,9),(1,9),(2,62)] 2 = some (2,1) := rfl
theorem tq64 : ([(0,9),(1,9),(2,62)].all (fun f => (tys f.2).isSome)) = true := rfl
theorem ty67 : tys 67 = some ⟨.slice 9,1,24,(.slice none 0 0)⟩ := rfl
theorem tk67 : kindV tys 67 = some (.slice 9) := rfl
theorem ts67 : sizeV tys 67 = 1 := rfl
theorem ta67 : TyI.isAgg ⟨.slice 9,1,24,(.slice none 0 0)⟩ = false := rfl
theorem tb67 : isBytes tys 67 = false := rfl
theorem te67 : elemI tys 67 = some (9,⟨.str,1,16,(.string .empty)⟩) := rfl
theorem tu67 : isU8 ⟨.slice 9,1,24,(.slice none 0 0)⟩ = false := rfl
theorem tn67 : notIntK tys 67 = true := rfl
theorem tr67 : isStrK tys 67 = false := rfl
theorem tv67 : zeroU8 ⟨.slice 9,1,24,(.slice none 0 0)⟩ = false := rfl
theorem td67 : TyI.zeroV ⟨.slice 9,1,24,(.slice none 0 0)⟩ = V.ofV1 (.slice none 0 0) := rfl
theorem ty71 : tys 71 = some I71 := rfl
theorem tk71 : kindV tys 71 = some (.struct [(0,32),(1,3)]) := rfl
theorem ts71 : sizeV tys 71 = 2 := rfl
theorem ta71 : TyI.isAgg I71 = true := rfl
theorem tu71 : isU8 I71 = false := rfl
theorem tn71 : notIntK tys 71 = true := rfl
theorem tr71 : isStrK tys 71 = false := rfl
theorem tv71 : zeroU8 I71 = false := rfl
theorem tw71 : Value.oneCell' (.agg #[(.slice none 0 0),(.int .i64 0)]) = false := rfl
theorem tp71_0 : placeV tys [(0,32),(1,3)] 0 = some (0,1) := rfl
theorem tp71_1 : placeV tys [(0,32),(1,3)] 1 = some (1,1) := rfl
theorem tq71 : ([(0,32),(1,3)].all (fun f => (tys f.2).isSome)) = true := rfl
attribute [bitvec_to_nat] ty3 tk3 ts3 ta3 tu3 tn3 tr3 tv3 td3 ty4 tk4 ts4 ta4 tu4 tn4 tr4 tv4 td4 ty5 tk5 ts5 ta5 tu5 tn5 tr5 tv5 td5 ty9 tk9 ts9 ta9 tu9 tn9 tr9 tv9 td9 ty23 tk23 ts23 ta23 tb23 te23 tu23 tn23 tr23 tv23 td23 ty25 tk25 ts25 ta25 tu25 tn25 tr25 tv25 tw25 tp25_0 tp25_1 tq25 ty27 tk27 ts27 ta27 tu27 tn27 tr27 tv27 td27 ty32 tk32 ts32 ta32 tb32 te32 tu32 tn32 tr32 tv32 td32 ty36 tk36 ts36 ta36 tu36 tn36 tr36 tv36 td36 ty47 tk47 ts47 ta47 tu47 tn47 tr47 tv47 td47 ty48 tk48 ts48 ta48 tb48 te48 tu48 tn48 tr48 tv48 td48 ty50 tk50 ts50 ta50 tu50 tn50 tr50 tv50 tw50 tp50_0 tp50_1 tp50_2 tp50_3 tp50_4 tp50_5 tp50_6 tp50_7 tq50 ty62 tk62 ts62 ta62 tu62 tn62 tr62 tv62 td62 ty64 tk64 ts64 ta64 tu64 tn64 tr64 tv64 tw64 tp64_0 tp64_1 tp64_2 tq64 ty67 tk67 ts67 ta67 tb67 te67 tu67 tn67 tr67 tv67 td67 ty71 tk71 ts71 ta71 tu71 tn71 tr71 tv71 tw71 tp71_0 tp71_1 tq71
def H0 : Fns := { fn := fun _ => none }
theorem H0_fn (f : FuncId) : H0.fn f = none := rfl
theorem H0_mu (d : Tmp) : H0.mu d = .no := rfl
theorem H0_hp (f : FuncId) : H0.hp f = none := rfl
theorem H0_ord (i : Nat) : H0.ord i = none := rfl
theorem H0_it (f : FuncId) : H0.it f = none := rfl
theorem H0_hy (b : Nat) : H0.hy b = none := rfl
attribute [bitvec_to_nat] H0_fn H0_mu H0_hp H0_ord H0_it H0_hy
structure Act where
 kind : UInt8
 name : Name
 to : Name
 b : List UInt8
 n : Int
 w : Wreck
 deriving Inhabited
def wbV (l : List Int) : V := .list 1 (l.map fun n => .int .i64 n) none
def act (M : MD) (a : Act) : MD × Nat := match a.kind.toNat % 13 with
 | 0 => M.create a.name
 | 4 => M.read a.name
 | 5 => M.sync a.name
 | 6 => M.rename a.name a.to
 | 7 => M.remove a.name
 | 8 => M.syncNames
 | 9 => M.names
 | 10 => M.doom a.n
 | 11 => (M.crash a.w,0)
 | 12 => M.grow a.n
 | _ => M.append a.name a.b
abbrev createP : PM := opP createF
abbrev readP : PM := opP readF
abbrev syncP : PM := opP syncF
abbrev renameP : PM := opP renameF
abbrev removeP : PM := opP removeF
abbrev syncNamesP : PM := opP syncNamesF
abbrev doomP : PM := opP doomF
abbrev appendP : PM := opP appendF
def H1 : Fns := { fn := fun f => H0.fn f,mu := fun d => .no,hp := fun f => if f = 55 then some createP else if f = 13 then some readP else if f = 58 then some syncP else if f = 60 then some renameP else if f = 54 then some removeP else if f = 61 then some syncNamesP else if f = 19 then some doomP else if f = 9 then some crashP else if f = 21 then some appendP else H0.hp f,ord := fun i => none,it := fun f => H0.it f }
theorem H1_fn (f : FuncId) : H1.fn f = (H0.fn f) := rfl
theorem H1_mu (d : Tmp) : H1.mu d = (.no) := rfl
theorem H1_hp (f : FuncId) : H1.hp f = (if f = 55 then some createP else if f = 13 then some readP else if f = 58 then some syncP else if f = 60 then some renameP else if f = 54 then some removeP else if f = 61 then some syncNamesP else if f = 19 then some doomP else if f = 9 then some crashP else if f = 21 then some appendP else H0.hp f) := rfl
theorem H1_ord (i : Nat) : H1.ord i = (none) := rfl
theorem H1_it (f : FuncId) : H1.it f = (H0.it f) := rfl
theorem H1_hy (b : Nat) : H1.hy b = none := rfl
attribute [bitvec_to_nat] H1_fn H1_mu H1_hp H1_ord H1_it H1_hy
theorem op_at {op : List V → Option (MD → MD × V)} {L : LL} {T : TT} {M : MD} {w : Own} {rest : List V} {g : MD → MD × V} {K : V → LL → TT → Prop} (hg : op rest = some g) (hd : dAt L T M w) (hs : Small M)
 (hK : ∀ L' T' w',w'.o = w.o → dAt L' T' (g M).1 w' → Step w.S w.R L T w'.S w'.R L' T' → K (g M).2 L' T') : opP op (.box w.o 0 :: rest) L T K := ⟨M,w,rest,g,rfl,hg,hd,hs,hK⟩
def Act.small (a : Act) : Prop := a.b.length ≤ 50 ∧ a.name.length ≤ 40 ∧ a.to.length ≤ 40 ∧ a.w.bytes.length ≤ 50
instance (a : Act) : Decidable a.small := by unfold Act.small; exact inferInstance
theorem len_wbV (b : List Int) : (wbV b) = .list 1 (b.map fun n => .int .i64 n) none := rfl
def H2 : Fns := { fn := fun f => H1.fn f,mu := fun d => .no,hp := fun f => H1.hp f,ord := fun i => none,it := fun f => H1.it f }
theorem H2_fn (f : FuncId) : H2.fn f = (H1.fn f) := rfl
theorem H2_mu (d : Tmp) : H2.mu d = (.no) := rfl
theorem H2_hp (f : FuncId) : H2.hp f = (H1.hp f) := rfl
theorem H2_ord (i : Nat) : H2.ord i = (none) := rfl
theorem H2_it (f : FuncId) : H2.it f = (H1.it f) := rfl
theorem H2_hy (b : Nat) : H2.hy b = none := rfl
attribute [bitvec_to_nat] H2_fn H2_mu H2_hp H2_ord H2_it H2_hy
end Go.Proofs.YthlmfalfnpjndaaGreat.DiskL
