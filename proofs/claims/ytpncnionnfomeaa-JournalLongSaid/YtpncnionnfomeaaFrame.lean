import Derived.Test.YtpncnionnfomeaaAwX
import Derived.Test.YtpncnionnfomeaaProg
import Derived.Test.YtpncnionnfomeaaFrameM
import Derived.Test.YtpncnionnfomeaaVary
import Derived.Test.YtpncnionnfomeaaCrc
import Derived.KernelRfl
namespace Go.Proofs.Ytpncnionnfomeaa.Frame
open Go Go.Proofs Go.Proofs.Ytpncnionnfomeaa.Aw Go.Proofs.Ytpncnionnfomeaa.CrcM Go.Proofs.Ytpncnionnfomeaa.CrcN Go.Proofs.Ytpncnionnfomeaa.Num Go.Proofs.Ytpncnionnfomeaa.VaryM Go.Proofs.Ytpncnionnfomeaa.FrameM
open Go.Proofs.Ytpncnionnfomeaa.Vary (fixM fixF unfixM unfixF)
open Go.Proofs.Ytpncnionnfomeaa.Crc (sumM rsumM)
set_option linter.unusedSimpArgs false
set_option linter.unusedVariables false
def tys : Tys := fun t => if t = 2 then some ⟨.int .i64, 1, 8, (.int .i64 0)⟩ else if t = 3 then some ⟨.int .i64, 1, 8, (.int .i64 0)⟩ else if t = 4 then some ⟨.bool, 1, 1, (.bool false)⟩ else if t = 5 then some ⟨.int .u8, 1, 1, (.int .u8 0)⟩ else if t = 9 then some ⟨.str, 1, 16, (.string .empty)⟩ else if t = 32 then some ⟨.slice 5, 1, 24, (.slice none 0 0)⟩ else if t = 37 then some ⟨.int .i64, 1, 8, (.int .i64 0)⟩ else if t = 57 then some ⟨.slice 32, 1, 24, (.slice none 0 0)⟩ else if t = 72 then some ⟨.int .u16, 1, 2, (.int .u16 0)⟩ else if t = 119 then some ⟨.int .u64, 1, 8, (.int .u64 0)⟩ else if t = 135 then some ⟨.int .u32, 1, 4, (.int .u32 0)⟩ else if t = 150 then some ⟨.int .u64, 1, 8, (.int .u64 0)⟩ else none
theorem tysOk : TyOk Try.prog tys := by
  refine TyOk.cons ?_ 2 _ (by kernel_rfl) (by kernel_rfl)
  refine TyOk.cons ?_ 3 _ (by kernel_rfl) (by kernel_rfl)
  refine TyOk.cons ?_ 4 _ (by kernel_rfl) (by kernel_rfl)
  refine TyOk.cons ?_ 5 _ (by kernel_rfl) (by kernel_rfl)
  refine TyOk.cons ?_ 9 _ (by kernel_rfl) (by kernel_rfl)
  refine TyOk.cons ?_ 32 _ (by kernel_rfl) (by kernel_rfl)
  refine TyOk.cons ?_ 37 _ (by kernel_rfl) (by kernel_rfl)
  refine TyOk.cons ?_ 57 _ (by kernel_rfl) (by kernel_rfl)
  refine TyOk.cons ?_ 72 _ (by kernel_rfl) (by kernel_rfl)
  refine TyOk.cons ?_ 119 _ (by kernel_rfl) (by kernel_rfl)
  refine TyOk.cons ?_ 135 _ (by kernel_rfl) (by kernel_rfl)
  refine TyOk.cons ?_ 150 _ (by kernel_rfl) (by kernel_rfl)
  exact TyOk.nil _
theorem mix : Try.prog.follows .mixedOrders = true := by kernel_rfl
theorem ty2 : tys 2 = some ⟨.int .i64, 1, 8, (.int .i64 0)⟩ := rfl
theorem tk2 : kindV tys 2 = some (.int .i64) := rfl
theorem ts2 : sizeV tys 2 = 1 := rfl
theorem ta2 : TyI.isAgg ⟨.int .i64, 1, 8, (.int .i64 0)⟩ = false := rfl
theorem tu2 : isU8 ⟨.int .i64, 1, 8, (.int .i64 0)⟩ = false := rfl
theorem tn2 : notIntK tys 2 = false := rfl
theorem tr2 : isStrK tys 2 = false := rfl
theorem tz2 : zeroOk ⟨.int .i64, 1, 8, (.int .i64 0)⟩ = true := by kernel_rfl
theorem tv2 : zeroU8 ⟨.int .i64, 1, 8, (.int .i64 0)⟩ = false := rfl
theorem td2 : TyI.zeroV ⟨.int .i64, 1, 8, (.int .i64 0)⟩ = V.ofV1 (.int .i64 0) := rfl
theorem ty3 : tys 3 = some ⟨.int .i64, 1, 8, (.int .i64 0)⟩ := rfl
theorem tk3 : kindV tys 3 = some (.int .i64) := rfl
theorem ts3 : sizeV tys 3 = 1 := rfl
theorem ta3 : TyI.isAgg ⟨.int .i64, 1, 8, (.int .i64 0)⟩ = false := rfl
theorem tu3 : isU8 ⟨.int .i64, 1, 8, (.int .i64 0)⟩ = false := rfl
theorem tn3 : notIntK tys 3 = false := rfl
theorem tr3 : isStrK tys 3 = false := rfl
theorem tz3 : zeroOk ⟨.int .i64, 1, 8, (.int .i64 0)⟩ = true := by kernel_rfl
theorem tv3 : zeroU8 ⟨.int .i64, 1, 8, (.int .i64 0)⟩ = false := rfl
theorem td3 : TyI.zeroV ⟨.int .i64, 1, 8, (.int .i64 0)⟩ = V.ofV1 (.int .i64 0) := rfl
theorem ty4 : tys 4 = some ⟨.bool, 1, 1, (.bool false)⟩ := rfl
theorem tk4 : kindV tys 4 = some (.bool) := rfl
theorem ts4 : sizeV tys 4 = 1 := rfl
theorem ta4 : TyI.isAgg ⟨.bool, 1, 1, (.bool false)⟩ = false := rfl
theorem tu4 : isU8 ⟨.bool, 1, 1, (.bool false)⟩ = false := rfl
theorem tn4 : notIntK tys 4 = true := rfl
theorem tr4 : isStrK tys 4 = false := rfl
theorem tz4 : zeroOk ⟨.bool, 1, 1, (.bool false)⟩ = true := by kernel_rfl
theorem tv4 : zeroU8 ⟨.bool, 1, 1, (.bool false)⟩ = false := rfl
theorem td4 : TyI.zeroV ⟨.bool, 1, 1, (.bool false)⟩ = V.ofV1 (.bool false) := rfl
theorem ty5 : tys 5 = some ⟨.int .u8, 1, 1, (.int .u8 0)⟩ := rfl
theorem tk5 : kindV tys 5 = some (.int .u8) := rfl
theorem ts5 : sizeV tys 5 = 1 := rfl
theorem ta5 : TyI.isAgg ⟨.int .u8, 1, 1, (.int .u8 0)⟩ = false := rfl
theorem tu5 : isU8 ⟨.int .u8, 1, 1, (.int .u8 0)⟩ = true := rfl
theorem tn5 : notIntK tys 5 = false := rfl
theorem tr5 : isStrK tys 5 = false := rfl
theorem tz5 : zeroOk ⟨.int .u8, 1, 1, (.int .u8 0)⟩ = true := by kernel_rfl
theorem tv5 : zeroU8 ⟨.int .u8, 1, 1, (.int .u8 0)⟩ = true := rfl
theorem td5 : TyI.zeroV ⟨.int .u8, 1, 1, (.int .u8 0)⟩ = V.ofV1 (.int .u8 0) := rfl
theorem ty9 : tys 9 = some ⟨.str, 1, 16, (.string .empty)⟩ := rfl
theorem tk9 : kindV tys 9 = some (.str) := rfl
theorem ts9 : sizeV tys 9 = 1 := rfl
theorem ta9 : TyI.isAgg ⟨.str, 1, 16, (.string .empty)⟩ = false := rfl
theorem tu9 : isU8 ⟨.str, 1, 16, (.string .empty)⟩ = false := rfl
theorem tn9 : notIntK tys 9 = true := rfl
theorem tr9 : isStrK tys 9 = true := rfl
theorem tz9 : zeroOk ⟨.str, 1, 16, (.string .empty)⟩ = true := by kernel_rfl
theorem tv9 : zeroU8 ⟨.str, 1, 16, (.string .empty)⟩ = false := rfl
theorem td9 : TyI.zeroV ⟨.str, 1, 16, (.string .empty)⟩ = V.ofV1 (.string .empty) := rfl
theorem ty32 : tys 32 = some ⟨.slice 5, 1, 24, (.slice none 0 0)⟩ := rfl
theorem tk32 : kindV tys 32 = some (.slice 5) := rfl
theorem ts32 : sizeV tys 32 = 1 := rfl
theorem ta32 : TyI.isAgg ⟨.slice 5, 1, 24, (.slice none 0 0)⟩ = false := rfl
theorem tb32 : isBytes tys 32 = true := rfl
theorem te32 : elemI tys 32 = some (5, ⟨.int .u8, 1, 1, (.int .u8 0)⟩) := rfl
theorem tu32 : isU8 ⟨.slice 5, 1, 24, (.slice none 0 0)⟩ = false := rfl
theorem tn32 : notIntK tys 32 = true := rfl
theorem tr32 : isStrK tys 32 = false := rfl
theorem tz32 : zeroOk ⟨.slice 5, 1, 24, (.slice none 0 0)⟩ = true := by kernel_rfl
theorem tv32 : zeroU8 ⟨.slice 5, 1, 24, (.slice none 0 0)⟩ = false := rfl
theorem td32 : TyI.zeroV ⟨.slice 5, 1, 24, (.slice none 0 0)⟩ = V.ofV1 (.slice none 0 0) := rfl
theorem ty37 : tys 37 = some ⟨.int .i64, 1, 8, (.int .i64 0)⟩ := rfl
theorem tk37 : kindV tys 37 = some (.int .i64) := rfl
theorem ts37 : sizeV tys 37 = 1 := rfl
theorem ta37 : TyI.isAgg ⟨.int .i64, 1, 8, (.int .i64 0)⟩ = false := rfl
theorem tu37 : isU8 ⟨.int .i64, 1, 8, (.int .i64 0)⟩ = false := rfl
theorem tn37 : notIntK tys 37 = false := rfl
theorem tr37 : isStrK tys 37 = false := rfl
theorem tz37 : zeroOk ⟨.int .i64, 1, 8, (.int .i64 0)⟩ = true := by kernel_rfl
theorem tv37 : zeroU8 ⟨.int .i64, 1, 8, (.int .i64 0)⟩ = false := rfl
theorem td37 : TyI.zeroV ⟨.int .i64, 1, 8, (.int .i64 0)⟩ = V.ofV1 (.int .i64 0) := rfl
theorem ty57 : tys 57 = some ⟨.slice 32, 1, 24, (.slice none 0 0)⟩ := rfl
theorem tk57 : kindV tys 57 = some (.slice 32) := rfl
theorem ts57 : sizeV tys 57 = 1 := rfl
theorem ta57 : TyI.isAgg ⟨.slice 32, 1, 24, (.slice none 0 0)⟩ = false := rfl
theorem tb57 : isBytes tys 57 = false := rfl
theorem te57 : elemI tys 57 = some (32, ⟨.slice 5, 1, 24, (.slice none 0 0)⟩) := rfl
theorem tu57 : isU8 ⟨.slice 32, 1, 24, (.slice none 0 0)⟩ = false := rfl
theorem tn57 : notIntK tys 57 = true := rfl
theorem tr57 : isStrK tys 57 = false := rfl
theorem tz57 : zeroOk ⟨.slice 32, 1, 24, (.slice none 0 0)⟩ = true := by kernel_rfl
theorem tv57 : zeroU8 ⟨.slice 32, 1, 24, (.slice none 0 0)⟩ = false := rfl
theorem td57 : TyI.zeroV ⟨.slice 32, 1, 24, (.slice none 0 0)⟩ = V.ofV1 (.slice none 0 0) := rfl
theorem ty72 : tys 72 = some ⟨.int .u16, 1, 2, (.int .u16 0)⟩ := rfl
theorem tk72 : kindV tys 72 = some (.int .u16) := rfl
theorem ts72 : sizeV tys 72 = 1 := rfl
theorem ta72 : TyI.isAgg ⟨.int .u16, 1, 2, (.int .u16 0)⟩ = false := rfl
theorem tu72 : isU8 ⟨.int .u16, 1, 2, (.int .u16 0)⟩ = false := rfl
theorem tn72 : notIntK tys 72 = false := rfl
theorem tr72 : isStrK tys 72 = false := rfl
theorem tz72 : zeroOk ⟨.int .u16, 1, 2, (.int .u16 0)⟩ = true := by kernel_rfl
theorem tv72 : zeroU8 ⟨.int .u16, 1, 2, (.int .u16 0)⟩ = false := rfl
theorem td72 : TyI.zeroV ⟨.int .u16, 1, 2, (.int .u16 0)⟩ = V.ofV1 (.int .u16 0) := rfl
theorem ty119 : tys 119 = some ⟨.int .u64, 1, 8, (.int .u64 0)⟩ := rfl
theorem tk119 : kindV tys 119 = some (.int .u64) := rfl
theorem ts119 : sizeV tys 119 = 1 := rfl
theorem ta119 : TyI.isAgg ⟨.int .u64, 1, 8, (.int .u64 0)⟩ = false := rfl
theorem tu119 : isU8 ⟨.int .u64, 1, 8, (.int .u64 0)⟩ = false := rfl
theorem tn119 : notIntK tys 119 = false := rfl
theorem tr119 : isStrK tys 119 = false := rfl
theorem tz119 : zeroOk ⟨.int .u64, 1, 8, (.int .u64 0)⟩ = true := by kernel_rfl
theorem tv119 : zeroU8 ⟨.int .u64, 1, 8, (.int .u64 0)⟩ = false := rfl
theorem td119 : TyI.zeroV ⟨.int .u64, 1, 8, (.int .u64 0)⟩ = V.ofV1 (.int .u64 0) := rfl
theorem ty135 : tys 135 = some ⟨.int .u32, 1, 4, (.int .u32 0)⟩ := rfl
theorem tk135 : kindV tys 135 = some (.int .u32) := rfl
theorem ts135 : sizeV tys 135 = 1 := rfl
theorem ta135 : TyI.isAgg ⟨.int .u32, 1, 4, (.int .u32 0)⟩ = false := rfl
theorem tu135 : isU8 ⟨.int .u32, 1, 4, (.int .u32 0)⟩ = false := rfl
theorem tn135 : notIntK tys 135 = false := rfl
theorem tr135 : isStrK tys 135 = false := rfl
theorem tz135 : zeroOk ⟨.int .u32, 1, 4, (.int .u32 0)⟩ = true := by kernel_rfl
theorem tv135 : zeroU8 ⟨.int .u32, 1, 4, (.int .u32 0)⟩ = false := rfl
theorem td135 : TyI.zeroV ⟨.int .u32, 1, 4, (.int .u32 0)⟩ = V.ofV1 (.int .u32 0) := rfl
theorem ty150 : tys 150 = some ⟨.int .u64, 1, 8, (.int .u64 0)⟩ := rfl
theorem tk150 : kindV tys 150 = some (.int .u64) := rfl
theorem ts150 : sizeV tys 150 = 1 := rfl
theorem ta150 : TyI.isAgg ⟨.int .u64, 1, 8, (.int .u64 0)⟩ = false := rfl
theorem tu150 : isU8 ⟨.int .u64, 1, 8, (.int .u64 0)⟩ = false := rfl
theorem tn150 : notIntK tys 150 = false := rfl
theorem tr150 : isStrK tys 150 = false := rfl
theorem tz150 : zeroOk ⟨.int .u64, 1, 8, (.int .u64 0)⟩ = true := by kernel_rfl
theorem tv150 : zeroU8 ⟨.int .u64, 1, 8, (.int .u64 0)⟩ = false := rfl
theorem td150 : TyI.zeroV ⟨.int .u64, 1, 8, (.int .u64 0)⟩ = V.ofV1 (.int .u64 0) := rfl
set_option linter.defProp false in
def tcd := And.intro @r_ifTrue (@r_ifFalse)
attribute [bitvec_to_nat] ty2 tk2 ts2 ta2 tu2 tn2 tr2 tz2 tv2 td2 ty3 tk3 ts3 ta3 tu3 tn3 tr3 tz3 tv3 td3 ty4 tk4 ts4 ta4 tu4 tn4 tr4 tz4 tv4 td4 ty5 tk5 ts5 ta5 tu5 tn5 tr5 tz5 tv5 td5 ty9 tk9 ts9 ta9 tu9 tn9 tr9 tz9 tv9 td9 ty32 tk32 ts32 ta32 tb32 te32 tu32 tn32 tr32 tz32 tv32 td32 ty37 tk37 ts37 ta37 tu37 tn37 tr37 tz37 tv37 td37 ty57 tk57 ts57 ta57 tb57 te57 tu57 tn57 tr57 tz57 tv57 td57 ty72 tk72 ts72 ta72 tu72 tn72 tr72 tz72 tv72 td72 ty119 tk119 ts119 ta119 tu119 tn119 tr119 tz119 tv119 td119 ty135 tk135 ts135 ta135 tu135 tn135 tr135 tz135 tv135 td135 ty150 tk150 ts150 ta150 tu150 tn150 tr150 tz150 tv150 td150
def F0 : Fns := { fn := fun _ => none }
theorem F0_fn (f : FuncId) : F0.fn f = none := rfl
theorem F0_mu (d : Tmp) : F0.mu d = .no := rfl
theorem F0_hp (f : FuncId) : F0.hp f = none := rfl
theorem F0_ord (i : Nat) : F0.ord i = none := rfl
theorem F0_it (f : FuncId) : F0.it f = none := rfl
theorem F0_hy (b : Nat) : F0.hy b = none := rfl
theorem F0ok : FnsOk Try.prog F0 := FnsOk.nil _ rfl rfl
attribute [bitvec_to_nat] F0_fn F0_mu F0_hp F0_ord F0_it F0_hy
def F1 : Fns := { fn := fun f => if f = 114 then some sumM else if f = 98 then some rsumM else if f = 94 then some fixM else if f = 115 then some unfixM else F0.fn f, mu := fun d => .no, hp := fun f => F0.hp f, ord := fun i => none, it := fun f => F0.it f }
theorem F1_fn (f : FuncId) : F1.fn f = (if f = 114 then some sumM else if f = 98 then some rsumM else if f = 94 then some fixM else if f = 115 then some unfixM else F0.fn f) := rfl
theorem F1_mu (d : Tmp) : F1.mu d = (.no) := rfl
theorem F1_hp (f : FuncId) : F1.hp f = (F0.hp f) := rfl
theorem F1_ord (i : Nat) : F1.ord i = (none) := rfl
theorem F1_it (f : FuncId) : F1.it f = (F0.it f) := rfl
theorem F1_hy (b : Nat) : F1.hy b = none := rfl
theorem F1ok : FnsOk Try.prog F1 := FnsOk.same (FnsOk.cons (FnsOk.cons (FnsOk.cons (FnsOk.cons F0ok _ _ Vary.unfix_ok Try.func115 (by decide) (fun h => by cases h)) _ _ Vary.fix_ok Try.func94 (by decide) (fun h => by cases h)) _ _ Crc.rsum_ok Try.func98 (by decide) (fun h => by cases h)) _ _ Crc.sum_ok Try.func114 (by decide) (fun h => by cases h)) rfl rfl
attribute [bitvec_to_nat] F1_fn F1_mu F1_hp F1_ord F1_it F1_hy
def sealM : FM
  | [.bytes x _] => some (x.length ≤ 274877906944, .bytes (sealF x) (some 0), [((sealF x).length, 5)])
  | _ => none
theorem rseal_ok : FSound Try.prog 74 sealM := by
  refine fsound tysOk F1ok mix Try.func74 rfl ?_
  intro args p r fr hm hp
  unfold sealM at hm
  split at hm
  · rename_i x t
    cases hm
    simp (maxSteps:=2000000) only[bitvec_to_nat,seval,↓tcd,Try.f74,rsumM,sumM]
    have e : ∃ y, crc 0 x = n32 y ∧ sealF x = x ++ le32 y := ⟨_, crc_W x, rfl⟩
    obtain ⟨y, e1, e2⟩ := e
    rw [e1, rbyte0, rbyte1, rbyte2, rbyte3]
    refine ⟨by omega, mb _ (by omega), ⟨u8wrap_in _, u8wrap_in _, u8wrap_in _, u8wrap_in _⟩, mb _ (by omega), 0, ?_, ?_, rfl⟩
    · rw [e2]; rfl
    · rw [e2]; rfl
  · cases hm
def unsealM : FM
  | [.bytes b _] => some (b.length ≤ 274877906944, .tuple [.bytes (unsealF b).1 none, .int .i64 (unsealF b).2], [])
  | _ => none
def F2 : Fns := { fn := fun f => if f = 74 then some sealM else F1.fn f, mu := fun d => .no, hp := fun f => F1.hp f, ord := fun i => none, it := fun f => F1.it f }
theorem F2_fn (f : FuncId) : F2.fn f = (if f = 74 then some sealM else F1.fn f) := rfl
theorem F2_mu (d : Tmp) : F2.mu d = (.no) := rfl
theorem F2_hp (f : FuncId) : F2.hp f = (F1.hp f) := rfl
theorem F2_ord (i : Nat) : F2.ord i = (none) := rfl
theorem F2_it (f : FuncId) : F2.it f = (F1.it f) := rfl
theorem F2_hy (b : Nat) : F2.hy b = none := rfl
theorem F2ok : FnsOk Try.prog F2 := FnsOk.same (FnsOk.cons F1ok _ _ rseal_ok Try.func74 (by decide) (fun h => by cases h)) rfl rfl
attribute [bitvec_to_nat] F2_fn F2_mu F2_hp F2_ord F2_it F2_hy
def rfixM : FM
  | [.bytes b _, .int .u64 n, .int .i64 size] => some ((0 ≤ n ∧ n ≤ 18446744073709551615) ∧ b.length ≤ 549755813888 ∧ 1 ≤ size ∧ size ≤ 8, .bytes (b ++ be size.toNat n.toNat) (some 0), [((b ++ be size.toNat n.toNat).length, 5)])
  | _ => none
theorem div256 (n : Nat) (h : n < 18446744073709551616) : IntKind.u64.wrap ((n : Int).tdiv 256) = ((n / 256 : Nat) : Int) := by
  rw [Int.tdiv_eq_ediv_of_nonneg (by omega), u64w (by omega) (by omega)]; omega
theorem mod256 (n : Nat) : UInt8.ofNat (IntKind.u8.wrap ((n : Int).tmod 256)).toNat = UInt8.ofNat (n % 256) := by
  rw [Int.tmod_eq_emod_of_nonneg (by omega), u8wrap]
  congr 1
  omega
theorem rfix_ok : FSound Try.prog 75 rfixM := by
  refine fsound tysOk F0ok mix Try.func75 rfl ?_
  intro args p r fr hm hp
  unfold rfixM at hm
  split at hm
  · rename_i b t n size
    cases hm
    obtain ⟨⟨h0, h1⟩, h2, h3, h4⟩ := hp
    obtain ⟨m, rfl⟩ := Int.eq_ofNat_of_zero_le h0
    obtain ⟨s, rfl⟩ := Int.eq_ofNat_of_zero_le (show 0 ≤ size by omega)
    simp (maxSteps:=2000000) only[bitvec_to_nat,seval,↓tcd,Try.f75]
    have e1 : decide ((s : Int) < 1) = false := decide_eq_false (by omega)
    have e2 : decide (8 < (s : Int)) = false := decide_eq_false (by omega)
    rw [e1, e2]
    simp only [r_ifFalse]
    rw [i64w (by omega) (by omega)]
    refine ⟨mb _ (by omega), ?_⟩
    refine awpLoop_intro (α := {k : Nat // k ≤ s})
      (fun k => ⟨[.any, .int .u64 m, .any, .any, .any, .any, .any, .bytes (b ++ (be s m).take (s - k.1)) (some 0), .int .i64 ((k.1 : Int) - 1), .any, .any, .any, .any, .any, .any, .any, .any, .any, .any, .any, .any, .any, .any, .any, .any, .any, .any, .any, .any, .any, .any, .any, .any, .any, .any, .any, .any, .any, .any, .any, .any, .any], [], [((b ++ (be s m).take (s - k.1)).length, 5)]⟩) (fun k => k.1) ⟨s, by omega⟩ ?_ ?_
    · simp (maxSteps:=2000000) only[bitvec_to_nat,seval,↓tcd]
      all_goals simp
    · rintro ⟨k, hk⟩
      simp (maxSteps:=2000000) only[bitvec_to_nat,seval,↓tcd,Try.f75]
      refine awpIf_intro (fun h => ?_) (fun h => ?_) <;> simp only [decide_eq_true_eq, decide_eq_false_iff_not] at h
      · obtain ⟨k, rfl⟩ : ∃ k', k = k' + 1 := ⟨k - 1, by omega⟩
        have e3 : ((k + 1 : Nat) : Int) - 1 = (k : Int) := by omega
        rw [e3]
        refine awpLoop_intro (α := {j : Nat // j ≤ k})
          (fun j => ⟨[.any, .int .u64 m, .any, .any, .any, .any, .any, .bytes (b ++ (be s m).take (s - (k + 1))) (some 0), .int .i64 (k : Int), .int .u64 ((m / 256 ^ j.1 : Nat) : Int), .int .i64 (j.1 : Int), .any, .any, .any, .any, .any, .any, .any, .any, .any, .any, .any, .any, .any, .any, .any, .any, .any, .any, .any, .any, .any, .any, .any, .any, .any, .any, .any, .any, .any, .any, .any], [], [((b ++ (be s m).take (s - (k + 1))).length, 5)]⟩) (fun j => k - j.1) ⟨0, by omega⟩ ?_ ?_
        · simp (maxSteps:=2000000) only[bitvec_to_nat,seval,↓tcd]
          all_goals simp
        · rintro ⟨j, hj⟩
          simp (maxSteps:=2000000) only[bitvec_to_nat,seval,↓tcd]
          have hle : m / 256 ^ j ≤ m := Nat.div_le_self _ _
          have hl2 : ((be s m).take (s - (k + 1))).length = s - (k + 1) := by rw [List.length_take, be_length]; omega
          have hd : decide ((j : Int) < (k : Int)) = decide (j < k) := decide_eq_decide.2 (by omega)
          rw [hd]
          refine awpIf_intro (fun h => ?_) (fun h => ?_) <;> simp only [decide_eq_true_eq, decide_eq_false_iff_not] at h
          · rw [div256 _ (by omega), Nat.div_div_eq_div_mul, i64w (by omega) (by omega)]
            exact ⟨⟨j + 1, by omega⟩, ⟨by rw [Nat.pow_succ], by simp⟩, by simp; omega⟩
          · have hjk : j = k := by omega
            subst hjk
            rw [mod256, i64w (n := (j : Int) - 1) (by omega) (by omega)]
            refine ⟨u8wrap_in _, mb _ (by simp only [List.length_append, hl2]; omega), ⟨j, by omega⟩, ?_, by simp⟩
            have e4 : s - j = (s - (j + 1)) + 1 := by omega
            have e5 : s - 1 - (s - (j + 1)) = j := by omega
            simp only
            rw [e4, be_take s m _ (by omega), e5]
            all_goals simp
      · have hk0 : k = 0 := by omega
        subst hk0
        have ht : (be s m).take s = be s m := List.take_of_length_le (by rw [be_length]; omega)
        simp only [Int.toNat_natCast, Nat.sub_zero]
        rw [ht]
        exact ⟨0, rfl, rfl, rfl⟩
  · cases hm
def putM : FM
  | [.bytes b _, .bytes x _] => if 4096 < x.length then some (True, .tuple [.bytes [] none, .int .i64 3], [])
      else some (b.length ≤ 274877906944, .tuple [.bytes (b ++ frameF x) (some 0), .int .i64 0], [((b ++ frameF x).length, 5)])
  | _ => none
def F3 : Fns := { fn := fun f => if f = 75 then some rfixM else F2.fn f, mu := fun d => .no, hp := fun f => F2.hp f, ord := fun i => none, it := fun f => F2.it f }
theorem F3_fn (f : FuncId) : F3.fn f = (if f = 75 then some rfixM else F2.fn f) := rfl
theorem F3_mu (d : Tmp) : F3.mu d = (.no) := rfl
theorem F3_hp (f : FuncId) : F3.hp f = (F2.hp f) := rfl
theorem F3_ord (i : Nat) : F3.ord i = (none) := rfl
theorem F3_it (f : FuncId) : F3.it f = (F2.it f) := rfl
theorem F3_hy (b : Nat) : F3.hy b = none := rfl
theorem F3ok : FnsOk Try.prog F3 := FnsOk.same (FnsOk.cons F2ok _ _ rfix_ok Try.func75 (by decide) (fun h => by cases h)) rfl rfl
attribute [bitvec_to_nat] F3_fn F3_mu F3_hp F3_ord F3_it F3_hy
theorem rput_ok : FSound Try.prog 39 putM := by
  refine fsound tysOk F3ok mix Try.func39 rfl ?_
  intro args p r fr hm hp
  unfold putM at hm
  split at hm
  · rename_i b t x t'
    split at hm
    · rename_i hx
      cases hm
      simp (maxSteps:=2000000) only[bitvec_to_nat,seval,↓tcd,Try.f39,rfixM,sealM]
      have e : decide (4096 < (x.length : Int)) = true := decide_eq_true (by omega)
      rw [e]
      simp only [r_ifTrue]
    · rename_i hx
      cases hm
      simp (maxSteps:=2000000) only[bitvec_to_nat,seval,↓tcd,Try.f39,rfixM,sealM]
      have e : decide (4096 < (x.length : Int)) = false := decide_eq_false (by omega)
      rw [e, u64w (by omega) (by omega)]
      simp only [r_ifFalse]
      rw [Int.toNat_natCast]
      have hb4 : (be 4 x.length).length = 4 := be_length _ _
      have hbx : (be 4 x.length ++ x).length = x.length + 4 := by rw [List.length_append]; omega
      have hs := sealF_length (be 4 x.length ++ x)
      exact ⟨⟨by omega, by omega⟩, mb _ (by omega), by omega, mb _ (by omega), mb _ (by omega), 2, rfl, rfl, rfl⟩
  · cases hm
def takeM : FM
  | [.bytes b _] => some (b.length ≤ 274877906944, .tuple [.bytes (takeFr b).1 none, .bytes (takeFr b).2.1 none, .int .i64 (takeFr b).2.2], [])
  | _ => none
def allM : FM
  | [.bytes b _] => some (b.length ≤ 1099511627, .tuple [.list 1 ((allF b).1.map bv) none, .int .i64 ((allF b).2 : Nat)], [])
  | _ => none
def F4 : Fns := { fn := fun f => F3.fn f, mu := fun d => .no, hp := fun f => F3.hp f, ord := fun i => none, it := fun f => F3.it f }
theorem F4_fn (f : FuncId) : F4.fn f = (F3.fn f) := rfl
theorem F4_mu (d : Tmp) : F4.mu d = (.no) := rfl
theorem F4_hp (f : FuncId) : F4.hp f = (F3.hp f) := rfl
theorem F4_ord (i : Nat) : F4.ord i = (none) := rfl
theorem F4_it (f : FuncId) : F4.it f = (F3.it f) := rfl
theorem F4_hy (b : Nat) : F4.hy b = none := rfl
theorem F4ok : FnsOk Try.prog F4 := FnsOk.same F3ok rfl rfl
attribute [bitvec_to_nat] F4_fn F4_mu F4_hp F4_ord F4_it F4_hy
def F4a : Fns := { fn := fun f => F4.fn f, mu := fun d => bif d == 4 then .nil 57 else .no, hp := fun f => F4.hp f, ord := fun i => none, it := fun f => F4.it f }
theorem F4a_fn (f : FuncId) : F4a.fn f = (F4.fn f) := rfl
theorem F4a_mu (d : Tmp) : F4a.mu d = (bif d == 4 then .nil 57 else .no) := rfl
theorem F4a_hp (f : FuncId) : F4a.hp f = (F4.hp f) := rfl
theorem F4a_ord (i : Nat) : F4a.ord i = (none) := rfl
theorem F4a_it (f : FuncId) : F4a.it f = (F4.it f) := rfl
theorem F4a_hy (b : Nat) : F4a.hy b = none := rfl
theorem F4aok : FnsOk Try.prog F4a := FnsOk.same F4ok rfl rfl
attribute [bitvec_to_nat] F4a_fn F4a_mu F4a_hp F4a_ord F4a_it F4a_hy
def onlyM : FM
  | [.bytes b _] => some (b.length ≤ 1099511627, .tuple [.list 1 ((onlyF b).1.map bv) none, .int .i64 (onlyF b).2], [])
  | _ => none
def F5 : Fns := { fn := fun f => F4.fn f, mu := fun d => .no, hp := fun f => F4.hp f, ord := fun i => none, it := fun f => F4.it f }
theorem F5_fn (f : FuncId) : F5.fn f = (F4.fn f) := rfl
theorem F5_mu (d : Tmp) : F5.mu d = (.no) := rfl
theorem F5_hp (f : FuncId) : F5.hp f = (F4.hp f) := rfl
theorem F5_ord (i : Nat) : F5.ord i = (none) := rfl
theorem F5_it (f : FuncId) : F5.it f = (F4.it f) := rfl
theorem F5_hy (b : Nat) : F5.hy b = none := rfl
theorem F5ok : FnsOk Try.prog F5 := FnsOk.same F4ok rfl rfl
attribute [bitvec_to_nat] F5_fn F5_mu F5_hp F5_ord F5_it F5_hy
def sameM : FM
  | [.list 1 l _, .list 1 m _] => some (l = (l.map unbv).map bv ∧ m = (m.map unbv).map bv ∧ l.length ≤ 1099511627776, .bool (decide (l.map unbv = m.map unbv)), [])
  | _ => none
theorem same_ok : FSound Try.prog 35 sameM := by
  refine fsound tysOk F0ok mix Try.func35 rfl ?_
  intro args p r fr hm hp
  unfold sameM at hm
  split at hm
  · rename_i l t m t'
    cases hm
    obtain ⟨hl, hm, hlen⟩ := hp
    generalize l.map unbv = x at *
    generalize m.map unbv = y at *
    subst hl hm
    rw [List.length_map] at hlen
    simp (maxSteps:=2000000) only[bitvec_to_nat,seval,↓tcd,Try.f35,List.length_map]
    refine awpIf_intro (fun h => ?_) (fun h => ?_) <;> simp only [decide_eq_true_eq, decide_eq_false_iff_not] at h
    · have hxy : x.length = y.length := by omega
      refine awpLoop_intro (α := {i : Nat // i ≤ x.length ∧ x.take i = y.take i}) (fun i => ⟨[.list 1 (x.map bv) none, .list 1 (y.map bv) none, .any, .any, .any, .int .i64 (i.1 : Int), .any, .any, .any, .any, .any, .any, .any, .any, .any, .any, .any, .any, .any, .any, .any, .any, .any, .any, .any, .any, .any, .any], [], []⟩) (fun i => x.length - i.1) ⟨0, by omega, by simp⟩ ?_ ?_
      · simp (maxSteps:=2000000) only[bitvec_to_nat,seval,↓tcd]
        all_goals simp
      · rintro ⟨i, hi, heq⟩
        by_cases hlt : i < x.length
        · have g1 := getD_bv hlt
          have g2 := getD_bv (show i < y.length by omega)
          simp (maxSteps:=2000000) only[bitvec_to_nat,seval,↓tcd,Try.f35,List.length_map,Int.toNat_natCast,g1,g2]
          have e1 : List.take (i + 1) x = List.take i x ++ [x.getD i []] := by rw [List.take_succ_eq_append_getElem hlt]; simp [List.getD_eq_getElem?_getD, List.getElem?_eq_getElem hlt]
          have e2 : List.take (i + 1) y = List.take i y ++ [y.getD i []] := by rw [List.take_succ_eq_append_getElem (by omega)]; simp [List.getD_eq_getElem?_getD, List.getElem?_eq_getElem (show i < y.length by omega)]
          refine awpIf_intro (fun h => ?_) (fun h => ?_) <;> simp only [decide_eq_true_eq, decide_eq_false_iff_not] at h
          · refine ⟨by kernel_rfl, ⟨by omega, by omega⟩, ⟨by omega, by omega⟩, awpIf_intro (fun hs => ?_) (fun hs => ?_)⟩ <;> simp only [decide_eq_true_eq, decide_eq_false_iff_not] at hs
            · rw [i64w (by omega) (by omega)]
              exact ⟨⟨i + 1, by omega, by rw [e1, e2, heq, hs]⟩, by simp, by simp; omega⟩
            · refine (decide_eq_false fun e => hs ?_).symm
              rw [e]
          · exact absurd h (by omega)
        · simp (maxSteps:=2000000) only[bitvec_to_nat,seval,↓tcd,Try.f35,List.length_map]
          refine awpIf_intro (fun h => ?_) (fun h => ?_) <;> simp only [decide_eq_true_eq, decide_eq_false_iff_not] at h
          · exact absurd h (by omega)
          · have e1 : x = y := by
              rw [List.take_of_length_le (by omega), List.take_of_length_le (by omega)] at heq
              exact heq
            exact (decide_eq_true e1).symm
    · exact (decide_eq_false fun e => h (by rw [e])).symm
  · cases hm
def fewM : FM
  | [.bytes b _] => some (True, .bytes (b.take 5000) none, [])
  | _ => none
def turnM : HM
  | [.mrow em o off n, .int .i64 f, .int .u32 t], L, T =>
    match L[o]? with
    | some cs => some ((off = 0 ∧ cs = (cs.map unbyte).map byteV ∧ n = cs.length ∧ n ≤ 1099511627776) ∧ (0 ≤ f ∧ f ≤ 1099511627776) ∧ 0 ≤ t ∧ t ≤ 4294967295,
        .bool (turnF (cs.map unbyte) f.toNat t.toNat).2, L.set o ((turnF (cs.map unbyte) f.toNat t.toNat).1.map byteV), T)
    | none => none
  | _, _, _ => none
theorem leLL_self (L : List (List V)) : leLL L L := by
  induction L with
  | nil => trivial
  | cons x L ih => exact ⟨by rw [leL_self]; trivial, ih⟩
theorem stle_same {ρ ρ' : List V} {L L' : List (List V)} {T : List (Nat × TypeId)} (h : V.le.leL ρ ρ') (hL : L = L') : St.le ⟨ρ, L, T⟩ ⟨ρ', L', T⟩ := by
  subst hL
  exact St.le_intro h (leLL_self L) rfl
theorem set_self {α : Type} {l : List α} {o : Nat} {x : α} (h : l[o]? = some x) : l.set o x = l := by
  apply List.ext_getElem?
  intro i
  rw [List.getElem?_set]
  split
  · rename_i e
    subst e
    split
    · exact h.symm
    · rename_i hlt
      rw [List.getElem?_eq_none (by omega)] at h
      cases h
  · rfl
theorem getElem?_set_row {α : Type} {l : List α} {o : Nat} {x y : α} (h : l[o]? = some x) : (l.set o y)[o]? = some y := by
  have hlt : o < l.length := by
    rcases Nat.lt_or_ge o l.length with hh | hh
    · exact hh
    · rw [List.getElem?_eq_none hh] at h; cases h
  rw [List.getElem?_set, if_pos rfl, if_pos hlt]
end Go.Proofs.Ytpncnionnfomeaa.Frame
