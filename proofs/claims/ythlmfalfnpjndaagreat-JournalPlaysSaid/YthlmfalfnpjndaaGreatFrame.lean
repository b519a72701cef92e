import Derived.Test.YthlmfalfnpjndaaGreatAwX
import Derived.Test.YthlmfalfnpjndaaGreatProg
import Derived.Test.YthlmfalfnpjndaaGreatVaryM
import Derived.Test.YthlmfalfnpjndaaGreatVary
import Derived.Test.YthlmfalfnpjndaaGreatCrc
import Derived.KernelRfl
namespace Go.Proofs.YthlmfalfnpjndaaGreat.Frame
open Go Go.Proofs Aw CrcM CrcN Num VaryM FrameM
open Vary (fixM fixF unfixM unfixF)
open Crc (sumM rsumM)
set_option linter.unusedSimpArgs false
set_option linter.unusedVariables false
def tys : Tys := fun t => if t = 2 then some ⟨.int .i64,1,8,(.int .i64 0)⟩ else if t = 3 then some ⟨.int .i64,1,8,(.int .i64 0)⟩ else if t = 4 then some ⟨.bool,1,1,(.bool false)⟩ else if t = 5 then some ⟨.int .u8,1,1,(.int .u8 0)⟩ else if t = 9 then some ⟨.str,1,16,(.string .empty)⟩ else if t = 32 then some ⟨.slice 5,1,24,(.slice none 0 0)⟩ else if t = 36 then some ⟨.int .i64,1,8,(.int .i64 0)⟩ else if t = 38 then some ⟨.slice 32,1,24,(.slice none 0 0)⟩ else if t = 111 then some ⟨.int .u64,1,8,(.int .u64 0)⟩ else if t = 128 then some ⟨.int .u32,1,4,(.int .u32 0)⟩ else if t = 133 then some ⟨.int .u64,1,8,(.int .u64 0)⟩ else none
theorem tysOk : TyOk Tryz.prog tys := by
 refine TyOk.cons ?_ 2 _ (by kernel_rfl) (by kernel_rfl)
 refine TyOk.cons ?_ 3 _ (by kernel_rfl) (by kernel_rfl)
 refine TyOk.cons ?_ 4 _ (by kernel_rfl) (by kernel_rfl)
 refine TyOk.cons ?_ 5 _ (by kernel_rfl) (by kernel_rfl)
 refine TyOk.cons ?_ 9 _ (by kernel_rfl) (by kernel_rfl)
 refine TyOk.cons ?_ 32 _ (by kernel_rfl) (by kernel_rfl)
 refine TyOk.cons ?_ 36 _ (by kernel_rfl) (by kernel_rfl)
 refine TyOk.cons ?_ 38 _ (by kernel_rfl) (by kernel_rfl)
 refine TyOk.cons ?_ 111 _ (by kernel_rfl) (by kernel_rfl)
 refine TyOk.cons ?_ 128 _ (by kernel_rfl) (by kernel_rfl)
 refine TyOk.cons ?_ 133 _ (by kernel_rfl) (by kernel_rfl)
 exact TyOk.nil _
theorem mix : Tryz.prog.follows .mixedOrders = true := by kernel_rfl
theorem ty2 : tys 2 = some ⟨.int .i64,1,8,(.int .i64 0)⟩ := rfl
theorem tk2 : kindV tys 2 = some (.int .i64) := rfl
theorem ts2 : sizeV tys 2 = 1 := rfl
theorem ta2 : TyI.isAgg ⟨.int .i64,1,8,(.int .i64 0)⟩ = false := rfl
theorem tu2 : isU8 ⟨.int .i64,1,8,(.int .i64 0)⟩ = false := rfl
theorem tn2 : notIntK tys 2 = false := rfl
theorem tr2 : isStrK tys 2 = false := rfl
theorem tv2 : zeroU8 ⟨.int .i64,1,8,(.int .i64 0)⟩ = false := rfl
theorem td2 : TyI.zeroV ⟨.int .i64,1,8,(.int .i64 0)⟩ = V.ofV1 (.int .i64 0) := rfl
theorem ty3 : tys 3 = some ⟨.int .i64,1,8,(.int .i64 0)⟩ := rfl
theorem tk3 : kindV tys 3 = some (.int .i64) := rfl
theorem ts3 : sizeV tys 3 = 1 := rfl
theorem ta3 : TyI.isAgg ⟨.int .i64,1,8,(.int .i64 0)⟩ = false := rfl
theorem tu3 : isU8 ⟨.int .i64,1,8,(.int .i64 0)⟩ = false := rfl
theorem tn3 : notIntK tys 3 = false := rfl
theorem tr3 : isStrK tys 3 = false := rfl
theorem tv3 : zeroU8 ⟨.int .i64,1,8,(.int .i64 0)⟩ = false := rfl
theorem td3 : TyI.zeroV ⟨.int .i64,1,8,(.int .i64 0)⟩ = V.ofV1 (.int .i64 0) := rfl
theorem ty4 : tys 4 = some ⟨.bool,1,1,(.bool false)⟩ := rfl
theorem tk4 : kindV tys 4 = some (.bool) := rfl
theorem ts4 : sizeV tys 4 = 1 := rfl
theorem ta4 : TyI.isAgg ⟨.bool,1,1,(.bool false)⟩ = false := rfl
theorem tu4 : isU8 ⟨.bool,1,1,(.bool false)⟩ = false := rfl
theorem tn4 : notIntK tys 4 = true := rfl
theorem tr4 : isStrK tys 4 = false := rfl
theorem tv4 : zeroU8 ⟨.bool,1,1,(.bool false)⟩ = false := rfl
theorem td4 : TyI.zeroV ⟨.bool,1,1,(.bool false)⟩ = V.ofV1 (.bool false) := rfl
theorem ty5 : tys 5 = some ⟨.int .u8,1,1,(.int .u8 0)⟩ := rfl
theorem tk5 : kindV tys 5 = some (.int .u8) := rfl
theorem ts5 : sizeV tys 5 = 1 := rfl
theorem ta5 : TyI.isAgg ⟨.int .u8,1,1,(.int .u8 0)⟩ = false := rfl
theorem tu5 : isU8 ⟨.int .u8,1,1,(.int .u8 0)⟩ = true := rfl
theorem tn5 : notIntK tys 5 = false := rfl
theorem tr5 : isStrK tys 5 = false := rfl
theorem tv5 : zeroU8 ⟨.int .u8,1,1,(.int .u8 0)⟩ = true := rfl
theorem td5 : TyI.zeroV ⟨.int .u8,1,1,(.int .u8 0)⟩ = V.ofV1 (.int .u8 0) := rfl
theorem ty9 : tys 9 = some ⟨.str,1,16,(.string .empty)⟩ := rfl
theorem tk9 : kindV tys 9 = some (.str) := rfl
theorem ts9 : sizeV tys 9 = 1 := rfl
theorem ta9 : TyI.isAgg ⟨.str,1,16,(.string .empty)⟩ = false := rfl
theorem tu9 : isU8 ⟨.str,1,16,(.string .empty)⟩ = false := rfl
theorem tn9 : notIntK tys 9 = true := rfl
theorem tr9 : isStrK tys 9 = true := rfl
theorem tv9 : zeroU8 ⟨.str,1,16,(.string .empty)⟩ = false := rfl
theorem td9 : TyI.zeroV ⟨.str,1,16,(.string .empty)⟩ = V.ofV1 (.string .empty) := rfl
theorem ty32 : tys 32 = some ⟨.slice 5,1,24,(.slice none 0 0)⟩ := rfl
theorem tk32 : kindV tys 32 = some (.slice 5) := rfl
theorem ts32 : sizeV tys 32 = 1 := rfl
theorem ta32 : TyI.isAgg ⟨.slice 5,1,24,(.slice none 0 0)⟩ = false := rfl
theorem tb32 : isBytes tys 32 = true := rfl
theorem te32 : elemI tys 32 = some (5,⟨.int .u8,1,1,(.int .u8 0)⟩) := rfl
theorem tu32 : isU8 ⟨.slice 5,1,24,(.slice none 0 0)⟩ = false := rfl
theorem tn32 : notIntK tys 32 = true := rfl
theorem tr32 : isStrK tys 32 = false := rfl
theorem tv32 : zeroU8 ⟨.slice 5,1,24,(.slice none 0 0)⟩ = false := rfl
theorem td32 : TyI.zeroV ⟨.slice 5,1,24,(.slice none 0 0)⟩ = V.ofV1 (.slice none 0 0) := rfl
theorem ty36 : tys 36 = some ⟨.int .i64,1,8,(.int .i64 0)⟩ := rfl
theorem tk36 : kindV tys 36 = some (.int .i64) := rfl
theorem ts36 : sizeV tys 36 = 1 := rfl
theorem ta36 : TyI.isAgg ⟨.int .i64,1,8,(.int .i64 0)⟩ = false := rfl
theorem tu36 : isU8 ⟨.int .i64,1,8,(.int .i64 0)⟩ = false := rfl
theorem tn36 : notIntK tys 36 = false := rfl
theorem tr36 : isStrK tys 36 = false := rfl
theorem tv36 : zeroU8 ⟨.int .i64,1,8,(.int .i64 0)⟩ = false := rfl
theorem td36 : TyI.zeroV ⟨.int .i64,1,8,(.int .i64 0)⟩ = V.ofV1 (.int .i64 0) := rfl
theorem ty38 : tys 38 = some ⟨.slice 32,1,24,(.slice none 0 0)⟩ := rfl
theorem tk38 : kindV tys 38 = some (.slice 32) := rfl
theorem ts38 : sizeV tys 38 = 1 := rfl
theorem ta38 : TyI.isAgg ⟨.slice 32,1,24,(.slice none 0 0)⟩ = false := rfl
theorem tb38 : isBytes tys 38 = false := rfl
theorem te38 : elemI tys 38 = some (32,⟨.slice 5,1,24,(.slice none 0 0)⟩) := rfl
theorem tu38 : isU8 ⟨.slice 32,1,24,(.slice none 0 0)⟩ = false := rfl
theorem tn38 : notIntK tys 38 = true := rfl
theorem tr38 : isStrK tys 38 = false := rfl
theorem tv38 : zeroU8 ⟨.slice 32,1,24,(.slice none 0 0)⟩ = false := rfl
theorem td38 : TyI.zeroV ⟨.slice 32,1,24,(.slice none 0 0)⟩ = V.ofV1 (.slice none 0 0) := rfl
theorem ty111 : tys 111 = some ⟨.int .u64,1,8,(.int .u64 0)⟩ := rfl
theorem tk111 : kindV tys 111 = some (.int .u64) := rfl
theorem ts111 : sizeV tys 111 = 1 := rfl
theorem ta111 : TyI.isAgg ⟨.int .u64,1,8,(.int .u64 0)⟩ = false := rfl
theorem tu111 : isU8 ⟨.int .u64,1,8,(.int .u64 0)⟩ = false := rfl
theorem tn111 : notIntK tys 111 = false := rfl
theorem tr111 : isStrK tys 111 = false := rfl
theorem tv111 : zeroU8 ⟨.int .u64,1,8,(.int .u64 0)⟩ = false := rfl
theorem td111 : TyI.zeroV ⟨.int .u64,1,8,(.int .u64 0)⟩ = V.ofV1 (.int .u64 0) := rfl
theorem ty128 : tys 128 = some ⟨.int .u32,1,4,(.int .u32 0)⟩ := rfl
theorem tk128 : kindV tys 128 = some (.int .u32) := rfl
theorem ts128 : sizeV tys 128 = 1 := rfl
theorem ta128 : TyI.isAgg ⟨.int .u32,1,4,(.int .u32 0)⟩ = false := rfl
theorem tu128 : isU8 ⟨.int .u32,1,4,(.int .u32 0)⟩ = false := rfl
theorem tn128 : notIntK tys 128 = false := rfl
theorem tr128 : isStrK tys 128 = false := rfl
theorem tv128 : zeroU8 ⟨.int .u32,1,4,(.int .u32 0)⟩ = false := rfl
theorem td128 : TyI.zeroV ⟨.int .u32,1,4,(.int .u32 0)⟩ = V.ofV1 (.int .u32 0) := rfl
theorem ty133 : tys 133 = some ⟨.int .u64,1,8,(.int .u64 0)⟩ := rfl
theorem tk133 : kindV tys 133 = some (.int .u64) := rfl
theorem ts133 : sizeV tys 133 = 1 := rfl
theorem ta133 : TyI.isAgg ⟨.int .u64,1,8,(.int .u64 0)⟩ = false := rfl
theorem tu133 : isU8 ⟨.int .u64,1,8,(.int .u64 0)⟩ = false := rfl
theorem tn133 : notIntK tys 133 = false := rfl
theorem tr133 : isStrK tys 133 = false := rfl
theorem tv133 : zeroU8 ⟨.int .u64,1,8,(.int .u64 0)⟩ = false := rfl
theorem td133 : TyI.zeroV ⟨.int .u64,1,8,(.int .u64 0)⟩ = V.ofV1 (.int .u64 0) := rfl
set_option linter.defProp false in
def tcd := And.intro @r_ifTrue (@r_ifFalse)
attribute [bitvec_to_nat] ty2 tk2 ts2 ta2 tu2 tn2 tr2 tv2 td2 ty3 tk3 ts3 ta3 tu3 tn3 tr3 tv3 td3 ty4 tk4 ts4 ta4 tu4 tn4 tr4 tv4 td4 ty5 tk5 ts5 ta5 tu5 tn5 tr5 tv5 td5 ty9 tk9 ts9 ta9 tu9 tn9 tr9 tv9 td9 ty32 tk32 ts32 ta32 tb32 te32 tu32 tn32 tr32 tv32 td32 ty36 tk36 ts36 ta36 tu36 tn36 tr36 tv36 td36 ty38 tk38 ts38 ta38 tb38 te38 tu38 tn38 tr38 tv38 td38 ty111 tk111 ts111 ta111 tu111 tn111 tr111 tv111 td111 ty128 tk128 ts128 ta128 tu128 tn128 tr128 tv128 td128 ty133 tk133 ts133 ta133 tu133 tn133 tr133 tv133 td133
def F0 : Fns := { fn := fun _ => none }
theorem F0_fn (f : FuncId) : F0.fn f = none := rfl
theorem F0_mu (d : Tmp) : F0.mu d = .no := rfl
theorem F0_hp (f : FuncId) : F0.hp f = none := rfl
theorem F0_ord (i : Nat) : F0.ord i = none := rfl
theorem F0_it (f : FuncId) : F0.it f = none := rfl
theorem F0_hy (b : Nat) : F0.hy b = none := rfl
theorem F0ok : FnsOk Tryz.prog F0 := FnsOk.nil _ rfl rfl
attribute [bitvec_to_nat] F0_fn F0_mu F0_hp F0_ord F0_it F0_hy
def F1 : Fns := { fn := fun f => if f = 101 then some sumM else if f = 94 then some rsumM else if f = 71 then some fixM else if f = 98 then some unfixM else if f = 87 then some unfixM else F0.fn f,mu := fun d => .no,hp := fun f => F0.hp f,ord := fun i => none,it := fun f => F0.it f }
theorem F1_fn (f : FuncId) : F1.fn f = (if f = 101 then some sumM else if f = 94 then some rsumM else if f = 71 then some fixM else if f = 98 then some unfixM else if f = 87 then some unfixM else F0.fn f) := rfl
theorem F1_mu (d : Tmp) : F1.mu d = (.no) := rfl
theorem F1_hp (f : FuncId) : F1.hp f = (F0.hp f) := rfl
theorem F1_ord (i : Nat) : F1.ord i = (none) := rfl
theorem F1_it (f : FuncId) : F1.it f = (F0.it f) := rfl
theorem F1_hy (b : Nat) : F1.hy b = none := rfl
theorem F1ok : FnsOk Tryz.prog F1 := FnsOk.same (FnsOk.cons (FnsOk.cons (FnsOk.cons (FnsOk.cons (FnsOk.cons F0ok _ _ Vary.runfix_ok Tryz.func87 (by decide) (fun h => by cases h)) _ _ Vary.unfix_ok Tryz.func98 (by decide) (fun h => by cases h)) _ _ Vary.fix_ok Tryz.func71 (by decide) (fun h => by cases h)) _ _ Crc.rsum_ok Tryz.func94 (by decide) (fun h => by cases h)) _ _ Crc.sum_ok Tryz.func101 (by decide) (fun h => by cases h)) rfl rfl
attribute [bitvec_to_nat] F1_fn F1_mu F1_hp F1_ord F1_it F1_hy
def sealM : FM
 | [.bytes x _] => some (x.length ≤ 274877906944,.bytes (sealF x) (some 0),[((sealF x).length,5)])
 | _ => none
theorem rseal_ok : FSound Tryz.prog 76 sealM := by
 refine fsound tysOk F1ok mix Tryz.func76 rfl ?_
 intro args p r fr hm hp
 unfold sealM at hm
 split at hm
 · rename_i x t
   cases hm
   simp (maxSteps:=2000000) only[bitvec_to_nat,seval,↓tcd,Tryz.f76,rsumM,sumM]
   have e : ∃ y,crc 0 x = n32 y ∧ sealF x = x ++ le32 y := ⟨_,crc_W x,rfl⟩
   obtain ⟨y,e1,e2⟩ := e
   rw [e1,rbyte0,rbyte1,rbyte2,rbyte3]
   refine ⟨by omega,mb _ (by omega),⟨u8wrap_in _,u8wrap_in _,u8wrap_in _,u8wrap_in _⟩,mb _ (by omega),0,?_,?_,rfl⟩
   · rw [e2]; rfl
   · rw [e2]; rfl
 · cases hm
def unsealM : FM
 | [.bytes b _] => some (b.length ≤ 274877906944,.tuple [.bytes (unsealF b).1 none,.int .i64 (unsealF b).2],[])
 | _ => none
def F2 : Fns := { fn := fun f => if f = 76 then some sealM else F1.fn f,mu := fun d => .no,hp := fun f => F1.hp f,ord := fun i => none,it := fun f => F1.it f }
theorem F2_fn (f : FuncId) : F2.fn f = (if f = 76 then some sealM else F1.fn f) := rfl
theorem F2_mu (d : Tmp) : F2.mu d = (.no) := rfl
theorem F2_hp (f : FuncId) : F2.hp f = (F1.hp f) := rfl
theorem F2_ord (i : Nat) : F2.ord i = (none) := rfl
theorem F2_it (f : FuncId) : F2.it f = (F1.it f) := rfl
theorem F2_hy (b : Nat) : F2.hy b = none := rfl
theorem F2ok : FnsOk Tryz.prog F2 := FnsOk.same (FnsOk.cons F1ok _ _ rseal_ok Tryz.func76 (by decide) (fun h => by cases h)) rfl rfl
attribute [bitvec_to_nat] F2_fn F2_mu F2_hp F2_ord F2_it F2_hy
theorem runseal_ok : FSound Tryz.prog 88 unsealM := by
 refine fsound tysOk F2ok mix Tryz.func88 rfl ?_
 intro args p r fr hm hp
 unfold unsealM at hm
 split at hm
 · rename_i b t
   cases hm
   simp (maxSteps:=2000000) only[bitvec_to_nat,seval,↓tcd,Tryz.f88,sealM]
   refine awpIf_intro (fun h => ?_) (fun h => ?_) <;> simp only [decide_eq_true_eq,decide_eq_false_iff_not] at h
   · unfold unsealF
     rw [if_pos (by omega)]
     all_goals first | rfl | exact ⟨rfl,rfl⟩
   · have h4 : 4 ≤ b.length := by omega
     have e : IntKind.i64.wrap ((b.length : Int) - 4) = ((b.length - 4 : Nat) : Int) := by rw [i64w (by omega) (by omega)]; omega
     have hl : (List.take (b.length - 4) b).length = b.length - 4 := by rw [List.length_take]; omega
     rw [e,Int.toNat_natCast]
     refine ⟨⟨by omega,by omega⟩,mb _ (by omega),by kernel_rfl,by omega,awpIf_intro (fun hs => ?_) (fun hs => ?_)⟩ <;> simp only [decide_eq_true_eq,decide_eq_false_iff_not] at hs
     · unfold unsealF
       rw [if_neg (by omega),if_pos hs]
       all_goals first | rfl | exact ⟨rfl,rfl⟩
     · unfold unsealF
       rw [if_neg (by omega),if_neg hs]
       all_goals first | rfl | exact ⟨rfl,rfl⟩
 · cases hm
def rfixM : FM
 | [.bytes b _,.int .u64 n,.int .i64 size] => some ((0 ≤ n ∧ n ≤ 18446744073709551615) ∧ b.length ≤ 549755813888 ∧ 1 ≤ size ∧ size ≤ 8,.bytes (b ++ be size.toNat n.toNat) (some 0),[((b ++ be size.toNat n.toNat).length,5)])
 | _ => none
theorem div256 (n : Nat) (h : n < 18446744073709551616) : IntKind.u64.wrap ((n : Int).tdiv 256) = ((n / 256 : Nat) : Int) := by
 rw [Int.tdiv_eq_ediv_of_nonneg (by omega),u64w (by omega) (by omega)]; omega
theorem mod256 (n : Nat) : UInt8.ofNat (IntKind.u8.wrap ((n : Int).tmod 256)).toNat = UInt8.ofNat (n % 256) := by
 rw [Int.tmod_eq_emod_of_nonneg (by omega),u8wrap]
 congr 1
 omega
theorem rfix_ok : FSound Tryz.prog 77 rfixM := by
 refine fsound tysOk F0ok mix Tryz.func77 rfl ?_
 intro args p r fr hm hp
 unfold rfixM at hm
 split at hm
 · rename_i b t n size
   cases hm
   obtain ⟨⟨h0,h1⟩,h2,h3,h4⟩ := hp
   obtain ⟨m,rfl⟩ := Int.eq_ofNat_of_zero_le h0
   obtain ⟨s,rfl⟩ := Int.eq_ofNat_of_zero_le (show 0 ≤ size by omega)
   simp (maxSteps:=2000000) only[bitvec_to_nat,seval,↓tcd,Tryz.f77]
   have e1 : decide ((s : Int) < 1) = false := decide_eq_false (by omega)
   have e2 : decide (8 < (s : Int)) = false := decide_eq_false (by omega)
   rw [e1,e2]
   simp only [r_ifFalse]
   rw [i64w (by omega) (by omega)]
   refine ⟨mb _ (by omega),?_⟩
   refine awpLoop_intro (α := {k : Nat // k ≤ s})
    (fun k => ⟨[.any,.int .u64 m,.any,.any,.any,.any,.any,.bytes (b ++ (be s m).take (s - k.1)) (some 0),.int .i64 ((k.1 : Int) - 1),.any,.any,.any,.any,.any,.any,.any,.any,.any,.any,.any,.any,.any,.any,.any,.any,.any,.any,.any,.any,.any,.any,.any,.any,.any,.any,.any,.any,.any,.any,.any,.any,.any],[],[((b ++ (be s m).take (s - k.1)).length,5)]⟩) (fun k => k.1) ⟨s,by omega⟩ ?_ ?_
   · simp (maxSteps:=2000000) only[bitvec_to_nat,seval,↓tcd]
     all_goals simp
   · rintro ⟨k,hk⟩
     simp (maxSteps:=2000000) only[bitvec_to_nat,seval,↓tcd,Tryz.f77]
     refine awpIf_intro (fun h => ?_) (fun h => ?_) <;> simp only [decide_eq_true_eq,decide_eq_false_iff_not] at h
     · obtain ⟨k,rfl⟩ : ∃ k',k = k' + 1 := ⟨k - 1,by omega⟩
       have e3 : ((k + 1 : Nat) : Int) - 1 = (k : Int) := by omega
       rw [e3]
       refine awpLoop_intro (α := {j : Nat // j ≤ k})
        (fun j => ⟨[.any,.int .u64 m,.any,.any,.any,.any,.any,.bytes (b ++ (be s m).take (s - (k + 1))) (some 0),.int .i64 (k : Int),.int .u64 ((m / 256 ^ j.1 : Nat) : Int),.int .i64 (j.1 : Int),.any,.any,.any,.any,.any,.any,.any,.any,.any,.any,.any,.any,.any,.any,.any,.any,.any,.any,.any,.any,.any,.any,.any,.any,.any,.any,.any,.any,.any,.any,.any],[],[((b ++ (be s m).take (s - (k + 1))).length,5)]⟩) (fun j => k - j.1) ⟨0,by omega⟩ ?_ ?_
       · simp (maxSteps:=2000000) only[bitvec_to_nat,seval,↓tcd]
         all_goals simp
       · rintro ⟨j,hj⟩
         simp (maxSteps:=2000000) only[bitvec_to_nat,seval,↓tcd]
         have hle : m / 256 ^ j ≤ m := Nat.div_le_self _ _
         have hl2 : ((be s m).take (s - (k + 1))).length = s - (k + 1) := by rw [List.length_take,be_length]; omega
         have hd : decide ((j : Int) < (k : Int)) = decide (j < k) := decide_eq_decide.2 (by omega)
         rw [hd]
         refine awpIf_intro (fun h => ?_) (fun h => ?_) <;> simp only [decide_eq_true_eq,decide_eq_false_iff_not] at h
         · rw [div256 _ (by omega),Nat.div_div_eq_div_mul,i64w (by omega) (by omega)]
           exact ⟨⟨j + 1,by omega⟩,⟨by rw [Nat.pow_succ],by simp⟩,by simp; omega⟩
         · have hjk : j = k := by omega
           subst hjk
           rw [mod256,i64w (n := (j : Int) - 1) (by omega) (by omega)]
           refine ⟨u8wrap_in _,mb _ (by simp only [List.length_append,hl2]; omega),⟨j,by omega⟩,?_,by simp⟩
           have e4 : s - j = (s - (j + 1)) + 1 := by omega
           have e5 : s - 1 - (s - (j + 1)) = j := by omega
           simp only
           rw [e4,be_take s m _ (by omega),e5]
           all_goals simp
     · have hk0 : k = 0 := by omega
       subst hk0
       have ht : (be s m).take s = be s m := List.take_of_length_le (by rw [be_length]; omega)
       simp only [Int.toNat_natCast,Nat.sub_zero]
       rw [ht]
       exact ⟨0,rfl,rfl,rfl⟩
 · cases hm
def putM : FM
 | [.bytes b _,.bytes x _] => if 4096 < x.length then some (True,.tuple [.bytes [] none,.int .i64 3],[])
  else some (b.length ≤ 274877906944,.tuple [.bytes (b ++ frameF x) (some 0),.int .i64 0],[((b ++ frameF x).length,5)])
 | _ => none
def F3 : Fns := { fn := fun f => if f = 88 then some unsealM else if f = 77 then some rfixM else F2.fn f,mu := fun d => .no,hp := fun f => F2.hp f,ord := fun i => none,it := fun f => F2.it f }
theorem F3_fn (f : FuncId) : F3.fn f = (if f = 88 then some unsealM else if f = 77 then some rfixM else F2.fn f) := rfl
theorem F3_mu (d : Tmp) : F3.mu d = (.no) := rfl
theorem F3_hp (f : FuncId) : F3.hp f = (F2.hp f) := rfl
theorem F3_ord (i : Nat) : F3.ord i = (none) := rfl
theorem F3_it (f : FuncId) : F3.it f = (F2.it f) := rfl
theorem F3_hy (b : Nat) : F3.hy b = none := rfl
theorem F3ok : FnsOk Tryz.prog F3 := FnsOk.same (FnsOk.cons (FnsOk.cons F2ok _ _ rfix_ok Tryz.func77 (by decide) (fun h => by cases h)) _ _ runseal_ok Tryz.func88 (by decide) (fun h => by cases h)) rfl rfl
attribute [bitvec_to_nat] F3_fn F3_mu F3_hp F3_ord F3_it F3_hy
theorem rput_ok : FSound Tryz.prog 42 putM := by
 refine fsound tysOk F3ok mix Tryz.func42 rfl ?_
 intro args p r fr hm hp
 unfold putM at hm
 split at hm
 · rename_i b t x t'
   split at hm
   · rename_i hx
     cases hm
     simp (maxSteps:=2000000) only[bitvec_to_nat,seval,↓tcd,Tryz.f42,rfixM,sealM]
     have e : decide (4096 < (x.length : Int)) = true := decide_eq_true (by omega)
     rw [e]
     simp only [r_ifTrue]
   · rename_i hx
     cases hm
     simp (maxSteps:=2000000) only[bitvec_to_nat,seval,↓tcd,Tryz.f42,rfixM,sealM]
     have e : decide (4096 < (x.length : Int)) = false := decide_eq_false (by omega)
     rw [e,u64w (by omega) (by omega)]
     simp only [r_ifFalse]
     rw [Int.toNat_natCast]
     have hb4 : (be 4 x.length).length = 4 := be_length _ _
     have hbx : (be 4 x.length ++ x).length = x.length + 4 := by rw [List.length_append]; omega
     have hs := sealF_length (be 4 x.length ++ x)
     exact ⟨⟨by omega,by omega⟩,mb _ (by omega),by omega,mb _ (by omega),mb _ (by omega),2,rfl,rfl,rfl⟩
 · cases hm
def takeM : FM
 | [.bytes b _] => some (b.length ≤ 274877906944,.tuple [.bytes (takeFr b).1 none,.bytes (takeFr b).2.1 none,.int .i64 (takeFr b).2.2],[])
 | _ => none
theorem rtake_ok : FSound Tryz.prog 62 takeM := by
 refine fsound tysOk F3ok mix Tryz.func62 rfl ?_
 intro args p r fr hm hp
 unfold takeM at hm
 split at hm
 · rename_i b t
   cases hm
   have hu : unfixF b 4 = if b.length < 4 then (0,[],5) else (lenF b,b.drop 4,0) := by
    unfold unfixF lenF
    rw [if_pos (by omega)]
    by_cases h : b.length < 4
    · rw [if_pos (by omega),if_pos h]
    · rw [if_neg (by omega),if_neg h]; rfl
   simp (maxSteps:=2000000) only[bitvec_to_nat,seval,↓tcd,Tryz.f62,unfixM,unsealM]
   refine ⟨by omega,?_⟩
   by_cases h4 : b.length < 4
   · rw [hu,if_pos h4]
     dsimp only
     unfold takeFr
     rw [if_pos h4]
     have e5 : decide ((5 : Int) = 0) = false := by decide
     simp only [e5,r_ifFalse]
     all_goals first | rfl | exact ⟨rfl,rfl⟩ | exact ⟨rfl,rfl,rfl⟩ | exact ⟨trivial,trivial,trivial⟩ | simp
   · rw [hu,if_neg h4]
     dsimp only
     have hl := beVal_lt (b.take 4) 0
     have ht4 : (b.take 4).length = 4 := by rw [List.length_take]; omega
     have hlf : lenF b < 4294967296 := by rw [ht4] at hl; unfold lenF; omega
     refine awpIf_intro (fun _ => ?_) (fun hf => by simp at hf)
     refine awpIf_intro (fun h => ?_) (fun h => ?_) <;> simp only [decide_eq_true_eq,decide_eq_false_iff_not] at h
     · unfold takeFr
       rw [if_neg h4,if_pos (by omega)]
       all_goals first | rfl | exact ⟨rfl,rfl⟩ | exact ⟨rfl,rfl,rfl⟩ | exact ⟨trivial,trivial,trivial⟩ | simp
     · have w1 : IntKind.i64.wrap ((lenF b : Nat) : Int) = ((lenF b : Nat) : Int) := i64w (by omega) (by omega)
       have w2 : IntKind.i64.wrap (((lenF b : Nat) : Int) + 4) = ((lenF b + 4 : Nat) : Int) := by rw [i64w (by omega) (by omega)]; omega
       have w3 : IntKind.i64.wrap (((lenF b + 4 : Nat) : Int) + 4) = ((lenF b + 8 : Nat) : Int) := by rw [i64w (by omega) (by omega)]; omega
       rw [w1,w2,w3,Int.toNat_natCast,Int.toNat_natCast]
       refine awpIf_intro (fun h5 => ?_) (fun h5 => ?_) <;> simp only [decide_eq_true_eq,decide_eq_false_iff_not] at h5
       · unfold takeFr
         rw [if_neg h4,if_neg (by omega),if_pos (by omega)]
         all_goals first | rfl | exact ⟨rfl,rfl⟩ | exact ⟨rfl,rfl,rfl⟩ | exact ⟨trivial,trivial,trivial⟩ | simp
       · have hl8 : (b.take (lenF b + 8)).length = lenF b + 8 := by rw [List.length_take]; omega
         have hl4 : ((b.take (lenF b + 4)).drop 4).length = lenF b := by simp; omega
         refine ⟨⟨by omega,by omega⟩,by omega,awpIf_intro (fun h6 => ?_) (fun h6 => ?_)⟩ <;> simp only [decide_eq_true_eq,decide_eq_false_iff_not] at h6
         · unfold takeFr
           rw [if_neg h4,if_neg (by omega),if_neg (by omega),if_neg (by simpa using h6)]
           exact ⟨by kernel_rfl,⟨by omega,by omega⟩,mb _ (by omega),⟨by omega,by omega⟩,mb _ (by rw [List.length_drop]; omega),rfl,rfl,rfl⟩
         · unfold takeFr
           rw [if_neg h4,if_neg (by omega),if_neg (by omega),if_pos h6]
           all_goals first | rfl | exact ⟨rfl,rfl⟩ | exact ⟨rfl,rfl,rfl⟩ | exact ⟨trivial,trivial,trivial⟩ | simp
 · cases hm
def allM : FM
 | [.bytes b _] => some (b.length ≤ 1099511627,.tuple [.list 1 ((allF b).1.map bv) none,.int .i64 ((allF b).2 : Nat)],[])
 | _ => none
def F4 : Fns := { fn := fun f => if f = 62 then some takeM else F3.fn f,mu := fun d => .no,hp := fun f => F3.hp f,ord := fun i => none,it := fun f => F3.it f }
theorem F4_fn (f : FuncId) : F4.fn f = (if f = 62 then some takeM else F3.fn f) := rfl
theorem F4_mu (d : Tmp) : F4.mu d = (.no) := rfl
theorem F4_hp (f : FuncId) : F4.hp f = (F3.hp f) := rfl
theorem F4_ord (i : Nat) : F4.ord i = (none) := rfl
theorem F4_it (f : FuncId) : F4.it f = (F3.it f) := rfl
theorem F4_hy (b : Nat) : F4.hy b = none := rfl
theorem F4ok : FnsOk Tryz.prog F4 := FnsOk.same (FnsOk.cons F3ok _ _ rtake_ok Tryz.func62 (by decide) (fun h => by cases h)) rfl rfl
attribute [bitvec_to_nat] F4_fn F4_mu F4_hp F4_ord F4_it F4_hy
def F4a : Fns := { fn := fun f => F4.fn f,mu := fun d => bif d == 4 then .nil 38 else .no,hp := fun f => F4.hp f,ord := fun i => none,it := fun f => F4.it f }
theorem F4a_fn (f : FuncId) : F4a.fn f = (F4.fn f) := rfl
theorem F4a_mu (d : Tmp) : F4a.mu d = (bif d == 4 then .nil 38 else .no) := rfl
theorem F4a_hp (f : FuncId) : F4a.hp f = (F4.hp f) := rfl
theorem F4a_ord (i : Nat) : F4a.ord i = (none) := rfl
theorem F4a_it (f : FuncId) : F4a.it f = (F4.it f) := rfl
theorem F4a_hy (b : Nat) : F4a.hy b = none := rfl
theorem F4aok : FnsOk Tryz.prog F4a := FnsOk.same F4ok rfl rfl
attribute [bitvec_to_nat] F4a_fn F4a_mu F4a_hp F4a_ord F4a_it F4a_hy
theorem rall_ok : FSound Tryz.prog 33 allM := by
 refine fsound tysOk F4aok mix Tryz.func33 rfl ?_
 intro args p r fr hm hp
 unfold allM at hm
 split at hm
 · rename_i b t
   cases hm
   simp (maxSteps:=2000000) only[bitvec_to_nat,seval,↓tcd,Tryz.f33,takeM]
   refine awpLoop_intro (α := {q : List UInt8 × List (List UInt8) × Nat // q.1.length + q.2.2 ≤ b.length ∧ q.2.1.length ≤ q.2.2 ∧ q.2.1 ++ (allF q.1).1 = (allF b).1 ∧ q.2.2 + (allF q.1).2 = (allF b).2})
    (fun q => ⟨[.bytes q.1.1 none,.any,.any,.any,.list 1 (q.1.2.1.map bv) (some 0),.int .i64 (q.1.2.2 : Int),.any,.any,.any,.any,.any,.any,.any,.any,.any,.any,.any,.any,.any,.any,.any,.any,.any,.any,.any,.any,.any,.any,.any],[],[((q.1.2.1.map bv).length,32)]⟩) (fun q => q.1.1.length) ⟨(b,[],0),by simp,by simp,by simp,by simp⟩ ?_ ?_
   · simp (maxSteps:=2000000) only[bitvec_to_nat,seval,↓tcd]
     all_goals rfl
   · rintro ⟨⟨x,l,n⟩,h1,h2,h3,h4⟩
     simp (maxSteps:=2000000) only[bitvec_to_nat,seval,↓tcd,Tryz.f33,takeM]
     simp only at h1 h2 h3 h4
     refine ⟨by omega,awpIf_intro (fun h => ?_) (fun h => ?_)⟩ <;> simp only [decide_eq_true_eq,decide_eq_false_iff_not] at h
     · have hr := takeFr_rest h
       rw [allF_ok h] at h3 h4
       simp only at h3 h4
       have ew : IntKind.i64.wrap (IntKind.i64.wrap ((n : Int) + ((takeFr x).1.length : Int)) + 8) = ((n + (takeFr x).1.length + 8 : Nat) : Int) := by
        rw [i64w (n := (n : Int) + ((takeFr x).1.length : Int)) (by omega) (by omega),i64w (by omega) (by omega)]; omega
       have em : List.map bv l ++ [V.bytes (takeFr x).1 none] = List.map bv (l ++ [(takeFr x).1]) := by rw [List.map_append]; rfl
       rw [ew,em]
       refine ⟨by unfold maxBytes; rw [List.length_map]; omega,⟨((takeFr x).2.1,l ++ [(takeFr x).1],n + (takeFr x).1.length + 8),by simp only; omega,by rw [List.length_append]; simp; omega,by simp only [List.append_assoc,List.singleton_append]; exact h3,by simp only; omega⟩,⟨⟨rfl,rfl,rfl⟩,rfl,fun v hv => ?_⟩,by simp only; omega⟩
       simp only [List.mem_map] at hv
       obtain ⟨y,_,rfl⟩ := hv
       simp [bv,V.under]
     · rw [allF_none h] at h3 h4
       simp only [List.append_nil,Nat.add_zero] at h3 h4
       rw [← h3,← h4]
       exact ⟨bv_clean l,rfl,rfl⟩
 · cases hm
def F5 : Fns := { fn := fun f => if f = 33 then some allM else F4.fn f,mu := fun d => .no,hp := fun f => F4.hp f,ord := fun i => none,it := fun f => F4.it f }
theorem F5_fn (f : FuncId) : F5.fn f = (if f = 33 then some allM else F4.fn f) := rfl
theorem F5_mu (d : Tmp) : F5.mu d = (.no) := rfl
theorem F5_hp (f : FuncId) : F5.hp f = (F4.hp f) := rfl
theorem F5_ord (i : Nat) : F5.ord i = (none) := rfl
theorem F5_it (f : FuncId) : F5.it f = (F4.it f) := rfl
theorem F5_hy (b : Nat) : F5.hy b = none := rfl
theorem F5ok : FnsOk Tryz.prog F5 := FnsOk.same (FnsOk.cons F4ok _ _ rall_ok Tryz.func33 (by decide) (fun h => by cases h)) rfl rfl
attribute [bitvec_to_nat] F5_fn F5_mu F5_hp F5_ord F5_it F5_hy
def sameM : FM
 | [.list 1 l _,.list 1 m _] => some (l = (l.map unbv).map bv ∧ m = (m.map unbv).map bv ∧ l.length ≤ 1099511627776,.bool (decide (l.map unbv = m.map unbv)),[])
 | _ => none
theorem same_ok : FSound Tryz.prog 15 sameM := by
 refine fsound tysOk F0ok mix Tryz.func15 rfl ?_
 intro args p r fr hm hp
 unfold sameM at hm
 split at hm
 · rename_i l t m t'
   cases hm
   obtain ⟨hl,hm,hlen⟩ := hp
   generalize l.map unbv = x at *
   generalize m.map unbv = y at *
   subst hl hm
   rw [List.length_map] at hlen
   simp (maxSteps:=2000000) only[bitvec_to_nat,seval,↓tcd,Tryz.f15,List.length_map]
   refine awpIf_intro (fun h => ?_) (fun h => ?_) <;> simp only [decide_eq_true_eq,decide_eq_false_iff_not] at h
   · have hxy : x.length = y.length := by omega
     refine awpLoop_intro (α := {i : Nat // i ≤ x.length ∧ x.take i = y.take i}) (fun i => ⟨[.list 1 (x.map bv) none,.list 1 (y.map bv) none,.any,.any,.any,.int .i64 (i.1 : Int),.any,.any,.any,.any,.any,.any,.any,.any,.any,.any,.any,.any,.any,.any,.any,.any,.any,.any,.any,.any,.any,.any],[],[]⟩) (fun i => x.length - i.1) ⟨0,by omega,by simp⟩ ?_ ?_
     · simp (maxSteps:=2000000) only[bitvec_to_nat,seval,↓tcd]
       all_goals simp
     · rintro ⟨i,hi,heq⟩
       by_cases hlt : i < x.length
       · have g1 := getD_bv hlt
         have g2 := getD_bv (show i < y.length by omega)
         simp (maxSteps:=2000000) only[bitvec_to_nat,seval,↓tcd,Tryz.f15,List.length_map,Int.toNat_natCast,g1,g2]
         have e1 : List.take (i + 1) x = List.take i x ++ [x.getD i []] := by rw [List.take_succ_eq_append_getElem hlt]; simp [List.getD_eq_getElem?_getD,List.getElem?_eq_getElem hlt]
         have e2 : List.take (i + 1) y = List.take i y ++ [y.getD i []] := by rw [List.take_succ_eq_append_getElem (by omega)]; simp [List.getD_eq_getElem?_getD,List.getElem?_eq_getElem (show i < y.length by omega)]
         refine awpIf_intro (fun h => ?_) (fun h => ?_) <;> simp only [decide_eq_true_eq,decide_eq_false_iff_not] at h
         · refine ⟨by kernel_rfl,⟨by omega,by omega⟩,⟨by omega,by omega⟩,awpIf_intro (fun hs => ?_) (fun hs => ?_)⟩ <;> simp only [decide_eq_true_eq,decide_eq_false_iff_not] at hs
           · rw [i64w (by omega) (by omega)]
             exact ⟨⟨i + 1,by omega,by rw [e1,e2,heq,hs]⟩,by simp,by simp; omega⟩
           · refine (decide_eq_false fun e => hs ?_).symm
             rw [e]
         · exact absurd h (by omega)
       · simp (maxSteps:=2000000) only[bitvec_to_nat,seval,↓tcd,Tryz.f15,List.length_map]
         refine awpIf_intro (fun h => ?_) (fun h => ?_) <;> simp only [decide_eq_true_eq,decide_eq_false_iff_not] at h
         · exact absurd h (by omega)
         · have e1 : x = y := by
            rw [List.take_of_length_le (by omega),List.take_of_length_le (by omega)] at heq
            exact heq
           exact (decide_eq_true e1).symm
   · exact (decide_eq_false fun e => h (by rw [e])).symm
 · cases hm
end Go.Proofs.YthlmfalfnpjndaaGreat.Frame
