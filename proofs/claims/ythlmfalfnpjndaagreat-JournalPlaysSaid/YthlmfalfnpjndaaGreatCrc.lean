import Derived.Test.YthlmfalfnpjndaaGreatAwX
import Derived.Test.YthlmfalfnpjndaaGreatProg
import Derived.Test.YthlmfalfnpjndaaGreatVaryM
import Derived.KernelRfl
namespace Go.Proofs.YthlmfalfnpjndaaGreat.Crc
open Go Go.Proofs Aw CrcM CrcN Num
set_option linter.unusedSimpArgs false
set_option linter.unusedVariables false
def zv155 : Value := .agg (Array.replicate 256 (.int .u32 0))
def tys : Tys := fun t => if t = 2 then some ⟨.int .i64,1,8,(.int .i64 0)⟩ else if t = 3 then some ⟨.int .i64,1,8,(.int .i64 0)⟩ else if t = 4 then some ⟨.bool,1,1,(.bool false)⟩ else if t = 5 then some ⟨.int .u8,1,1,(.int .u8 0)⟩ else if t = 32 then some ⟨.slice 5,1,24,(.slice none 0 0)⟩ else if t = 128 then some ⟨.int .u32,1,4,(.int .u32 0)⟩ else if t = 133 then some ⟨.int .u64,1,8,(.int .u64 0)⟩ else if t = 155 then some ⟨.array 256 128,256,1024,zv155⟩ else none
theorem tysOk : TyOk Tryz.prog tys := by
 refine TyOk.cons ?_ 2 _ (by kernel_rfl) (by kernel_rfl)
 refine TyOk.cons ?_ 3 _ (by kernel_rfl) (by kernel_rfl)
 refine TyOk.cons ?_ 4 _ (by kernel_rfl) (by kernel_rfl)
 refine TyOk.cons ?_ 5 _ (by kernel_rfl) (by kernel_rfl)
 refine TyOk.cons ?_ 32 _ (by kernel_rfl) (by kernel_rfl)
 refine TyOk.cons ?_ 128 _ (by kernel_rfl) (by kernel_rfl)
 refine TyOk.cons ?_ 133 _ (by kernel_rfl) (by kernel_rfl)
 refine TyOk.cons ?_ 155 _ (by kernel_rfl) (by kernel_rfl)
 exact TyOk.nil _
theorem mix : Tryz.prog.follows .mixedOrders = true := by kernel_rfl
theorem ty2 : tys 2 = some ⟨.int .i64,1,8,(.int .i64 0)⟩ := rfl
theorem tk2 : kindV tys 2 = some (.int .i64) := rfl
theorem ts2 : sizeV tys 2 = 1 := rfl
theorem ta2 : TyI.isAgg ⟨.int .i64,1,8,(.int .i64 0)⟩ = false := rfl
theorem tu2 : isU8 ⟨.int .i64,1,8,(.int .i64 0)⟩ = false := rfl
theorem tn2 : notIntK tys 2 = false := rfl
theorem tr2 : isStrK tys 2 = false := rfl
theorem tv2 : zeroU8 ⟨.int .i64,1,8,(.int .i64 0)⟩ = false := rfl
theorem td2 : TyI.zeroV ⟨.int .i64,1,8,(.int .i64 0)⟩ = V.ofV1 (.int .i64 0) := rfl
theorem ty3 : tys 3 = some ⟨.int .i64,1,8,(.int .i64 0)⟩ := rfl
theorem tk3 : kindV tys 3 = some (.int .i64) := rfl
theorem ts3 : sizeV tys 3 = 1 := rfl
theorem ta3 : TyI.isAgg ⟨.int .i64,1,8,(.int .i64 0)⟩ = false := rfl
theorem tu3 : isU8 ⟨.int .i64,1,8,(.int .i64 0)⟩ = false := rfl
theorem tn3 : notIntK tys 3 = false := rfl
theorem tr3 : isStrK tys 3 = false := rfl
theorem tv3 : zeroU8 ⟨.int .i64,1,8,(.int .i64 0)⟩ = false := rfl
theorem td3 : TyI.zeroV ⟨.int .i64,1,8,(.int .i64 0)⟩ = V.ofV1 (.int .i64 0) := rfl
theorem ty4 : tys 4 = some ⟨.bool,1,1,(.bool false)⟩ := rfl
theorem tk4 : kindV tys 4 = some (.bool) := rfl
theorem ts4 : sizeV tys 4 = 1 := rfl
theorem ta4 : TyI.isAgg ⟨.bool,1,1,(.bool false)⟩ = false := rfl
theorem tu4 : isU8 ⟨.bool,1,1,(.bool false)⟩ = false := rfl
theorem tn4 : notIntK tys 4 = true := rfl
theorem tr4 : isStrK tys 4 = false := rfl
theorem tv4 : zeroU8 ⟨.bool,1,1,(.bool false)⟩ = false := rfl
theorem td4 : TyI.zeroV ⟨.bool,1,1,(.bool false)⟩ = V.ofV1 (.bool false) := rfl
theorem ty5 : tys 5 = some ⟨.int .u8,1,1,(.int .u8 0)⟩ := rfl
theorem tk5 : kindV tys 5 = some (.int .u8) := rfl
theorem ts5 : sizeV tys 5 = 1 := rfl
theorem ta5 : TyI.isAgg ⟨.int .u8,1,1,(.int .u8 0)⟩ = false := rfl
theorem tu5 : isU8 ⟨.int .u8,1,1,(.int .u8 0)⟩ = true := rfl
theorem tn5 : notIntK tys 5 = false := rfl
theorem tr5 : isStrK tys 5 = false := rfl
theorem tv5 : zeroU8 ⟨.int .u8,1,1,(.int .u8 0)⟩ = true := rfl
theorem td5 : TyI.zeroV ⟨.int .u8,1,1,(.int .u8 0)⟩ = V.ofV1 (.int .u8 0) := rfl
theorem ty32 : tys 32 = some ⟨.slice 5,1,24,(.slice none 0 0)⟩ := rfl
theorem tk32 : kindV tys 32 = some (.slice 5) := rfl
theorem ts32 : sizeV tys 32 = 1 := rfl
theorem ta32 : TyI.isAgg ⟨.slice 5,1,24,(.slice none 0 0)⟩ = false := rfl
theorem tb32 : isBytes tys 32 = true := rfl
theorem te32 : elemI tys 32 = some (5,⟨.int .u8,1,1,(.int .u8 0)⟩) := rfl
theorem tu32 : isU8 ⟨.slice 5,1,24,(.slice none 0 0)⟩ = false := rfl
theorem tn32 : notIntK tys 32 = true := rfl
theorem tr32 : isStrK tys 32 = false := rfl
theorem tv32 : zeroU8 ⟨.slice 5,1,24,(.slice none 0 0)⟩ = false := rfl
theorem td32 : TyI.zeroV ⟨.slice 5,1,24,(.slice none 0 0)⟩ = V.ofV1 (.slice none 0 0) := rfl
theorem ty128 : tys 128 = some ⟨.int .u32,1,4,(.int .u32 0)⟩ := rfl
theorem tk128 : kindV tys 128 = some (.int .u32) := rfl
theorem ts128 : sizeV tys 128 = 1 := rfl
theorem ta128 : TyI.isAgg ⟨.int .u32,1,4,(.int .u32 0)⟩ = false := rfl
theorem tu128 : isU8 ⟨.int .u32,1,4,(.int .u32 0)⟩ = false := rfl
theorem tn128 : notIntK tys 128 = false := rfl
theorem tr128 : isStrK tys 128 = false := rfl
theorem tv128 : zeroU8 ⟨.int .u32,1,4,(.int .u32 0)⟩ = false := rfl
theorem td128 : TyI.zeroV ⟨.int .u32,1,4,(.int .u32 0)⟩ = V.ofV1 (.int .u32 0) := rfl
theorem ty133 : tys 133 = some ⟨.int .u64,1,8,(.int .u64 0)⟩ := rfl
theorem tk133 : kindV tys 133 = some (.int .u64) := rfl
theorem ts133 : sizeV tys 133 = 1 := rfl
theorem ta133 : TyI.isAgg ⟨.int .u64,1,8,(.int .u64 0)⟩ = false := rfl
theorem tu133 : isU8 ⟨.int .u64,1,8,(.int .u64 0)⟩ = false := rfl
theorem tn133 : notIntK tys 133 = false := rfl
theorem tr133 : isStrK tys 133 = false := rfl
theorem tv133 : zeroU8 ⟨.int .u64,1,8,(.int .u64 0)⟩ = false := rfl
theorem td133 : TyI.zeroV ⟨.int .u64,1,8,(.int .u64 0)⟩ = V.ofV1 (.int .u64 0) := rfl
theorem ty155 : tys 155 = some ⟨.array 256 128,256,1024,zv155⟩ := rfl
theorem tk155 : kindV tys 155 = some (.array 256 128) := rfl
theorem ts155 : sizeV tys 155 = 256 := rfl
theorem ta155 : TyI.isAgg ⟨.array 256 128,256,1024,zv155⟩ = true := rfl
theorem tu155 : isU8 ⟨.array 256 128,256,1024,zv155⟩ = false := rfl
theorem tn155 : notIntK tys 155 = true := rfl
theorem tr155 : isStrK tys 155 = false := rfl
theorem tv155 : zeroU8 ⟨.array 256 128,256,1024,zv155⟩ = false := rfl
theorem tc155 : TyI.zeroV ⟨.array 256 128,256,1024,zv155⟩ = .agg (rep 256 (V.ofV1 (.int .u32 0))) := by kernel_rfl
set_option linter.defProp false in
def tcd := And.intro @r_ifTrue (@r_ifFalse)
attribute [bitvec_to_nat] ty2 tk2 ts2 ta2 tu2 tn2 tr2 tv2 td2 ty3 tk3 ts3 ta3 tu3 tn3 tr3 tv3 td3 ty4 tk4 ts4 ta4 tu4 tn4 tr4 tv4 td4 ty5 tk5 ts5 ta5 tu5 tn5 tr5 tv5 td5 ty32 tk32 ts32 ta32 tb32 te32 tu32 tn32 tr32 tv32 td32 ty128 tk128 ts128 ta128 tu128 tn128 tr128 tv128 td128 ty133 tk133 ts133 ta133 tu133 tn133 tr133 tv133 td133 ty155 tk155 ts155 ta155 tu155 tn155 tr155 tv155 tc155
def G0 : Fns := { fn := fun _ => none }
theorem G0_fn (f : FuncId) : G0.fn f = none := rfl
theorem G0_mu (d : Tmp) : G0.mu d = .no := rfl
theorem G0_hp (f : FuncId) : G0.hp f = none := rfl
theorem G0_ord (i : Nat) : G0.ord i = none := rfl
theorem G0_it (f : FuncId) : G0.it f = none := rfl
theorem G0_hy (b : Nat) : G0.hy b = none := rfl
theorem G0ok : FnsOk Tryz.prog G0 := FnsOk.nil _ rfl rfl
attribute [bitvec_to_nat] G0_fn G0_mu G0_hp G0_ord G0_it G0_hy
def throughM : FM
 | [.int .u32 n] => some (0 ≤ n ∧ n ≤ 4294967295,.int .u32 (n32 (steps 8 (BitVec.ofInt 32 n))),[])
 | _ => none
theorem through_ok : FSound Tryz.prog 125 throughM := by
 refine fsound tysOk G0ok mix Tryz.func125 rfl ?_
 intro args p r fr hm hp
 unfold throughM at hm
 split at hm
 · rename_i n
   cases hm
   obtain ⟨x,rfl⟩ : ∃ x,n = n32 x := ⟨_,n32_of hp.1 hp.2⟩
   rw [ofInt_n32]
   simp (maxSteps:=2000000) only[bitvec_to_nat,seval,↓tcd,Tryz.f125]
   refine awpLoop_intro (α := {q : Nat × W // q.1 ≤ 8 ∧ steps (8 - q.1) q.2 = steps 8 x}) (fun q => ⟨[.int .u32 (n32 q.1.2),.any,.any,.any,.int .i64 (q.1.1 : Int),.any,.any,.any,.any,.any,.any,.any,.any,.any,.any,.any],[],[]⟩) (fun q => 8 - q.1.1) ⟨(0,x),by simp,rfl⟩ ?_ ?_
   · simp (maxSteps:=2000000) only[bitvec_to_nat,seval,↓tcd]
     all_goals rfl
   · rintro ⟨⟨i,y⟩,h1,h2⟩
     simp (maxSteps:=2000000) only[bitvec_to_nat,seval,↓tcd,Tryz.f125]
     simp only at h1 h2
     have hl : decide ((i : Int) < 8) = decide (i < 8) := decide_eq_decide.2 (by omega)
     rw [hl]
     refine awpIf_intro (fun h => ?_) (fun h => ?_) <;> simp only [decide_eq_true_eq,decide_eq_false_iff_not] at h
     · rw [show 8 - i = (8 - (i + 1)) + 1 by omega,steps,step_eq] at h2
       rw [odd32,half32,n32_P,xor32,i64w (by omega) (by omega)]
       refine awpIf_intro (fun h0 => ?_) (fun h0 => ?_) <;> rw [h0] at h2 <;> simp only [Bool.false_eq_true,if_true,if_false] at h2
       · exact ⟨⟨(i + 1,_),by omega,h2⟩,⟨rfl,by simp⟩,by simp; omega⟩
       · exact ⟨⟨(i + 1,_),by omega,h2⟩,⟨rfl,by simp⟩,by simp; omega⟩
     · have hi : i = 8 := by omega
       subst hi
       have h2 : y = steps 8 x := h2
       rw [h2]
 · cases hm
def entryM : FM := throughM
theorem entry_ok : FSound Tryz.prog 116 entryM := by
 refine fsound tysOk G0ok mix Tryz.func116 rfl ?_
 intro args p r fr hm hp
 unfold entryM throughM at hm
 split at hm
 · rename_i n
   cases hm
   obtain ⟨x,rfl⟩ : ∃ x,n = n32 x := ⟨_,n32_of hp.1 hp.2⟩
   rw [ofInt_n32]
   simp (maxSteps:=2000000) only[bitvec_to_nat,seval,↓tcd,Tryz.f116]
   refine awpLoop_intro (α := {q : Nat × W // q.1 ≤ 8 ∧ steps (8 - q.1) q.2 = steps 8 x}) (fun q => ⟨[.int .u32 (n32 q.1.2),.any,.any,.int .i64 (q.1.1 : Int),.any,.any,.any,.any,.any,.any,.any,.any,.any,.any,.any,.any,.any],[],[]⟩) (fun q => 8 - q.1.1) ⟨(0,x),by simp,rfl⟩ ?_ ?_
   · simp (maxSteps:=2000000) only[bitvec_to_nat,seval,↓tcd]
     all_goals rfl
   · rintro ⟨⟨i,y⟩,h1,h2⟩
     simp (maxSteps:=2000000) only[bitvec_to_nat,seval,↓tcd,Tryz.f116]
     simp only at h1 h2
     have hl : decide ((i : Int) < 8) = decide (i < 8) := decide_eq_decide.2 (by omega)
     rw [hl]
     refine awpIf_intro (fun h => ?_) (fun h => ?_) <;> simp only [decide_eq_true_eq,decide_eq_false_iff_not] at h
     · rw [show 8 - i = (8 - (i + 1)) + 1 by omega,steps,step_eq] at h2
       rw [odd32,half32,n32_P,xor32,i64w (by omega) (by omega)]
       refine awpIf_intro (fun h0 => ?_) (fun h0 => ?_) <;> rw [h0] at h2 <;> simp only [Bool.false_eq_true,if_true,if_false] at h2
       · exact ⟨⟨(i + 1,_),by omega,h2⟩,⟨rfl,by simp⟩,by simp; omega⟩
       · exact ⟨⟨(i + 1,_),by omega,h2⟩,⟨rfl,by simp⟩,by simp; omega⟩
     · have hi : i = 8 := by omega
       subst hi
       have h2 : y = steps 8 x := h2
       rw [h2]
 · cases hm
def tableM : FM
 | [] => some (True,.agg tbl,[])
 | _ => none
def GT : Fns := { fn := fun f => if f = 125 then some throughM else if f = 116 then some entryM else G0.fn f,mu := fun d => .no,hp := fun f => G0.hp f,ord := fun i => none,it := fun f => G0.it f }
theorem GT_fn (f : FuncId) : GT.fn f = (if f = 125 then some throughM else if f = 116 then some entryM else G0.fn f) := rfl
theorem GT_mu (d : Tmp) : GT.mu d = (.no) := rfl
theorem GT_hp (f : FuncId) : GT.hp f = (G0.hp f) := rfl
theorem GT_ord (i : Nat) : GT.ord i = (none) := rfl
theorem GT_it (f : FuncId) : GT.it f = (G0.it f) := rfl
theorem GT_hy (b : Nat) : GT.hy b = none := rfl
theorem GTok : FnsOk Tryz.prog GT := FnsOk.same (FnsOk.cons (FnsOk.cons G0ok _ _ entry_ok Tryz.func116 (by decide) (fun h => by cases h)) _ _ through_ok Tryz.func125 (by decide) (fun h => by cases h)) rfl rfl
attribute [bitvec_to_nat] GT_fn GT_mu GT_hp GT_ord GT_it GT_hy
theorem table_ok : FSound Tryz.prog 123 tableM := by
 refine fsound tysOk GTok mix Tryz.func123 rfl ?_
 intro args p r fr hm hp
 unfold tableM at hm
 split at hm
 · cases hm
   simp (maxSteps:=2000000) only[bitvec_to_nat,seval,↓tcd,Tryz.f123]
   refine awpLoop_intro (α := {i : Nat // i ≤ 256}) (fun i => ⟨[.box 0 0,.box 1 0,.any,.int .i64 (i.1 : Int),.any,.any,.any,.any,.any,.any,.any,.any,.any],[rep 256 (.int .u32 0),CrcN.part i.1],[]⟩) (fun i => 256 - i.1) ⟨0,by omega⟩ ?_ ?_
   · simp (maxSteps:=2000000) only[bitvec_to_nat,seval,↓tcd,part_zero]
     all_goals rfl
   · rintro ⟨i,hi⟩
     simp (maxSteps:=2000000) only[bitvec_to_nat,seval,↓tcd,Tryz.f123,throughM,CrcN.part_length hi,CrcN.part_take hi,CrcN.rep_drop,List.length_take,List.length_drop]
     have hl : decide ((i : Int) < 256) = decide (i < 256) := decide_eq_decide.2 (by omega)
     rw [hl]
     refine awpIf_intro (fun h => ?_) (fun h => ?_) <;> simp only [decide_eq_true_eq,decide_eq_false_iff_not] at h
     · rw [ent_eq h,Int.toNat_natCast,part_put h,u32w (by omega) (by omega),i64w (by omega) (by omega)]
       exact ⟨⟨by omega,by omega⟩,⟨by omega,by omega⟩,by omega,⟨i + 1,by omega⟩,⟨by simp,by rw [leL_self]; trivial⟩,by simp; omega⟩
     · have hi : i = 256 := by omega
       subst hi
       simp only [part_full]
       exact ⟨tbl_clean,by rw [leL_self]; trivial⟩
 · cases hm
def addM : FM
 | [.int .u32 s,.bytes b _] => some ((0 ≤ s ∧ s ≤ 4294967295) ∧ b.length ≤ 549755813888,.int .u32 (crc s b),[])
 | _ => none
def GA : Fns := { fn := fun f => if f = 123 then some tableM else GT.fn f,mu := fun d => .no,hp := fun f => GT.hp f,ord := fun i => none,it := fun f => GT.it f }
theorem GA_fn (f : FuncId) : GA.fn f = (if f = 123 then some tableM else GT.fn f) := rfl
theorem GA_mu (d : Tmp) : GA.mu d = (.no) := rfl
theorem GA_hp (f : FuncId) : GA.hp f = (GT.hp f) := rfl
theorem GA_ord (i : Nat) : GA.ord i = (none) := rfl
theorem GA_it (f : FuncId) : GA.it f = (GT.it f) := rfl
theorem GA_hy (b : Nat) : GA.hy b = none := rfl
theorem GAok : FnsOk Tryz.prog GA := FnsOk.same (FnsOk.cons GTok _ _ table_ok Tryz.func123 (by decide) (fun h => by cases h)) rfl rfl
attribute [bitvec_to_nat] GA_fn GA_mu GA_hp GA_ord GA_it GA_hy
theorem add_ok : FSound Tryz.prog 115 addM := by
 refine fsound tysOk GAok mix Tryz.func115 rfl ?_
 intro args p r fr hm hp
 unfold addM at hm
 split at hm
 · rename_i s b t
   cases hm
   obtain ⟨hs,hb⟩ := hp
   obtain ⟨x,rfl⟩ : ∃ x,s = n32 x := ⟨_,n32_of hs.1 hs.2⟩
   simp (maxSteps:=2000000) only[bitvec_to_nat,seval,↓tcd,Tryz.f115,tableM,tbl_length,rep_length,rep_drop,n32_ones,xor32]
   refine ⟨tbl_clean,?_⟩
   refine awpLoop_intro (α := {k : Nat // k ≤ b.length}) (fun k => ⟨[.any,.any,.any,.any,.any,.box 0 0,.int .u32 (n32 (feed (4294967295#32 ^^^ x) (b.take k.1))),.any,.any,.any,.any,.any,.bytes b none,.int .i64 (b.length : Int),.int .i64 (k.1 : Int),.any,.any,.any,.any,.any,.any,.any,.any,.any,.any,.any,.any,.any,.any,.any],[tbl],[]⟩) (fun k => b.length - k.1) ⟨0,by omega⟩ ?_ ?_
   · simp (maxSteps:=2000000) only[bitvec_to_nat,seval,↓tcd]
     all_goals first | rfl | exact ⟨rfl,rfl⟩
   · rintro ⟨k,hk⟩
     simp (maxSteps:=2000000) only[bitvec_to_nat,seval,↓tcd,Tryz.f115,byte_at,tbl_atD,tbl_length,div32_256,xor32]
     have hl : decide ((k : Int) < (b.length : Int)) = decide (k < b.length) := decide_eq_decide.2 (by omega)
     rw [hl]
     refine awpIf_intro (fun h => ?_) (fun h => ?_) <;> simp only [decide_eq_true_eq,decide_eq_false_iff_not] at h
     · refine ⟨⟨by omega,by omega⟩,at_bound _,at_nat _,⟨k + 1,by omega⟩,⟨?_,?_⟩,by simp; omega⟩
       · rw [feed_take _ h,byte_step,Int.toNat_natCast]
       · rw [i64w (by omega) (by omega)]; simp
     · have hk : k = b.length := by omega
       subst hk
       rw [List.take_length,← crc_feed,n32_ones,xor32]
 · cases hm
def raddM : FM := addM
theorem radd_ok : FSound Tryz.prog 102 raddM := by
 refine fsound tysOk GTok mix Tryz.func102 rfl ?_
 intro args p r fr hm hp
 unfold raddM addM at hm
 split at hm
 · rename_i s b t
   cases hm
   obtain ⟨hs,hb⟩ := hp
   obtain ⟨x,rfl⟩ : ∃ x,s = n32 x := ⟨_,n32_of hs.1 hs.2⟩
   simp (maxSteps:=2000000) only[bitvec_to_nat,seval,↓tcd,Tryz.f102,n32_ones,xor32]
   refine awpLoop_intro (α := {k : Nat // k ≤ b.length}) (fun k => ⟨[.any,.bytes b none,.any,.any,.any,.int .u32 (n32 (feed (4294967295#32 ^^^ x) (b.take k.1))),.int .i64 (k.1 : Int),.any,.any,.any,.any,.any,.any,.any,.any,.any,.any,.any,.any,.any,.any,.any,.any,.any,.any,.any,.any,.any,.any],[],[]⟩) (fun k => b.length - k.1) ⟨0,by omega⟩ ?_ ?_
   · simp (maxSteps:=2000000) only[bitvec_to_nat,seval,↓tcd]
     all_goals first | rfl | exact ⟨rfl,rfl⟩
   · rintro ⟨k,hk⟩
     simp (maxSteps:=2000000) only[bitvec_to_nat,seval,↓tcd,Tryz.f102,entryM,throughM,wrap8,mod32_256,ofInt_n32,div32_256,xor32]
     have hl : decide ((k : Int) < (b.length : Int)) = decide (k < b.length) := decide_eq_decide.2 (by omega)
     rw [hl]
     refine awpIf_intro (fun h => ?_) (fun h => ?_) <;> simp only [decide_eq_true_eq,decide_eq_false_iff_not] at h
     · refine ⟨⟨by omega,by omega⟩,n32_bound _,⟨k + 1,by omega⟩,⟨?_,?_⟩,by simp; omega⟩
       · rw [feed_take _ h,byte_step,Int.toNat_natCast]
       · rw [i64w (by omega) (by omega)]; simp
     · have hk : k = b.length := by omega
       subst hk
       rw [List.take_length,← crc_feed,n32_ones,xor32]
 · cases hm
def sumM : FM
 | [.bytes b _] => some (b.length ≤ 549755813888,.int .u32 (crc 0 b),[])
 | _ => none
def GS : Fns := { fn := fun f => if f = 115 then some addM else if f = 102 then some raddM else GA.fn f,mu := fun d => .no,hp := fun f => GA.hp f,ord := fun i => none,it := fun f => GA.it f }
theorem GS_fn (f : FuncId) : GS.fn f = (if f = 115 then some addM else if f = 102 then some raddM else GA.fn f) := rfl
theorem GS_mu (d : Tmp) : GS.mu d = (.no) := rfl
theorem GS_hp (f : FuncId) : GS.hp f = (GA.hp f) := rfl
theorem GS_ord (i : Nat) : GS.ord i = (none) := rfl
theorem GS_it (f : FuncId) : GS.it f = (GA.it f) := rfl
theorem GS_hy (b : Nat) : GS.hy b = none := rfl
theorem GSok : FnsOk Tryz.prog GS := FnsOk.same (FnsOk.cons (FnsOk.cons GAok _ _ radd_ok Tryz.func102 (by decide) (fun h => by cases h)) _ _ add_ok Tryz.func115 (by decide) (fun h => by cases h)) rfl rfl
attribute [bitvec_to_nat] GS_fn GS_mu GS_hp GS_ord GS_it GS_hy
theorem sum_ok : FSound Tryz.prog 101 sumM := by
 refine fsound tysOk GSok mix Tryz.func101 rfl ?_
 intro args p r fr hm hp
 unfold sumM at hm
 split at hm
 · rename_i b t
   cases hm
   simp (maxSteps:=2000000) only[bitvec_to_nat,seval,↓tcd,Tryz.f101,addM]
   exact hp
 · cases hm
def rsumM : FM := sumM
theorem rsum_ok : FSound Tryz.prog 94 rsumM := by
 refine fsound tysOk GSok mix Tryz.func94 rfl ?_
 intro args p r fr hm hp
 unfold rsumM sumM at hm
 split at hm
 · rename_i b t
   cases hm
   simp (maxSteps:=2000000) only[bitvec_to_nat,seval,↓tcd,Tryz.f94,raddM,addM]
   exact hp
 · cases hm
def GF : Fns := { fn := fun f => if f = 101 then some sumM else if f = 94 then some rsumM else GS.fn f,mu := fun d => .no,hp := fun f => GS.hp f,ord := fun i => none,it := fun f => GS.it f }
theorem GF_fn (f : FuncId) : GF.fn f = (if f = 101 then some sumM else if f = 94 then some rsumM else GS.fn f) := rfl
theorem GF_mu (d : Tmp) : GF.mu d = (.no) := rfl
theorem GF_hp (f : FuncId) : GF.hp f = (GS.hp f) := rfl
theorem GF_ord (i : Nat) : GF.ord i = (none) := rfl
theorem GF_it (f : FuncId) : GF.it f = (GS.it f) := rfl
theorem GF_hy (b : Nat) : GF.hy b = none := rfl
attribute [bitvec_to_nat] GF_fn GF_mu GF_hp GF_ord GF_it GF_hy
def GL : Fns := { fn := fun f => GF.fn f,mu := fun d => .no,hp := fun f => GF.hp f,ord := fun i => none,it := fun f => GF.it f }
theorem GL_fn (f : FuncId) : GL.fn f = (GF.fn f) := rfl
theorem GL_mu (d : Tmp) : GL.mu d = (.no) := rfl
theorem GL_hp (f : FuncId) : GL.hp f = (GF.hp f) := rfl
theorem GL_ord (i : Nat) : GL.ord i = (none) := rfl
theorem GL_it (f : FuncId) : GL.it f = (GF.it f) := rfl
theorem GL_hy (b : Nat) : GL.hy b = none := rfl
attribute [bitvec_to_nat] GL_fn GL_mu GL_hp GL_ord GL_it GL_hy
end Go.Proofs.YthlmfalfnpjndaaGreat.Crc
