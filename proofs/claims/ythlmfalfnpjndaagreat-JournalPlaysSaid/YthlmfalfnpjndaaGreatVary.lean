import Derived.Test.YthlmfalfnpjndaaGreatAwX
import Derived.Test.YthlmfalfnpjndaaGreatProg
import Derived.Test.YthlmfalfnpjndaaGreatVaryM
import Derived.Test.YthlmfalfnpjndaaGreatNum
import Derived.KernelRfl
namespace Go.Proofs.YthlmfalfnpjndaaGreat.Vary
open Go Go.Proofs Aw VaryM Num
set_option linter.unusedSimpArgs false
set_option linter.unusedVariables false
def tys : Tys := fun t => if t = 2 then some ⟨.int .i64,1,8,(.int .i64 0)⟩ else if t = 3 then some ⟨.int .i64,1,8,(.int .i64 0)⟩ else if t = 4 then some ⟨.bool,1,1,(.bool false)⟩ else if t = 5 then some ⟨.int .u8,1,1,(.int .u8 0)⟩ else if t = 9 then some ⟨.str,1,16,(.string .empty)⟩ else if t = 32 then some ⟨.slice 5,1,24,(.slice none 0 0)⟩ else if t = 36 then some ⟨.int .i64,1,8,(.int .i64 0)⟩ else if t = 111 then some ⟨.int .u64,1,8,(.int .u64 0)⟩ else if t = 133 then some ⟨.int .u64,1,8,(.int .u64 0)⟩ else none
theorem tysOk : TyOk Tryz.prog tys := by
 refine TyOk.cons ?_ 2 _ (by kernel_rfl) (by kernel_rfl)
 refine TyOk.cons ?_ 3 _ (by kernel_rfl) (by kernel_rfl)
 refine TyOk.cons ?_ 4 _ (by kernel_rfl) (by kernel_rfl)
 refine TyOk.cons ?_ 5 _ (by kernel_rfl) (by kernel_rfl)
 refine TyOk.cons ?_ 9 _ (by kernel_rfl) (by kernel_rfl)
 refine TyOk.cons ?_ 32 _ (by kernel_rfl) (by kernel_rfl)
 refine TyOk.cons ?_ 36 _ (by kernel_rfl) (by kernel_rfl)
 refine TyOk.cons ?_ 111 _ (by kernel_rfl) (by kernel_rfl)
 refine TyOk.cons ?_ 133 _ (by kernel_rfl) (by kernel_rfl)
 exact TyOk.nil _
theorem mix : Tryz.prog.follows .mixedOrders = true := by kernel_rfl
theorem ty2 : tys 2 = some ⟨.int .i64,1,8,(.int .i64 0)⟩ := rfl
theorem tk2 : kindV tys 2 = some (.int .i64) := rfl
theorem ts2 : sizeV tys 2 = 1 := rfl
theorem ta2 : TyI.isAgg ⟨.int .i64,1,8,(.int .i64 0)⟩ = false := rfl
theorem tu2 : isU8 ⟨.int .i64,1,8,(.int .i64 0)⟩ = false := rfl
theorem tn2 : notIntK tys 2 = false := rfl
theorem tr2 : isStrK tys 2 = false := rfl
theorem tv2 : zeroU8 ⟨.int .i64,1,8,(.int .i64 0)⟩ = false := rfl
theorem td2 : TyI.zeroV ⟨.int .i64,1,8,(.int .i64 0)⟩ = V.ofV1 (.int .i64 0) := rfl
theorem ty3 : tys 3 = some ⟨.int .i64,1,8,(.int .i64 0)⟩ := rfl
theorem tk3 : kindV tys 3 = some (.int .i64) := rfl
theorem ts3 : sizeV tys 3 = 1 := rfl
theorem ta3 : TyI.isAgg ⟨.int .i64,1,8,(.int .i64 0)⟩ = false := rfl
theorem tu3 : isU8 ⟨.int .i64,1,8,(.int .i64 0)⟩ = false := rfl
theorem tn3 : notIntK tys 3 = false := rfl
theorem tr3 : isStrK tys 3 = false := rfl
theorem tv3 : zeroU8 ⟨.int .i64,1,8,(.int .i64 0)⟩ = false := rfl
theorem td3 : TyI.zeroV ⟨.int .i64,1,8,(.int .i64 0)⟩ = V.ofV1 (.int .i64 0) := rfl
theorem ty4 : tys 4 = some ⟨.bool,1,1,(.bool false)⟩ := rfl
theorem tk4 : kindV tys 4 = some (.bool) := rfl
theorem ts4 : sizeV tys 4 = 1 := rfl
theorem ta4 : TyI.isAgg ⟨.bool,1,1,(.bool false)⟩ = false := rfl
theorem tu4 : isU8 ⟨.bool,1,1,(.bool false)⟩ = false := rfl
theorem tn4 : notIntK tys 4 = true := rfl
theorem tr4 : isStrK tys 4 = false := rfl
theorem tv4 : zeroU8 ⟨.bool,1,1,(.bool false)⟩ = false := rfl
theorem td4 : TyI.zeroV ⟨.bool,1,1,(.bool false)⟩ = V.ofV1 (.bool false) := rfl
theorem ty5 : tys 5 = some ⟨.int .u8,1,1,(.int .u8 0)⟩ := rfl
theorem tk5 : kindV tys 5 = some (.int .u8) := rfl
theorem ts5 : sizeV tys 5 = 1 := rfl
theorem ta5 : TyI.isAgg ⟨.int .u8,1,1,(.int .u8 0)⟩ = false := rfl
theorem tu5 : isU8 ⟨.int .u8,1,1,(.int .u8 0)⟩ = true := rfl
theorem tn5 : notIntK tys 5 = false := rfl
theorem tr5 : isStrK tys 5 = false := rfl
theorem tz5 : zeroOk ⟨.int .u8,1,1,(.int .u8 0)⟩ = true := by kernel_rfl
theorem tv5 : zeroU8 ⟨.int .u8,1,1,(.int .u8 0)⟩ = true := rfl
theorem td5 : TyI.zeroV ⟨.int .u8,1,1,(.int .u8 0)⟩ = V.ofV1 (.int .u8 0) := rfl
theorem ty9 : tys 9 = some ⟨.str,1,16,(.string .empty)⟩ := rfl
theorem tk9 : kindV tys 9 = some (.str) := rfl
theorem ts9 : sizeV tys 9 = 1 := rfl
theorem ta9 : TyI.isAgg ⟨.str,1,16,(.string .empty)⟩ = false := rfl
theorem tu9 : isU8 ⟨.str,1,16,(.string .empty)⟩ = false := rfl
theorem tn9 : notIntK tys 9 = true := rfl
theorem tr9 : isStrK tys 9 = true := rfl
theorem tv9 : zeroU8 ⟨.str,1,16,(.string .empty)⟩ = false := rfl
theorem td9 : TyI.zeroV ⟨.str,1,16,(.string .empty)⟩ = V.ofV1 (.string .empty) := rfl
theorem ty32 : tys 32 = some ⟨.slice 5,1,24,(.slice none 0 0)⟩ := rfl
theorem tk32 : kindV tys 32 = some (.slice 5) := rfl
theorem ts32 : sizeV tys 32 = 1 := rfl
theorem ta32 : TyI.isAgg ⟨.slice 5,1,24,(.slice none 0 0)⟩ = false := rfl
theorem tb32 : isBytes tys 32 = true := rfl
theorem te32 : elemI tys 32 = some (5,⟨.int .u8,1,1,(.int .u8 0)⟩) := rfl
theorem tu32 : isU8 ⟨.slice 5,1,24,(.slice none 0 0)⟩ = false := rfl
theorem tn32 : notIntK tys 32 = true := rfl
theorem tr32 : isStrK tys 32 = false := rfl
theorem tz32 : zeroOk ⟨.slice 5,1,24,(.slice none 0 0)⟩ = true := by kernel_rfl
theorem tv32 : zeroU8 ⟨.slice 5,1,24,(.slice none 0 0)⟩ = false := rfl
theorem td32 : TyI.zeroV ⟨.slice 5,1,24,(.slice none 0 0)⟩ = V.ofV1 (.slice none 0 0) := rfl
theorem ty36 : tys 36 = some ⟨.int .i64,1,8,(.int .i64 0)⟩ := rfl
theorem tk36 : kindV tys 36 = some (.int .i64) := rfl
theorem ts36 : sizeV tys 36 = 1 := rfl
theorem ta36 : TyI.isAgg ⟨.int .i64,1,8,(.int .i64 0)⟩ = false := rfl
theorem tu36 : isU8 ⟨.int .i64,1,8,(.int .i64 0)⟩ = false := rfl
theorem tn36 : notIntK tys 36 = false := rfl
theorem tr36 : isStrK tys 36 = false := rfl
theorem tv36 : zeroU8 ⟨.int .i64,1,8,(.int .i64 0)⟩ = false := rfl
theorem td36 : TyI.zeroV ⟨.int .i64,1,8,(.int .i64 0)⟩ = V.ofV1 (.int .i64 0) := rfl
theorem ty111 : tys 111 = some ⟨.int .u64,1,8,(.int .u64 0)⟩ := rfl
theorem tk111 : kindV tys 111 = some (.int .u64) := rfl
theorem ts111 : sizeV tys 111 = 1 := rfl
theorem ta111 : TyI.isAgg ⟨.int .u64,1,8,(.int .u64 0)⟩ = false := rfl
theorem tu111 : isU8 ⟨.int .u64,1,8,(.int .u64 0)⟩ = false := rfl
theorem tn111 : notIntK tys 111 = false := rfl
theorem tr111 : isStrK tys 111 = false := rfl
theorem tv111 : zeroU8 ⟨.int .u64,1,8,(.int .u64 0)⟩ = false := rfl
theorem td111 : TyI.zeroV ⟨.int .u64,1,8,(.int .u64 0)⟩ = V.ofV1 (.int .u64 0) := rfl
theorem ty133 : tys 133 = some ⟨.int .u64,1,8,(.int .u64 0)⟩ := rfl
theorem tk133 : kindV tys 133 = some (.int .u64) := rfl
theorem ts133 : sizeV tys 133 = 1 := rfl
theorem ta133 : TyI.isAgg ⟨.int .u64,1,8,(.int .u64 0)⟩ = false := rfl
theorem tu133 : isU8 ⟨.int .u64,1,8,(.int .u64 0)⟩ = false := rfl
theorem tn133 : notIntK tys 133 = false := rfl
theorem tr133 : isStrK tys 133 = false := rfl
theorem tv133 : zeroU8 ⟨.int .u64,1,8,(.int .u64 0)⟩ = false := rfl
theorem td133 : TyI.zeroV ⟨.int .u64,1,8,(.int .u64 0)⟩ = V.ofV1 (.int .u64 0) := rfl
set_option linter.defProp false in
def tcd := And.intro @r_ifTrue (@r_ifFalse)
attribute [bitvec_to_nat] ty2 tk2 ts2 ta2 tu2 tn2 tr2 tv2 td2 ty3 tk3 ts3 ta3 tu3 tn3 tr3 tv3 td3 ty4 tk4 ts4 ta4 tu4 tn4 tr4 tv4 td4 ty5 tk5 ts5 ta5 tu5 tn5 tr5 tz5 tv5 td5 ty9 tk9 ts9 ta9 tu9 tn9 tr9 tv9 td9 ty32 tk32 ts32 ta32 tb32 te32 tu32 tn32 tr32 tz32 tv32 td32 ty36 tk36 ts36 ta36 tu36 tn36 tr36 tv36 td36 ty111 tk111 ts111 ta111 tu111 tn111 tr111 tv111 td111 ty133 tk133 ts133 ta133 tu133 tn133 tr133 tv133 td133
def G0 : Fns := { fn := fun _ => none }
theorem G0_fn (f : FuncId) : G0.fn f = none := rfl
theorem G0_mu (d : Tmp) : G0.mu d = .no := rfl
theorem G0_hp (f : FuncId) : G0.hp f = none := rfl
theorem G0_ord (i : Nat) : G0.ord i = none := rfl
theorem G0_it (f : FuncId) : G0.it f = none := rfl
theorem G0_hy (b : Nat) : G0.hy b = none := rfl
theorem G0ok : FnsOk Tryz.prog G0 := FnsOk.nil _ rfl rfl
attribute [bitvec_to_nat] G0_fn G0_mu G0_hp G0_ord G0_it G0_hy
def roomyM : FM
 | [.bytes b _,.int .i64 r] => some (0 ≤ r ∧ r ≤ 1000 ∧ b.length ≤ 1099511627776,.bytes b (some 0),[(b.length,5)])
 | _ => none
theorem roomy_ok : FSound Tryz.prog 92 roomyM := by
 refine fsound tysOk G0ok mix Tryz.func92 rfl ?_
 intro args p r fr hm hp
 unfold roomyM at hm
 split at hm
 · rename_i b t r
   cases hm
   obtain ⟨h0,h1,h2⟩ := hp
   simp (maxSteps:=2000000) only[bitvec_to_nat,seval,↓tcd,Tryz.f92]
   rw [i64w (by omega) (by omega)]
   exact ⟨⟨by omega,by omega,by omega⟩,by unfold maxBytes; omega,0,rfl,rfl⟩
 · cases hm
def sizedB (n : Int) : Bool := decide (1 ≤ n ∧ n ≤ 8)
def sizedM : FM
 | [.int .i64 n] => some (True,.bool (sizedB n),[])
 | _ => none
theorem sized_ok : FSound Tryz.prog 91 sizedM := by
 refine fsound tysOk G0ok mix Tryz.func91 rfl ?_
 intro args p r fr hm hp
 unfold sizedM at hm
 split at hm
 · rename_i n
   cases hm
   simp (maxSteps:=2000000) only[bitvec_to_nat,seval,↓tcd,Tryz.f91]
   refine awpIf_intro (fun h => ?_) (fun h => ?_) <;> simp at h <;> simp [sizedB] <;> omega
 · cases hm
def putM : FM
 | [.bytes b _,.int .u64 n] => some (0 ≤ n ∧ n ≤ 18446744073709551615 ∧ b.length ≤ 549755813888,.bytes (b ++ leb n.toNat) (some 0),[((b ++ leb n.toNat).length,5)])
 | _ => none
def G1 : Fns := { fn := fun f => if f = 92 then some roomyM else G0.fn f,mu := fun d => .no,hp := fun f => G0.hp f,ord := fun i => none,it := fun f => G0.it f }
theorem G1_fn (f : FuncId) : G1.fn f = (if f = 92 then some roomyM else G0.fn f) := rfl
theorem G1_mu (d : Tmp) : G1.mu d = (.no) := rfl
theorem G1_hp (f : FuncId) : G1.hp f = (G0.hp f) := rfl
theorem G1_ord (i : Nat) : G1.ord i = (none) := rfl
theorem G1_it (f : FuncId) : G1.it f = (G0.it f) := rfl
theorem G1_hy (b : Nat) : G1.hy b = none := rfl
theorem G1ok : FnsOk Tryz.prog G1 := FnsOk.same (FnsOk.cons G0ok _ _ roomy_ok Tryz.func92 (by decide) (fun h => by cases h)) rfl rfl
attribute [bitvec_to_nat] G1_fn G1_mu G1_hp G1_ord G1_it G1_hy
def fixF (b : List UInt8) (n : Int) (size : Int) : List UInt8 := if 1 ≤ size ∧ size ≤ 8 then b ++ be size.toNat n.toNat else b
def fixM : FM
 | [.bytes b _,.int .u64 n,.int .i64 size] => some (0 ≤ n ∧ n ≤ 18446744073709551615 ∧ b.length ≤ 549755813888,.bytes (fixF b n size) (some 0),[((fixF b n size).length,5)])
 | _ => none
def G2 : Fns := { fn := fun f => if f = 91 then some sizedM else G1.fn f,mu := fun d => .no,hp := fun f => G1.hp f,ord := fun i => none,it := fun f => G1.it f }
theorem G2_fn (f : FuncId) : G2.fn f = (if f = 91 then some sizedM else G1.fn f) := rfl
theorem G2_mu (d : Tmp) : G2.mu d = (.no) := rfl
theorem G2_hp (f : FuncId) : G2.hp f = (G1.hp f) := rfl
theorem G2_ord (i : Nat) : G2.ord i = (none) := rfl
theorem G2_it (f : FuncId) : G2.it f = (G1.it f) := rfl
theorem G2_hy (b : Nat) : G2.hy b = none := rfl
theorem G2ok : FnsOk Tryz.prog G2 := FnsOk.same (FnsOk.cons G1ok _ _ sized_ok Tryz.func91 (by decide) (fun h => by cases h)) rfl rfl
attribute [bitvec_to_nat] G2_fn G2_mu G2_hp G2_ord G2_it G2_hy
theorem fix_ok : FSound Tryz.prog 71 fixM := by
 refine fsound tysOk G2ok mix Tryz.func71 rfl ?_
 intro args p r fr hm hp
 unfold fixM at hm
 split at hm
 · rename_i b t n size
   cases hm
   obtain ⟨h0,h1,h2⟩ := hp
   obtain ⟨m,rfl⟩ := Int.eq_ofNat_of_zero_le h0
   simp (maxSteps:=2000000) only[bitvec_to_nat,seval,↓tcd,Tryz.f71,roomyM,sizedM]
   refine awpIf_intro (fun h => ?_) (fun h => ?_)
   · have hs : 1 ≤ size ∧ size ≤ 8 := by simpa [sizedB] using h
     refine ⟨⟨by omega,by omega,by omega⟩,?_⟩
     rw [i64w (by omega) (by omega)]
     refine awpLoop_intro (α := {k : Nat // k ≤ size.toNat})
      (fun k => ⟨[.any,.int .u64 m,.any,.any,.any,.any,.any,.bytes (b ++ (be size.toNat m).take (size.toNat - k.1)) (some 0),.int .i64 ((k.1 : Int) - 1),.any,.any,.any,.any,.any,.any,.any,.any,.any,.any,.any,.any,.any,.any,.any,.any,.any,.any,.any,.any,.any,.any,.any],[],[((b ++ (be size.toNat m).take (size.toNat - k.1)).length,5)]⟩) (fun k => k.1)
      ⟨size.toNat,by omega⟩ ?_ ?_
     · simp (maxSteps:=2000000) only[bitvec_to_nat,seval,↓tcd]
       simp
       omega
     · rintro ⟨k,hk⟩
       simp (maxSteps:=2000000) only[bitvec_to_nat,seval,↓tcd]
       obtain ⟨s,rfl⟩ := Int.eq_ofNat_of_zero_le (show 0 ≤ size by omega)
       refine awpIf_intro (fun h => ?_) (fun h => ?_)
       · simp only [decide_eq_true_eq] at h
         obtain ⟨k,rfl⟩ : ∃ k',k = k' + 1 := ⟨k - 1,by omega⟩
         have e1 : ((k + 1 : Nat) : Int) - 1 = (k : Int) := by omega
         rw [e1,i64w (n := 8 * (k : Int)) (by omega) (by omega),i64w (n := (k : Int) - 1) (by omega) (by omega),shr8 _ _ (by omega),u8nat]
         have hl : ((be s m).take (s - (k + 1))).length = s - (k + 1) := by rw [List.length_take,be_length]; omega
         simp only [Int.toNat_natCast]
         refine ⟨by omega,by omega,by first | exact mb _ (by simp only [List.length_append,hl]; omega) | exact mb _ (by simp only [hl]; omega) | exact mb _ (by omega),⟨⟨k,by omega⟩,?_⟩⟩
         have e2 : s - k = (s - (k + 1)) + 1 := by omega
         have e3 : s - 1 - (s - (k + 1)) = k := by omega
         rw [e2,be_take s m _ (by omega),e3]
         simp
       · simp only [decide_eq_false_iff_not] at h
         have hk0 : k = 0 := by omega
         subst hk0
         have hf : fixF b m s = b ++ be s m := by unfold fixF; rw [if_pos hs]; rfl
         have ht : (be s m).take s = be s m := List.take_of_length_le (by rw [be_length]; omega)
         simp only [Int.toNat_natCast,Nat.sub_zero]
         rw [hf,ht]
         exact ⟨0,rfl,rfl,rfl⟩
   · have hs : ¬ (1 ≤ size ∧ size ≤ 8) := by simpa [sizedB] using h
     have hf : fixF b m size = b := by unfold fixF; rw [if_neg hs]
     rw [hf]
     exact ⟨by omega,0,rfl,rfl,rfl⟩
 · cases hm
end Go.Proofs.YthlmfalfnpjndaaGreat.Vary
namespace Go.Proofs.YthlmfalfnpjndaaGreat.Vary
open Go Go.Proofs Aw VaryM Num
set_option linter.unusedSimpArgs false
set_option linter.unusedVariables false
theorem beVal_succ (b : List UInt8) (k : Nat) (h : k < b.length) : beVal 0 (b.take (k + 1)) = beVal 0 (b.take k) * 256 + (b.getD k 0).toNat := by
 have : b.take (k + 1) = b.take k ++ [b.getD k 0] := by
  rw [List.take_succ_eq_append_getElem h,List.getD_eq_getElem?_getD,List.getElem?_eq_getElem h]; rfl
 rw [this,beVal_append]; rfl
theorem beVal_take_lt (b : List UInt8) (k s : Nat) (h : k ≤ s) : beVal 0 (b.take k) < 256 ^ s := by
 have h1 := beVal_lt (b.take k) 0
 have h2 : 256 ^ (b.take k).length ≤ 256 ^ s := Nat.pow_le_pow_right (by omega) (by rw [List.length_take]; omega)
 omega
theorem getD_take (b : List UInt8) (k s : Nat) (h : k < s) : (b.take s).getD k 0 = b.getD k 0 := by
 rw [List.getD_eq_getElem?_getD,List.getD_eq_getElem?_getD,List.getElem?_take,if_pos h]
def unfixF (b : List UInt8) (size : Int) : Nat × List UInt8 × Int :=
 if 1 ≤ size ∧ size ≤ 8 then (if (b.length : Int) < size then (0,[],5) else (beVal 0 (b.take size.toNat),b.drop size.toNat,0)) else (0,[],1)
def unfixM : FM
 | [.bytes b _,.int .i64 size] => some (b.length ≤ 549755813888,.tuple [.int .u64 (unfixF b size).1,.bytes (unfixF b size).2.1 none,.int .i64 (unfixF b size).2.2],[])
 | _ => none
theorem unfix_ok : FSound Tryz.prog 98 unfixM := by
 refine fsound tysOk G2ok mix Tryz.func98 rfl ?_
 intro args p r fr hm hp
 unfold unfixM at hm
 split at hm
 · rename_i b t size
   cases hm
   simp (maxSteps:=2000000) only[bitvec_to_nat,seval,↓tcd,Tryz.f98,roomyM,sizedM]
   refine awpIf_intro (fun h => ?_) (fun h => ?_)
   · have hs : 1 ≤ size ∧ size ≤ 8 := by simpa [sizedB] using h
     refine awpIf_intro (fun h => ?_) (fun h => ?_)
     · simp only [decide_eq_true_eq] at h
       rw [show unfixF b size = (0,[],5) by unfold unfixF; rw [if_pos hs,if_pos h]]
       exact ⟨rfl,rfl,rfl⟩
     · simp only [decide_eq_false_iff_not] at h
       obtain ⟨s,rfl⟩ := Int.eq_ofNat_of_zero_le (show 0 ≤ size by omega)
       have hu : unfixF b s = (beVal 0 (b.take s),b.drop s,0) := by unfold unfixF; rw [if_pos hs,if_neg h]; rfl
       have htl : (b.take s).length = s := by rw [List.length_take]; omega
       refine ⟨by omega,?_⟩
       simp only [Int.toNat_natCast,htl]
       refine awpLoop_intro (α := {k : Nat // k ≤ s})
        (fun k => ⟨[.bytes b none,.int .i64 s,.any,.any,.any,.nils,.any,.int .u64 (beVal 0 (b.take k.1)),.any,.any,.any,.any,.any,.any,.any,.any,.any,.any,.any,.bytes (b.take s) none,.int .i64 s,.int .i64 k.1,.any,.any,.any,.any,.any,.any,.any,.any,.any,.any,.any,.any,.any,.any],[],[]⟩) (fun k => s - k.1)
        ⟨0,by omega⟩ ?_ ?_
       · simp (maxSteps:=2000000) only[bitvec_to_nat,seval,↓tcd]
         simp [beVal]
       · rintro ⟨k,hk⟩
         simp (maxSteps:=2000000) only[bitvec_to_nat,seval,↓tcd,roomyM,sizedM]
         refine awpIf_intro (fun h' => ?_) (fun h' => ?_) <;> simp only [decide_eq_true_eq,decide_eq_false_iff_not] at h'
         · refine ⟨⟨by omega,by rw [htl]; omega⟩,⟨k + 1,by omega⟩,⟨?_,by rw [i64w (by omega) (by omega)]; simp⟩,by simp only; omega⟩
           have hb := beVal_take_lt b k 7 (by omega)
           have hc := (b.getD k 0).toNat_lt
           have e7 : (256 : Nat) ^ 7 = 72057594037927936 := by decide
           simp only [Int.toNat_natCast,getD_take b k s (by omega)]
           rw [u64w (by omega) (by omega),show ((8 : Int)) = ((8 : Nat) : Int) from rfl,shl64 _ _ (by omega),Nat.mod_eq_of_lt (by omega),beVal_succ b k (by omega),orK_comm,or64_add (by omega) (by omega)]
           omega
         · have hk : k = s := by omega
           subst hk
           simp only [Int.toNat_natCast,hu]
           exact ⟨by omega,by rw [List.length_drop]; omega,trivial,trivial,trivial⟩
   · have hs : ¬ (1 ≤ size ∧ size ≤ 8) := by simpa [sizedB] using h
     rw [show unfixF b size = (0,[],1) by unfold unfixF; rw [if_neg hs]]
     exact ⟨rfl,rfl,rfl⟩
 · cases hm
theorem runfix_ok : FSound Tryz.prog 87 unfixM := by
 refine fsound tysOk G0ok mix Tryz.func87 rfl ?_
 intro args p r fr hm hp
 unfold unfixM at hm
 split at hm
 · rename_i b t size
   cases hm
   simp (maxSteps:=2000000) only[bitvec_to_nat,seval,↓tcd,Tryz.f87]
   refine awpIf_intro (fun h => ?_) (fun h => ?_)
   · simp only [decide_eq_true_eq] at h
     rw [show unfixF b size = (0,[],1) by unfold unfixF; rw [if_neg (by omega)]]
     exact ⟨rfl,rfl,rfl⟩
   simp only [decide_eq_false_iff_not] at h
   refine awpIf_intro (fun h => ?_) (fun h => ?_)
   · simp only [decide_eq_true_eq] at h
     rw [show unfixF b size = (0,[],1) by unfold unfixF; rw [if_neg (by omega)]]
     exact ⟨rfl,rfl,rfl⟩
   rename_i h1
   simp only [decide_eq_false_iff_not] at h
   have hs : 1 ≤ size ∧ size ≤ 8 := by omega
   refine awpIf_intro (fun h => ?_) (fun h => ?_)
   · simp only [decide_eq_true_eq] at h
     rw [show unfixF b size = (0,[],5) by unfold unfixF; rw [if_pos hs,if_pos h]]
     exact ⟨rfl,rfl,rfl⟩
   simp only [decide_eq_false_iff_not] at h
   obtain ⟨s,rfl⟩ := Int.eq_ofNat_of_zero_le (show 0 ≤ size by omega)
   have hu : unfixF b s = (beVal 0 (b.take s),b.drop s,0) := by unfold unfixF; rw [if_pos hs,if_neg h]; rfl
   refine awpLoop_intro (α := {k : Nat // k ≤ s})
    (fun k => ⟨[.bytes b none,.int .i64 s,.any,.any,.any,.nils,.any,.int .u64 (beVal 0 (b.take k.1)),.int .i64 k.1,.any,.any,.any,.any,.any,.any,.any,.any,.any,.any,.any,.any,.any,.any,.any,.any,.any,.any,.any,.any,.any,.any,.any,.any,.any,.any,.any,.any,.any],[],[]⟩) (fun k => s - k.1)
    ⟨0,by omega⟩ ?_ ?_
   · simp (maxSteps:=2000000) only[bitvec_to_nat,seval,↓tcd]
     simp [beVal]
   · rintro ⟨k,hk⟩
     simp (maxSteps:=2000000) only[bitvec_to_nat,seval,↓tcd]
     refine awpIf_intro (fun h' => ?_) (fun h' => ?_) <;> simp only [decide_eq_true_eq,decide_eq_false_iff_not] at h'
     · refine ⟨by omega,⟨k + 1,by omega⟩,⟨?_,by rw [i64w (by omega) (by omega)]; simp⟩,by simp only; omega⟩
       have hb := beVal_take_lt b k 7 (by omega)
       have hc := (b.getD k 0).toNat_lt
       have e7 : (256 : Nat) ^ 7 = 72057594037927936 := by decide
       simp only [Int.toNat_natCast]
       rw [u64w (n := ((b.getD k 0).toNat : Int)) (by omega) (by omega),u64w (n := (beVal 0 (b.take k) : Int) * 256) (by omega) (by omega),u64w (by omega) (by omega),beVal_succ b k (by omega)]
       omega
     · have hk : k = s := by omega
       subst hk
       simp only [Int.toNat_natCast,hu]
       exact ⟨by omega,mb _ (by rw [List.length_drop]; omega),trivial,trivial,trivial⟩
 · cases hm
end Go.Proofs.YthlmfalfnpjndaaGreat.Vary
