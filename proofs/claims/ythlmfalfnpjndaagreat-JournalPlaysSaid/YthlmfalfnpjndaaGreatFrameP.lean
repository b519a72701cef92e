import Derived.Test.YthlmfalfnpjndaaGreatAwX
import Derived.Test.YthlmfalfnpjndaaGreatFrame
namespace Go.Proofs.YthlmfalfnpjndaaGreat.Frame
open Go Go.Proofs Aw CrcM CrcN Num VaryM FrameM
open Vary (fixM fixF unfixM unfixF)
open Crc (sumM rsumM)
set_option linter.unusedSimpArgs false
set_option linter.unusedVariables false
theorem frame_drop {b : List UInt8} (h : (takeFr b).2.2 = 0) : b.drop ((takeFr b).1.length + 8) = (takeFr b).2.1 := by
 have h1 := (takeFr_ok h).2
 have h2 := congrArg (List.drop ((takeFr b).1.length + 8)) h1
 rwa [List.drop_left' (frameF_length _)] at h2
def cloneM : FM
 | [.bytes x _] => some (x.length ≤ 1099511627776,.bytes x none,[])
 | _ => none
theorem clone_ok : FSound Tryz.prog 36 cloneM := by
 refine fsound tysOk F5ok mix Tryz.func36 rfl ?_
 intro args p r fr hm hp
 unfold cloneM at hm
 split at hm
 · rename_i x t
   cases hm
   simp (maxSteps:=2000000) only[bitvec_to_nat,seval,↓tcd,Tryz.f36]
   refine awpMay_intro (fun h => ?_) (fun _ => ?_)
   · subst h
     exact rfl
   · exact mb _ (by omega)
 · cases hm
def equalM : FM
 | [.bytes x _,.bytes y _] => some (True,.bool (decide (x = y)),[])
 | _ => none
theorem equal_ok : FSound Tryz.prog 114 equalM := by
 refine fsound tysOk F5ok mix Tryz.func114 rfl ?_
 intro args p r fr hm hp
 unfold equalM at hm
 split at hm
 · rename_i x t y t'
   cases hm
   simp (maxSteps:=2000000) only[bitvec_to_nat,seval,↓tcd,Tryz.f114]
 · cases hm
def laidM : FM
 | [.bytes b _,.bytes c _] => some (b.length + c.length ≤ 1099511627776,.bytes (b ++ c) (some 0),[((b ++ c).length,5)])
 | _ => none
def P1 : Fns := { fn := fun f => F5.fn f,mu := fun d => bif d == 12 then .row else .no,hp := fun f => F5.hp f,ord := fun i => none,it := fun f => F5.it f }
theorem P1_fn (f : FuncId) : P1.fn f = (F5.fn f) := rfl
theorem P1_mu (d : Tmp) : P1.mu d = (bif d == 12 then .row else .no) := rfl
theorem P1_hp (f : FuncId) : P1.hp f = (F5.hp f) := rfl
theorem P1_ord (i : Nat) : P1.ord i = (none) := rfl
theorem P1_it (f : FuncId) : P1.it f = (F5.it f) := rfl
theorem P1_hy (b : Nat) : P1.hy b = none := rfl
theorem P1ok : FnsOk Tryz.prog P1 := FnsOk.same F5ok rfl rfl
attribute [bitvec_to_nat] P1_fn P1_mu P1_hp P1_ord P1_it P1_hy
theorem laid_ok : FSound Tryz.prog 72 laidM := by
 refine fsound tysOk P1ok mix Tryz.func72 rfl ?_
 intro args p r fr hm hp
 unfold laidM at hm
 split at hm
 · rename_i b t c t'
   cases hm
   simp (maxSteps:=2000000) only[bitvec_to_nat,seval,↓tcd,Tryz.f72]
   have ew : IntKind.i64.wrap ((b.length : Int) + (c.length : Int)) = ((b.length + c.length : Nat) : Int) := by rw [i64w (by omega) (by omega)]; omega
   have e1 : min b.length (b.length + c.length) = b.length := by omega
   have e2 : b.take (b.length + c.length) = b := List.take_of_length_le (by omega)
   have e3 : b.length + c.length - b.length = c.length := by omega
   have e4 : c.take c.length = c := List.take_length
   have e5 : (List.map byteV b).length = b.length := List.length_map _
   have e6 : (List.map byteV c).length = c.length := List.length_map _
   have e7 : ((List.replicate (b.length + c.length) (0 : UInt8)).map byteV).length = b.length + c.length := by rw [List.length_map,List.length_replicate]
   have e8 : (List.map byteV b ++ List.drop b.length ((List.replicate (b.length + c.length) (0 : UInt8)).map byteV)).length = b.length + c.length := by rw [List.length_append,List.length_drop,e5,e7]; omega
   rw [ew]
   simp only [Int.toNat_natCast,e1,e2,e3,e4,e5,e6,e7,e8]
   refine ⟨⟨by omega,by omega,by omega,by omega⟩,by omega,⟨by omega,by omega⟩,by omega,b ++ c,?_,by rw [List.length_append],by rw [List.length_append],rfl⟩
   rw [List.take_append_of_le_length (by omega),List.take_of_length_le (by omega),List.drop_of_length_le (by omega),List.append_nil,List.map_append]
 · cases hm
def tailM : FM
 | [.bytes x _] => some (x.length ≤ 274877906944,.bytes (le32 (crcW x)) (some 0),[((le32 (crcW x)).length,5)])
 | _ => none
theorem tail_ok : FSound Tryz.prog 93 tailM := by
 refine fsound tysOk F5ok mix Tryz.func93 rfl ?_
 intro args p r fr hm hp
 unfold tailM at hm
 split at hm
 · rename_i x t
   cases hm
   simp (maxSteps:=2000000) only[bitvec_to_nat,seval,↓tcd,Tryz.f93,sumM]
   have e : ∃ y,crc 0 x = n32 y ∧ le32 (crcW x) = le32 y := ⟨_,crc_W x,rfl⟩
   obtain ⟨y,e1,e2⟩ := e
   rw [e1,e2,byte0,byte1,byte2,byte3]
   exact ⟨by omega,⟨u8wrap_in _,u8wrap_in _,u8wrap_in _,u8wrap_in _⟩,0,rfl,rfl,rfl⟩
 · cases hm
def P2 : Fns := { fn := fun f => if f = 93 then some tailM else if f = 72 then some laidM else if f = 36 then some cloneM else if f = 114 then some equalM else P1.fn f,mu := fun d => .no,hp := fun f => P1.hp f,ord := fun i => none,it := fun f => P1.it f }
theorem P2_fn (f : FuncId) : P2.fn f = (if f = 93 then some tailM else if f = 72 then some laidM else if f = 36 then some cloneM else if f = 114 then some equalM else P1.fn f) := rfl
theorem P2_mu (d : Tmp) : P2.mu d = (.no) := rfl
theorem P2_hp (f : FuncId) : P2.hp f = (P1.hp f) := rfl
theorem P2_ord (i : Nat) : P2.ord i = (none) := rfl
theorem P2_it (f : FuncId) : P2.it f = (P1.it f) := rfl
theorem P2_hy (b : Nat) : P2.hy b = none := rfl
theorem P2ok : FnsOk Tryz.prog P2 := FnsOk.same (FnsOk.cons (FnsOk.cons (FnsOk.cons (FnsOk.cons P1ok _ _ equal_ok Tryz.func114 (by decide) (fun h => by cases h)) _ _ clone_ok Tryz.func36 (by decide) (fun h => by cases h)) _ _ laid_ok Tryz.func72 (by decide) (fun h => by cases h)) _ _ tail_ok Tryz.func93 (by decide) (fun h => by cases h)) rfl rfl
attribute [bitvec_to_nat] P2_fn P2_mu P2_hp P2_ord P2_it P2_hy
theorem seal_ok : FSound Tryz.prog 73 sealM := by
 refine fsound tysOk P2ok mix Tryz.func73 rfl ?_
 intro args p r fr hm hp
 unfold sealM at hm
 split at hm
 · rename_i x t
   cases hm
   simp (maxSteps:=2000000) only[bitvec_to_nat,seval,↓tcd,Tryz.f73,tailM,laidM]
   have h4 : (le32 (crcW x)).length = 4 := rfl
   exact ⟨by omega,by omega,1,rfl,rfl,rfl⟩
 · cases hm
theorem opened_ok : FSound Tryz.prog 99 unsealM := by
 refine fsound tysOk P2ok mix Tryz.func99 rfl ?_
 intro args p r fr hm hp
 unfold unsealM at hm
 split at hm
 · rename_i b t
   cases hm
   simp (maxSteps:=2000000) only[bitvec_to_nat,seval,↓tcd,Tryz.f99,tailM,equalM]
   refine awpIf_intro (fun h => ?_) (fun h => ?_) <;> simp only [decide_eq_true_eq,decide_eq_false_iff_not] at h
   · unfold unsealF
     rw [if_pos (by omega)]
     all_goals first | rfl | exact ⟨rfl,rfl⟩
   · have h4 : 4 ≤ b.length := by omega
     have e : IntKind.i64.wrap ((b.length : Int) - 4) = ((b.length - 4 : Nat) : Int) := by rw [i64w (by omega) (by omega)]; omega
     have hl : (List.take (b.length - 4) b).length = b.length - 4 := by rw [List.length_take]; omega
     have hs : sealF (b.take (b.length - 4)) = b ↔ b.drop (b.length - 4) = le32 (crcW (b.take (b.length - 4))) := by
      unfold sealF
      constructor
      · intro h
        have := congrArg (List.drop (b.length - 4)) h
        rw [List.drop_left' hl] at this
        exact this.symm
      · intro h
        rw [← h,List.take_append_drop]
     rw [e,Int.toNat_natCast]
     refine ⟨by kernel_rfl,⟨by omega,by omega⟩,⟨by omega,by omega⟩,by omega,awpIf_intro (fun h6 => ?_) (fun h6 => ?_)⟩ <;> simp only [decide_eq_true_eq,decide_eq_false_iff_not] at h6
     · unfold unsealF
       rw [if_neg (by omega),if_pos (hs.2 h6)]
       exact ⟨⟨by omega,by omega⟩,rfl,rfl⟩
     · unfold unsealF
       rw [if_neg (by omega),if_neg (fun h => h6 (hs.1 h))]
       all_goals first | rfl | exact ⟨rfl,rfl⟩
 · cases hm
def P3 : Fns := { fn := fun f => if f = 73 then some sealM else if f = 99 then some unsealM else P2.fn f,mu := fun d => .no,hp := fun f => P2.hp f,ord := fun i => none,it := fun f => P2.it f }
theorem P3_fn (f : FuncId) : P3.fn f = (if f = 73 then some sealM else if f = 99 then some unsealM else P2.fn f) := rfl
theorem P3_mu (d : Tmp) : P3.mu d = (.no) := rfl
theorem P3_hp (f : FuncId) : P3.hp f = (P2.hp f) := rfl
theorem P3_ord (i : Nat) : P3.ord i = (none) := rfl
theorem P3_it (f : FuncId) : P3.it f = (P2.it f) := rfl
theorem P3_hy (b : Nat) : P3.hy b = none := rfl
theorem P3ok : FnsOk Tryz.prog P3 := FnsOk.same (FnsOk.cons (FnsOk.cons P2ok _ _ opened_ok Tryz.func99 (by decide) (fun h => by cases h)) _ _ seal_ok Tryz.func73 (by decide) (fun h => by cases h)) rfl rfl
attribute [bitvec_to_nat] P3_fn P3_mu P3_hp P3_ord P3_it P3_hy
theorem put_ok : FSound Tryz.prog 39 putM := by
 refine fsound tysOk P3ok mix Tryz.func39 rfl ?_
 intro args p r fr hm hp
 unfold putM at hm
 split at hm
 · rename_i b t x t'
   split at hm
   · rename_i hx
     cases hm
     simp (maxSteps:=2000000) only[bitvec_to_nat,seval,↓tcd,Tryz.f39,fixM,sealM,laidM]
     have e : decide (4096 < (x.length : Int)) = true := decide_eq_true (by omega)
     rw [e]
     simp only [r_ifTrue]
   · rename_i hx
     cases hm
     simp (maxSteps:=2000000) only[bitvec_to_nat,seval,↓tcd,Tryz.f39,fixM,sealM,laidM]
     have e : decide (4096 < (x.length : Int)) = false := decide_eq_false (by omega)
     rw [e,u64w (by omega) (by omega)]
     simp only [r_ifFalse]
     have hfx : fixF [] (x.length : Int) 4 = be 4 x.length := by unfold fixF; simp
     rw [hfx]
     have hb4 : (be 4 x.length).length = 4 := be_length _ _
     have hbx : (be 4 x.length ++ x).length = x.length + 4 := by rw [List.length_append]; omega
     have hs := sealF_length (be 4 x.length ++ x)
     exact ⟨⟨by omega,by omega⟩,by omega,by omega,by omega,3,rfl,rfl,rfl⟩
 · cases hm
def firstM : FM
 | [.bytes b _] => some (b.length ≤ 274877906944,.tuple [.bytes (takeFr b).1 none,.int .i64 (if (takeFr b).2.2 = 0 then ((takeFr b).1.length + 8 : Nat) else 0 : Int),.int .i64 (takeFr b).2.2],[])
 | _ => none
theorem first_ok : FSound Tryz.prog 81 firstM := by
 refine fsound tysOk P3ok mix Tryz.func81 rfl ?_
 intro args p r fr hm hp
 unfold firstM at hm
 split at hm
 · rename_i b t
   cases hm
   have hu : ∀ b : List UInt8,unfixF b 4 = if b.length < 4 then (0,[],5) else (lenF b,b.drop 4,0) := by
    intro b
    unfold unfixF lenF
    rw [if_pos (by omega)]
    by_cases h : b.length < 4
    · rw [if_pos (by omega),if_pos h]
    · rw [if_neg (by omega),if_neg h]; rfl
   simp (maxSteps:=2000000) only[bitvec_to_nat,seval,↓tcd,Tryz.f81,unfixM,unsealM]
   have hmin : (List.take (if 4 < (b.length : Int) then 4 else (b.length : Int)).toNat b) = b.take 4 := by
    split
    · rfl
    · rw [Int.toNat_natCast,List.take_length,List.take_of_length_le (by omega)]
   have hu4 := hu (b.take 4)
   have hlt4 : (b.take 4).length = min 4 b.length := List.length_take
   rw [hmin]
   refine ⟨⟨by split <;> omega,by split <;> omega⟩,by omega,?_⟩
   by_cases h4 : b.length < 4
   · rw [hu4,if_pos (by omega)]
     dsimp only
     unfold takeFr
     rw [if_pos h4]
     have e5 : decide ((5 : Int) = 0) = false := by decide
     simp only [e5,r_ifFalse]
     exact ⟨trivial,by simp,trivial⟩
   · have hle4 : lenF (b.take 4) = lenF b := by unfold lenF; rw [List.take_take]; rfl
     rw [hu4,if_neg (by omega),hle4]
     dsimp only
     have hl := beVal_lt (b.take 4) 0
     have ht4 : (b.take 4).length = 4 := by omega
     have hlf : lenF b < 4294967296 := by rw [ht4] at hl; unfold lenF; omega
     refine awpIf_intro (fun _ => ?_) (fun hf => by simp at hf)
     refine awpIf_intro (fun h => ?_) (fun h => ?_) <;> simp only [decide_eq_true_eq,decide_eq_false_iff_not] at h
     · unfold takeFr
       rw [if_neg h4,if_pos (by omega)]
       all_goals first | rfl | exact ⟨rfl,rfl⟩ | exact ⟨by simp,rfl⟩ | exact ⟨rfl,by simp,rfl⟩
     · have w1 : IntKind.i64.wrap ((lenF b : Nat) : Int) = ((lenF b : Nat) : Int) := i64w (by omega) (by omega)
       have w2 : IntKind.i64.wrap (4 + ((lenF b : Nat) : Int)) = ((lenF b + 4 : Nat) : Int) := by rw [i64w (by omega) (by omega)]; omega
       have w3 : IntKind.i64.wrap (((lenF b + 4 : Nat) : Int) + 4) = ((lenF b + 8 : Nat) : Int) := by rw [i64w (by omega) (by omega)]; omega
       rw [w1,w2,w3,Int.toNat_natCast]
       refine awpIf_intro (fun h5 => ?_) (fun h5 => ?_) <;> simp only [decide_eq_true_eq,decide_eq_false_iff_not] at h5
       · unfold takeFr
         rw [if_neg h4,if_neg (by omega),if_pos (by omega)]
         all_goals first | rfl | exact ⟨rfl,rfl⟩ | exact ⟨by simp,rfl⟩ | exact ⟨rfl,by simp,rfl⟩
       · have hl8 : (b.take (lenF b + 8)).length = lenF b + 8 := by rw [List.length_take]; omega
         refine ⟨⟨by omega,by omega⟩,by omega,awpIf_intro (fun h6 => ?_) (fun h6 => ?_)⟩ <;> simp only [decide_eq_true_eq,decide_eq_false_iff_not] at h6
         · have hx : (unsealF (b.take (lenF b + 8))).1 = b.take (lenF b + 4) := by
            unfold unsealF at h6 ⊢
            rw [if_neg (by omega)] at h6 ⊢
            split at h6
            · rename_i hs
              rw [if_pos hs,hl8,List.take_take,show min (lenF b + 8 - 4) (lenF b + 8) = lenF b + 4 by omega]
            · exact absurd h6 (by decide)
           have hxl : (b.take (lenF b + 4)).length = lenF b + 4 := by rw [List.length_take]; omega
           have htk : takeFr b = ((b.take (lenF b + 4)).drop 4,b.drop (lenF b + 8),0) := by
            unfold takeFr
            rw [if_neg h4,if_neg (by omega),if_neg (by omega),if_neg (by simpa using h6)]
           rw [hx,htk]
           exact ⟨by omega,rfl,by simp only [if_true,List.length_drop,hxl]; omega,rfl⟩
         · have h66 : (unsealF (b.take (lenF b + 8))).2 = 6 := by
            unfold unsealF at h6 ⊢
            rw [if_neg (by omega)] at h6 ⊢
            split at h6
            · exact absurd rfl h6
            · rename_i hs
              rw [if_neg hs]
           have htk : takeFr b = ([],[],6) := by
            unfold takeFr
            rw [if_neg h4,if_neg (by omega),if_neg (by omega),if_pos h6]
           rw [h66,htk]
           all_goals first | rfl | exact ⟨rfl,rfl⟩ | exact ⟨by simp,rfl⟩ | exact ⟨rfl,by simp,rfl⟩
 · cases hm
def P4 : Fns := { fn := fun f => if f = 81 then some firstM else P3.fn f,mu := fun d => .no,hp := fun f => P3.hp f,ord := fun i => none,it := fun f => P3.it f }
theorem P4_fn (f : FuncId) : P4.fn f = (if f = 81 then some firstM else P3.fn f) := rfl
theorem P4_mu (d : Tmp) : P4.mu d = (.no) := rfl
theorem P4_hp (f : FuncId) : P4.hp f = (P3.hp f) := rfl
theorem P4_ord (i : Nat) : P4.ord i = (none) := rfl
theorem P4_it (f : FuncId) : P4.it f = (P3.it f) := rfl
theorem P4_hy (b : Nat) : P4.hy b = none := rfl
theorem P4ok : FnsOk Tryz.prog P4 := FnsOk.same (FnsOk.cons P3ok _ _ first_ok Tryz.func81 (by decide) (fun h => by cases h)) rfl rfl
attribute [bitvec_to_nat] P4_fn P4_mu P4_hp P4_ord P4_it P4_hy
def P4a : Fns := { fn := fun f => P4.fn f,mu := fun d => bif d == 5 then .nil 38 else .no,hp := fun f => P4.hp f,ord := fun i => none,it := fun f => P4.it f }
theorem P4a_fn (f : FuncId) : P4a.fn f = (P4.fn f) := rfl
theorem P4a_mu (d : Tmp) : P4a.mu d = (bif d == 5 then .nil 38 else .no) := rfl
theorem P4a_hp (f : FuncId) : P4a.hp f = (P4.hp f) := rfl
theorem P4a_ord (i : Nat) : P4a.ord i = (none) := rfl
theorem P4a_it (f : FuncId) : P4a.it f = (P4.it f) := rfl
theorem P4a_hy (b : Nat) : P4a.hy b = none := rfl
theorem P4aok : FnsOk Tryz.prog P4a := FnsOk.same P4ok rfl rfl
attribute [bitvec_to_nat] P4a_fn P4a_mu P4a_hp P4a_ord P4a_it P4a_hy
def framesM : FM
 | [.bytes b _] => some (b.length ≤ 274877906944,.tuple [.list 1 ((allF b).1.map bv) none,.int .i64 ((allF b).2 : Nat),.int .i64 (takeFr (b.drop (allF b).2)).2.2],[])
 | _ => none
theorem frames_ok : FSound Tryz.prog 49 framesM := by
 refine fsound tysOk P4aok mix Tryz.func49 rfl ?_
 intro args p r fr hm hp
 unfold framesM at hm
 split at hm
 · rename_i b t
   cases hm
   simp (maxSteps:=2000000) only[bitvec_to_nat,seval,↓tcd,Tryz.f49,firstM,cloneM]
   refine awpLoop_intro (α := {q : List (List UInt8) × Nat // q.2 ≤ b.length ∧ q.1.length ≤ q.2 ∧ q.1 ++ (allF (b.drop q.2)).1 = (allF b).1 ∧ q.2 + (allF (b.drop q.2)).2 = (allF b).2})
    (fun q => ⟨[.bytes b none,.any,.any,.any,.any,.list 1 (q.1.1.map bv) (some 0),.int .i64 (q.1.2 : Int),.any,.any,.any,.any,.any,.any,.any,.any,.any,.any,.any,.any,.any,.any,.any,.any,.any,.any,.any,.any,.any,.any,.any,.any],[],[((q.1.1.map bv).length,32)]⟩) (fun q => b.length - q.1.2) ⟨([],0),by simp,by simp,by simp,by simp⟩ ?_ ?_
   · simp (maxSteps:=2000000) only[bitvec_to_nat,seval,↓tcd]
     all_goals rfl
   · rintro ⟨⟨l,n⟩,h1,h2,h3,h4⟩
     simp (maxSteps:=2000000) only[bitvec_to_nat,seval,↓tcd,Tryz.f49,firstM,cloneM]
     simp only at h1 h2 h3 h4
     rw [Int.toNat_natCast]
     generalize hx : b.drop n = x at h3 h4 ⊢
     have hxl : x.length = b.length - n := by rw [← hx,List.length_drop]
     have hlen := takeFr_len x
     refine ⟨⟨by omega,by omega⟩,by omega,awpIf_intro (fun h => ?_) (fun h => ?_)⟩ <;> simp only [decide_eq_true_eq,decide_eq_false_iff_not] at h
     · have hr := takeFr_rest h
       have hd : x.drop ((takeFr x).1.length + 8) = (takeFr x).2.1 := frame_drop h
       rw [allF_ok h] at h3 h4
       simp only at h3 h4
       have ew : IntKind.i64.wrap ((n : Int) + (((takeFr x).1.length + 8 : Nat) : Int)) = ((n + ((takeFr x).1.length + 8) : Nat) : Int) := by rw [i64w (by omega) (by omega)]; omega
       have em : List.map bv l ++ [V.bytes (takeFr x).1 none] = List.map bv (l ++ [(takeFr x).1]) := by rw [List.map_append]; rfl
       have hdn : b.drop (n + ((takeFr x).1.length + 8)) = (takeFr x).2.1 := by rw [← List.drop_drop,hx,hd]
       rw [if_pos h,ew,em]
       refine ⟨by omega,by unfold maxBytes; rw [List.length_map]; omega,⟨(l ++ [(takeFr x).1],n + ((takeFr x).1.length + 8)),by simp only; omega,by rw [List.length_append]; simp; omega,by simp only [hdn,List.append_assoc,List.singleton_append]; exact h3,by simp only [hdn]; omega⟩,⟨⟨rfl,rfl⟩,rfl,fun v hv => ?_⟩,by simp only; omega⟩
       simp only [List.mem_map] at hv
       obtain ⟨y,_,rfl⟩ := hv
       simp [bv,V.under]
     · rw [allF_none h] at h3 h4
       simp only [List.append_nil,Nat.add_zero] at h3 h4
       rw [← h3,← h4,hx]
       exact ⟨bv_clean l,rfl,rfl,rfl⟩
 · cases hm
def P5 : Fns := { fn := fun f => if f = 49 then some framesM else P4.fn f,mu := fun d => .no,hp := fun f => P4.hp f,ord := fun i => none,it := fun f => P4.it f }
theorem P5_fn (f : FuncId) : P5.fn f = (if f = 49 then some framesM else P4.fn f) := rfl
theorem P5_mu (d : Tmp) : P5.mu d = (.no) := rfl
theorem P5_hp (f : FuncId) : P5.hp f = (P4.hp f) := rfl
theorem P5_ord (i : Nat) : P5.ord i = (none) := rfl
theorem P5_it (f : FuncId) : P5.it f = (P4.it f) := rfl
theorem P5_hy (b : Nat) : P5.hy b = none := rfl
theorem P5ok : FnsOk Tryz.prog P5 := FnsOk.same (FnsOk.cons P4ok _ _ frames_ok Tryz.func49 (by decide) (fun h => by cases h)) rfl rfl
attribute [bitvec_to_nat] P5_fn P5_mu P5_hp P5_ord P5_it P5_hy
theorem all_ok : FSound Tryz.prog 31 allM := by
 refine fsound tysOk P5ok mix Tryz.func31 rfl ?_
 intro args p r fr hm hp
 unfold allM at hm
 split at hm
 · rename_i b t
   cases hm
   simp (maxSteps:=2000000) only[bitvec_to_nat,seval,↓tcd,Tryz.f31,framesM]
   exact ⟨⟨bv_clean _,by omega⟩,bv_clean _⟩
 · cases hm
def P6 : Fns := { fn := fun f => if f = 31 then some allM else if f = 39 then some putM else if f = 42 then some putM else if f = 15 then some sameM else P5.fn f,mu := fun d => .no,hp := fun f => P5.hp f,ord := fun i => none,it := fun f => P5.it f }
theorem P6_fn (f : FuncId) : P6.fn f = (if f = 31 then some allM else if f = 39 then some putM else if f = 42 then some putM else if f = 15 then some sameM else P5.fn f) := rfl
theorem P6_mu (d : Tmp) : P6.mu d = (.no) := rfl
theorem P6_hp (f : FuncId) : P6.hp f = (P5.hp f) := rfl
theorem P6_ord (i : Nat) : P6.ord i = (none) := rfl
theorem P6_it (f : FuncId) : P6.it f = (P5.it f) := rfl
theorem P6_hy (b : Nat) : P6.hy b = none := rfl
attribute [bitvec_to_nat] P6_fn P6_mu P6_hp P6_ord P6_it P6_hy
end Go.Proofs.YthlmfalfnpjndaaGreat.Frame
