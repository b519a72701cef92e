import Derived.Test.YthlmfalfnpjndaaGreatAwX
import Derived.Test.YthlmfalfnpjndaaGreatPlaceF
namespace Go.Proofs.YthlmfalfnpjndaaGreat.Place
open Go Go.Proofs Aw Num DiskM DiskA DiskK DiskC Disk DiskL
set_option linter.unusedSimpArgs false
set_option linter.unusedVariables false
def F2 : Fns := { fn := fun f => P0.fn f,mu := fun d => .no,hp := fun f => if f = 57 then some inPartsP else P0.hp f,ord := fun i => none,it := fun f => P0.it f }
theorem F2_fn (f : FuncId) : F2.fn f = (P0.fn f) := rfl
theorem F2_mu (d : Tmp) : F2.mu d = (.no) := rfl
theorem F2_hp (f : FuncId) : F2.hp f = (if f = 57 then some inPartsP else P0.hp f) := rfl
theorem F2_ord (i : Nat) : F2.ord i = (none) := rfl
theorem F2_it (f : FuncId) : F2.it f = (P0.it f) := rfl
theorem F2_hy (b : Nat) : F2.hy b = none := rfl
theorem F2ok : FnsOk Tryz.prog F2 := FnsOk.same (FnsOk.consP P0ok _ _ inParts_ok Tryz.func57 (by decide) (fun h => by cases h)) rfl rfl
attribute [bitvec_to_nat] F2_fn F2_mu F2_hp F2_ord F2_it F2_hy
def put1P : PM := fun args L T K => ∃ bd bb b t M w,args = [.box bd 0,.box bb 0] ∧ L[bd]? = some [.box w.o 0] ∧ L[bb]? = some [.bytes b t] ∧ b.length ≤ 1099511627776 ∧ dAt L T M w ∧ (partsD b).pre M ∧
 ∀ L' T' w',w'.o = w.o → dAt L' T' ((partsD b).f M).1 w' → Step w.S w.R L T w'.S w'.R L' T' → K (codeV ((partsD b).f M).2) L' T'
theorem put1_ok : PSound Tryz.prog 56 put1P := by
 refine psound tysOk F2ok mix Tryz.func56 rfl ?_
 intro args L T K hm
 obtain ⟨bd,bb,b,t,M,w,rfl,h1,h2,hb,hd,hp,hK⟩ := hm
 simp (maxSteps:=2000000) only[bitvec_to_nat,seval,↓tcd,Tryz.f56,h1,h2]
 refine ⟨M,w,onTheWay,b,t,rfl,hb,hd,hp,fun L' T' w' ho' hd' hst => ?_⟩
 simp (maxSteps:=2000000) only[bitvec_to_nat,seval,↓tcd,code_V]
 have := hK L' T' w' ho' hd' hst
 exact ret_of hst this
abbrev uput1P : PM := up put1P
theorem uput1_ok : PSound Tryz.prog 56 uput1P := up_ok put1_ok
abbrev uput2P : PM := up put2P
theorem uput2_ok : PSound Tryz.prog 59 uput2P := up_ok put2_ok
abbrev ubut5P : PM := up (but1P U1.hp)
theorem ubut5_ok : PSound Tryz.prog 82 ubut5P := up_ok (but1_ok _ U1_h)
def U5 : Fns := { fn := fun f => U1.fn f,mu := fun d => .no,hp := fun f => if f = 56 then some uput1P else if f = 59 then some uput2P else if f = 82 then some ubut5P else U1.hp f,ord := fun i => none,it := fun f => U1.it f }
theorem U5_fn (f : FuncId) : U5.fn f = (U1.fn f) := rfl
theorem U5_mu (d : Tmp) : U5.mu d = (.no) := rfl
theorem U5_hp (f : FuncId) : U5.hp f = (if f = 56 then some uput1P else if f = 59 then some uput2P else if f = 82 then some ubut5P else U1.hp f) := rfl
theorem U5_ord (i : Nat) : U5.ord i = (none) := rfl
theorem U5_it (f : FuncId) : U5.it f = (U1.it f) := rfl
theorem U5_hy (b : Nat) : U5.hy b = none := rfl
theorem U5ok : FnsOk Tryz.prog U5 := FnsOk.same (FnsOk.consP (FnsOk.consP (FnsOk.consP U1ok _ _ ubut5_ok Tryz.func82 (by decide) (fun h => by cases h)) _ _ uput2_ok Tryz.func59 (by decide) (fun h => by cases h)) _ _ uput1_ok Tryz.func56 (by decide) (fun h => by cases h)) rfl rfl
attribute [bitvec_to_nat] U5_fn U5_mu U5_hp U5_ord U5_it U5_hy
theorem U5_h : HOk U5.hp := by
 refine ⟨FnsOk.same U5ok rfl rfl,fun f m h => ?_⟩
 rw [U5_hp] at h
 split at h
 · cases h; exact up_mono _
 · split at h
   · cases h; exact up_mono _
   · split at h
     · cases h; exact up_mono _
     · exact U1_h.mono f m h
abbrev inOrder5P : PM := inOrderP U5.hp
theorem inOrder5_ok : PSound Tryz.prog 51 inOrder5P := inOrder_ok _ U5_h
theorem put1_step {H : FuncId → Option PM} {o bd bb : Nat} {b : List UInt8} {t : Option Nat} (h : H 56 = some (up put1P)) (hb : b.length ≤ 1099511627776) : StepV H o [(bd,[.box o 0]),(bb,[.bytes b t])] (partsD b) (.fn (.func 56) [] [.box bd 0,.box bb 0]) := by
 intro L T M w K ho hd hs hc hK
 simp only [callV,h]
 exact ⟨_,fun _ _ _ h => h,bd,bb,b,t,M,w,rfl,by rw [ho]; exact (hc (bd,[.box o 0]) (by simp)).1,(hc (bb,[.bytes b t]) (by simp)).1,hb,hd,hs,fun L' T' w' ho' hd' hst => hK L' T' w' (ho'.trans ho) hd' hst⟩
theorem put2_step {H : FuncId → Option PM} {o bd bn : Nat} {n : Name} (h : H 59 = some (up put2P)) : StepV H o [(bd,[.box o 0]),(bn,[.str n])] (renameD onTheWay n) (.fn (.func 59) [] [.box bd 0,.box bn 0]) := by
 intro L T M w K ho hd hs hc hK
 simp only [callV,h]
 exact ⟨_,fun _ _ _ h => h,bd,bn,n,M,w,rfl,by rw [ho]; exact (hc (bd,[.box o 0]) (by simp)).1,(hc (bn,[.str n]) (by simp)).1,hd,hs,fun L' T' w' ho' hd' hst => hK L' T' w' (ho'.trans ho) hd' hst⟩
def P7 : Fns := { fn := fun f => if f = 50 then some rightN else P0.fn f,mu := fun d => .no,hp := fun f => if f = 52 then some butP else if f = 53 then some toP else if f = 51 then some inOrder5P else P0.hp f,ord := fun i => if i = 3 then some [(0,3),(1,0),(4,3),(5,0),(7,0),(8,3),(9,0),(11,0),(12,3),(13,0),(2,1),(3,1),(6,1),(10,1),(14,0),(15,4),(16,0)] else none,it := fun f => P0.it f }
theorem P7_fn (f : FuncId) : P7.fn f = (if f = 50 then some rightN else P0.fn f) := rfl
theorem P7_mu (d : Tmp) : P7.mu d = (.no) := rfl
theorem P7_hp (f : FuncId) : P7.hp f = (if f = 52 then some butP else if f = 53 then some toP else if f = 51 then some inOrder5P else P0.hp f) := rfl
theorem P7_ord (i : Nat) : P7.ord i = (if i = 3 then some [(0,3),(1,0),(4,3),(5,0),(7,0),(8,3),(9,0),(11,0),(12,3),(13,0),(2,1),(3,1),(6,1),(10,1),(14,0),(15,4),(16,0)] else none) := rfl
theorem P7_it (f : FuncId) : P7.it f = (P0.it f) := rfl
theorem P7_hy (b : Nat) : P7.hy b = none := rfl
theorem P7ok : FnsOk Tryz.prog P7 := FnsOk.same (FnsOk.consP (FnsOk.consP (FnsOk.consP (FnsOk.cons P0ok _ _ rightN_ok Tryz.func50 (by decide) (fun h => by cases h)) _ _ inOrder5_ok Tryz.func51 (by decide) (fun h => by cases h)) _ _ to_ok Tryz.func53 (by decide) (fun h => by cases h)) _ _ but_ok Tryz.func52 (by decide) (fun h => by cases h)) rfl rfl
attribute [bitvec_to_nat] P7_fn P7_mu P7_hp P7_ord P7_it P7_hy
def putFP : PM := fun args L T K => ∃ M w n b t,args = [.box w.o 0,.str n,.bytes b t] ∧ b.length ≤ 1099511627776 ∧ dAt L T M w ∧ (putAll n b).pre M ∧
 ∀ L' T' w',w'.o = w.o → dAt L' T' ((putAll n b).f M).1 w' → Step w.S w.R L T w'.S w'.R L' T' → K (codeV ((putAll n b).f M).2) L' T'
theorem two_app {L : LL} (x y : List V) (i : Nat) (c : List V) (h : L[i]? = some c) : (L ++ [x] ++ [y])[i]? = some c := by
 have := lt_at h
 rw [List.getElem?_append_left (by simp; omega),List.getElem?_append_left this]; exact h
set_option maxHeartbeats 4000000 in
theorem putF_ok : PSound Tryz.prog 32 putFP := by
 refine psound tysOk P7ok mix Tryz.func32 rfl ?_
 intro args L T K hm
 obtain ⟨M,w,n,b,t,rfl,hb,hd,hp,hK⟩ := hm
 by_cases hr : growsOk n
 · have hrd : decide (growsOk n) = true := decide_eq_true hr
   simp (maxSteps:=2000000) only[bitvec_to_nat,seval,↓tcd,Tryz.f32,rightN,hrd]
   have hst3 : Step noS noS L T noS noS (L ++ [[V.box w.o 0]] ++ [[V.str n]] ++ [[V.bytes b t]]) T := (((Step.refl noS noS L T).app _).app _).app _
   have q1 : (L ++ [[V.box w.o 0]] ++ [[V.str n]] ++ [[V.bytes b t]])[L.length]? = some [.box w.o 0] := by simp
   have q2 : (L ++ [[V.box w.o 0]] ++ [[V.str n]] ++ [[V.bytes b t]])[(L ++ [[V.box w.o 0]]).length]? = some [.str n] := by simp
   have q3 : (L ++ [[V.box w.o 0]] ++ [[V.str n]] ++ [[V.bytes b t]])[(L ++ [[V.box w.o 0]] ++ [[V.str n]]).length]? = some [.bytes b t] := by simp
   have l1 : (L ++ [[V.box w.o 0]]).length = L.length + 1 := by simp
   have l2 : (L ++ [[V.box w.o 0]] ++ [[V.str n]]).length = L.length + 2 := by simp
   have l3 : (L ++ [[V.box w.o 0]] ++ [[V.str n]] ++ [[V.bytes b t]]).length = L.length + 3 := by simp
   generalize (L ++ [[V.box w.o 0]] ++ [[V.str n]] ++ [[V.bytes b t]]) = L3 at hst3 q1 q2 q3 l3 ⊢
   generalize (L ++ [[V.box w.o 0]] ++ [[V.str n]]).length = bb at q3 l2 ⊢
   generalize (L ++ [[V.box w.o 0]]).length = bn at q2 l1 ⊢
   simp (maxSteps:=2000000) only[bitvec_to_nat,seval,↓tcd,q1,q2]
   obtain ⟨i3,ln⟩ : ∃ i,L3.length = i := ⟨_,rfl⟩
   have lnL3 := ln
   have lei3 : i3 = L.length + 3 := by omega
   refine ⟨by kernel_rfl,onTheWay,54,[.box w.o 0],[],rfl,?_⟩
   have stL4 : Step noS noS L3 T noS noS (L3 ++ [[V.str onTheWay]] ++ [[V.fn (.func 54) [.box w.o 0] []]]) T := ((Step.refl noS noS L3 T).app _).app _
   have pi3 : (L3 ++ [[V.str onTheWay]] ++ [[V.fn (.func 54) [.box w.o 0] []]])[i3]? = some [V.str onTheWay] := by rw [← lnL3]; simp
   have pj3 : (L3 ++ [[V.str onTheWay]] ++ [[V.fn (.func 54) [.box w.o 0] []]])[(L3 ++ [[V.str onTheWay]]).length]? = some [V.fn (.func 54) [.box w.o 0] []] := by simp
   have lj3 : (L3 ++ [[V.str onTheWay]]).length = L.length + 4 := by simp [lnL3,lei3]
   have mL4 : (L3 ++ [[V.str onTheWay]] ++ [[V.fn (.func 54) [.box w.o 0] []]]).length = L.length + 5 := by simp [lnL3,lei3]
   have q1_L4 : (L3 ++ [[V.str onTheWay]] ++ [[V.fn (.func 54) [.box w.o 0] []]])[L.length]? = some [.box w.o 0] := two_app _ _ _ _ q1
   have q2_L4 : (L3 ++ [[V.str onTheWay]] ++ [[V.fn (.func 54) [.box w.o 0] []]])[bn]? = some [.str n] := two_app _ _ _ _ q2
   have q3_L4 : (L3 ++ [[V.str onTheWay]] ++ [[V.fn (.func 54) [.box w.o 0] []]])[bb]? = some [.bytes b t] := two_app _ _ _ _ q3
   generalize (L3 ++ [[V.str onTheWay]] ++ [[V.fn (.func 54) [.box w.o 0] []]]) = L4 at q1_L4 q2_L4 q3_L4 stL4 pi3 pj3 mL4 ⊢
   generalize hj3 : (L3 ++ [[V.str onTheWay]]).length = j3 at pj3 lj3 ⊢
   rw [lnL3]
   obtain ⟨i4,lnL4⟩ : ∃ i,L4.length = i := ⟨_,rfl⟩
   have lei4 : i4 = L.length + 5 := by omega
   simp (maxSteps:=2000000) only[bitvec_to_nat,seval,↓tcd,q1_L4]
   refine ⟨2,83,[],[.box j3 0,.box i3 0],rfl,?_⟩
   have stL5 : Step noS noS L4 T noS noS (L4 ++ [[codeV 2]] ++ [[V.fn (.func 83) [] [.box j3 0,.box i3 0]]]) T := ((Step.refl noS noS L4 T).app _).app _
   have pi4 : (L4 ++ [[codeV 2]] ++ [[V.fn (.func 83) [] [.box j3 0,.box i3 0]]])[i4]? = some [codeV 2] := by rw [← lnL4]; simp
   have pj4 : (L4 ++ [[codeV 2]] ++ [[V.fn (.func 83) [] [.box j3 0,.box i3 0]]])[(L4 ++ [[codeV 2]]).length]? = some [V.fn (.func 83) [] [.box j3 0,.box i3 0]] := by simp
   have lj4 : (L4 ++ [[codeV 2]]).length = L.length + 6 := by simp [lnL4,lei4]
   have mL5 : (L4 ++ [[codeV 2]] ++ [[V.fn (.func 83) [] [.box j3 0,.box i3 0]]]).length = L.length + 7 := by simp [lnL4,lei4]
   have q1_L5 : (L4 ++ [[codeV 2]] ++ [[V.fn (.func 83) [] [.box j3 0,.box i3 0]]])[L.length]? = some [.box w.o 0] := two_app _ _ _ _ q1_L4
   have q2_L5 : (L4 ++ [[codeV 2]] ++ [[V.fn (.func 83) [] [.box j3 0,.box i3 0]]])[bn]? = some [.str n] := two_app _ _ _ _ q2_L4
   have q3_L5 : (L4 ++ [[codeV 2]] ++ [[V.fn (.func 83) [] [.box j3 0,.box i3 0]]])[bb]? = some [.bytes b t] := two_app _ _ _ _ q3_L4
   have pi3_L5 : (L4 ++ [[codeV 2]] ++ [[V.fn (.func 83) [] [.box j3 0,.box i3 0]]])[i3]? = some [V.str onTheWay] := two_app _ _ _ _ pi3
   have pj3_L5 : (L4 ++ [[codeV 2]] ++ [[V.fn (.func 83) [] [.box j3 0,.box i3 0]]])[j3]? = some [V.fn (.func 54) [.box w.o 0] []] := two_app _ _ _ _ pj3
   generalize (L4 ++ [[codeV 2]] ++ [[V.fn (.func 83) [] [.box j3 0,.box i3 0]]]) = L5 at q1_L5 q2_L5 q3_L5 pi3_L5 pj3_L5 stL5 pi4 pj4 mL5 ⊢
   generalize hj4 : (L4 ++ [[codeV 2]]).length = j4 at pj4 lj4 ⊢
   rw [lnL4]
   obtain ⟨i5,lnL5⟩ : ∃ i,L5.length = i := ⟨_,rfl⟩
   have lei5 : i5 = L.length + 7 := by omega
   simp (maxSteps:=2000000) only[bitvec_to_nat,seval,↓tcd,q1_L5]
   refine ⟨onTheWay,55,[.box w.o 0],[],rfl,?_⟩
   have stL6 : Step noS noS L5 T noS noS (L5 ++ [[V.str onTheWay]] ++ [[V.fn (.func 55) [.box w.o 0] []]]) T := ((Step.refl noS noS L5 T).app _).app _
   have pi5 : (L5 ++ [[V.str onTheWay]] ++ [[V.fn (.func 55) [.box w.o 0] []]])[i5]? = some [V.str onTheWay] := by rw [← lnL5]; simp
   have pj5 : (L5 ++ [[V.str onTheWay]] ++ [[V.fn (.func 55) [.box w.o 0] []]])[(L5 ++ [[V.str onTheWay]]).length]? = some [V.fn (.func 55) [.box w.o 0] []] := by simp
   have lj5 : (L5 ++ [[V.str onTheWay]]).length = L.length + 8 := by simp [lnL5,lei5]
   have mL6 : (L5 ++ [[V.str onTheWay]] ++ [[V.fn (.func 55) [.box w.o 0] []]]).length = L.length + 9 := by simp [lnL5,lei5]
   have q1_L6 : (L5 ++ [[V.str onTheWay]] ++ [[V.fn (.func 55) [.box w.o 0] []]])[L.length]? = some [.box w.o 0] := two_app _ _ _ _ q1_L5
   have q2_L6 : (L5 ++ [[V.str onTheWay]] ++ [[V.fn (.func 55) [.box w.o 0] []]])[bn]? = some [.str n] := two_app _ _ _ _ q2_L5
   have q3_L6 : (L5 ++ [[V.str onTheWay]] ++ [[V.fn (.func 55) [.box w.o 0] []]])[bb]? = some [.bytes b t] := two_app _ _ _ _ q3_L5
   have pi3_L6 : (L5 ++ [[V.str onTheWay]] ++ [[V.fn (.func 55) [.box w.o 0] []]])[i3]? = some [V.str onTheWay] := two_app _ _ _ _ pi3_L5
   have pj3_L6 : (L5 ++ [[V.str onTheWay]] ++ [[V.fn (.func 55) [.box w.o 0] []]])[j3]? = some [V.fn (.func 54) [.box w.o 0] []] := two_app _ _ _ _ pj3_L5
   have pi4_L6 : (L5 ++ [[V.str onTheWay]] ++ [[V.fn (.func 55) [.box w.o 0] []]])[i4]? = some [codeV 2] := two_app _ _ _ _ pi4
   have pj4_L6 : (L5 ++ [[V.str onTheWay]] ++ [[V.fn (.func 55) [.box w.o 0] []]])[j4]? = some [V.fn (.func 83) [] [.box j3 0,.box i3 0]] := two_app _ _ _ _ pj4
   generalize (L5 ++ [[V.str onTheWay]] ++ [[V.fn (.func 55) [.box w.o 0] []]]) = L6 at q1_L6 q2_L6 q3_L6 pi3_L6 pj3_L6 pi4_L6 pj4_L6 stL6 pi5 pj5 mL6 ⊢
   generalize hj5 : (L5 ++ [[V.str onTheWay]]).length = j5 at pj5 lj5 ⊢
   rw [lnL5]
   obtain ⟨i6,lnL6⟩ : ∃ i,L6.length = i := ⟨_,rfl⟩
   have lei6 : i6 = L.length + 9 := by omega
   simp (maxSteps:=2000000) only[bitvec_to_nat,seval,↓tcd,q1_L6]
   refine ⟨onTheWay,58,[.box w.o 0],[],rfl,?_⟩
   have stL7 : Step noS noS L6 T noS noS (L6 ++ [[V.str onTheWay]] ++ [[V.fn (.func 58) [.box w.o 0] []]]) T := ((Step.refl noS noS L6 T).app _).app _
   have pi6 : (L6 ++ [[V.str onTheWay]] ++ [[V.fn (.func 58) [.box w.o 0] []]])[i6]? = some [V.str onTheWay] := by rw [← lnL6]; simp
   have pj6 : (L6 ++ [[V.str onTheWay]] ++ [[V.fn (.func 58) [.box w.o 0] []]])[(L6 ++ [[V.str onTheWay]]).length]? = some [V.fn (.func 58) [.box w.o 0] []] := by simp
   have lj6 : (L6 ++ [[V.str onTheWay]]).length = L.length + 10 := by simp [lnL6,lei6]
   have mL7 : (L6 ++ [[V.str onTheWay]] ++ [[V.fn (.func 58) [.box w.o 0] []]]).length = L.length + 11 := by simp [lnL6,lei6]
   have q1_L7 : (L6 ++ [[V.str onTheWay]] ++ [[V.fn (.func 58) [.box w.o 0] []]])[L.length]? = some [.box w.o 0] := two_app _ _ _ _ q1_L6
   have q2_L7 : (L6 ++ [[V.str onTheWay]] ++ [[V.fn (.func 58) [.box w.o 0] []]])[bn]? = some [.str n] := two_app _ _ _ _ q2_L6
   have q3_L7 : (L6 ++ [[V.str onTheWay]] ++ [[V.fn (.func 58) [.box w.o 0] []]])[bb]? = some [.bytes b t] := two_app _ _ _ _ q3_L6
   have pi3_L7 : (L6 ++ [[V.str onTheWay]] ++ [[V.fn (.func 58) [.box w.o 0] []]])[i3]? = some [V.str onTheWay] := two_app _ _ _ _ pi3_L6
   have pj3_L7 : (L6 ++ [[V.str onTheWay]] ++ [[V.fn (.func 58) [.box w.o 0] []]])[j3]? = some [V.fn (.func 54) [.box w.o 0] []] := two_app _ _ _ _ pj3_L6
   have pi4_L7 : (L6 ++ [[V.str onTheWay]] ++ [[V.fn (.func 58) [.box w.o 0] []]])[i4]? = some [codeV 2] := two_app _ _ _ _ pi4_L6
   have pj4_L7 : (L6 ++ [[V.str onTheWay]] ++ [[V.fn (.func 58) [.box w.o 0] []]])[j4]? = some [V.fn (.func 83) [] [.box j3 0,.box i3 0]] := two_app _ _ _ _ pj4_L6
   have pi5_L7 : (L6 ++ [[V.str onTheWay]] ++ [[V.fn (.func 58) [.box w.o 0] []]])[i5]? = some [V.str onTheWay] := two_app _ _ _ _ pi5
   have pj5_L7 : (L6 ++ [[V.str onTheWay]] ++ [[V.fn (.func 58) [.box w.o 0] []]])[j5]? = some [V.fn (.func 55) [.box w.o 0] []] := two_app _ _ _ _ pj5
   generalize (L6 ++ [[V.str onTheWay]] ++ [[V.fn (.func 58) [.box w.o 0] []]]) = L7 at q1_L7 q2_L7 q3_L7 pi3_L7 pj3_L7 pi4_L7 pj4_L7 pi5_L7 pj5_L7 stL7 pi6 pj6 mL7 ⊢
   generalize hj6 : (L6 ++ [[V.str onTheWay]]).length = j6 at pj6 lj6 ⊢
   rw [lnL6]
   simp (maxSteps:=2000000) only[bitvec_to_nat,seval,↓tcd,q1_L7]
   have hst : Step noS noS L T noS noS L7 T := (((hst3.trans stL4).trans stL5).trans stL6).trans stL7
   have hd7 : dAt L7 T M w := hd.frame hst (fun _ _ h => h) (fun _ _ h => h)
   have no : ∀ i,L.length ≤ i → ¬ w.S i := fun i h hs => by have := hd.lt i hs; omega
   have e : (putAll n b).f M = (putD n b).f M := if_pos hr
   rw [e] at hK
   refine ⟨[_,_,_,_,_,_],none,rfl,by simp,steps_run (cs := [(L.length,[.box w.o 0]),(bn,[.str n]),(bb,[.bytes b t]),(i3,[V.str onTheWay]),(j3,[V.fn (.func 54) [.box w.o 0] []]),(i4,[codeV 2]),(j4,[V.fn (.func 83) [] [.box j3 0,.box i3 0]]),(i5,[V.str onTheWay]),(j5,[V.fn (.func 55) [.box w.o 0] []]),(i6,[V.str onTheWay]),(j6,[V.fn (.func 58) [.box w.o 0] []])]) [(butD 2 (removeD onTheWay),_),(createD onTheWay,_),(partsD b,_),(syncD onTheWay,_),(renameD onTheWay n,_),(syncNamesD,_)] ?_ L7 T M w _ rfl hd7 (hp hr) ?_ fun L' T' w' ho' hd' hst' => ?_⟩
   · intro p hp
     rcases List.mem_cons.1 hp with rfl | hp
     · exact (but_step (o := w.o) (bv := j4) (bc := i4) (H0 := U1.hp) rfl (to_step (H0 := U0.hp) (f := 54) (n := onTheWay) (op := removeF) (bv := j3) (bn := i3) rfl rfl rfl) rfl).more (by simp)
     · rcases List.mem_cons.1 hp with rfl | hp
       · exact (to_step (H0 := U0.hp) (f := 55) (n := onTheWay) (op := createF) (bv := j5) (bn := i5) rfl rfl rfl).more (by simp)
       · rcases List.mem_cons.1 hp with rfl | hp
         · exact (put1_step (bd := L.length) (bb := bb) (t := t) rfl hb).more (by simp)
         · rcases List.mem_cons.1 hp with rfl | hp
           · exact (to_step (H0 := U0.hp) (f := 58) (n := onTheWay) (op := syncF) (bv := j6) (bn := i6) rfl rfl rfl).more (by simp)
           · rcases List.mem_cons.1 hp with rfl | hp
             · exact (put2_step (bd := L.length) (bn := bn) rfl).more (by simp)
             · obtain rfl := List.mem_singleton.1 hp
               exact (bound_step rfl rfl).more (fun _ h => by cases h)
   · exact ((((((((((((Has.nil L7 w).cons pj6 (no _ (by omega))).cons pi6 (no _ (by omega))).cons pj5_L7 (no _ (by omega))).cons pi5_L7 (no _ (by omega))).cons pj4_L7 (no _ (by omega))).cons pi4_L7 (no _ (by omega))).cons pj3_L7 (no _ (by omega))).cons pi3_L7 (no _ (by omega))).cons q3_L7 (no _ (by omega))).cons q2_L7 (no _ (by omega))).cons q1_L7 (no _ (by omega)))
   · have hst2 : Step w.S w.R L T w'.S w'.R L' T' := ((Step.refl w.S w.R L T).via hst (fun _ h => h.elim) (fun _ h => h.elim)).trans hst'
     simp (maxSteps:=2000000) only[bitvec_to_nat,seval,↓tcd]
     exact ret_of hst2 (hK L' T' w' ho' hd' hst2)
 · have hrd : decide (growsOk n) = false := decide_eq_false hr
   simp (maxSteps:=2000000) only[bitvec_to_nat,seval,↓tcd,Tryz.f32,rightN,hrd]
   have e : (putAll n b).f M = (M,1) := if_neg hr
   rw [e] at hK
   have hst3 : Step noS noS L T noS noS (L ++ [[V.box w.o 0]] ++ [[V.str n]] ++ [[V.bytes b t]]) T := (((Step.refl noS noS L T).app _).app _).app _
   have hst3' : Step w.S w.R L T w.S w.R (L ++ [[V.box w.o 0]] ++ [[V.str n]] ++ [[V.bytes b t]]) T := (((Step.refl w.S w.R L T).app _).app _).app _
   exact ret_of hst3 (hK _ _ w rfl (hd.frame hst3 (fun _ _ h => h) (fun _ _ h => h)) hst3')
end Go.Proofs.YthlmfalfnpjndaaGreat.Place
