import Derived.Test.YthlmfalfnpjndaaGreatAwX
import Derived.Test.YthlmfalfnpjndaaGreatPlaceB
namespace Go.Proofs.YthlmfalfnpjndaaGreat.Place
open Go Go.Proofs Aw Num DiskM DiskA DiskK DiskC Disk DiskL
set_option linter.unusedSimpArgs false
set_option linter.unusedVariables false
abbrev ucreateP : PM := up createP
abbrev uremoveP : PM := up removeP
abbrev usyncP : PM := up syncP
abbrev usyncNamesP : PM := up syncNamesP
theorem ucreate_ok : PSound Tryz.prog 55 ucreateP := up_ok create_ok
theorem uremove_ok : PSound Tryz.prog 54 uremoveP := up_ok remove_ok
theorem usync_ok : PSound Tryz.prog 58 usyncP := up_ok sync_ok
theorem usyncNames_ok : PSound Tryz.prog 61 usyncNamesP := up_ok syncNames_ok
def U0 : Fns := { fn := fun f => P0.fn f,mu := fun d => .no,hp := fun f => if f = 55 then some ucreateP else if f = 54 then some uremoveP else if f = 58 then some usyncP else if f = 61 then some usyncNamesP else P0.hp f,ord := fun i => none,it := fun f => P0.it f }
theorem U0_fn (f : FuncId) : U0.fn f = (P0.fn f) := rfl
theorem U0_mu (d : Tmp) : U0.mu d = (.no) := rfl
theorem U0_hp (f : FuncId) : U0.hp f = (if f = 55 then some ucreateP else if f = 54 then some uremoveP else if f = 58 then some usyncP else if f = 61 then some usyncNamesP else P0.hp f) := rfl
theorem U0_ord (i : Nat) : U0.ord i = (none) := rfl
theorem U0_it (f : FuncId) : U0.it f = (P0.it f) := rfl
theorem U0_hy (b : Nat) : U0.hy b = none := rfl
theorem U0ok : FnsOk Tryz.prog U0 := FnsOk.same (FnsOk.consP (FnsOk.consP (FnsOk.consP (FnsOk.consP P0ok _ _ usyncNames_ok Tryz.func61 (by decide) (fun h => by cases h)) _ _ usync_ok Tryz.func58 (by decide) (fun h => by cases h)) _ _ uremove_ok Tryz.func54 (by decide) (fun h => by cases h)) _ _ ucreate_ok Tryz.func55 (by decide) (fun h => by cases h)) rfl rfl
attribute [bitvec_to_nat] U0_fn U0_mu U0_hp U0_ord U0_it U0_hy
theorem U0_h : HOk U0.hp := by
 refine ⟨FnsOk.same U0ok rfl rfl,fun f m h => ?_⟩
 rw [U0_hp] at h
 repeat' (split at h)
 all_goals first | (cases h; exact up_mono _) | cases h
abbrev uto1P : PM := up (to1P U0.hp)
theorem uto1_ok : PSound Tryz.prog 83 uto1P := up_ok (to1_ok _ U0_h)
def U1 : Fns := { fn := fun f => U0.fn f,mu := fun d => .no,hp := fun f => if f = 83 then some uto1P else U0.hp f,ord := fun i => none,it := fun f => U0.it f }
theorem U1_fn (f : FuncId) : U1.fn f = (U0.fn f) := rfl
theorem U1_mu (d : Tmp) : U1.mu d = (.no) := rfl
theorem U1_hp (f : FuncId) : U1.hp f = (if f = 83 then some uto1P else U0.hp f) := rfl
theorem U1_ord (i : Nat) : U1.ord i = (none) := rfl
theorem U1_it (f : FuncId) : U1.it f = (U0.it f) := rfl
theorem U1_hy (b : Nat) : U1.hy b = none := rfl
theorem U1ok : FnsOk Tryz.prog U1 := FnsOk.same (FnsOk.consP U0ok _ _ uto1_ok Tryz.func83 (by decide) (fun h => by cases h)) rfl rfl
attribute [bitvec_to_nat] U1_fn U1_mu U1_hp U1_ord U1_it U1_hy
theorem U1_h : HOk U1.hp := by
 refine ⟨FnsOk.same U1ok rfl rfl,fun f m h => ?_⟩
 rw [U1_hp] at h
 split at h
 · cases h; exact up_mono _
 · exact U0_h.mono f m h
abbrev inOrder1P : PM := inOrderP U1.hp
theorem inOrder1_ok : PSound Tryz.prog 51 inOrder1P := inOrder_ok _ U1_h
def P2 : Fns := { fn := fun f => P0.fn f,mu := fun d => .no,hp := fun f => if f = 53 then some toP else if f = 51 then some inOrder1P else P0.hp f,ord := fun i => if i = 1 then some [(0,3),(1,3),(2,0),(4,3),(5,0),(3,1),(6,0),(7,4),(8,0)] else none,it := fun f => P0.it f }
theorem P2_fn (f : FuncId) : P2.fn f = (P0.fn f) := rfl
theorem P2_mu (d : Tmp) : P2.mu d = (.no) := rfl
theorem P2_hp (f : FuncId) : P2.hp f = (if f = 53 then some toP else if f = 51 then some inOrder1P else P0.hp f) := rfl
theorem P2_ord (i : Nat) : P2.ord i = (if i = 1 then some [(0,3),(1,3),(2,0),(4,3),(5,0),(3,1),(6,0),(7,4),(8,0)] else none) := rfl
theorem P2_it (f : FuncId) : P2.it f = (P0.it f) := rfl
theorem P2_hy (b : Nat) : P2.hy b = none := rfl
theorem P2ok : FnsOk Tryz.prog P2 := FnsOk.same (FnsOk.consP (FnsOk.consP P0ok _ _ inOrder1_ok Tryz.func51 (by decide) (fun h => by cases h)) _ _ to_ok Tryz.func53 (by decide) (fun h => by cases h)) rfl rfl
attribute [bitvec_to_nat] P2_fn P2_mu P2_hp P2_ord P2_it P2_hy
def createD (n : Name) : Do := ⟨fun M => M.create n,Small⟩
def syncNamesD : Do := ⟨fun M => M.syncNames,Small⟩
def madeD (n : Name) : Do := runD [createD n,syncNamesD]
def made1P : PM := fun args L T K => ∃ bn bd n M w,args = [.box bn 0,.box bd 0] ∧ L[bd]? = some [.box w.o 0] ∧ L[bn]? = some [.str n] ∧ dAt L T M w ∧ (madeD n).pre M ∧
 ∀ L' T' w',w'.o = w.o → dAt L' T' ((madeD n).f M).1 w' → Step w.S w.R L T w'.S w'.R L' T' → K (codeV ((madeD n).f M).2) L' T'
theorem made1_ok : PSound Tryz.prog 74 made1P := by
 refine psound tysOk P2ok mix Tryz.func74 rfl ?_
 intro args L T K hm
 obtain ⟨bn,bd,n,M,w,rfl,h1,h2,hd,hp,hK⟩ := hm
 simp (maxSteps:=2000000) only[bitvec_to_nat,seval,↓tcd,Tryz.f74,h1,h2]
 refine ⟨by kernel_rfl,n,55,[.box w.o 0],[],rfl,?_⟩
 have hst1 : Step noS noS L T noS noS (L ++ [[V.str n]] ++ [[V.fn (.func 55) [.box w.o 0] []]]) T := ((Step.refl noS noS L T).app _).app _
 have hv1 : (L ++ [[V.str n]] ++ [[V.fn (.func 55) [.box w.o 0] []]])[(L ++ [[V.str n]]).length]? = some [V.fn (.func 55) [.box w.o 0] []] := by simp
 have hv2 : (L ++ [[V.str n]] ++ [[V.fn (.func 55) [.box w.o 0] []]])[L.length]? = some [V.str n] := by simp
 have hl : (L ++ [[V.str n]]).length = L.length + 1 := by simp
 generalize (L ++ [[V.str n]] ++ [[V.fn (.func 55) [.box w.o 0] []]]) = L1 at hst1 hv1 hv2 ⊢
 have hd1 : dAt L1 T M w := hd.frame hst1 (fun _ _ h => h) (fun _ _ h => h)
 have h11 : L1[bd]? = some [.box w.o 0] := by rw [hst1.keep bd (lt_at h1) (fun h => h)]; exact h1
 have h21 : L1[bn]? = some [.str n] := by rw [hst1.keep bn (lt_at h2) (fun h => h)]; exact h2
 simp (maxSteps:=2000000) only[bitvec_to_nat,seval,↓tcd,h11,h21]
 refine ⟨[_,_],none,rfl,by simp,steps_run (cs := [((L ++ [[V.str n]]).length,[V.fn (.func 55) [.box w.o 0] []]),(L.length,[V.str n])]) [(createD n,_),(syncNamesD,_)] ?_ L1 T M w _ rfl hd1 hp ?_ fun L' T' w' ho' hd' hst => ?_⟩
 · intro p hp
   rcases List.mem_cons.1 hp with rfl | hp
   · exact to_step (H0 := U0.hp) rfl rfl rfl
   · obtain rfl := List.mem_singleton.1 hp
     exact (bound_step rfl rfl).more (fun _ h => by cases h)
 · intro p hp
   rcases List.mem_cons.1 hp with rfl | hp
   · exact ⟨hv1,fun h => by have := hd.lt _ h; omega⟩
   · obtain rfl := List.mem_singleton.1 hp
     exact ⟨hv2,fun h => by have := hd.lt _ h; omega⟩
 · have hst2 : Step w.S w.R L T w'.S w'.R L' T' := ((Step.refl w.S w.R L T).via hst1 (fun _ h => h.elim) (fun _ h => h.elim)).trans hst
   simp (maxSteps:=2000000) only[bitvec_to_nat,seval,↓tcd]
   exact ret_of hst2 (hK L' T' w' ho' hd' hst2)
def growsOk (n : Name) : Prop := right n ∧ n ≠ onTheWay
instance (n : Name) : Decidable (growsOk n) := by unfold growsOk; exact inferInstance
def rightN : FM
 | [.str n] => some (True,.bool (decide (growsOk n)),[])
 | _ => none
theorem rightN_ok : FSound Tryz.prog 50 rightN := by
 refine fsound tysOk P0ok mix Tryz.func50 rfl ?_
 intro args p r fr hm hp
 unfold rightN at hm
 split at hm
 · rename_i n
   cases hm
   simp (maxSteps:=2000000) only[bitvec_to_nat,seval,↓tcd,Tryz.f50]
   refine awpIf_intro (fun h => ?_) (fun h => awpIf_intro (fun h2 => ?_) (fun h2 => ?_)) <;> simp only [decide_eq_true_eq,decide_eq_false_iff_not] at *
   · exact (decide_eq_false fun q => q.1.1 h).symm
   · by_cases e : n = [116,109,112]
     · rw [decide_eq_true e]
       exact (decide_eq_false fun q => q.2 e).symm
     · rw [decide_eq_false e]
       exact (decide_eq_true ⟨⟨h,by omega⟩,e⟩).symm
   · exact (decide_eq_false fun q => h2 (by have := q.1.2; omega)).symm
 · cases hm
abbrev umade1P : PM := up made1P
theorem umade1_ok : PSound Tryz.prog 74 umade1P := up_ok made1_ok
abbrev ugrow2P : PM := up grow2P
theorem ugrow2_ok : PSound Tryz.prog 75 ugrow2P := up_ok grow2_ok
def U2 : Fns := { fn := fun f => U1.fn f,mu := fun d => .no,hp := fun f => if f = 74 then some umade1P else if f = 75 then some ugrow2P else U1.hp f,ord := fun i => none,it := fun f => U1.it f }
theorem U2_fn (f : FuncId) : U2.fn f = (U1.fn f) := rfl
theorem U2_mu (d : Tmp) : U2.mu d = (.no) := rfl
theorem U2_hp (f : FuncId) : U2.hp f = (if f = 74 then some umade1P else if f = 75 then some ugrow2P else U1.hp f) := rfl
theorem U2_ord (i : Nat) : U2.ord i = (none) := rfl
theorem U2_it (f : FuncId) : U2.it f = (U1.it f) := rfl
theorem U2_hy (b : Nat) : U2.hy b = none := rfl
theorem U2ok : FnsOk Tryz.prog U2 := FnsOk.same (FnsOk.consP (FnsOk.consP U1ok _ _ ugrow2_ok Tryz.func75 (by decide) (fun h => by cases h)) _ _ umade1_ok Tryz.func74 (by decide) (fun h => by cases h)) rfl rfl
attribute [bitvec_to_nat] U2_fn U2_mu U2_hp U2_ord U2_it U2_hy
theorem U2_h : HOk U2.hp := by
 refine ⟨FnsOk.same U2ok rfl rfl,fun f m h => ?_⟩
 rw [U2_hp] at h
 split at h
 · cases h; exact up_mono _
 · split at h
   · cases h; exact up_mono _
   · exact U1_h.mono f m h
abbrev ubut2P : PM := up (but1P U2.hp)
theorem ubut2_ok : PSound Tryz.prog 82 ubut2P := up_ok (but1_ok _ U2_h)
def U3 : Fns := { fn := fun f => U2.fn f,mu := fun d => .no,hp := fun f => if f = 82 then some ubut2P else U2.hp f,ord := fun i => none,it := fun f => U2.it f }
theorem U3_fn (f : FuncId) : U3.fn f = (U2.fn f) := rfl
theorem U3_mu (d : Tmp) : U3.mu d = (.no) := rfl
theorem U3_hp (f : FuncId) : U3.hp f = (if f = 82 then some ubut2P else U2.hp f) := rfl
theorem U3_ord (i : Nat) : U3.ord i = (none) := rfl
theorem U3_it (f : FuncId) : U3.it f = (U2.it f) := rfl
theorem U3_hy (b : Nat) : U3.hy b = none := rfl
theorem U3ok : FnsOk Tryz.prog U3 := FnsOk.same (FnsOk.consP U2ok _ _ ubut2_ok Tryz.func82 (by decide) (fun h => by cases h)) rfl rfl
attribute [bitvec_to_nat] U3_fn U3_mu U3_hp U3_ord U3_it U3_hy
theorem U3_h : HOk U3.hp := by
 refine ⟨FnsOk.same U3ok rfl rfl,fun f m h => ?_⟩
 rw [U3_hp] at h
 split at h
 · cases h; exact up_mono _
 · exact U2_h.mono f m h
abbrev inOrder3P : PM := inOrderP U3.hp
theorem inOrder3_ok : PSound Tryz.prog 51 inOrder3P := inOrder_ok _ U3_h
theorem made_step {H : FuncId → Option PM} {o bn bd : Nat} {n : Name} (h : H 74 = some (up made1P)) : StepV H o [(bn,[.str n]),(bd,[.box o 0])] (madeD n) (.fn (.func 74) [] [.box bn 0,.box bd 0]) := by
 intro L T M w K ho hd hs hc hK
 simp only [callV,h]
 exact ⟨_,fun _ _ _ h => h,bn,bd,n,M,w,rfl,by rw [ho]; exact (hc (bd,[.box o 0]) (by simp)).1,(hc (bn,[.str n]) (by simp)).1,hd,hs,fun L' T' w' ho' hd' hst => hK L' T' w' (ho'.trans ho) hd' hst⟩
def appendD (n : Name) (b : List UInt8) : Do := ⟨fun M => M.append n b,Small⟩
def syncD (n : Name) : Do := ⟨fun M => M.sync n,Small⟩
theorem grow2_step {H : FuncId → Option PM} {o bn bd bb : Nat} {n : Name} {b : List UInt8} {t : Option Nat} (h : H 75 = some (up grow2P)) (hb : b.length ≤ 1099511627776) : StepV H o [(bd,[.box o 0]),(bn,[.str n]),(bb,[.bytes b t])] (appendD n b) (.fn (.func 75) [] [.box bd 0,.box bn 0,.box bb 0]) := by
 intro L T M w K ho hd hs hc hK
 simp only [callV,h]
 exact ⟨_,fun _ _ _ h => h,bd,bn,bb,n,b,t,M,w,rfl,by rw [ho]; exact (hc (bd,[.box o 0]) (by simp)).1,(hc (bn,[.str n]) (by simp)).1,(hc (bb,[.bytes b t]) (by simp)).1,hb,hd,hs,fun L' T' w' ho' hd' hst => hK L' T' w' (ho'.trans ho) hd' hst⟩
def growD (n : Name) (b : List UInt8) : Do := runD [butD 4 (madeD n),appendD n b,syncD n]
def growAll (n : Name) (b : List UInt8) : Do := ⟨fun M => if growsOk n then (growD n b).f M else (M,1),fun M => growsOk n → (growD n b).pre M⟩
def P3 : Fns := { fn := fun f => if f = 50 then some rightN else P0.fn f,mu := fun d => .no,hp := fun f => if f = 52 then some butP else if f = 53 then some toP else if f = 51 then some inOrder3P else P0.hp f,ord := fun i => if i = 4 then some [(0,0),(2,0),(3,3),(4,3),(5,0),(1,1),(6,4),(7,0),(8,4),(9,0)] else none,it := fun f => P0.it f }
theorem P3_fn (f : FuncId) : P3.fn f = (if f = 50 then some rightN else P0.fn f) := rfl
theorem P3_mu (d : Tmp) : P3.mu d = (.no) := rfl
theorem P3_hp (f : FuncId) : P3.hp f = (if f = 52 then some butP else if f = 53 then some toP else if f = 51 then some inOrder3P else P0.hp f) := rfl
theorem P3_ord (i : Nat) : P3.ord i = (if i = 4 then some [(0,0),(2,0),(3,3),(4,3),(5,0),(1,1),(6,4),(7,0),(8,4),(9,0)] else none) := rfl
theorem P3_it (f : FuncId) : P3.it f = (P0.it f) := rfl
theorem P3_hy (b : Nat) : P3.hy b = none := rfl
theorem P3ok : FnsOk Tryz.prog P3 := FnsOk.same (FnsOk.consP (FnsOk.consP (FnsOk.consP (FnsOk.cons P0ok _ _ rightN_ok Tryz.func50 (by decide) (fun h => by cases h)) _ _ inOrder3_ok Tryz.func51 (by decide) (fun h => by cases h)) _ _ to_ok Tryz.func53 (by decide) (fun h => by cases h)) _ _ but_ok Tryz.func52 (by decide) (fun h => by cases h)) rfl rfl
attribute [bitvec_to_nat] P3_fn P3_mu P3_hp P3_ord P3_it P3_hy
def growFP : PM := fun args L T K => ∃ M w n b t,args = [.box w.o 0,.str n,.bytes b t] ∧ b.length ≤ 1099511627776 ∧ dAt L T M w ∧ (growAll n b).pre M ∧
 ∀ L' T' w',w'.o = w.o → dAt L' T' ((growAll n b).f M).1 w' → Step w.S w.R L T w'.S w'.R L' T' → K (codeV ((growAll n b).f M).2) L' T'
theorem growF_ok : PSound Tryz.prog 40 growFP := by
 refine psound tysOk P3ok mix Tryz.func40 rfl ?_
 intro args L T K hm
 obtain ⟨M,w,n,b,t,rfl,hb,hd,hp,hK⟩ := hm
 by_cases hr : growsOk n
 · have hrd : decide (growsOk n) = true := decide_eq_true hr
   simp (maxSteps:=2000000) only[bitvec_to_nat,seval,↓tcd,Tryz.f40,rightN,hrd]
   have hst3 : Step noS noS L T noS noS (L ++ [[V.box w.o 0]] ++ [[V.str n]] ++ [[V.bytes b t]]) T := (((Step.refl noS noS L T).app _).app _).app _
   have q1 : (L ++ [[V.box w.o 0]] ++ [[V.str n]] ++ [[V.bytes b t]])[L.length]? = some [.box w.o 0] := by simp
   have q2 : (L ++ [[V.box w.o 0]] ++ [[V.str n]] ++ [[V.bytes b t]])[(L ++ [[V.box w.o 0]]).length]? = some [.str n] := by simp
   have q3 : (L ++ [[V.box w.o 0]] ++ [[V.str n]] ++ [[V.bytes b t]])[(L ++ [[V.box w.o 0]] ++ [[V.str n]]).length]? = some [.bytes b t] := by simp
   have l1 : (L ++ [[V.box w.o 0]]).length = L.length + 1 := by simp
   have l2 : (L ++ [[V.box w.o 0]] ++ [[V.str n]]).length = L.length + 2 := by simp
   generalize (L ++ [[V.box w.o 0]] ++ [[V.str n]] ++ [[V.bytes b t]]) = L3 at hst3 q1 q2 q3 ⊢
   generalize (L ++ [[V.box w.o 0]] ++ [[V.str n]]).length = bb at q3 l2 ⊢
   generalize (L ++ [[V.box w.o 0]]).length = bn at q2 l1 ⊢
   simp (maxSteps:=2000000) only[bitvec_to_nat,seval,↓tcd,q1,q2]
   refine ⟨by kernel_rfl,4,74,[],[.box bn 0,.box L.length 0],rfl,?_⟩
   have hst4 : Step noS noS L3 T noS noS (L3 ++ [[codeV 4]] ++ [[V.fn (.func 74) [] [.box bn 0,.box L.length 0]]]) T := ((Step.refl noS noS L3 T).app _).app _
   have q4 : (L3 ++ [[codeV 4]] ++ [[V.fn (.func 74) [] [.box bn 0,.box L.length 0]]])[L3.length]? = some [codeV 4] := by simp
   have q5 : (L3 ++ [[codeV 4]] ++ [[V.fn (.func 74) [] [.box bn 0,.box L.length 0]]])[(L3 ++ [[codeV 4]]).length]? = some [V.fn (.func 74) [] [.box bn 0,.box L.length 0]] := by simp
   have l4 : (L3 ++ [[codeV 4]]).length = L3.length + 1 := by simp
   have q14 : (L3 ++ [[codeV 4]] ++ [[V.fn (.func 74) [] [.box bn 0,.box L.length 0]]])[L.length]? = some [.box w.o 0] := by rw [hst4.keep _ (lt_at q1) (fun h => h)]; exact q1
   have q24 : (L3 ++ [[codeV 4]] ++ [[V.fn (.func 74) [] [.box bn 0,.box L.length 0]]])[bn]? = some [.str n] := by rw [hst4.keep _ (lt_at q2) (fun h => h)]; exact q2
   have q34 : (L3 ++ [[codeV 4]] ++ [[V.fn (.func 74) [] [.box bn 0,.box L.length 0]]])[bb]? = some [.bytes b t] := by rw [hst4.keep _ (lt_at q3) (fun h => h)]; exact q3
   generalize (L3 ++ [[codeV 4]] ++ [[V.fn (.func 74) [] [.box bn 0,.box L.length 0]]]) = L4 at hst4 q4 q5 q14 q24 q34 ⊢
   generalize (L3 ++ [[codeV 4]]).length = bv at q5 l4 ⊢
   simp (maxSteps:=2000000) only[bitvec_to_nat,seval,↓tcd,q14,q24]
   refine ⟨n,58,[.box w.o 0],[],rfl,?_⟩
   have hst5 : Step noS noS L4 T noS noS (L4 ++ [[V.str n]] ++ [[V.fn (.func 58) [.box w.o 0] []]]) T := ((Step.refl noS noS L4 T).app _).app _
   have q6 : (L4 ++ [[V.str n]] ++ [[V.fn (.func 58) [.box w.o 0] []]])[L4.length]? = some [V.str n] := by simp
   have q7 : (L4 ++ [[V.str n]] ++ [[V.fn (.func 58) [.box w.o 0] []]])[(L4 ++ [[V.str n]]).length]? = some [V.fn (.func 58) [.box w.o 0] []] := by simp
   have l6 : (L4 ++ [[V.str n]]).length = L4.length + 1 := by simp
   generalize (L4 ++ [[V.str n]] ++ [[V.fn (.func 58) [.box w.o 0] []]]) = L5 at hst5 q6 q7 ⊢
   generalize (L4 ++ [[V.str n]]).length = bu at q7 l6 ⊢
   have k : ∀ i c,L4[i]? = some c → L5[i]? = some c := fun i c h => by rw [hst5.keep _ (lt_at h) (fun h => h)]; exact h
   have k4 : ∀ i c,L3[i]? = some c → L4[i]? = some c := fun i c h => by rw [hst4.keep _ (lt_at h) (fun h => h)]; exact h
   have hst : Step noS noS L T noS noS L5 T := (hst3.trans hst4).trans hst5
   have hd5 : dAt L5 T M w := hd.frame hst (fun _ _ h => h) (fun _ _ h => h)
   have z3 := hst3.len
   have z4 := hst4.len
   have no : ∀ i,L.length ≤ i → ¬ w.S i := fun i h hs => by have := hd.lt i hs; omega
   have e : (growAll n b).f M = (growD n b).f M := if_pos hr
   rw [e] at hK
   simp (maxSteps:=2000000) only[bitvec_to_nat,seval,↓tcd]
   refine ⟨[_,_,_],none,rfl,by simp,steps_run (cs := [(bv,[V.fn (.func 74) [] [.box bn 0,.box L.length 0]]),(L3.length,[codeV 4]),(bn,[.str n]),(L.length,[.box w.o 0]),(bb,[.bytes b t]),(bu,[V.fn (.func 58) [.box w.o 0] []]),(L4.length,[.str n])]) [(butD 4 (madeD n),_),(appendD n b,_),(syncD n,_)] ?_ L5 T M w _ rfl hd5 (hp hr) ?_ fun L' T' w' ho' hd' hst' => ?_⟩
   · intro p hp
     rcases List.mem_cons.1 hp with rfl | hp
     · exact (but_step (o := w.o) (bv := bv) (bc := L3.length) (H0 := U2.hp) rfl (made_step (bn := bn) (bd := L.length) rfl) rfl).more (by simp)
     · rcases List.mem_cons.1 hp with rfl | hp
       · exact (grow2_step (bd := L.length) (bn := bn) (bb := bb) (t := t) rfl hb).more (by simp)
       · obtain rfl := List.mem_singleton.1 hp
         exact (to_step (H0 := U0.hp) (f := 58) (n := n) (op := syncF) (bv := bu) (bn := L4.length) rfl rfl rfl).more (by simp)
   · exact ((((((((Has.nil L5 w).cons q6 (no _ (by omega))).cons q7 (no _ (by omega))).cons (k _ _ q34) (no _ (by omega))).cons (k _ _ q14) (no _ (by omega))).cons (k _ _ q24) (no _ (by omega))).cons (k _ _ q4) (no _ (by omega))).cons (k _ _ q5) (no _ (by omega)))
   · have hst2 : Step w.S w.R L T w'.S w'.R L' T' := ((Step.refl w.S w.R L T).via hst (fun _ h => h.elim) (fun _ h => h.elim)).trans hst'
     simp (maxSteps:=2000000) only[bitvec_to_nat,seval,↓tcd]
     exact ret_of hst2 (hK L' T' w' ho' hd' hst2)
 · have hrd : decide (growsOk n) = false := decide_eq_false hr
   simp (maxSteps:=2000000) only[bitvec_to_nat,seval,↓tcd,Tryz.f40,rightN,hrd]
   have e : (growAll n b).f M = (M,1) := if_neg hr
   rw [e] at hK
   have hst3 : Step noS noS L T noS noS (L ++ [[V.box w.o 0]] ++ [[V.str n]] ++ [[V.bytes b t]]) T := (((Step.refl noS noS L T).app _).app _).app _
   have hst3' : Step w.S w.R L T w.S w.R (L ++ [[V.box w.o 0]] ++ [[V.str n]] ++ [[V.bytes b t]]) T := (((Step.refl w.S w.R L T).app _).app _).app _
   exact ret_of hst3 (hK _ _ w rfl (hd.frame hst3 (fun _ _ h => h) (fun _ _ h => h)) hst3')
def chunks (b : List UInt8) : List (List UInt8) := (List.range ((b.length + 63) / 64)).map fun i => (b.drop (64 * i)).take 64
def removeD (n : Name) : Do := ⟨fun M => M.remove n,Small⟩
def renameD (n t : Name) : Do := ⟨fun M => M.rename n t,Small⟩
def partsD (b : List UInt8) : Do := runD ((chunks b).map (appendD onTheWay))
def putD (n : Name) (b : List UInt8) : Do := runD [butD 2 (removeD onTheWay),createD onTheWay,partsD b,syncD onTheWay,renameD onTheWay n,syncNamesD]
def putAll (n : Name) (b : List UInt8) : Do := ⟨fun M => if growsOk n then (putD n b).f M else (M,1),fun M => growsOk n → (putD n b).pre M⟩
def runFrom (l : List Do) (x : MD × Nat) : MD × Nat := if x.2 = 0 then runF l x.1 else x
def preFrom (l : List Do) (x : MD × Nat) : Prop := x.2 = 0 → runPre l x.1
theorem runF_cons (g : Do) (r : List Do) (M : MD) : runF (g :: r) M = runFrom r (g.f M) := rfl
theorem runF_app (r : List Do) : ∀ (l : List Do) (M : MD),runF (l ++ r) M = runFrom r (runF l M)
 | [],M => rfl
 | g :: l,M => by
  rw [List.cons_append,runF_cons,runF_cons]
  unfold runFrom
  by_cases h : (g.f M).2 = 0
  · rw [if_pos h,if_pos h,runF_app r l]; rfl
  · rw [if_neg h,if_neg h,if_neg h]
theorem pre_app (r : List Do) : ∀ (l : List Do) (M : MD),runPre l M → preFrom r (runF l M) → runPre (l ++ r) M
 | [],M,_,h => h rfl
 | g :: l,M,⟨h1,h2⟩,h => by
  refine ⟨h1,fun h0 => pre_app r l _ (h2 h0) ?_⟩
  rw [runF_cons] at h
  unfold runFrom at h
  rw [if_pos h0] at h
  exact h
theorem runF_runD (l r : List Do) (M : MD) : runF (runD l :: r) M = runF (l ++ r) M := by rw [runF_app]; rfl
theorem pre_runD (l r : List Do) (M : MD) (h : runPre (runD l :: r) M) : runPre (l ++ r) M := pre_app r l M h.1 h.2
theorem chunks_len (b : List UInt8) : (chunks b).length = (b.length + 63) / 64 := by simp [chunks]
theorem chunks_at {b : List UInt8} {k : Nat} (h : k < (chunks b).length) : (chunks b)[k] = (b.drop (64 * k)).take 64 := by simp [chunks]
end Go.Proofs.YthlmfalfnpjndaaGreat.Place
