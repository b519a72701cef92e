import Derived.Test.YthlmfalfnpjndaaGreatAwX
import Derived.Test.YthlmfalfnpjndaaGreatPlaceA
namespace Go.Proofs.YthlmfalfnpjndaaGreat.Place
open Go Go.Proofs Aw Num DiskM DiskA DiskK DiskC Disk DiskL
set_option linter.unusedSimpArgs false
set_option linter.unusedVariables false
def Has (cs : List (Nat × List V)) (L : LL) (w : Own) : Prop := ∀ p ∈ cs,L[p.1]? = some p.2 ∧ ¬ w.S p.1
theorem Has.step {cs : List (Nat × List V)} {L L' : LL} {T T' : TT} {w w' : Own} (h : Has cs L w) (g : Step w.S w.R L T w'.S w'.R L' T') : Has cs L' w' := fun p hp => by
 obtain ⟨h1,h2⟩ := h p hp
 have hlt := lt_at h1
 exact ⟨by rw [g.keep _ hlt h2]; exact h1,fun hs => (g.own _ hs).elim h2 (fun h => by omega)⟩
theorem Has.nil (L : LL) (w : Own) : Has [] L w := fun p hp => by cases hp
theorem Has.cons {cs : List (Nat × List V)} {L : LL} {w : Own} {i : Nat} {c : List V} (h : Has cs L w) (h1 : L[i]? = some c) (h2 : ¬ w.S i) : Has ((i,c) :: cs) L w := fun p hp => by
 rcases List.mem_cons.1 hp with rfl | hp
 · exact ⟨h1,h2⟩
 · exact h p hp
structure Do where
 f : MD → MD × Nat
 pre : MD → Prop
def runF : List Do → MD → MD × Nat
 | [],M => (M,0)
 | g :: r,M => if (g.f M).2 = 0 then runF r (g.f M).1 else g.f M
def runPre : List Do → MD → Prop
 | [],_ => True
 | g :: r,M => g.pre M ∧ ((g.f M).2 = 0 → runPre r (g.f M).1)
def runD (l : List Do) : Do := ⟨runF l,runPre l⟩
def butD (c : Nat) (g : Do) : Do := ⟨fun M => ((g.f M).1,if (g.f M).2 = c then 0 else (g.f M).2),g.pre⟩
def StepV (H : FuncId → Option PM) (o : Nat) (cs : List (Nat × List V)) (g : Do) (v : V) : Prop :=
 ∀ L T M w K,w.o = o → dAt L T M w → g.pre M → Has cs L w →
  (∀ L' T' w',w'.o = o → dAt L' T' (g.f M).1 w' → Step w.S w.R L T w'.S w'.R L' T' → K (codeV (g.f M).2) L' T') → callV H v [] L T K
theorem StepV.more {H : FuncId → Option PM} {o : Nat} {cs cs' : List (Nat × List V)} {g : Do} {v : V} (h : StepV H o cs g v) (hc : ∀ p ∈ cs,p ∈ cs') : StepV H o cs' g v :=
 fun L T M w K ho hd hp hs hK => h L T M w K ho hd hp (fun p hp => hs p (hc p hp)) hK
theorem steps_run {H : FuncId → Option PM} {o : Nat} {cs : List (Nat × List V)} : ∀ (l : List (Do × V)),(∀ p ∈ l,StepV H o cs p.1 p.2) → ∀ (L : LL) (T : TT) (M : MD) (w : Own) (K : V → LL → TT → Prop),w.o = o → dAt L T M w → runPre (l.map (·.1)) M → Has cs L w →
 (∀ L' T' w',w'.o = o → dAt L' T' (runF (l.map (·.1)) M).1 w' → Step w.S w.R L T w'.S w'.R L' T' → K (codeV (runF (l.map (·.1)) M).2) L' T') → stepsK H (l.map (·.2)) L T K
 | [],_,L,T,M,w,K,ho,hd,_,_,hK => hK L T w ho hd (Step.refl _ _ _ _)
 | (g,v) :: r,hl,L,T,M,w,K,ho,hd,⟨hp,hq⟩,hs,hK => by
  refine hl (g,v) (by simp) L T M w _ ho hd hp hs fun L' T' w' ho' hd' hst => ⟨hst.len,hst.tlen,(g.f M).2,rfl,?_⟩
  by_cases h0 : (g.f M).2 = 0
  · rw [if_pos h0]
    refine steps_run r (fun p hp => hl p (List.mem_cons_of_mem _ hp)) L' T' (g.f M).1 w' K ho' hd' (hq h0) (hs.step hst) fun L2 T2 w2 ho2 hd2 hst2 => ?_
    have e : runF (((g,v) :: r).map (·.1)) M = runF (r.map (·.1)) (g.f M).1 := by show (if _ then _ else _) = _; rw [if_pos h0]
    rw [e] at hK
    exact hK L2 T2 w2 ho2 hd2 (hst.trans hst2)
  · rw [if_neg h0]
    have e : runF (((g,v) :: r).map (·.1)) M = g.f M := by show (if _ then _ else _) = _; rw [if_neg h0]
    rw [e] at hK
    exact hK L' T' w' ho' hd' hst
theorem to_step {H0 H1 : FuncId → Option PM} {f o bv bn : Nat} {n : Name} {op : List V → Option (MD → MD × V)} {g : MD → MD × Nat} (h1 : H1 83 = some (up (to1P H0))) (hf : H0 f = some (up (opP op))) (hop : op [.str n] = some fun M => ((g M).1,codeV (g M).2)) :
 StepV H1 o [(bv,[.fn (.func f) [.box o 0] []]),(bn,[.str n])] ⟨g,Small⟩ (.fn (.func 83) [] [.box bv 0,.box bn 0]) := by
 intro L T M w K ho hd hs hc hK
 simp only [callV,h1]
 refine ⟨K,fun _ _ _ h => h,bv,bn,n,.fn (.func f) [.box o 0] [],rfl,(hc (bv,[.fn (.func f) [.box o 0] []]) (by simp)).1,rfl,(hc (bn,[.str n]) (by simp)).1,?_⟩
 simp only [callV,hf]
 exact ⟨_,fun _ _ _ h => h,M,w,[.str n],_,by rw [ho]; rfl,hop,hd,hs,fun L' T' w' ho' hd' hst => ⟨hst.len,hst.tlen,hK L' T' w' (ho'.trans ho) hd' hst⟩⟩
theorem bound_step {H : FuncId → Option PM} {f o : Nat} {op : List V → Option (MD → MD × V)} {g : MD → MD × Nat} (hf : H f = some (up (opP op))) (hop : op [] = some fun M => ((g M).1,codeV (g M).2)) :
 StepV H o [] ⟨g,Small⟩ (.fn (.func f) [.box o 0] []) := by
 intro L T M w K ho hd hs hc hK
 simp only [callV,hf]
 exact ⟨_,fun _ _ _ h => h,M,w,[],_,by rw [ho]; rfl,hop,hd,hs,fun L' T' w' ho' hd' hst => hK L' T' w' (ho'.trans ho) hd' hst⟩
theorem but_step {H0 H1 : FuncId → Option PM} {o bv bc c : Nat} {cs : List (Nat × List V)} {g : Do} {v : V} (h1 : H1 82 = some (up (but1P H0))) (hg : StepV H0 o cs g v) (hv : v.isAgg = false) :
 StepV H1 o ((bv,[v]) :: (bc,[codeV c]) :: cs) (butD c g) (.fn (.func 82) [] [.box bv 0,.box bc 0]) := by
 intro L T M w K ho hd hs hc hK
 simp only [callV,h1]
 refine ⟨K,fun _ _ _ h => h,bv,bc,c,v,rfl,(hc (bv,[v]) (by simp)).1,hv,(hc (bc,[codeV c]) (by simp)).1,?_⟩
 exact hg L T M w _ ho hd hs (fun p hp => hc p (by simp [hp])) fun L' T' w' ho' hd' hst => ⟨hst.len,hst.tlen,((hc.step hst) (bc,[codeV c]) (by simp)).1,(g.f M).2,rfl,hK L' T' w' ho' hd' hst⟩
abbrev appendP : PM := opP appendF
def P1 : Fns := { fn := fun f => P0.fn f,mu := fun d => .no,hp := fun f => if f = 60 then some renameP else if f = 21 then some appendP else if f = 54 then some removeP else P0.hp f,ord := fun i => none,it := fun f => P0.it f }
theorem P1_fn (f : FuncId) : P1.fn f = (P0.fn f) := rfl
theorem P1_mu (d : Tmp) : P1.mu d = (.no) := rfl
theorem P1_hp (f : FuncId) : P1.hp f = (if f = 60 then some renameP else if f = 21 then some appendP else if f = 54 then some removeP else P0.hp f) := rfl
theorem P1_ord (i : Nat) : P1.ord i = (none) := rfl
theorem P1_it (f : FuncId) : P1.it f = (P0.it f) := rfl
theorem P1_hy (b : Nat) : P1.hy b = none := rfl
theorem P1ok : FnsOk Tryz.prog P1 := FnsOk.same (FnsOk.consP (FnsOk.consP (FnsOk.consP P0ok _ _ remove_ok Tryz.func54 (by decide) (fun h => by cases h)) _ _ append_ok Tryz.func21 (by decide) (fun h => by cases h)) _ _ rename_ok Tryz.func60 (by decide) (fun h => by cases h)) rfl rfl
attribute [bitvec_to_nat] P1_fn P1_mu P1_hp P1_ord P1_it P1_hy
def onTheWay : Name := [116,109,112]
def put2P : PM := fun args L T K => ∃ bd bn n M w,args = [.box bd 0,.box bn 0] ∧ L[bd]? = some [.box w.o 0] ∧ L[bn]? = some [.str n] ∧ dAt L T M w ∧ Small M ∧
 ∀ L' T' w',w'.o = w.o → dAt L' T' (M.rename onTheWay n).1 w' → Step w.S w.R L T w'.S w'.R L' T' → K (codeV (M.rename onTheWay n).2) L' T'
theorem put2_ok : PSound Tryz.prog 59 put2P := by
 refine psound tysOk P1ok mix Tryz.func59 rfl ?_
 intro args L T K hm
 obtain ⟨bd,bn,n,M,w,rfl,h1,h2,hd,hs,hK⟩ := hm
 simp (maxSteps:=2000000) only[bitvec_to_nat,seval,↓tcd,Tryz.f59,h1,h2]
 exact op_at rfl hd hs fun L' T' w' ho hd' hst => ret_of hst (hK L' T' w' ho hd' hst)
def grow2P : PM := fun args L T K => ∃ bd bn bb n b t M w,args = [.box bd 0,.box bn 0,.box bb 0] ∧ L[bd]? = some [.box w.o 0] ∧ L[bn]? = some [.str n] ∧ L[bb]? = some [.bytes b t] ∧ b.length ≤ 1099511627776 ∧ dAt L T M w ∧ Small M ∧
 ∀ L' T' w',w'.o = w.o → dAt L' T' (M.append n b).1 w' → Step w.S w.R L T w'.S w'.R L' T' → K (codeV (M.append n b).2) L' T'
theorem grow2_ok : PSound Tryz.prog 75 grow2P := by
 refine psound tysOk P1ok mix Tryz.func75 rfl ?_
 intro args L T K hm
 obtain ⟨bd,bn,bb,n,b,t,M,w,rfl,h1,h2,h3,hb,hd,hs,hK⟩ := hm
 simp (maxSteps:=2000000) only[bitvec_to_nat,seval,↓tcd,Tryz.f75,h1,h2,h3]
 exact op_at (if_pos hb) hd hs fun L' T' w' ho hd' hst => ret_of hst (hK L' T' w' ho hd' hst)
end Go.Proofs.YthlmfalfnpjndaaGreat.Place
