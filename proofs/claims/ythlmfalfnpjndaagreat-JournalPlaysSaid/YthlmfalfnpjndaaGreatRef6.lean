import Derived.Test.YthlmfalfnpjndaaGreatAwX
import Derived.Test.YthlmfalfnpjndaaGreatRef5
namespace Go.Proofs.YthlmfalfnpjndaaGreat.Ref
open Go Go.Proofs Aw Num DiskM DiskA DiskC Disk
set_option linter.unusedSimpArgs false
set_option linter.unusedVariables false
def R12 : Fns := { fn := fun f => R7.fn f,mu := fun d => bif d == 12 then .grow else .no,hp := fun f => R7.hp f,ord := fun i => if i = 3 then some [(0,0),(2,0),(3,0),(10,0),(1,2),(4,2),(5,0),(6,0),(7,0),(8,0),(9,0),(11,0),(12,0)] else none,it := fun f => R7.it f }
theorem R12_fn (f : FuncId) : R12.fn f = (R7.fn f) := rfl
theorem R12_mu (d : Tmp) : R12.mu d = (bif d == 12 then .grow else .no) := rfl
theorem R12_hp (f : FuncId) : R12.hp f = (R7.hp f) := rfl
theorem R12_ord (i : Nat) : R12.ord i = (if i = 3 then some [(0,0),(2,0),(3,0),(10,0),(1,2),(4,2),(5,0),(6,0),(7,0),(8,0),(9,0),(11,0),(12,0)] else none) := rfl
theorem R12_it (f : FuncId) : R12.it f = (R7.it f) := rfl
theorem R12_hy (b : Nat) : R12.hy b = none := rfl
theorem R12ok : FnsOk Tryz.prog R12 := FnsOk.same R7ok rfl rfl
attribute [bitvec_to_nat] R12_fn R12_mu R12_hp R12_ord R12_it R12_hy
theorem softs_refl (cs : List V) : softs cs cs := ⟨rfl,fun j hj => .inl rfl⟩
def leftRP : PM := fun args L T K => ∃ (n : Int) (X : V) (bs : List Int) (i m : Nat),args = [.agg [.int .i64 n,X],.int .i64 (i : Int),.int .i64 (m : Int)] ∧ wreckX X bs ∧ bs.length ≤ 9223372036854775807 ∧ K (.int .i64 (wleft ⟨n,bs⟩ i m : Nat)) (L ++ [[.int .i64 n,X]]) T
theorem leftR_ok : PSound Tryz.prog 30 leftRP := by
 refine psound tysOk R12ok mix Tryz.func30 rfl ?_
 intro args L T K hm
 obtain ⟨n,X,bs,i,m,rfl,hX,hbs,hK⟩ := hm
 have hs := (Step.refl noS noS L T).app [[.int .i64 n,X]]
 rcases hX with ⟨rfl,rfl⟩ | ⟨t,rfl⟩
 · simp (maxSteps:=2000000) only[bitvec_to_nat,seval,↓tcd,Tryz.f30]
   exact ret_of hs hK
 · by_cases hb0 : bs = []
   · subst hb0
     have h0 : decide (((0 : Nat) : Int) = 0) = true := rfl
     simp only [List.map_nil] at hK hs ⊢
     simp (maxSteps:=2000000) only[bitvec_to_nat,seval,↓tcd,Tryz.f30,h0]
     exact ret_of hs hK
   · obtain ⟨g1,g2,g3,g4⟩ := bs_get hb0 i
     simp (maxSteps:=2000000) only[bitvec_to_nat,seval,↓tcd,Tryz.f30,List.length_map,g3,g4,Int.toNat_natCast]
     refine awpIf_intro (fun h => ?_) (fun h => ⟨by kernel_rfl,by omega,⟨by omega,by omega⟩,?_⟩)
     · rw [decide_eq_true_eq] at h; omega
     · have hw : (if (m : Int) < (if bs.getD (i % bs.length) 0 < 0 then 0 else bs.getD (i % bs.length) 0) then (m : Int) else if bs.getD (i % bs.length) 0 < 0 then 0 else bs.getD (i % bs.length) 0) = ((wleft ⟨n,bs⟩ i m : Nat) : Int) := by
        unfold wleft within
        rw [if_neg hb0]
        simp only
        obtain ⟨x,hx⟩ : ∃ x,bs.getD (i % bs.length) 0 = x := ⟨_,rfl⟩
        rw [hx]
        split <;> split <;> omega
       rw [hw]
       exact ret_of hs hK
theorem num_len (l : Names) (k : Nat) : (num l k).length = l.length := by
 have := congrArg List.length (num_names l k)
 simpa using this
theorem le_row {ρ ρ' : List V} {L : LL} {T : TT} {o : Nat} {cs cs' : List V} (h : V.le.leL ρ ρ') (ho : L[o]? = some cs) (hl : V.le.leL cs cs') : St.le ⟨ρ,L,T⟩ ⟨ρ',L.set o cs',T⟩ := ⟨h,leLL_set ho hl,List.take_length,.inl ⟨rfl,by simp⟩⟩
def R13 : Fns := { fn := fun f => R12.fn f,mu := fun d => bif d == 79 then .grow else bif d == 8 then .nil 52 else .no,hp := fun f => if f = 29 then some changeRP else if f = 30 then some leftRP else R12.hp f,ord := fun i => if i = 11 then some [(0,0),(1,0),(2,0),(3,3),(4,0),(5,0),(6,0),(7,0),(8,0),(9,0),(10,3),(11,1),(12,4)] else if i = 12 then some [(0,0),(1,3),(3,0),(4,0),(7,0),(2,2),(5,2),(6,0),(8,2),(9,0),(10,1),(11,0),(12,0)] else none,it := fun f => R12.it f }
theorem R13_fn (f : FuncId) : R13.fn f = (R12.fn f) := rfl
theorem R13_mu (d : Tmp) : R13.mu d = (bif d == 79 then .grow else bif d == 8 then .nil 52 else .no) := rfl
theorem R13_hp (f : FuncId) : R13.hp f = (if f = 29 then some changeRP else if f = 30 then some leftRP else R12.hp f) := rfl
theorem R13_ord (i : Nat) : R13.ord i = (if i = 11 then some [(0,0),(1,0),(2,0),(3,3),(4,0),(5,0),(6,0),(7,0),(8,0),(9,0),(10,3),(11,1),(12,4)] else if i = 12 then some [(0,0),(1,3),(3,0),(4,0),(7,0),(2,2),(5,2),(6,0),(8,2),(9,0),(10,1),(11,0),(12,0)] else none) := rfl
theorem R13_it (f : FuncId) : R13.it f = (R12.it f) := rfl
theorem R13_hy (b : Nat) : R13.hy b = none := rfl
theorem R13ok : FnsOk Tryz.prog R13 := FnsOk.same (FnsOk.consP (FnsOk.consP R12ok _ _ leftR_ok Tryz.func30 (by decide) (fun h => by cases h)) _ _ changeR_ok Tryz.func29 (by decide) (fun h => by cases h)) rfl rfl
attribute [bitvec_to_nat] R13_fn R13_mu R13_hp R13_ord R13_it R13_hy
def crashRP : PM := fun args L T K => ∃ M o fo n X bs,args = [.box o 0,.agg [.int .i64 n,X]] ∧ wreckX X bs ∧ bs.length ≤ 9223372036854775807 ∧ RefAt L M o fo ∧ Small M ∧
 ∀ L' T' fo',RefAt L' (M.crash ⟨n,bs⟩) o fo' → Step (rS o fo) noS L T (rS o fo') noS L' T' → K (codeV 0) L' T'
def gath (fx : Option Nat) (k : Nat) : V := match fx with
 | none => .nils
 | some x => .vrow 76 2 x k
def gathAt (L1 L2 : LL) (fx : Option Nat) (F : List (List UInt8 × Nat)) : Prop := match fx with
 | none => F = []
 | some x => L1.length ≤ x ∧ ∃ cs,L2[x]? = some cs ∧ cs ≠ [] ∧ cs.take (F.length * 2) = fileCs F
def crashRP0 : PM := fun args L T K => ∃ M o fo n X bs,args = [.box o 0,.agg [.int .i64 n,X]] ∧ wreckX X bs ∧ bs.length ≤ 9223372036854775807 ∧ RefAt L M o fo ∧ Small M ∧
 ∀ L' T' fx lf,L'[o]? = some (gath fx (M.crash ⟨n,bs⟩).files.length :: (hdV 0 0 (M.crash ⟨n,bs⟩).now (M.crash ⟨n,bs⟩).kept [] M.room false false lf).tail) → gathAt L L' fx (M.crash ⟨n,bs⟩).files → Step (fun i => i = o) noS L T (fun i => i = o) noS L' T' → K (codeV 0) L' T'
set_option maxHeartbeats 4000000 in
theorem crashR0_ok : PSound Tryz.prog 10 crashRP0 := by
 refine psound tysOk R13ok mix Tryz.func10 rfl ?_
 intro args L T K hm
 obtain ⟨M,o,fo,n,X,bs,rfl,hX,hbs,hd,hsm,hK⟩ := hm
 obtain ⟨lf,h1,h2⟩ := hd.head
 have hlt := lt_at h1
 have hnf := hsm.nf
 obtain ⟨N,hN⟩ : ∃ N,M.files.length = N := ⟨_,rfl⟩
 rw [hN] at h1 hnf
 simp (maxSteps:=2000000) only[bitvec_to_nat,seval,↓tcd,Tryz.f10,h1,hlt]
 have hw0 : (L ++ [[V.int .i64 n,X]])[L.length]? = some [.int .i64 n,X] := at_new rfl _
 refine awpLoop_intro (α := {q : List Chg × List Chg × LL × TT // M.chs = q.1 ++ q.2.1 ∧ q.1.length ≤ within n M.chs.length ∧ Step noS noS L T noS noS q.2.2.1 q.2.2.2 ∧ q.2.2.1[L.length]? = some [.int .i64 n,X]})
  (fun q => ⟨[.box o 0,.any,.any,.box L.length 0,.any,.list 2 ((play M.kept q.1.1).map nameV) none,.int .i64 (q.1.1.length : Int),.any,.any,.any,.any,.any,.any,.any,.any,.any,.any,.any,.any,.any,.any,.any,.any,.any,.any,.any,.any,.any,.any,.any,.any,.any,.any,.any,.any,.any,.any,.any,.any,.any,.any,.any,.any,.any,.any,.any,.any,.any,.any,.any,.any,.any,.any,.any,.any,.any,.any,.any,.any,.any,.any,.any,.any,.any,.any,.any,.any,.any,.any,.any,.any,.any,.any,.any,.any,.any,.any,.any,.any,.any,.any,.any,.any,.any,.any,.any,.any,.any,.any,.any,.any,.any,.any,.any,.any,.any,.any,.any,.any,.any,.any,.any,.any,.any,.any,.any,.any,.any,.any,.any,.any,.any,.any],q.1.2.2.1,q.1.2.2.2⟩) (fun q => q.1.2.1.length)
  ⟨([],M.chs,L ++ [[V.int .i64 n,X]],T),rfl,Nat.zero_le _,(Step.refl _ _ _ _).app _,hw0⟩ ?_ ?_ (fun q => ⟨q.2.2.2.1.len,q.2.2.2.1.tlen⟩)
 · simp (maxSteps:=2000000) only[bitvec_to_nat,seval,↓tcd,leLL_self]
   first | rfl | exact ⟨rfl,rfl⟩
 · rintro ⟨⟨pre,cs,L2,T2⟩,hpre,hple,hs2,hw2⟩
   simp only at hpre hple hs2 hw2
   have k1 : L2[o]? = some [.vrow 76 2 fo N,.list 2 (M.now.map nameV) none,.list 2 (M.kept.map nameV) none,.list 3 (M.chs.map Ref.chgV) none,.int .i64 M.room,.bool M.down,.bool M.doomed,.int .i64 lf] := by
    rw [hs2.keep o hlt (fun h => h)]; exact h1
   have kl1 := lt_at k1
   have wl2 := lt_at hw2
   have hcl0 : M.chs.length ≤ 1099511627776 := hsm.chs
   have hpl0 : pre.length ≤ M.chs.length := by rw [hpre]; simp
   by_cases hgo : pre.length < M.chs.length ∧ (pre.length : Int) < n
   · obtain ⟨hg1,hg2⟩ := hgo
     obtain ⟨c,cs,rfl⟩ : ∃ c cs',cs = c :: cs' := by
      cases cs with
      | nil => rw [hpre] at hg1; simp at hg1
      | cons c cs => exact ⟨c,cs,rfl⟩
     have hdc : decide ((pre.length : Int) < (M.chs.length : Int)) = true := decide_eq_true (by omega)
     have hdn : decide ((pre.length : Int) < n) = true := decide_eq_true hg2
     have hgd : (List.map Ref.chgV M.chs).getD pre.length .any = .agg [.str c.frm,.str c.to,.int .i64 (c.file : Int)] := by
      rw [hpre,List.map_append,List.getD_eq_getElem?_getD,List.getElem?_append_right (by simp),List.length_map]
      simp [Ref.chgV]
     have hi : IntKind.i64.wrap ((pre.length : Int) + 1) = ((pre ++ [c]).length : Int) := by
      rw [i64w (by omega) (by omega)]; simp
     have hcan : CanAll (play M.kept pre) (c :: cs) := canAll_app (hpre ▸ hd.ok.can)
     have hpc : M.chs = (pre ++ [c]) ++ cs := by rw [hpre]; simp
     have hpp : play M.kept (pre ++ [c]) = chg (play M.kept pre) c := play_snoc _ _ _
     have hll := play_len hd.ok hpre
     simp (maxSteps:=2000000) only[bitvec_to_nat,seval,↓tcd,hdc,hdn,hgd,k1,kl1,hw2,wl2,Int.toNat_natCast,List.length_map]
     refine ⟨⟨by omega,by omega⟩,play M.kept pre,c,rfl,hcan.1,by omega,fun L3 T3 hst3 => ?_⟩
     simp (maxSteps:=2000000) only[bitvec_to_nat,seval,↓tcd]
     refine ⟨⟨(pre ++ [c],cs,L3,T3),hpc,by unfold within; rw [List.length_append,List.length_singleton]; omega,hs2.trans hst3,by simp only; rw [hst3.keep _ wl2 (fun h => h)]; exact hw2⟩,?_,by simp⟩
     simp (maxSteps:=2000000) only[bitvec_to_nat,seval,↓tcd,leLL_self,hpp,hi]
   · obtain ⟨m,hm⟩ : ∃ m,play M.kept pre = m := ⟨_,rfl⟩
     have hat : M.at ⟨n,bs⟩ = m := by
      unfold MD.at
      rw [← hm]
      congr 1
      have : within n M.chs.length = pre.length := by
       unfold within at hple ⊢
       omega
      rw [this]
      conv => lhs; rw [hpre]
      rw [List.take_left']
      rfl
     have hml : m.length ≤ N := by rw [← hm,← hN]; exact play_len hd.ok hpre
     have hcn : (M.crash ⟨n,bs⟩).now = num m 0 := by rw [crash_eq,hat]; rfl
     have hck : (M.crash ⟨n,bs⟩).kept = num m 0 := by rw [crash_eq,hat]; rfl
     rw [hm]
     by_cases hdc : pre.length < M.chs.length
     · have hdc' : decide ((pre.length : Int) < (M.chs.length : Int)) = true := decide_eq_true (by omega)
       have hdn : decide ((pre.length : Int) < n) = false := decide_eq_false (fun h => hgo ⟨hdc,h⟩)
       simp (maxSteps:=2000000) only[bitvec_to_nat,seval,↓tcd,hdc',hdn,k1,kl1,hw2,wl2,List.length_map]
       refine awpLoop_intro (α := {q : Nat × Option Nat × LL × TT // q.1 ≤ m.length ∧ Step noS noS L2 T2 noS noS q.2.2.1 q.2.2.2 ∧ gathAt L2 q.2.2.1 q.2.1 (crs M ⟨n,bs⟩ (m.take q.1) 0) ∧ q.2.2.2[T2.length]? = some ((num (m.take q.1) 0).length,78) ∧ T2.length < q.2.2.2.length})
        (fun q => ⟨[.box o 0,.any,.any,.box L.length 0,.any,.list 2 (m.map nameV) none,.any,gath q.1.2.1 q.1.1,.list 2 ((num (m.take q.1.1) 0).map nameV) (some T2.length),.int .i64 (q.1.1 : Int),.any,.any,.any,.any,.any,.any,.any,.any,.any,.any,.any,.any,.any,.any,.any,.any,.any,.any,.any,.any,.any,.any,.any,.any,.any,.any,.any,.any,.any,.any,.any,.any,.any,.any,.any,.any,.any,.any,.any,.any,.any,.any,.any,.any,.any,.any,.any,.any,.any,.any,.any,.any,.any,.any,.any,.any,.any,.any,.any,.any,.any,.any,.any,.any,.any,.any,.any,.any,.any,.any,.any,.any,.any,.any,.any,.any,.any,.any,.any,.any,.any,.any,.any,.any,.any,.any,.any,.any,.any,.any,.any,.any,.any,.any,.any,.any,.any,.any,.any,.any,.any,.any,.any],q.1.2.2.1,q.1.2.2.2⟩) (fun q => m.length - q.1.1)
        ⟨(0,none,L2,T2 ++ [(0,78)]),Nat.zero_le _,(Step.refl _ _ _ _).tapp _,rfl,by rw [tat_new rfl]; rfl,by simp⟩ ?_ ?_ (fun q => ⟨Nat.le_trans hs2.len q.2.2.1.len,Nat.le_trans hs2.tlen q.2.2.1.tlen⟩)
       · simp (maxSteps:=2000000) only[bitvec_to_nat,seval,↓tcd,leLL_self,gath]
         all_goals first | rfl | exact ⟨rfl,rfl⟩ | trivial
       · rintro ⟨⟨i,fx,L3,T3⟩,hi,hs3,hga,hT,hTl⟩
         simp only at hi hs3 hga hT hTl
         have k3 : L3[o]? = some [.vrow 76 2 fo N,.list 2 (M.now.map nameV) none,.list 2 (M.kept.map nameV) none,.list 3 (M.chs.map Ref.chgV) none,.int .i64 M.room,.bool M.down,.bool M.doomed,.int .i64 lf] := by
          rw [hs3.keep o kl1 (fun h => h)]; exact k1
         have hw3 : L3[L.length]? = some [.int .i64 n,X] := by rw [hs3.keep _ wl2 (fun h => h)]; exact hw2
         have kl3 := lt_at k3
         have wl3 := lt_at hw3
         have hd3 : RefAt L3 M o fo := (hd.frame hs2 (fun _ _ h => h)).frame hs3 (fun _ _ h => h)
         obtain ⟨cs0,r1,r2,r3⟩ := row_get hd3
         have hcl := lt_at r1
         by_cases him : i < m.length
         · have hdi : decide ((i : Int) < (m.length : Int)) = true := decide_eq_true (by omega)
           obtain ⟨e,he⟩ : ∃ e,m[i]? = some e := ⟨_,List.getElem?_eq_getElem him⟩
           obtain ⟨hil,hie⟩ := List.getElem?_eq_some_iff.1 he
           have hgd := name_get he
           have hi1 : IntKind.i64.wrap ((i : Int) + 1) = ((i + 1 : Nat) : Int) := by rw [i64w (by omega) (by omega)]; omega
           have hel : e.2 < M.files.length := (at_ok hd.ok ⟨n,bs⟩).2.2.2.1 e (by rw [hat]; exact List.mem_of_getElem? he)
           have htwo := row_two hd3 r1 hel
           have hct := file_cut hd.ok e.2
           have hfs := file_small hsm e.2
           obtain ⟨x,hx⟩ : ∃ x,M.file e.2 = x := ⟨_,rfl⟩
           rw [hx] at htwo hct hfs
           rw [hN] at hel r2
           have hwk : IntKind.i64.wrap ((x.1.length : Int) - (x.2 : Int)) = ((x.1.length - x.2 : Nat) : Int) := by rw [i64w (by omega) (by omega)]; omega
           have hwl := wleft_le ⟨n,bs⟩ i (x.1.length - x.2)
           have hwq : IntKind.i64.wrap ((x.2 : Int) + (wleft ⟨n,bs⟩ i (x.1.length - x.2) : Nat)) = ((x.2 + wleft ⟨n,bs⟩ i (x.1.length - x.2) : Nat) : Int) := by rw [i64w (by omega) (by omega)]; omega
           obtain ⟨q,hq⟩ : ∃ q,x.2 + wleft ⟨n,bs⟩ i (x.1.length - x.2) = q := ⟨_,rfl⟩
           rw [hq] at hwq
           have hcf : crashF ⟨n,bs⟩ i x = (x.1.take q,q) := by unfold crashF; rw [hq]
           have hy1 : (L3 ++ [[V.bytes x.1 none,.int .i64 (x.2 : Int)]] ++ [[.int .i64 n,X]])[L3.length]? = some [V.bytes x.1 none,.int .i64 (x.2 : Int)] := by rw [at_app (by simp),at_new rfl]
           have hyl : L3.length < (L3 ++ [[V.bytes x.1 none,.int .i64 (x.2 : Int)]] ++ [[.int .i64 n,X]]).length := by simp
           have htk : m.take (i + 1) = m.take i ++ [e] := by rw [List.take_succ_eq_append_getElem hil,hie]
           have htl : (m.take i).length = i := by rw [List.length_take]; omega
           have hnum : num (m.take (i + 1)) 0 = num (m.take i) 0 ++ [(e.1,i)] := by rw [htk,num_app,htl]; simp [num]
           have hcrs : crs M ⟨n,bs⟩ (m.take (i + 1)) 0 = crs M ⟨n,bs⟩ (m.take i) 0 ++ [(x.1.take q,q)] := by rw [htk,crs_app,htl]; simp [crs,hx,hcf]
           have hcl2 : (crs M ⟨n,bs⟩ (m.take i) 0).length = i := by rw [crs_len,htl]
           have hnl2 : (num (m.take i) 0).length = i := by rw [num_len,htl]
           have hfc : fileCs (crs M ⟨n,bs⟩ (m.take (i + 1)) 0) = fileCs (crs M ⟨n,bs⟩ (m.take i) 0) ++ [.bytes (x.1.take q) none,.int .i64 (q : Int)] := by rw [hcrs]; unfold fileCs; rw [List.flatMap_append]; rfl
           have hcl3 : (crs M ⟨n,bs⟩ (m.take (i + 1)) 0).length = i + 1 := by rw [hcrs,List.length_append,hcl2]; rfl
           have hcc : List.flatMap V.cells [V.agg [V.bytes (x.1.take q) (some T3.length),.int .i64 (q : Int)]] = [V.bytes (x.1.take q) (some T3.length),.int .i64 (q : Int)] := rfl
           have hTx : (T3 ++ [((x.1.take q).length,5)] ++ [(1,76)] ++ [(1,78)])[T2.length]? = some ((num (m.take i) 0).length,78) := by
            rw [tat_app (by simp; omega),tat_app (by simp; omega),tat_app hTl]; exact hT
           have hql : (x.1.take q).length = q := by rw [List.length_take]; omega
           have hY : ∀ Lz,Step noS noS L2 T2 noS noS Lz (T3 ++ [((x.1.take q).length,5)] ++ [(1,76)] ++ [(1,78)]) → Step noS noS L2 T2 noS noS Lz ((T3 ++ [((x.1.take q).length,5)] ++ [(1,76)] ++ [(1,78)]).set T2.length ((num (m.take (i + 1)) 0).length,78)) := fun Lz g => g.tset (k := T2.length) (.inr (Nat.le_refl _)) _
           have hTfin : ((T3 ++ [((x.1.take q).length,5)] ++ [(1,76)] ++ [(1,78)]).set T2.length ((num (m.take (i + 1)) 0).length,78))[T2.length]? = some ((num (m.take (i + 1)) 0).length,78) := List.getElem?_set_self (by simp; omega)
           have hTflen : T2.length < ((T3 ++ [((x.1.take q).length,5)] ++ [(1,76)] ++ [(1,78)]).set T2.length ((num (m.take (i + 1)) 0).length,78)).length := by simp; omega
           have hnl3 : ((num (m.take i) 0).map nameV ++ [V.agg [V.str e.1,.int .i64 (i : Int)]]).length = (num (m.take (i + 1)) 0).length := by rw [hnum]; simp
           have hnm : (num (m.take (i + 1)) 0).map nameV = (num (m.take i) 0).map nameV ++ [V.agg [V.str e.1,.int .i64 (i : Int)]] := by rw [hnum,List.map_append]; rfl
           obtain ⟨Y,hYe⟩ : ∃ Y,L3 ++ [[V.bytes x.1 none,.int .i64 (x.2 : Int)]] ++ [[.int .i64 n,X]] = Y := ⟨_,rfl⟩
           have hYs : Step noS noS L3 T3 noS noS Y (T3 ++ [((x.1.take q).length,5)] ++ [(1,76)] ++ [(1,78)]) := by rw [← hYe]; exact (((((Step.refl _ _ _ _).app _).app _).tapp _).tapp _).tapp _
           have hYl : L2.length ≤ Y.length := Nat.le_trans hs3.len hYs.len
           simp (maxSteps:=2000000) only[bitvec_to_nat,Nat.reduceAdd,Nat.reduceSub,Nat.reduceMul,Nat.reduceLT,Nat.reduceLeDiff,Nat.reduceEqDiff,Nat.reduceBEq,Nat.reduceBNe,Int.reduceToNat,Int.reduceLE,Int.reduceLT,Int.reduceEq,Int.reduceNe,Int.reduceNeg,Nat.reducePow,Int.reducePow,reduceIte,reduceCtorEq,↓tcd,hdi,hgd,k3,kl3,hw3,wl3,r1,hcl,htwo,hwk,Int.toNat_natCast,List.length_map]
           refine ⟨by kernel_rfl,⟨by omega,by omega⟩,⟨by omega,by omega⟩,by omega,by omega,by kernel_rfl,n,X,bs,i,x.1.length - x.2,rfl,hX,hbs,?_⟩
           cases fx with
           | none =>
            have hF0 : crs M ⟨n,bs⟩ (m.take i) 0 = [] := hga
            have hi0 : i = 0 := by rw [hF0] at hcl2; exact hcl2.symm
            simp (maxSteps:=2000000) only[bitvec_to_nat,seval,↓tcd,hy1,hyl,hwq,gath,hgd,Int.toNat_natCast,List.length_map,hT,hTl,hi1,hcc]
            rw [hYe,hnl3]
            refine ⟨⟨by omega,by omega⟩,by unfold maxBytes; omega,by decide,⟨by omega,by omega⟩,⟨hTx,by unfold maxBytes; omega⟩,⟨(i + 1,some Y.length,(Y ++ [[V.bytes (x.1.take q) (some T3.length),.int .i64 (q : Int)]]).set Y.length [V.bytes (x.1.take q) none,.int .i64 (q : Int)],_),him,hY _ (((hs3.trans hYs).app _).set (.inr hYl) _),⟨hYl,_,at_set (by simp) _,by simp,?_⟩,hTfin,hTflen⟩,?_,by simp only; omega⟩
            · rw [hcl3,hfc,hF0,hi0]; rfl
            · refine le_row ?_ (o := Y.length) (at_new rfl _) (leL_mid (x := .bytes (x.1.take q) (some T3.length)) (x' := .bytes (x.1.take q) none) (by exact rfl) [.int .i64 (q : Int)] [])
              subst hi0
              simp (maxSteps:=2000000) only[bitvec_to_nat,seval,↓tcd,gath,hnm]
           | some fx =>
            obtain ⟨hfx0,fcs,hf1,hf2,hf3⟩ := hga
            have hfl := lt_at hf1
            have hy2 : (L3 ++ [[V.bytes x.1 none,.int .i64 (x.2 : Int)]] ++ [[.int .i64 n,X]])[fx]? = some fcs := by rw [at_app (by simp; omega),at_app hfl]; exact hf1
            have hyl2 := lt_at hy2
            simp (maxSteps:=2000000) only[bitvec_to_nat,seval,↓tcd,hy1,hyl,hy2,hyl2,hwq,gath,hgd,Int.toNat_natCast,List.length_map,hT,hTl,hi1,hcc]
            rw [hYe] at hy2 hyl2 ⊢
            rw [hnl3]
            rw [hcl2] at hf3
            have hfl2 : i * 2 ≤ fcs.length := by
             have := congrArg List.length hf3
             rw [List.length_take,fileCs_len,hcl2] at this
             omega
            have htl2 : (fcs.take (i * 2)).length = i * 2 := by rw [List.length_take]; omega
            refine ⟨⟨by omega,by omega⟩,by unfold maxBytes; omega,⟨hfl2,hf2,by unfold maxBytes; omega⟩,⟨⟨by omega,by omega⟩,⟨hTx,by unfold maxBytes; omega⟩,?_⟩,⟨by omega,by omega⟩,⟨hTx,by unfold maxBytes; omega⟩,?_⟩
            · refine ⟨⟨(i + 1,some fx,(Y.set fx (List.take (i * 2) fcs ++ [V.bytes (x.1.take q) (some T3.length),.int .i64 (q : Int)] ++ List.drop (i * 2 + 2) fcs)).set fx (List.take (i * 2) fcs ++ [V.bytes (x.1.take q) none,.int .i64 (q : Int)] ++ List.drop (i * 2 + 2) fcs),_),him,hY _ (((hs3.trans hYs).set (o := fx) (.inr hfx0) _).set (o := fx) (.inr hfx0) _),⟨hfx0,_,at_set (by simpa using hyl2) _,by simp,?_⟩,hTfin,hTflen⟩,?_,by simp only; omega⟩
              · rw [hcl3,hfc,hf3,List.append_assoc,List.take_append,fileCs_len,hcl2,List.take_of_length_le (by rw [fileCs_len,hcl2]; omega),show (i + 1) * 2 - i * 2 = 2 by omega]
                rfl
              · refine le_row ?_ (o := fx) (at_set hyl2 _) ?_
                · simp (maxSteps:=2000000) only[bitvec_to_nat,seval,↓tcd,gath,hnm]
                · rw [List.append_assoc,List.append_assoc]
                  exact leL_mid (x := .bytes (x.1.take q) (some T3.length)) (x' := .bytes (x.1.take q) none) (by exact rfl) _ _
            · refine ⟨⟨(i + 1,some Y.length,(Y ++ [List.take (i * 2) fcs ++ [V.bytes (x.1.take q) (some T3.length),.int .i64 (q : Int)]]).set Y.length (List.take (i * 2) fcs ++ [V.bytes (x.1.take q) none,.int .i64 (q : Int)]),_),him,hY _ (((hs3.trans hYs).app _).set (.inr hYl) _),⟨hYl,_,at_set (by simp) _,by simp,?_⟩,hTfin,hTflen⟩,?_,by simp only; omega⟩
              · rw [hcl3,hfc,hf3,List.take_of_length_le (by rw [List.length_append,fileCs_len,hcl2]; simp; omega)]
              · refine le_row ?_ (o := Y.length) (at_new rfl _) (leL_mid (x := .bytes (x.1.take q) (some T3.length)) (x' := .bytes (x.1.take q) none) (by exact rfl) [.int .i64 (q : Int)] _)
                simp (maxSteps:=2000000) only[bitvec_to_nat,seval,↓tcd,gath,hnm]
         · have hdi : decide ((i : Int) < (m.length : Int)) = false := decide_eq_false (by omega)
           have hie : i = m.length := by omega
           subst hie
           cases fx with
           | none =>
            simp (maxSteps:=2000000) only[bitvec_to_nat,seval,↓tcd,hdi,k3,kl3,List.length_map,gath,List.take_length]
            have hF0 : crs M ⟨n,bs⟩ (m.take m.length) 0 = [] := hga
            rw [List.take_length] at hF0
            have hcf : (M.crash ⟨n,bs⟩).files = [] := by rw [crash_eq,hat]; exact hF0
            have hs := (((Step.refl (fun i => i = o) noS L T).via hs2 (fun _ h => h.elim) (fun _ h => h.elim)).via hs3 (fun _ h => h.elim) (fun _ h => h.elim)).tapp [((num m 0).length,78)]
            have := hK (L3.set o (gath none 0 :: (hdV 0 0 (num m 0) (num m 0) [] M.room false false lf).tail)) _ none lf (by rw [at_set kl3,hcf,hcn,hck]; rfl) hcf (hs.set (o := o) (.inl rfl) _)
            refine ⟨by rw [num_len]; unfold maxBytes; omega,ret_row (hs.set (o := o) (.inl rfl) _) (o := o) (at_set kl3 _) (cs' := gath none 0 :: (hdV 0 0 (num m 0) (num m 0) [] M.room false false lf).tail) ⟨rfl,⟨rfl,rfl⟩,⟨rfl,rfl⟩,⟨rfl,rfl⟩,rfl,rfl,rfl,rfl,trivial⟩ ?_⟩
            rw [List.set_set]
            exact this
           | some x =>
            simp (maxSteps:=2000000) only[bitvec_to_nat,seval,↓tcd,hdi,k3,kl3,List.length_map,gath,List.take_length]
            obtain ⟨hx0,cs1,hx1,hx2,hx3⟩ := hga
            rw [List.take_length] at hx3
            have hcf : (M.crash ⟨n,bs⟩).files = crs M ⟨n,bs⟩ m 0 := by rw [crash_eq,hat]; rfl
            have hcl9 : (M.crash ⟨n,bs⟩).files.length = m.length := by rw [hcf,crs_len]
            have hxo : o ≠ x := by have := hs2.len; omega
            have hs := (((Step.refl (fun i => i = o) noS L T).via hs2 (fun _ h => h.elim) (fun _ h => h.elim)).via hs3 (fun _ h => h.elim) (fun _ h => h.elim)).tapp [((num m 0).length,78)]
            have := hK (L3.set o (gath (some x) m.length :: (hdV 0 0 (num m 0) (num m 0) [] M.room false false lf).tail)) _ (some x) lf (by rw [at_set kl3,hcl9,hcn,hck]) ⟨Nat.le_trans hs2.len hx0,cs1,by rw [at_other hxo]; exact hx1,hx2,by rw [hcf]; exact hx3⟩ (hs.set (o := o) (.inl rfl) _)
            refine ⟨by rw [num_len]; unfold maxBytes; omega,ret_row (hs.set (o := o) (.inl rfl) _) (o := o) (at_set kl3 _) (cs' := gath (some x) m.length :: (hdV 0 0 (num m 0) (num m 0) [] M.room false false lf).tail) ⟨rfl,⟨rfl,rfl⟩,⟨rfl,rfl⟩,⟨rfl,rfl⟩,rfl,rfl,rfl,rfl,trivial⟩ ?_⟩
            rw [List.set_set]
            exact this
     · have hdc' : decide ((pre.length : Int) < (M.chs.length : Int)) = false := decide_eq_false (by omega)
       simp (maxSteps:=2000000) only[bitvec_to_nat,seval,↓tcd,hdc',k1,kl1,hw2,wl2,List.length_map]
       refine awpLoop_intro (α := {q : Nat × Option Nat × LL × TT // q.1 ≤ m.length ∧ Step noS noS L2 T2 noS noS q.2.2.1 q.2.2.2 ∧ gathAt L2 q.2.2.1 q.2.1 (crs M ⟨n,bs⟩ (m.take q.1) 0) ∧ q.2.2.2[T2.length]? = some ((num (m.take q.1) 0).length,78) ∧ T2.length < q.2.2.2.length})
        (fun q => ⟨[.box o 0,.any,.any,.box L.length 0,.any,.list 2 (m.map nameV) none,.any,gath q.1.2.1 q.1.1,.list 2 ((num (m.take q.1.1) 0).map nameV) (some T2.length),.int .i64 (q.1.1 : Int),.any,.any,.any,.any,.any,.any,.any,.any,.any,.any,.any,.any,.any,.any,.any,.any,.any,.any,.any,.any,.any,.any,.any,.any,.any,.any,.any,.any,.any,.any,.any,.any,.any,.any,.any,.any,.any,.any,.any,.any,.any,.any,.any,.any,.any,.any,.any,.any,.any,.any,.any,.any,.any,.any,.any,.any,.any,.any,.any,.any,.any,.any,.any,.any,.any,.any,.any,.any,.any,.any,.any,.any,.any,.any,.any,.any,.any,.any,.any,.any,.any,.any,.any,.any,.any,.any,.any,.any,.any,.any,.any,.any,.any,.any,.any,.any,.any,.any,.any,.any,.any,.any,.any],q.1.2.2.1,q.1.2.2.2⟩) (fun q => m.length - q.1.1)
        ⟨(0,none,L2,T2 ++ [(0,78)]),Nat.zero_le _,(Step.refl _ _ _ _).tapp _,rfl,by rw [tat_new rfl]; rfl,by simp⟩ ?_ ?_ (fun q => ⟨Nat.le_trans hs2.len q.2.2.1.len,Nat.le_trans hs2.tlen q.2.2.1.tlen⟩)
       · simp (maxSteps:=2000000) only[bitvec_to_nat,seval,↓tcd,leLL_self,gath]
         all_goals first | rfl | exact ⟨rfl,rfl⟩ | trivial
       · rintro ⟨⟨i,fx,L3,T3⟩,hi,hs3,hga,hT,hTl⟩
         simp only at hi hs3 hga hT hTl
         have k3 : L3[o]? = some [.vrow 76 2 fo N,.list 2 (M.now.map nameV) none,.list 2 (M.kept.map nameV) none,.list 3 (M.chs.map Ref.chgV) none,.int .i64 M.room,.bool M.down,.bool M.doomed,.int .i64 lf] := by
          rw [hs3.keep o kl1 (fun h => h)]; exact k1
         have hw3 : L3[L.length]? = some [.int .i64 n,X] := by rw [hs3.keep _ wl2 (fun h => h)]; exact hw2
         have kl3 := lt_at k3
         have wl3 := lt_at hw3
         have hd3 : RefAt L3 M o fo := (hd.frame hs2 (fun _ _ h => h)).frame hs3 (fun _ _ h => h)
         obtain ⟨cs0,r1,r2,r3⟩ := row_get hd3
         have hcl := lt_at r1
         by_cases him : i < m.length
         · have hdi : decide ((i : Int) < (m.length : Int)) = true := decide_eq_true (by omega)
           obtain ⟨e,he⟩ : ∃ e,m[i]? = some e := ⟨_,List.getElem?_eq_getElem him⟩
           obtain ⟨hil,hie⟩ := List.getElem?_eq_some_iff.1 he
           have hgd := name_get he
           have hi1 : IntKind.i64.wrap ((i : Int) + 1) = ((i + 1 : Nat) : Int) := by rw [i64w (by omega) (by omega)]; omega
           have hel : e.2 < M.files.length := (at_ok hd.ok ⟨n,bs⟩).2.2.2.1 e (by rw [hat]; exact List.mem_of_getElem? he)
           have htwo := row_two hd3 r1 hel
           have hct := file_cut hd.ok e.2
           have hfs := file_small hsm e.2
           obtain ⟨x,hx⟩ : ∃ x,M.file e.2 = x := ⟨_,rfl⟩
           rw [hx] at htwo hct hfs
           rw [hN] at hel r2
           have hwk : IntKind.i64.wrap ((x.1.length : Int) - (x.2 : Int)) = ((x.1.length - x.2 : Nat) : Int) := by rw [i64w (by omega) (by omega)]; omega
           have hwl := wleft_le ⟨n,bs⟩ i (x.1.length - x.2)
           have hwq : IntKind.i64.wrap ((x.2 : Int) + (wleft ⟨n,bs⟩ i (x.1.length - x.2) : Nat)) = ((x.2 + wleft ⟨n,bs⟩ i (x.1.length - x.2) : Nat) : Int) := by rw [i64w (by omega) (by omega)]; omega
           obtain ⟨q,hq⟩ : ∃ q,x.2 + wleft ⟨n,bs⟩ i (x.1.length - x.2) = q := ⟨_,rfl⟩
           rw [hq] at hwq
           have hcf : crashF ⟨n,bs⟩ i x = (x.1.take q,q) := by unfold crashF; rw [hq]
           have hy1 : (L3 ++ [[V.bytes x.1 none,.int .i64 (x.2 : Int)]] ++ [[.int .i64 n,X]])[L3.length]? = some [V.bytes x.1 none,.int .i64 (x.2 : Int)] := by rw [at_app (by simp),at_new rfl]
           have hyl : L3.length < (L3 ++ [[V.bytes x.1 none,.int .i64 (x.2 : Int)]] ++ [[.int .i64 n,X]]).length := by simp
           have htk : m.take (i + 1) = m.take i ++ [e] := by rw [List.take_succ_eq_append_getElem hil,hie]
           have htl : (m.take i).length = i := by rw [List.length_take]; omega
           have hnum : num (m.take (i + 1)) 0 = num (m.take i) 0 ++ [(e.1,i)] := by rw [htk,num_app,htl]; simp [num]
           have hcrs : crs M ⟨n,bs⟩ (m.take (i + 1)) 0 = crs M ⟨n,bs⟩ (m.take i) 0 ++ [(x.1.take q,q)] := by rw [htk,crs_app,htl]; simp [crs,hx,hcf]
           have hcl2 : (crs M ⟨n,bs⟩ (m.take i) 0).length = i := by rw [crs_len,htl]
           have hnl2 : (num (m.take i) 0).length = i := by rw [num_len,htl]
           have hfc : fileCs (crs M ⟨n,bs⟩ (m.take (i + 1)) 0) = fileCs (crs M ⟨n,bs⟩ (m.take i) 0) ++ [.bytes (x.1.take q) none,.int .i64 (q : Int)] := by rw [hcrs]; unfold fileCs; rw [List.flatMap_append]; rfl
           have hcl3 : (crs M ⟨n,bs⟩ (m.take (i + 1)) 0).length = i + 1 := by rw [hcrs,List.length_append,hcl2]; rfl
           have hcc : List.flatMap V.cells [V.agg [V.bytes (x.1.take q) (some T3.length),.int .i64 (q : Int)]] = [V.bytes (x.1.take q) (some T3.length),.int .i64 (q : Int)] := rfl
           have hTx : (T3 ++ [((x.1.take q).length,5)] ++ [(1,76)] ++ [(1,78)])[T2.length]? = some ((num (m.take i) 0).length,78) := by
            rw [tat_app (by simp; omega),tat_app (by simp; omega),tat_app hTl]; exact hT
           have hql : (x.1.take q).length = q := by rw [List.length_take]; omega
           have hY : ∀ Lz,Step noS noS L2 T2 noS noS Lz (T3 ++ [((x.1.take q).length,5)] ++ [(1,76)] ++ [(1,78)]) → Step noS noS L2 T2 noS noS Lz ((T3 ++ [((x.1.take q).length,5)] ++ [(1,76)] ++ [(1,78)]).set T2.length ((num (m.take (i + 1)) 0).length,78)) := fun Lz g => g.tset (k := T2.length) (.inr (Nat.le_refl _)) _
           have hTfin : ((T3 ++ [((x.1.take q).length,5)] ++ [(1,76)] ++ [(1,78)]).set T2.length ((num (m.take (i + 1)) 0).length,78))[T2.length]? = some ((num (m.take (i + 1)) 0).length,78) := List.getElem?_set_self (by simp; omega)
           have hTflen : T2.length < ((T3 ++ [((x.1.take q).length,5)] ++ [(1,76)] ++ [(1,78)]).set T2.length ((num (m.take (i + 1)) 0).length,78)).length := by simp; omega
           have hnl3 : ((num (m.take i) 0).map nameV ++ [V.agg [V.str e.1,.int .i64 (i : Int)]]).length = (num (m.take (i + 1)) 0).length := by rw [hnum]; simp
           have hnm : (num (m.take (i + 1)) 0).map nameV = (num (m.take i) 0).map nameV ++ [V.agg [V.str e.1,.int .i64 (i : Int)]] := by rw [hnum,List.map_append]; rfl
           obtain ⟨Y,hYe⟩ : ∃ Y,L3 ++ [[V.bytes x.1 none,.int .i64 (x.2 : Int)]] ++ [[.int .i64 n,X]] = Y := ⟨_,rfl⟩
           have hYs : Step noS noS L3 T3 noS noS Y (T3 ++ [((x.1.take q).length,5)] ++ [(1,76)] ++ [(1,78)]) := by rw [← hYe]; exact (((((Step.refl _ _ _ _).app _).app _).tapp _).tapp _).tapp _
           have hYl : L2.length ≤ Y.length := Nat.le_trans hs3.len hYs.len
           simp (maxSteps:=2000000) only[bitvec_to_nat,Nat.reduceAdd,Nat.reduceSub,Nat.reduceMul,Nat.reduceLT,Nat.reduceLeDiff,Nat.reduceEqDiff,Nat.reduceBEq,Nat.reduceBNe,Int.reduceToNat,Int.reduceLE,Int.reduceLT,Int.reduceEq,Int.reduceNe,Int.reduceNeg,Nat.reducePow,Int.reducePow,reduceIte,reduceCtorEq,↓tcd,hdi,hgd,k3,kl3,hw3,wl3,r1,hcl,htwo,hwk,Int.toNat_natCast,List.length_map]
           refine ⟨by kernel_rfl,⟨by omega,by omega⟩,⟨by omega,by omega⟩,by omega,by omega,by kernel_rfl,n,X,bs,i,x.1.length - x.2,rfl,hX,hbs,?_⟩
           cases fx with
           | none =>
            have hF0 : crs M ⟨n,bs⟩ (m.take i) 0 = [] := hga
            have hi0 : i = 0 := by rw [hF0] at hcl2; exact hcl2.symm
            simp (maxSteps:=2000000) only[bitvec_to_nat,seval,↓tcd,hy1,hyl,hwq,gath,hgd,Int.toNat_natCast,List.length_map,hT,hTl,hi1,hcc]
            rw [hYe,hnl3]
            refine ⟨⟨by omega,by omega⟩,by unfold maxBytes; omega,by decide,⟨by omega,by omega⟩,⟨hTx,by unfold maxBytes; omega⟩,⟨(i + 1,some Y.length,(Y ++ [[V.bytes (x.1.take q) (some T3.length),.int .i64 (q : Int)]]).set Y.length [V.bytes (x.1.take q) none,.int .i64 (q : Int)],_),him,hY _ (((hs3.trans hYs).app _).set (.inr hYl) _),⟨hYl,_,at_set (by simp) _,by simp,?_⟩,hTfin,hTflen⟩,?_,by simp only; omega⟩
            · rw [hcl3,hfc,hF0,hi0]; rfl
            · refine le_row ?_ (o := Y.length) (at_new rfl _) (leL_mid (x := .bytes (x.1.take q) (some T3.length)) (x' := .bytes (x.1.take q) none) (by exact rfl) [.int .i64 (q : Int)] [])
              subst hi0
              simp (maxSteps:=2000000) only[bitvec_to_nat,seval,↓tcd,gath,hnm]
           | some fx =>
            obtain ⟨hfx0,fcs,hf1,hf2,hf3⟩ := hga
            have hfl := lt_at hf1
            have hy2 : (L3 ++ [[V.bytes x.1 none,.int .i64 (x.2 : Int)]] ++ [[.int .i64 n,X]])[fx]? = some fcs := by rw [at_app (by simp; omega),at_app hfl]; exact hf1
            have hyl2 := lt_at hy2
            simp (maxSteps:=2000000) only[bitvec_to_nat,seval,↓tcd,hy1,hyl,hy2,hyl2,hwq,gath,hgd,Int.toNat_natCast,List.length_map,hT,hTl,hi1,hcc]
            rw [hYe] at hy2 hyl2 ⊢
            rw [hnl3]
            rw [hcl2] at hf3
            have hfl2 : i * 2 ≤ fcs.length := by
             have := congrArg List.length hf3
             rw [List.length_take,fileCs_len,hcl2] at this
             omega
            have htl2 : (fcs.take (i * 2)).length = i * 2 := by rw [List.length_take]; omega
            refine ⟨⟨by omega,by omega⟩,by unfold maxBytes; omega,⟨hfl2,hf2,by unfold maxBytes; omega⟩,⟨⟨by omega,by omega⟩,⟨hTx,by unfold maxBytes; omega⟩,?_⟩,⟨by omega,by omega⟩,⟨hTx,by unfold maxBytes; omega⟩,?_⟩
            · refine ⟨⟨(i + 1,some fx,(Y.set fx (List.take (i * 2) fcs ++ [V.bytes (x.1.take q) (some T3.length),.int .i64 (q : Int)] ++ List.drop (i * 2 + 2) fcs)).set fx (List.take (i * 2) fcs ++ [V.bytes (x.1.take q) none,.int .i64 (q : Int)] ++ List.drop (i * 2 + 2) fcs),_),him,hY _ (((hs3.trans hYs).set (o := fx) (.inr hfx0) _).set (o := fx) (.inr hfx0) _),⟨hfx0,_,at_set (by simpa using hyl2) _,by simp,?_⟩,hTfin,hTflen⟩,?_,by simp only; omega⟩
              · rw [hcl3,hfc,hf3,List.append_assoc,List.take_append,fileCs_len,hcl2,List.take_of_length_le (by rw [fileCs_len,hcl2]; omega),show (i + 1) * 2 - i * 2 = 2 by omega]
                rfl
              · refine le_row ?_ (o := fx) (at_set hyl2 _) ?_
                · simp (maxSteps:=2000000) only[bitvec_to_nat,seval,↓tcd,gath,hnm]
                · rw [List.append_assoc,List.append_assoc]
                  exact leL_mid (x := .bytes (x.1.take q) (some T3.length)) (x' := .bytes (x.1.take q) none) (by exact rfl) _ _
            · refine ⟨⟨(i + 1,some Y.length,(Y ++ [List.take (i * 2) fcs ++ [V.bytes (x.1.take q) (some T3.length),.int .i64 (q : Int)]]).set Y.length (List.take (i * 2) fcs ++ [V.bytes (x.1.take q) none,.int .i64 (q : Int)]),_),him,hY _ (((hs3.trans hYs).app _).set (.inr hYl) _),⟨hYl,_,at_set (by simp) _,by simp,?_⟩,hTfin,hTflen⟩,?_,by simp only; omega⟩
              · rw [hcl3,hfc,hf3,List.take_of_length_le (by rw [List.length_append,fileCs_len,hcl2]; simp; omega)]
              · refine le_row ?_ (o := Y.length) (at_new rfl _) (leL_mid (x := .bytes (x.1.take q) (some T3.length)) (x' := .bytes (x.1.take q) none) (by exact rfl) [.int .i64 (q : Int)] _)
                simp (maxSteps:=2000000) only[bitvec_to_nat,seval,↓tcd,gath,hnm]
         · have hdi : decide ((i : Int) < (m.length : Int)) = false := decide_eq_false (by omega)
           have hie : i = m.length := by omega
           subst hie
           cases fx with
           | none =>
            simp (maxSteps:=2000000) only[bitvec_to_nat,seval,↓tcd,hdi,k3,kl3,List.length_map,gath,List.take_length]
            have hF0 : crs M ⟨n,bs⟩ (m.take m.length) 0 = [] := hga
            rw [List.take_length] at hF0
            have hcf : (M.crash ⟨n,bs⟩).files = [] := by rw [crash_eq,hat]; exact hF0
            have hs := (((Step.refl (fun i => i = o) noS L T).via hs2 (fun _ h => h.elim) (fun _ h => h.elim)).via hs3 (fun _ h => h.elim) (fun _ h => h.elim)).tapp [((num m 0).length,78)]
            have := hK (L3.set o (gath none 0 :: (hdV 0 0 (num m 0) (num m 0) [] M.room false false lf).tail)) _ none lf (by rw [at_set kl3,hcf,hcn,hck]; rfl) hcf (hs.set (o := o) (.inl rfl) _)
            refine ⟨by rw [num_len]; unfold maxBytes; omega,ret_row (hs.set (o := o) (.inl rfl) _) (o := o) (at_set kl3 _) (cs' := gath none 0 :: (hdV 0 0 (num m 0) (num m 0) [] M.room false false lf).tail) ⟨rfl,⟨rfl,rfl⟩,⟨rfl,rfl⟩,⟨rfl,rfl⟩,rfl,rfl,rfl,rfl,trivial⟩ ?_⟩
            rw [List.set_set]
            exact this
           | some x =>
            simp (maxSteps:=2000000) only[bitvec_to_nat,seval,↓tcd,hdi,k3,kl3,List.length_map,gath,List.take_length]
            obtain ⟨hx0,cs1,hx1,hx2,hx3⟩ := hga
            rw [List.take_length] at hx3
            have hcf : (M.crash ⟨n,bs⟩).files = crs M ⟨n,bs⟩ m 0 := by rw [crash_eq,hat]; rfl
            have hcl9 : (M.crash ⟨n,bs⟩).files.length = m.length := by rw [hcf,crs_len]
            have hxo : o ≠ x := by have := hs2.len; omega
            have hs := (((Step.refl (fun i => i = o) noS L T).via hs2 (fun _ h => h.elim) (fun _ h => h.elim)).via hs3 (fun _ h => h.elim) (fun _ h => h.elim)).tapp [((num m 0).length,78)]
            have := hK (L3.set o (gath (some x) m.length :: (hdV 0 0 (num m 0) (num m 0) [] M.room false false lf).tail)) _ (some x) lf (by rw [at_set kl3,hcl9,hcn,hck]) ⟨Nat.le_trans hs2.len hx0,cs1,by rw [at_other hxo]; exact hx1,hx2,by rw [hcf]; exact hx3⟩ (hs.set (o := o) (.inl rfl) _)
            refine ⟨by rw [num_len]; unfold maxBytes; omega,ret_row (hs.set (o := o) (.inl rfl) _) (o := o) (at_set kl3 _) (cs' := gath (some x) m.length :: (hdV 0 0 (num m 0) (num m 0) [] M.room false false lf).tail) ⟨rfl,⟨rfl,rfl⟩,⟨rfl,rfl⟩,⟨rfl,rfl⟩,rfl,rfl,rfl,rfl,trivial⟩ ?_⟩
            rw [List.set_set]
            exact this
theorem crashR_ok : PSound Tryz.prog 10 crashRP := by
 refine PSound.soft crashR0_ok fun args L T K hm => ?_
 obtain ⟨M,o,fo,n,X,bs,rfl,hX,hbs,hd,hsm,hK⟩ := hm
 refine ⟨M,o,fo,n,X,bs,rfl,hX,hbs,hd,hsm,fun L' T' fx lf hh hg hst => ?_⟩
 have hlt := lt_at hh
 have hok := crash_ok hd.ok ⟨n,bs⟩
 have hfin : ∀ (L2 : LL) (fo' : Nat),L2[o]? = some (hdV fo' (M.crash ⟨n,bs⟩).files.length (M.crash ⟨n,bs⟩).now (M.crash ⟨n,bs⟩).kept [] M.room false false lf) → o ≠ fo' → (∃ cs,L2[fo']? = some cs ∧ cs ≠ [] ∧ cs.take ((M.crash ⟨n,bs⟩).files.length * 2) = fileCs (M.crash ⟨n,bs⟩).files) → RefAt L2 (M.crash ⟨n,bs⟩) o fo' :=
  fun L2 fo' q1 q2 q3 => ⟨hok,⟨lf,q1,fun h => by cases h⟩,q3,q2⟩
 cases fx with
 | none =>
  have hf : (M.crash ⟨n,bs⟩).files = [] := hg
  refine ⟨[[V.any]],o,_,hdV L'.length (M.crash ⟨n,bs⟩).files.length (M.crash ⟨n,bs⟩).now (M.crash ⟨n,bs⟩).kept [] M.room false false lf,by rw [at_app hlt]; exact hh,?_,fun K b => no_map K b,?_⟩
  · unfold hdV
    rw [hf]
    exact softs_head (.inr ⟨.inl rfl,_,_,_,rfl⟩) _
  · have hlt2 : o < (L' ++ [[V.any]]).length := by simp; omega
    refine hK _ T' L'.length (hfin _ _ (at_set hlt2 _) (by omega) ⟨[V.any],by rw [at_other (by omega)]; exact at_new rfl _,by simp,by rw [hf]; rfl⟩) ?_
    have g := ((hst.app [[V.any]]).set (o := o) (.inl rfl) (hdV L'.length (M.crash ⟨n,bs⟩).files.length (M.crash ⟨n,bs⟩).now (M.crash ⟨n,bs⟩).kept [] M.room false false lf))
    exact ⟨g.len,fun i hi hs => g.keep i hi (fun e => hs (.inl e)),fun i hi => hi.elim (fun h => .inl (.inl h)) (fun h => .inr (by rw [h]; exact hst.len)),g.tlen,fun k hk hr => g.tkeep k hk hr,fun k h => h.elim⟩
 | some x =>
  obtain ⟨hx0,cs,hx1,hx2,hx3⟩ := hg
  refine ⟨[],o,_,_,by rw [List.append_nil]; exact hh,softs_refl _,fun K b => no_map K b,?_⟩
  rw [List.append_nil]
  have hself : List.set L' o (gath (some x) (M.crash ⟨n,bs⟩).files.length :: (hdV 0 0 (M.crash ⟨n,bs⟩).now (M.crash ⟨n,bs⟩).kept [] M.room false false lf).tail) = L' := by
   obtain ⟨h1,h2⟩ := List.getElem?_eq_some_iff.1 hh
   rw [← h2]
   exact List.set_getElem_self h1
  have hgoal : K (codeV 0) (List.set L' o (gath (some x) (M.crash ⟨n,bs⟩).files.length :: (hdV 0 0 (M.crash ⟨n,bs⟩).now (M.crash ⟨n,bs⟩).kept [] M.room false false lf).tail)) T' := by
   rw [hself]
   refine hK L' T' x (hfin _ _ hh (by have := hd.lt.1; omega) ⟨cs,hx1,hx2,hx3⟩) ?_
   exact ⟨hst.len,fun i hi hs => hst.keep i hi (fun e => hs (.inl e)),fun i hi => hi.elim (fun h => .inl (.inl h)) (fun h => .inr (by rw [h]; exact hx0)),hst.tlen,fun k hk hr => hst.tkeep k hk hr,fun k h => h.elim⟩
  exact hgoal
end Go.Proofs.YthlmfalfnpjndaaGreat.Ref
