import Derived.Test.YthlmfalfnpjndaaGreatAwX
import Derived.Test.YthlmfalfnpjndaaGreatJourM
import Derived.Test.YthlmfalfnpjndaaGreatPlaceR
namespace Go.Proofs.YthlmfalfnpjndaaGreat.JourX
open Go Go.Proofs Aw Num DiskM DiskA DiskK DiskC Disk FrameM
open DiskL (readP syncP syncNamesP doomP createP appendP wbV len_wbV Sz sz_new crash_o op_o small_crash)
open Frame (allM putM sameM all_ok put_ok same_ok)
open Place (Do Makes putAll growAll putFP growFP makes_put makes_grow makes_syncNames)
set_option linter.unusedSimpArgs false
set_option linter.unusedVariables false
theorem q0 : e0.Ok ∧ Sz 0 e0 := ⟨(new_dAt 100 [] []).ok,sz_new 100⟩
theorem q1 : (addD [97]).pre e0 ∧ e1.Ok ∧ Sz (0 + 16) e1 := makes_add (x := [97]) (by simp) 0 e0 q0.1 q0.2 (by omega)
theorem q2 : (addD [98]).pre e1 ∧ e2.Ok ∧ Sz (0 + 16 + 16) e2 := makes_add (x := [98]) (by simp) (0 + 16) e1 q1.2.1 q1.2.2 (by omega)
theorem sm3 : Small e3 := small_crash (q2.2.2.small (by omega)) q2.2.1 _
theorem e3p : openPre e3 := by
 have h := all_frames' [[97],[98]] (by intro x hx; simp at hx; rcases hx with rfl | rfl <;> simp)
 refine ⟨sm3,by rw [e3b]; simp [framesF,frameF_length],fun b _ hlt => ?_⟩
 rw [e3b,h] at hlt
 exact absurd hlt (Nat.lt_irrefl _)
def J3 : Fns := { fn := fun f => if f = 15 then some sameM else J0.fn f,mu := fun d => .no,hp := fun f => if f = 5 then some newP else if f = 16 then some addP else if f = 11 then some openP else if f = 9 then some crashP else J0.hp f,ord := fun i => none,it := fun f => J0.it f }
theorem J3_fn (f : FuncId) : J3.fn f = (if f = 15 then some sameM else J0.fn f) := rfl
theorem J3_mu (d : Tmp) : J3.mu d = (.no) := rfl
theorem J3_hp (f : FuncId) : J3.hp f = (if f = 5 then some newP else if f = 16 then some addP else if f = 11 then some openP else if f = 9 then some crashP else J0.hp f) := rfl
theorem J3_ord (i : Nat) : J3.ord i = (none) := rfl
theorem J3_it (f : FuncId) : J3.it f = (J0.it f) := rfl
theorem J3_hy (b : Nat) : J3.hy b = none := rfl
theorem J3ok : FnsOk Tryz.prog J3 := FnsOk.same (FnsOk.consP (FnsOk.consP (FnsOk.consP (FnsOk.consP (FnsOk.cons J0ok _ _ same_ok Tryz.func15 (by decide) (fun h => by cases h)) _ _ crash_sound Tryz.func9 (by decide) (fun h => by cases h)) _ _ open_ok Tryz.func11 (by decide) (fun h => by cases h)) _ _ add_ok Tryz.func16 (by decide) (fun h => by cases h)) _ _ new_ok Tryz.func5 (by decide) (fun h => by cases h)) rfl rfl
attribute [bitvec_to_nat] J3_fn J3_mu J3_hp J3_ord J3_it J3_hy
def shownP : PM := fun args L T K => args = [] ∧ ∀ L' T',Step noS noS L T noS noS L' T' → K (.bool true) L' T'
set_option maxHeartbeats 1000000 in
theorem shown_ok : PSound Tryz.prog 4 shownP := by
 refine psound tysOk J3ok mix Tryz.func4 rfl ?_
 intro args L T K hm
 obtain ⟨rfl,hK⟩ := hm
 simp (maxSteps:=2000000) only[bitvec_to_nat,seval,↓tcd,Tryz.f4]
 refine ⟨100,rfl,fun L0 w0 ho0 hd0 hst0 => ?_⟩
 obtain ⟨od,hod⟩ : ∃ o,w0.o = o := ⟨_,rfl⟩
 rw [hod]
 simp (maxSteps:=2000000) only[bitvec_to_nat,seval,↓tcd]
 have g1 : Step noS noS L0 T noS noS L0 ((T ++ [(1,5)]).set T.length (deadN,5)) := ((Step.refl noS noS L0 T).tapp [(1,5)]).tset (k := T.length) (.inr (Nat.le_refl _)) _
 obtain ⟨T1,hT1⟩ : ∃ x,(T ++ [(1,5)]).set T.length (deadN,5) = x := ⟨_,rfl⟩
 rw [hT1] at g1 ⊢
 have f1 := hd0.frame g1 (fun _ _ h => h) (fun _ _ h => h)
 have h1 : Step noS noS L T w0.S w0.R L0 T1 := hst0.via g1 (fun _ h => h.elim) (fun _ h => h.elim)
 refine ⟨e0,w0,[97],none,by rw [hod],f1,q1.1,fun L2 T2 w2 ho2 hd2 hst2 => ?_⟩
 rw [hod] at ho2
 change dAt L2 T2 e1 w2 at hd2
 rw [show codeV ((addD [97]).f e0).2 = codeV 0 from congrArg codeV e1c]
 have h2 := h1.trans hst2
 simp only [code_V,Int.natCast_zero,Int.cast_ofNat_Int]
 simp (maxSteps:=2000000) only[bitvec_to_nat,seval,↓tcd,Int.natCast_zero,Int.cast_ofNat_Int]
 have g3 : Step noS noS L2 T2 noS noS L2 ((T2 ++ [(1,5)]).set T2.length (deadN,5)) := ((Step.refl noS noS L2 T2).tapp [(1,5)]).tset (k := T2.length) (.inr (Nat.le_refl _)) _
 obtain ⟨T3,hT3⟩ : ∃ x,(T2 ++ [(1,5)]).set T2.length (deadN,5) = x := ⟨_,rfl⟩
 rw [hT3] at g3 ⊢
 have f3 := hd2.frame g3 (fun _ _ h => h) (fun _ _ h => h)
 have h3 := h2.via g3 (fun _ h => h.elim) (fun _ h => h.elim)
 refine ⟨e1,w2,[98],none,by rw [ho2],f3,q2.1,fun L4 T4 w4 ho4 hd4 hst4 => ?_⟩
 rw [ho2] at ho4
 change dAt L4 T4 e2 w4 at hd4
 rw [show codeV ((addD [98]).f e1).2 = codeV 0 from congrArg codeV e2c]
 have h4 := h3.trans hst4
 simp only [code_V,Int.natCast_zero,Int.cast_ofNat_Int]
 simp (maxSteps:=2000000) only[bitvec_to_nat,seval,↓tcd,Int.natCast_zero,Int.cast_ofNat_Int]
 refine crash_o ho4 [] (.inl ⟨rfl,rfl⟩) (by decide) hd4 (q2.2.2.small (by omega)) fun L5 T5 w5 ho5 hd5 hst5 => ?_
 change dAt L5 T5 e3 w5 at hd5
 have h5 := h4.trans hst5
 simp only [code_V,Int.natCast_zero]
 simp (maxSteps:=2000000) only[bitvec_to_nat,seval,↓tcd,Int.natCast_zero,Int.cast_ofNat_Int]
 refine ⟨e3,w5,by rw [ho5],hd5,e3p,fun L6 T6 w6 ho6 hd6 hst6 => ?_⟩
 have h6 := h5.trans hst6
 simp only [e3o,Int.natCast_zero]
 simp (maxSteps:=2000000) only[bitvec_to_nat,seval,↓tcd,sameM,bv,unbv,List.map_cons,List.map_nil,eq_self]
 have ht := h6.tlen
 have g := ((((h6.tapp [(1,5)]).tset (k := T6.length) (.inr ht) (deadN,5)).tapp [(1,5)]).tset (k := (T6 ++ [(1,5)]).length) (.inr (by simp; omega)) (deadN,5)).tapp [(2,32)]
 exact ret_of g (hK _ _ (g.less (fun _ h => h.elim) (fun _ h => h.elim)))
end Go.Proofs.YthlmfalfnpjndaaGreat.JourX
namespace Go.Proofs.YthlmfalfnpjndaaGreat.PlaceR
open Go Go.Proofs Aw Num DiskM DiskA DiskK DiskC Disk DiskL
open Ref (RefAt rS opRP)
set_option linter.unusedSimpArgs false
set_option linter.unusedVariables false
end Go.Proofs.YthlmfalfnpjndaaGreat.PlaceR
namespace Go.Proofs.YthlmfalfnpjndaaGreat.JourX
open Go Go.Proofs Aw Num DiskM DiskA DiskK DiskC Disk FrameM
open DiskL (readP syncP syncNamesP doomP createP appendP wbV len_wbV Sz sz_new crash_o op_o small_crash)
open Frame (allM putM sameM all_ok put_ok same_ok)
open Ref (RefAt rS opRP newRP crashRP usedRP)
open PlaceR (putRFP growRFP)
open Place (Do Makes putAll growAll putFP growFP makes_put makes_grow makes_syncNames)
set_option linter.unusedSimpArgs false
set_option linter.unusedVariables false
def crashD (w : Wreck) : Do := ⟨fun M => (M.crash w,0),Small⟩
def doomD (n : Int) : Do := ⟨fun M => M.doom n,Small⟩
structure Pair (L : LL) (T : TT) (M1 : MD) (w : Own) (M2 : MD) (o fo : Nat) : Prop where
 d1 : dAt L T M1 w
 d2 : RefAt L M2 o fo
 sep : ∀ i,w.S i → ¬ rS o fo i
def pS (w : Own) (o fo : Nat) (i : Nat) : Prop := w.S i ∨ rS o fo i
theorem ref_lt {L : LL} {M : MD} {o fo : Nat} (h : RefAt L M o fo) {i : Nat} (hi : rS o fo i) : i < L.length := by rcases hi with rfl | rfl; exact h.lt.1; exact h.lt.2
theorem Pair.left {L L' : LL} {T T' : TT} {M1 M1' M2 : MD} {w w' : Own} {o fo : Nat} (h : Pair L T M1 w M2 o fo) (hd : dAt L' T' M1' w') (g : Step w.S w.R L T w'.S w'.R L' T') : Pair L' T' M1' w' M2 o fo :=
 ⟨hd,h.d2.frame g fun i hi hs => h.sep i hs hi,fun i hs hi => (g.own i hs).elim (fun hs => h.sep i hs hi) fun hl => by have := ref_lt h.d2 hi; omega⟩
theorem Pair.right {L L' : LL} {T T' : TT} {M1 M2 M2' : MD} {w : Own} {o fo fo' : Nat} (h : Pair L T M1 w M2 o fo) (hd : RefAt L' M2' o fo') (g : Step (rS o fo) noS L T (rS o fo') noS L' T') : Pair L' T' M1 w M2' o fo' :=
 ⟨h.d1.frame g (fun i hs hi => h.sep i hs hi) (fun _ _ h => h),hd,fun i hs hi => (g.own i hi).elim (h.sep i hs) fun hl => by have := h.d1.lt i hs; omega⟩
theorem Pair.other {L L' : LL} {T T' : TT} {M1 M2 : MD} {w : Own} {o fo : Nat} (h : Pair L T M1 w M2 o fo) (g : Step noS noS L T noS noS L' T') : Pair L' T' M1 w M2 o fo :=
 ⟨h.d1.frame g (fun _ _ h => h) (fun _ _ h => h),h.d2.frame g (fun _ _ h => h),h.sep⟩
theorem Step.pl {L L' : LL} {T T' : TT} {w w' : Own} {o fo : Nat} (g : Step w.S w.R L T w'.S w'.R L' T') : Step (pS w o fo) w.R L T (pS w' o fo) w'.R L' T' :=
 ⟨g.len,fun i hi hs => g.keep i hi (fun h => hs (.inl h)),fun i h => h.elim (fun h => (g.own i h).imp .inl id) (fun h => .inl (.inr h)),g.tlen,g.tkeep,g.town⟩
theorem Step.pr {L L' : LL} {T T' : TT} {w : Own} {o fo fo' : Nat} (g : Step (rS o fo) noS L T (rS o fo') noS L' T') : Step (pS w o fo) w.R L T (pS w o fo') w.R L' T' :=
 ⟨g.len,fun i hi hs => g.keep i hi (fun h => hs (.inr h)),fun i h => h.elim (fun h => .inl (.inl h)) (fun h => (g.own i h).imp .inr id),g.tlen,fun k hk hr => g.tkeep k hk (fun h => h),fun k h => .inl h⟩
theorem opr_o {op : List V → Option (MD → MD × V)} {L : LL} {T : TT} {M : MD} {o fo : Nat} {rest : List V} {g : MD → MD × V} {K : V → LL → TT → Prop} (hg : op rest = some g) (hd : RefAt L M o fo) (hs : Small M)
 (hK : ∀ L' T' fo',RefAt L' (g M).1 o fo' → Step (rS o fo) noS L T (rS o fo') noS L' T' → K (g M).2 L' T') : opRP op (.box o 0 :: rest) L T K := ⟨M,o,fo,rest,g,rfl,hg,hd,hs,hK⟩
theorem read_begin (M : MD) (n : Name) : (M.read n).1 = M.begin.1 := by
 unfold MD.read MD.onFile
 split
 · rfl
 · split <;> rfl
theorem makes_crash {w : Wreck} (hw : w.bytes.length ≤ 50) : Makes 16 (crashD w) := by
 intro k M ok hs hk
 refine ⟨hs.small (by omega),crash_ok ok w,?_⟩
 have := DiskL.act_sz hs ok (a := ⟨11,[],[],[],0,w⟩) ⟨by simp,by simp,by simp,hw⟩
 exact this.mono (by omega)
theorem doom_ok' {M : MD} (ok : M.Ok) {n : Int} (h : n ≤ 9223372036854775807) : (M.doom n).1.Ok := by
 unfold MD.doom
 split
 · exact ok
 · exact ⟨ok.rise,ok.can,ok.once,ok.lt,ok.right,ok.cut,ok.room,by simp only; omega⟩
theorem makes_doom {n : Int} (hn : n ≤ 9223372036854775807) : Makes 16 (doomD n) := by
 intro k M ok hs hk
 refine ⟨hs.small (by omega),doom_ok' ok hn,?_⟩
 have h : Sz k (M.doom n).1 := by
  unfold MD.doom
  split
  · exact hs
  · exact hs.same rfl rfl rfl
 exact h.mono (by omega)
abbrev doomRP : PM := opRP doomF
abbrev readRP : PM := opRP readF
def K1 : Fns := { fn := fun f => if f = 42 then some putM else if f = 33 then some allM else J0.fn f,mu := fun d => .no,hp := fun f => if f = 34 then some putRFP else if f = 43 then some growRFP else if f = 14 then some readRP else J0.hp f,ord := fun i => none,it := fun f => J0.it f }
theorem K1_fn (f : FuncId) : K1.fn f = (if f = 42 then some putM else if f = 33 then some allM else J0.fn f) := rfl
theorem K1_mu (d : Tmp) : K1.mu d = (.no) := rfl
theorem K1_hp (f : FuncId) : K1.hp f = (if f = 34 then some putRFP else if f = 43 then some growRFP else if f = 14 then some readRP else J0.hp f) := rfl
theorem K1_ord (i : Nat) : K1.ord i = (none) := rfl
theorem K1_it (f : FuncId) : K1.it f = (J0.it f) := rfl
theorem K1_hy (b : Nat) : K1.hy b = none := rfl
theorem K1ok : FnsOk Tryz.prog K1 := FnsOk.same (FnsOk.consP (FnsOk.consP (FnsOk.consP (FnsOk.cons (FnsOk.cons J0ok _ _ Frame.rall_ok Tryz.func33 (by decide) (fun h => by cases h)) _ _ Frame.rput_ok Tryz.func42 (by decide) (fun h => by cases h)) _ _ Ref.readR_ok Tryz.func14 (by decide) (fun h => by cases h)) _ _ PlaceR.growRF_ok Tryz.func43 (by decide) (fun h => by cases h)) _ _ PlaceR.putRF_ok Tryz.func34 (by decide) (fun h => by cases h)) rfl rfl
attribute [bitvec_to_nat] K1_fn K1_mu K1_hp K1_ord K1_it K1_hy
def addRP : PM := fun args L T K => ∃ M o fo x t,args = [.box o 0,.bytes x t] ∧ RefAt L M o fo ∧ (addD x).pre M ∧
 ∀ L' T' fo',RefAt L' ((addD x).f M).1 o fo' → Step (rS o fo) noS L T (rS o fo') noS L' T' → K (codeV ((addD x).f M).2) L' T'
theorem addR_ok : PSound Tryz.prog 23 addRP := by
 refine psound tysOk K1ok mix Tryz.func23 rfl ?_
 intro args L T K hm
 obtain ⟨M,o,fo,x,t,rfl,hd,hp,hK⟩ := hm
 by_cases hx : 4096 < x.length
 · have e : (addD x).f M = (M,3) := if_pos hx
   rw [e] at hK
   simp (maxSteps:=2000000) only[bitvec_to_nat,seval,↓tcd,Tryz.f23,putM,hx]
   exact ret_of (Step.refl (rS o fo) noS L T) (hK L T fo hd (Step.refl _ _ _ _))
 · have e : (addD x).f M = (growAll jn (frameF x)).f M := if_neg hx
   rw [e] at hK
   have hp' := hp hx
   simp (maxSteps:=2000000) only[bitvec_to_nat,seval,↓tcd,Tryz.f23,putM,hx]
   have hst0 : Step (rS o fo) noS L T (rS o fo) noS L (T ++ [((frameF x).length,5)]) := (Step.refl _ _ _ _).tapp _
   refine ⟨M,o,fo,jn,frameF x,some T.length,rfl,by rw [frameF_length]; omega,hd,hp',fun L1 T1 fo1 hd1 hst1 => ?_⟩
   exact ret_of (hst0.trans hst1) (hK L1 T1 fo1 hd1 (hst0.trans hst1))
def begRP : PM := fun args L T K => ∃ M o fo,args = [.box o 0] ∧ RefAt L M o fo ∧ begD.pre M ∧
 ∀ L' T' fo',RefAt L' (begD.f M).1 o fo' → Step (rS o fo) noS L T (rS o fo') noS L' T' → K (codeV (begD.f M).2) L' T'
theorem begR_ok : PSound Tryz.prog 18 begRP := by
 refine psound tysOk K1ok mix Tryz.func18 rfl ?_
 intro args L T K hm
 obtain ⟨M,o,fo,rfl,hd,hp,hK⟩ := hm
 simp (maxSteps:=2000000) only[bitvec_to_nat,seval,↓tcd,Tryz.f18]
 refine ⟨M,o,fo,jn,[],none,rfl,by simp,hd,hp,fun L1 T1 fo1 hd1 hst1 => ?_⟩
 exact ret_of hst1 (hK L1 T1 fo1 hd1 hst1)
def openRP : PM := fun args L T K => ∃ M o fo,args = [.box o 0] ∧ RefAt L M o fo ∧ openPre M ∧
 ∀ L' T' fo',RefAt L' (openF M).1 o fo' → Step (rS o fo) noS L T (rS o fo') noS L' T' → K (.tuple [.list 1 ((openF M).2.1.map bv) none,.int .i64 ((openF M).2.2 : Nat)]) L' T'
set_option maxHeartbeats 1000000 in
theorem openR_ok : PSound Tryz.prog 12 openRP := by
 refine psound tysOk K1ok mix Tryz.func12 rfl ?_
 intro args L T K hm
 obtain ⟨M,o,fo,rfl,hd,⟨hs,hbl,hpp⟩,hK⟩ := hm
 simp (maxSteps:=2000000) only[bitvec_to_nat,seval,↓tcd,Tryz.f12]
 refine opr_o rfl hd hs fun L1 T1 fo1 hd1 hst1 => ?_
 unfold openF at hK
 obtain ⟨M1,hM1⟩ : ∃ M1,(M.read jn).1 = M1 := ⟨_,rfl⟩
 obtain ⟨c,hc⟩ : ∃ c,(M.read jn).2 = c := ⟨_,rfl⟩
 obtain ⟨b,hb⟩ : ∃ b,M.readB jn = b := ⟨_,rfl⟩
 change RefAt L1 (M.read jn).1 o fo1 at hd1
 have e1 : (M.read [106,111,117,114,110,97,108]).2 = c := hc
 have e2 : M.readB [106,111,117,114,110,97,108] = b := hb
 rw [hM1] at hd1 hpp
 rw [hM1,hc,hb] at hK
 rw [hb] at hbl hpp
 rw [e1,e2]
 by_cases h2 : c = 2
 · subst h2
   rw [if_pos rfl] at hK
   simp (maxSteps:=2000000) only[bitvec_to_nat,seval,↓tcd,code_V]
   exact ret_le hst1 (hK _ _ fo1 hd1 hst1) (by refine ⟨⟨rfl,rfl⟩,?_⟩; first | rfl | exact ⟨rfl,trivial⟩ | exact ⟨rfl,rfl⟩ | trivial)
 · rw [if_neg h2] at hK
   have d2 : decide ((c : Int) = 2) = false := decide_eq_false (by omega)
   by_cases h0 : c = 0
   · subst h0
     rw [if_neg (by simp)] at hK
     obtain ⟨n,hn⟩ : ∃ n,(allF b).2 = n := ⟨_,rfl⟩
     have hnl : n ≤ b.length := by rw [← hn]; exact allF_le b
     rw [hn] at hK hpp
     simp (maxSteps:=2000000) only[bitvec_to_nat,seval,↓tcd,code_V,allM,hn]
     refine ⟨⟨bv_clean _,by omega⟩,?_⟩
     by_cases hlt : n < b.length
     · have d3 : decide ((n : Int) < (b.length : Int)) = true := decide_eq_true (by omega)
       rw [if_pos hlt] at hK
       simp (maxSteps:=2000000) only[bitvec_to_nat,seval,↓tcd,d3,Int.toNat_natCast]
       have hpb := hpp (b.take n) (by rw [List.length_take]; omega) hlt
       refine ⟨⟨by omega,by omega⟩,M1,o,fo1,jn,b.take n,none,rfl,by rw [List.length_take]; omega,hd1,hpb,fun L2 T2 fo2 hd2 hst2 => ?_⟩
       obtain ⟨R,hR⟩ : ∃ R,(putAll jn (b.take n)).f M1 = R := ⟨_,rfl⟩
       rw [hR] at hd2 hK ⊢
       have hg2 := hst1.trans hst2
       by_cases hz : R.2 = 0
       · rw [if_neg (by simpa using hz)] at hK
         simp only [hz,code_V,Int.natCast_zero]
         simp (maxSteps:=2000000) only[bitvec_to_nat,seval,↓tcd]
         exact ret_of hg2 (hK _ _ fo2 hd2 hg2)
       · rw [if_pos hz] at hK
         obtain ⟨z,hzz⟩ : ∃ z,R.2 = z := ⟨_,rfl⟩
         rw [hzz] at hK hz ⊢
         have dz : decide ((z : Int) = 0) = false := decide_eq_false (by omega)
         simp only [code_V]
         simp (maxSteps:=2000000) only[bitvec_to_nat,seval,↓tcd,dz]
         exact ret_le hg2 (hK _ _ fo2 hd2 hg2) (by refine ⟨⟨rfl,rfl⟩,?_⟩; first | rfl | exact ⟨rfl,trivial⟩ | exact ⟨rfl,rfl⟩ | trivial)
     · have d3 : decide ((n : Int) < (b.length : Int)) = false := decide_eq_false (by omega)
       rw [if_neg hlt] at hK
       simp (maxSteps:=2000000) only[bitvec_to_nat,seval,↓tcd,d3]
       exact ret_of hst1 (hK _ _ fo1 hd1 hst1)
   · rw [if_pos h0] at hK
     have d0 : decide ((c : Int) = 0) = false := decide_eq_false (by omega)
     simp (maxSteps:=2000000) only[bitvec_to_nat,seval,↓tcd,code_V,d2,d0]
     exact ret_le hst1 (hK _ _ fo1 hd1 hst1) (by refine ⟨⟨rfl,rfl⟩,?_⟩; first | rfl | exact ⟨rfl,trivial⟩ | exact ⟨rfl,rfl⟩ | trivial)
end Go.Proofs.YthlmfalfnpjndaaGreat.JourX
