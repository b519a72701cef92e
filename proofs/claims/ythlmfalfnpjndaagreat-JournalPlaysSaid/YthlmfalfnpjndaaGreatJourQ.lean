import Derived.Test.YthlmfalfnpjndaaGreatAwX
import Derived.Test.YthlmfalfnpjndaaGreatJourS
namespace Go.Proofs.YthlmfalfnpjndaaGreat.JourX
open Go Go.Proofs Aw Num DiskM DiskA DiskK DiskC Disk FrameM
open DiskL (readP syncP syncNamesP doomP createP appendP wbV len_wbV Sz sz_new crash_o op_o small_crash)
open Frame (allM putM sameM all_ok put_ok same_ok)
open Ref (RefAt rS opRP newRP crashRP usedRP)
open PlaceR (putRFP growRFP)
open Place (Do Makes putAll growAll appendD putFP growFP makes_put makes_grow makes_syncNames)
set_option linter.unusedSimpArgs false
set_option linter.unusedVariables false
def openD : Do := ⟨fun M => ((openF M).1,(openF M).2.2),openPre⟩
def act (a : Act) : Do := match a.kind.toNat % 8 with
 | 3 => openD
 | 4 => begD
 | 5 => crashD a.w
 | 6 => doomD a.n
 | 7 => appendD jn a.b
 | _ => addD a.b
def Act.Ok (a : Act) : Prop := a.b.length ≤ 1099511627776 ∧ a.n ≤ 9223372036854775807 ∧ a.w.bytes.length ≤ 9223372036854775807
abbrev appendRP : PM := opRP appendF
def K3 : Fns := { fn := fun f => if f = 15 then some sameM else J0.fn f,mu := fun d => .no,hp := fun f => if f = 11 then some openP else if f = 12 then some openRP else if f = 17 then some begP else if f = 18 then some begRP else if f = 16 then some addP else if f = 23 then some addRP else if f = 9 then some crashP else if f = 10 then some crashRP else if f = 19 then some doomP else if f = 20 then some doomRP else if f = 21 then some appendP else if f = 22 then some appendRP else J0.hp f,ord := fun i => if i = 9 then some [(0,0),(1,0),(2,3),(4,0),(5,0),(6,3),(3,1),(7,4),(8,0),(9,0)] else if i = 11 then some [(0,0),(1,0),(2,3),(4,0),(5,0),(6,3),(3,1),(7,4),(8,0),(9,0)] else if i = 13 then some [(0,0),(1,0),(2,3),(4,0),(5,0),(6,3),(3,1),(7,4),(8,0),(9,0)] else if i = 14 then some [(0,0),(1,0),(2,3),(4,0),(5,0),(6,3),(3,1),(7,4),(8,0),(9,0)] else none,it := fun f => J0.it f }
theorem K3_fn (f : FuncId) : K3.fn f = (if f = 15 then some sameM else J0.fn f) := rfl
theorem K3_mu (d : Tmp) : K3.mu d = (.no) := rfl
theorem K3_hp (f : FuncId) : K3.hp f = (if f = 11 then some openP else if f = 12 then some openRP else if f = 17 then some begP else if f = 18 then some begRP else if f = 16 then some addP else if f = 23 then some addRP else if f = 9 then some crashP else if f = 10 then some crashRP else if f = 19 then some doomP else if f = 20 then some doomRP else if f = 21 then some appendP else if f = 22 then some appendRP else J0.hp f) := rfl
theorem K3_ord (i : Nat) : K3.ord i = (if i = 9 then some [(0,0),(1,0),(2,3),(4,0),(5,0),(6,3),(3,1),(7,4),(8,0),(9,0)] else if i = 11 then some [(0,0),(1,0),(2,3),(4,0),(5,0),(6,3),(3,1),(7,4),(8,0),(9,0)] else if i = 13 then some [(0,0),(1,0),(2,3),(4,0),(5,0),(6,3),(3,1),(7,4),(8,0),(9,0)] else if i = 14 then some [(0,0),(1,0),(2,3),(4,0),(5,0),(6,3),(3,1),(7,4),(8,0),(9,0)] else none) := rfl
theorem K3_it (f : FuncId) : K3.it f = (J0.it f) := rfl
theorem K3_hy (b : Nat) : K3.hy b = none := rfl
theorem K3ok : FnsOk Tryz.prog K3 := FnsOk.same (FnsOk.consP (FnsOk.consP (FnsOk.consP (FnsOk.consP (FnsOk.consP (FnsOk.consP (FnsOk.consP (FnsOk.consP (FnsOk.consP (FnsOk.consP (FnsOk.consP (FnsOk.consP (FnsOk.cons J0ok _ _ same_ok Tryz.func15 (by decide) (fun h => by cases h)) _ _ Ref.appendR_ok Tryz.func22 (by decide) (fun h => by cases h)) _ _ append_ok Tryz.func21 (by decide) (fun h => by cases h)) _ _ Ref.doomR_ok Tryz.func20 (by decide) (fun h => by cases h)) _ _ doom_ok Tryz.func19 (by decide) (fun h => by cases h)) _ _ Ref.crashR_ok Tryz.func10 (by decide) (fun h => by cases h)) _ _ crash_sound Tryz.func9 (by decide) (fun h => by cases h)) _ _ addR_ok Tryz.func23 (by decide) (fun h => by cases h)) _ _ add_ok Tryz.func16 (by decide) (fun h => by cases h)) _ _ begR_ok Tryz.func18 (by decide) (fun h => by cases h)) _ _ beg_ok Tryz.func17 (by decide) (fun h => by cases h)) _ _ openR_ok Tryz.func12 (by decide) (fun h => by cases h)) _ _ open_ok Tryz.func11 (by decide) (fun h => by cases h)) rfl rfl
attribute [bitvec_to_nat] K3_fn K3_mu K3_hp K3_ord K3_it K3_hy
def doesP : PM := fun args L T K => ∃ (M : MD) (w : Own) (o fo : Nat) (a : Act),args = [.box w.o 0,.box o 0,actV a] ∧ a.Ok ∧ Pair L T M w M o fo ∧ (act a).pre M ∧
 ∀ L' T' w' fo',w'.o = w.o → Pair L' T' ((act a).f M).1 w' ((act a).f M).1 o fo' → Step (pS w o fo) w.R L T (pS w' o fo') w'.R L' T' → K (.bool true) L' T'
set_option maxHeartbeats 4000000 in
theorem does_ok : PSound Tryz.prog 8 doesP := by
 refine psound tysOk K3ok mix Tryz.func8 rfl ?_
 intro args L T K hm
 obtain ⟨M,w,o,fo,a,rfl,⟨ha1,ha3,ha4⟩,hp,hpre,hK⟩ := hm
 have hst0 : Step (pS w o fo) w.R L T (pS w o fo) w.R (L ++ [[.int .u8 a.kind.toNat,.bytes a.b none,.int .i64 a.w.names,wbV a.w.bytes,.int .i64 a.n]]) T := (Step.refl _ _ _ _).app _
 have hp0 : Pair (L ++ [[.int .u8 a.kind.toNat,.bytes a.b none,.int .i64 a.w.names,wbV a.w.bytes,.int .i64 a.n]]) T M w M o fo := hp.other (((Step.refl noS noS L T).app _))
 have hmod : ((a.kind.toNat : Nat) : Int).tmod 8 = ((a.kind.toNat % 8 : Nat) : Int) := rfl
 have h0 : (L ++ [[.int .u8 a.kind.toNat,.bytes a.b none,.int .i64 a.w.names,wbV a.w.bytes,.int .i64 a.n]])[L.length]? = some [.int .u8 a.kind.toNat,.bytes a.b none,.int .i64 a.w.names,wbV a.w.bytes,.int .i64 a.n] := by simp
 have hno : ¬ pS w o fo L.length := fun h => h.elim (fun h => by have := hp.d1.lt _ h; omega) (fun h => by have := ref_lt hp.d2 h; omega)
 unfold actV wbV at *
 have hc : a.kind.toNat % 8 = 3 ∨ a.kind.toNat % 8 = 4 ∨ a.kind.toNat % 8 = 5 ∨ a.kind.toNat % 8 = 6 ∨ a.kind.toNat % 8 = 7 ∨ (a.kind.toNat % 8 = 0 ∨ a.kind.toNat % 8 = 1 ∨ a.kind.toNat % 8 = 2) := by omega
 rcases hc with hc | hc | hc | hc | hc | hc
 · have e : act a = openD := by simp only [act,hc]
   rw [e] at hK hpre
   rw [hc] at hmod
   simp (maxSteps:=2000000) only[bitvec_to_nat,seval,↓tcd,Tryz.f8,hmod,Int.natCast_zero,Int.cast_ofNat_Int]
   refine ⟨M,w,rfl,hp0.d1,hpre,fun L1 T1 w1 ho1 hd1 hst1 => ?_⟩
   have hp1 := hp0.left hd1 hst1
   simp (maxSteps:=2000000) only[bitvec_to_nat,seval,↓tcd]
   refine ⟨M,o,fo,rfl,hp1.d2,hpre,fun L2 T2 fo2 hd2 hst2 => ?_⟩
   have hp2 := hp1.right hd2 hst2
   have hg := (hst0.trans (Step.pl (o := o) (fo := fo) hst1)).trans (Step.pr (w := w1) hst2)
   obtain ⟨c,hcd⟩ : ∃ c,(openF M).2.2 = c := ⟨_,rfl⟩
   obtain ⟨l,hl⟩ : ∃ l,(openF M).2.1 = l := ⟨_,rfl⟩
   have hcc : decide ((c : Int) = (c : Int)) = true := decide_eq_true rfl
   simp only [hcd,hl]
   simp (maxSteps:=2000000) only[bitvec_to_nat,seval,↓tcd,hcc,sameM]
   have hlb : l.length ≤ 1099511627776 := by
    rw [← hl]
    have := allF_len (M.readB jn)
    have hb1 := hpre.2.1
    unfold openF
    repeat' split
    all_goals first | (simp; done) | (simp only []; omega)
   refine ⟨⟨bv_clean l,by rw [unbv_map],by rw [unbv_map],by rw [List.length_map]; exact hlb⟩,?_⟩
   exact ret_of hg (hK L2 T2 w1 fo2 ho1 hp2 hg)
 · have e : act a = begD := by simp only [act,hc]
   rw [e] at hK hpre
   rw [hc] at hmod
   simp (maxSteps:=2000000) only[bitvec_to_nat,seval,↓tcd,Tryz.f8,hmod,Int.natCast_zero,Int.cast_ofNat_Int]
   refine ⟨M,w,rfl,hp0.d1,hpre,fun L1 T1 w1 ho1 hd1 hst1 => ?_⟩
   have hp1 := hp0.left hd1 hst1
   simp (maxSteps:=2000000) only[bitvec_to_nat,seval,↓tcd]
   refine ⟨M,o,fo,rfl,hp1.d2,hpre,fun L2 T2 fo2 hd2 hst2 => ?_⟩
   have hp2 := hp1.right hd2 hst2
   have hg := (hst0.trans (Step.pl (o := o) (fo := fo) hst1)).trans (Step.pr (w := w1) hst2)
   obtain ⟨c,hcd⟩ : ∃ c,(begD.f M).2 = c := ⟨_,rfl⟩
   have hcc : decide ((c : Int) = (c : Int)) = true := decide_eq_true rfl
   simp only [hcd,code_V]
   simp (maxSteps:=2000000) only[bitvec_to_nat,seval,↓tcd,hcc]
   exact ret_of hg (hK L2 T2 w1 fo2 ho1 hp2 hg)
 · have e : act a = crashD a.w := by simp only [act,hc]
   rw [e] at hK hpre
   rw [hc] at hmod
   simp (maxSteps:=2000000) only[bitvec_to_nat,seval,↓tcd,Tryz.f8,hmod,Int.natCast_zero,Int.cast_ofNat_Int]
   refine ⟨by kernel_rfl,?_⟩
   refine crash_o rfl a.w.bytes (.inr ⟨none,rfl⟩) ha4 hp0.d1 hpre fun L1 T1 w1 ho1 hd1 hst1 => ?_
   have hp1 := hp0.left hd1 hst1
   have h1 : L1[L.length]? = some [.int .u8 a.kind.toNat,.bytes a.b none,.int .i64 a.w.names,.list 1 (a.w.bytes.map fun n => .int .i64 n) none,.int .i64 a.n] := by rw [hst1.keep L.length (by simp) (fun h => hno (.inl h))]; exact h0
   have hl1 := lt_at h1
   simp (maxSteps:=2000000) only[bitvec_to_nat,seval,↓tcd,h1,hl1]
   refine ⟨M,o,fo,a.w.names,_,a.w.bytes,rfl,.inr ⟨none,rfl⟩,ha4,hp1.d2,hpre,fun L2 T2 fo2 hd2 hst2 => ?_⟩
   have hp2 := hp1.right hd2 hst2
   have hg := (hst0.trans (Step.pl (o := o) (fo := fo) hst1)).trans (Step.pr (w := w1) hst2)
   have hcc : decide (((0 : Nat) : Int) = ((0 : Nat) : Int)) = true := decide_eq_true rfl
   simp only [code_V]
   simp (maxSteps:=2000000) only[bitvec_to_nat,seval,↓tcd,hcc]
   exact ret_of hg (hK L2 T2 w1 fo2 ho1 hp2 hg)
 · have e : act a = doomD a.n := by simp only [act,hc]
   rw [e] at hK hpre
   rw [hc] at hmod
   simp (maxSteps:=2000000) only[bitvec_to_nat,seval,↓tcd,Tryz.f8,hmod,Int.natCast_zero,Int.cast_ofNat_Int]
   refine ⟨by kernel_rfl,?_⟩
   refine op_o rfl (if_pos ha3) hp0.d1 hpre fun L1 T1 w1 ho1 hd1 hst1 => ?_
   have hp1 := hp0.left hd1 hst1
   have h1 : L1[L.length]? = some [.int .u8 a.kind.toNat,.bytes a.b none,.int .i64 a.w.names,.list 1 (a.w.bytes.map fun n => .int .i64 n) none,.int .i64 a.n] := by rw [hst1.keep L.length (by simp) (fun h => hno (.inl h))]; exact h0
   have hl1 := lt_at h1
   simp (maxSteps:=2000000) only[bitvec_to_nat,seval,↓tcd,h1,hl1]
   refine opr_o (if_pos ha3) hp1.d2 hpre fun L2 T2 fo2 hd2 hst2 => ?_
   have hp2 := hp1.right hd2 hst2
   have hg := (hst0.trans (Step.pl (o := o) (fo := fo) hst1)).trans (Step.pr (w := w1) hst2)
   obtain ⟨c,hcd⟩ : ∃ c,(M.doom a.n).2 = c := ⟨_,rfl⟩
   have hcc : decide ((c : Int) = (c : Int)) = true := decide_eq_true rfl
   simp only [hcd,code_V]
   simp (maxSteps:=2000000) only[bitvec_to_nat,seval,↓tcd,hcc]
   exact ret_of hg (hK L2 T2 w1 fo2 ho1 hp2 hg)
 · have e : act a = appendD jn a.b := by simp only [act,hc]
   rw [e] at hK hpre
   rw [hc] at hmod
   simp (maxSteps:=2000000) only[bitvec_to_nat,seval,↓tcd,Tryz.f8,hmod,Int.natCast_zero,Int.cast_ofNat_Int]
   refine ⟨by kernel_rfl,?_⟩
   refine op_o rfl (if_pos ha1) hp0.d1 hpre fun L1 T1 w1 ho1 hd1 hst1 => ?_
   have hp1 := hp0.left hd1 hst1
   have h1 : L1[L.length]? = some [.int .u8 a.kind.toNat,.bytes a.b none,.int .i64 a.w.names,.list 1 (a.w.bytes.map fun n => .int .i64 n) none,.int .i64 a.n] := by rw [hst1.keep L.length (by simp) (fun h => hno (.inl h))]; exact h0
   have hl1 := lt_at h1
   simp (maxSteps:=2000000) only[bitvec_to_nat,seval,↓tcd,h1,hl1]
   refine opr_o (if_pos ha1) hp1.d2 hpre fun L2 T2 fo2 hd2 hst2 => ?_
   have hp2 := hp1.right hd2 hst2
   have hg := (hst0.trans (Step.pl (o := o) (fo := fo) hst1)).trans (Step.pr (w := w1) hst2)
   obtain ⟨c,hcd⟩ : ∃ c,(M.append jn a.b).2 = c := ⟨_,rfl⟩
   have hcc : decide ((c : Int) = (c : Int)) = true := decide_eq_true rfl
   simp only [hcd,code_V]
   simp (maxSteps:=2000000) only[bitvec_to_nat,seval,↓tcd,hcc]
   exact ret_of hg (hK L2 T2 w1 fo2 ho1 hp2 hg)
 · rcases hc with hc | hc | hc
   all_goals
    have e : act a = addD a.b := by simp only [act,hc]
    rw [e] at hK hpre
    rw [hc] at hmod
    simp (maxSteps:=2000000) only[bitvec_to_nat,seval,↓tcd,Tryz.f8,hmod,Int.natCast_zero,Int.cast_ofNat_Int]
    refine ⟨by kernel_rfl,?_⟩
    refine ⟨M,w,a.b,none,rfl,hp0.d1,hpre,fun L1 T1 w1 ho1 hd1 hst1 => ?_⟩
    have hp1 := hp0.left hd1 hst1
    have h1 : L1[L.length]? = some [.int .u8 a.kind.toNat,.bytes a.b none,.int .i64 a.w.names,.list 1 (a.w.bytes.map fun n => .int .i64 n) none,.int .i64 a.n] := by rw [hst1.keep L.length (by simp) (fun h => hno (.inl h))]; exact h0
    have hl1 := lt_at h1
    simp (maxSteps:=2000000) only[bitvec_to_nat,seval,↓tcd,h1,hl1]
    refine ⟨M,o,fo,a.b,none,rfl,hp1.d2,hpre,fun L2 T2 fo2 hd2 hst2 => ?_⟩
    have hp2 := hp1.right hd2 hst2
    have hg := (hst0.trans (Step.pl (o := o) (fo := fo) hst1)).trans (Step.pr (w := w1) hst2)
    obtain ⟨c,hcd⟩ : ∃ c,((addD a.b).f M).2 = c := ⟨_,rfl⟩
    have hcc : decide ((c : Int) = (c : Int)) = true := decide_eq_true rfl
    simp only [hcd,code_V]
    simp (maxSteps:=2000000) only[bitvec_to_nat,seval,↓tcd,hcc]
    exact ret_of hg (hK L2 T2 w1 fo2 ho1 hp2 hg)
end Go.Proofs.YthlmfalfnpjndaaGreat.JourX
