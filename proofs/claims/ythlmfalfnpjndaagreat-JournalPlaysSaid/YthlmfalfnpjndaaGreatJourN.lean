import Derived.Test.YthlmfalfnpjndaaGreatAwX
import Derived.Test.YthlmfalfnpjndaaGreatJourV
namespace Go.Proofs.YthlmfalfnpjndaaGreat.JourX
open Go Go.Proofs Aw Num DiskM DiskA DiskK DiskC Disk FrameM
open DiskL (readP syncP syncNamesP doomP createP appendP wbV len_wbV Sz sz_new crash_o op_o small_crash)
open Frame (allM putM sameM all_ok put_ok same_ok)
open Ref (RefAt rS opRP newRP crashRP usedRP)
open Place (Do Makes)
set_option linter.unusedSimpArgs false
set_option linter.unusedVariables false
def K7 : Fns := { fn := fun f => if f = 15 then some sameM else J0.fn f,mu := fun d => .no,hp := fun f => if f = 5 then some newP else if f = 6 then some newRP else if f = 8 then some doesP else if f = 7 then some fewP else if f = 4 then some shownP else if f = 11 then some openP else if f = 12 then some openRP else if f = 9 then some crashP else if f = 10 then some crashRP else if f = 13 then some readP else if f = 14 then some readRP else J0.hp f,ord := fun i => none,it := fun f => J0.it f }
theorem K7_fn (f : FuncId) : K7.fn f = (if f = 15 then some sameM else J0.fn f) := rfl
theorem K7_mu (d : Tmp) : K7.mu d = (.no) := rfl
theorem K7_hp (f : FuncId) : K7.hp f = (if f = 5 then some newP else if f = 6 then some newRP else if f = 8 then some doesP else if f = 7 then some fewP else if f = 4 then some shownP else if f = 11 then some openP else if f = 12 then some openRP else if f = 9 then some crashP else if f = 10 then some crashRP else if f = 13 then some readP else if f = 14 then some readRP else J0.hp f) := rfl
theorem K7_ord (i : Nat) : K7.ord i = (none) := rfl
theorem K7_it (f : FuncId) : K7.it f = (J0.it f) := rfl
theorem K7_hy (b : Nat) : K7.hy b = none := rfl
theorem K7ok : FnsOk Tryz.prog K7 := FnsOk.same (FnsOk.consP (FnsOk.consP (FnsOk.consP (FnsOk.consP (FnsOk.consP (FnsOk.consP (FnsOk.consP (FnsOk.consP (FnsOk.consP (FnsOk.consP (FnsOk.consP (FnsOk.cons J0ok _ _ same_ok Tryz.func15 (by decide) (fun h => by cases h)) _ _ Ref.readR_ok Tryz.func14 (by decide) (fun h => by cases h)) _ _ read_ok Tryz.func13 (by decide) (fun h => by cases h)) _ _ Ref.crashR_ok Tryz.func10 (by decide) (fun h => by cases h)) _ _ crash_sound Tryz.func9 (by decide) (fun h => by cases h)) _ _ openR_ok Tryz.func12 (by decide) (fun h => by cases h)) _ _ open_ok Tryz.func11 (by decide) (fun h => by cases h)) _ _ shown_ok Tryz.func4 (by decide) (fun h => by cases h)) _ _ few_ok Tryz.func7 (by decide) (fun h => by cases h)) _ _ does_ok Tryz.func8 (by decide) (fun h => by cases h)) _ _ Ref.newR_ok Tryz.func6 (by decide) (fun h => by cases h)) _ _ new_ok Tryz.func5 (by decide) (fun h => by cases h)) rfl rfl
attribute [bitvec_to_nat] K7_fn K7_mu K7_hp K7_ord K7_it K7_hy
def playsP : PM := fun args L T K => ∃ (room : Int) (l : List Act) (wr : Wreck),args = [.int .i64 room,.list 5 (l.map actV) none,.agg [.int .i64 wr.names,wbV wr.bytes]] ∧ l.length ≤ 9223372036854775807 ∧ (∀ a ∈ l,a.n ≤ 9223372036854775807) ∧ wr.bytes.length ≤ 9223372036854775807 ∧ ∀ L' T',K (.bool true) L' T'
set_option maxHeartbeats 4000000 in
theorem plays_ok : PSound Tryz.prog 3 playsP := by
 refine psound tysOk K7ok mix Tryz.func3 rfl ?_
 intro args L T K hm
 obtain ⟨room,l,wr,rfl,hlen,hn,hwb,hK⟩ := hm
 unfold wbV
 simp (maxSteps:=2000000) only[bitvec_to_nat,seval,↓tcd,Tryz.f3]
 refine ⟨rfl,fun L1 T1 hst1 => ?_⟩
 simp (maxSteps:=2000000) only[bitvec_to_nat,seval,↓tcd]
 refine ⟨room,rfl,fun L2 w2 ho2 hd2 hst2 => ?_⟩
 simp (maxSteps:=2000000) only[bitvec_to_nat,seval,↓tcd]
 have hwr1 : L1[L.length]? = some [.int .i64 wr.names,.list 1 (wr.bytes.map fun n => .int .i64 n) none] := by rw [hst1.keep L.length (by simp) (fun h => h),at_new rfl]
 have hlw := lt_at hwr1
 obtain ⟨od,hod⟩ : ∃ o,w2.o = o := ⟨_,rfl⟩
 rw [hod]
 refine ⟨room,rfl,fun L3 fo3 hr3 hst3 => ?_⟩
 simp (maxSteps:=2000000) only[bitvec_to_nat,seval,↓tcd]
 refine ⟨l,rfl,hlen,fun L5 T5 hst5 => ?_⟩
 simp (maxSteps:=2000000) only[bitvec_to_nat,seval,↓tcd,List.length_map]
 obtain ⟨oR,hoR⟩ : ∃ x,L2.length = x := ⟨_,rfl⟩
 rw [hoR] at hr3 hst3 ⊢
 have hp5 : Pair L5 T5 (DiskM.new room) w2 (DiskM.new room) oR fo3 := by
  refine Pair.other ⟨hd2.frame hst3 (fun _ _ h => h) (fun _ _ h => h),hr3,fun i h1 h2 => ?_⟩ hst5
  rcases hst3.own i h2 with h | h
  · exact h
  · have := hd2.lt i h1; omega
 have hg5 : Step noS noS L1 T1 (pS w2 oR fo3) w2.R L5 T5 := by
  have hx : Step noS noS L1 T1 w2.S w2.R L3 T1 := hst2.via hst3 (fun _ h => h.elim) (fun _ h => h.elim)
  have hy : Step noS noS L1 T1 (pS w2 oR fo3) w2.R L3 T1 := ⟨hx.len,hx.keep,fun i h => h.elim (hx.own i) (fun h => (hst3.own i h).elim (fun h => h.elim) (fun h => .inr (by have := hst2.len; omega))),hx.tlen,hx.tkeep,hx.town⟩
  exact hy.via hst5 (fun _ h => h.elim) (fun _ h => h.elim)
 have hF := few_len l
 have hT0 : T.length ≤ T1.length := hst1.tlen
 have hL0 : L.length ≤ L1.length := by omega
 refine awpLoop_intro (α := {q : Nat × LL × TT × MD × Own × Nat // q.1 ≤ (few l).length ∧ q.2.2.2.2.1.o = od ∧ Pair q.2.1 q.2.2.1 q.2.2.2.1 q.2.2.2.2.1 q.2.2.2.1 oR q.2.2.2.2.2 ∧ Step noS noS L1 T1 (pS q.2.2.2.2.1 oR q.2.2.2.2.2) q.2.2.2.2.1.R q.2.1 q.2.2.1 ∧ Sz (2 * (q.1 * q.1) + 16 * q.1) q.2.2.2.1 ∧ Bd (108 * q.1) q.2.2.2.1})
  (fun q => ⟨[.any,.any,.any,.any,.any,.box L.length 0,.bool false,.bool true,.box od 0,.box oR 0,.any,.any,.any,.any,.any,.any,.any,.any,.any,.any,.any,.any,.any,.any,.any,.any,.any,.any,.list 5 ((few l).map actV) none,.int .i64 ((few l).length : Int),.int .i64 (q.1.1 : Int),.any,.any,.any,.any,.any,.any,.any,.any,.any,.any,.any,.any,.any,.any,.any,.any,.any,.any,.any,.any,.any,.any,.any,.any,.any,.any,.any,.any,.any,.any,.any,.any,.any,.any,.any,.any,.any,.any,.any,.any,.any,.any,.any,.any,.any,.any,.any,.any,.any,.any,.any,.any,.any,.any,.any,.any,.any,.any],q.1.2.1,q.1.2.2.1⟩) (fun q => (few l).length - q.1.1)
  ⟨(0,L5,T5,DiskM.new room,w2,fo3),Nat.zero_le _,hod,hp5,hg5,sz_new room,bd_new room⟩ ?_ ?_ (fun q => ⟨Nat.le_trans hL0 q.2.2.2.2.1.len,Nat.le_trans hT0 q.2.2.2.2.1.tlen⟩)
 · simp (maxSteps:=2000000) only[bitvec_to_nat,seval,↓tcd,leLL_self]
   all_goals simp
 · rintro ⟨⟨i,L6,T6,M,wd,fo6⟩,hi,hwd,hp,hg,hsz,hbd⟩
   simp only at hi hwd hp hg hsz hbd
   have hi60 : i ≤ 60 := by omega
   have hii : i * i ≤ 60 * 60 := Nat.mul_le_mul hi60 hi60
   have hsmM : Small M := hsz.small (by omega)
   by_cases him : i < (few l).length
   · have hdc : decide ((i : Int) < ((few l).length : Int)) = true := decide_eq_true (by omega)
     obtain ⟨a,ha⟩ : ∃ a,(few l)[i]? = some a := ⟨_,List.getElem?_eq_getElem him⟩
     obtain ⟨ham,hal⟩ := few_mem (List.mem_of_getElem? ha)
     have hgd : ((few l).map actV).getD i .any = .agg [.int .u8 a.kind.toNat,.bytes a.b none,.int .i64 a.w.names,wbV a.w.bytes,.int .i64 a.n] := by
      rw [List.getD_eq_getElem?_getD,List.getElem?_map,ha]; rfl
     have hi1 : IntKind.i64.wrap ((i : Int) + 1) = ((i + 1 : Nat) : Int) := by rw [i64w (by omega) (by omega)]; omega
     unfold wbV at hgd
     simp (maxSteps:=2000000) only[bitvec_to_nat,seval,↓tcd,hdc,hgd,Int.toNat_natCast,List.length_map]
     refine ⟨⟨by omega,by omega⟩,?_⟩
     obtain ⟨A,hA⟩ : ∃ x,([.int .u8 a.kind.toNat,.bytes a.b none,.int .i64 a.w.names,.list 1 (a.w.bytes.map fun n => .int .i64 n) none,.int .i64 a.n] : List V) = x := ⟨_,rfl⟩
     have hp7 : Pair (L6 ++ [A]) T6 M wd M oR fo6 := hp.other ((Step.refl noS noS L6 T6).app _)
     have hAa : V.agg A = actV a := by rw [← hA]; unfold actV wbV; rfl
     rw [hA,hAa]
     obtain ⟨m1,m2,m3,m4⟩ := act_keeps ham (hn a hal) hi60 hp.d1.ok hsz hbd
     refine ⟨M,wd,oR,fo6,a,by rw [hwd],act_Ok ham (hn a hal),hp7,m1,fun L8 T8 w8 fo8 ho8 hp8 hst8 => ?_⟩
     rw [hwd] at ho8
     have hg8 := (hg.app [A]).trans hst8
     simp (maxSteps:=2000000) only[bitvec_to_nat,seval,↓tcd,hi1]
     refine ⟨⟨(i + 1,L8,T8,((act a).f M).1,w8,fo8),him,ho8,hp8,hg8,m3,m4⟩,?_,by simp only; omega⟩
     simp (maxSteps:=2000000) only[bitvec_to_nat,seval,↓tcd,leLL_self,hi1]
   · have hdc : decide ((i : Int) < ((few l).length : Int)) = false := decide_eq_false (by omega)
     have hw6 : L6[L.length]? = some [.int .i64 wr.names,.list 1 (wr.bytes.map fun n => .int .i64 n) none] := by rw [hg.keep L.length hlw (fun h => h)]; exact hwr1
     have hlw6 := lt_at hw6
     have hL16 := hg.len
     have hno6 : ¬ pS wd oR fo6 L.length := fun h => (hg.own _ h).elim (fun h => h) (fun h => by omega)
     have ok7 := crash_ok hp.d1.ok wr
     have sz7 := sz_crash hsz hp.d1.ok wr
     have bd7 := bd_crash hbd wr
     obtain ⟨M7,hM7⟩ : ∃ M7,M.crash wr = M7 := ⟨_,rfl⟩
     rw [hM7] at ok7 sz7 bd7
     obtain ⟨o1,o2,o3,o4⟩ := mk_open (m := 108 * i) (c := 2 * i + 1) (by omega) (by omega) _ M7 ok7 sz7 (by omega) bd7
     have hs8 : Small (openF M7).1 := o3.small (by omega)
     simp (maxSteps:=2000000) only[bitvec_to_nat,seval,↓tcd,hdc,hw6,hlw6]
     refine crash_o hwd wr.bytes (.inr ⟨none,rfl⟩) hwb hp.d1 hsmM fun L7 T7 w7 ho7 hd7 hst7 => ?_
     have hp7 := hp.left hd7 hst7
     have hw7 : L7[L.length]? = some [.int .i64 wr.names,.list 1 (wr.bytes.map fun n => .int .i64 n) none] := by rw [hst7.keep L.length hlw6 (fun h => hno6 (.inl h))]; exact hw6
     have hlw7 := lt_at hw7
     simp (maxSteps:=2000000) only[bitvec_to_nat,seval,↓tcd,hw7,hlw7]
     refine ⟨M,oR,fo6,wr.names,_,wr.bytes,rfl,.inr ⟨none,rfl⟩,hwb,hp7.d2,hsmM,fun L8 T8 fo8 hr8 hst8 => ?_⟩
     have hp8 := hp7.right hr8 hst8
     have hg8 := (hg.trans (Step.pl (o := oR) (fo := fo6) hst7)).trans (Step.pr (w := w7) hst8)
     change Pair L8 T8 (M.crash wr) w7 (M.crash wr) oR fo8 at hp8
     rw [hM7] at hp8
     simp (maxSteps:=2000000) only[bitvec_to_nat,seval,↓tcd]
     refine ⟨M7,w7,by rw [ho7],hp8.d1,o1,fun L9 T9 w9 ho9 hd9 hst9 => ?_⟩
     have hp9 := hp8.left hd9 hst9
     have hg9 := hg8.trans (Step.pl (o := oR) (fo := fo8) hst9)
     simp (maxSteps:=2000000) only[bitvec_to_nat,seval,↓tcd]
     refine ⟨M7,oR,fo8,rfl,hp9.d2,o1,fun LA TA foA hrA hstA => ?_⟩
     have hpA := hp9.right hrA hstA
     have hgA := hg9.trans (Step.pr (w := w9) hstA)
     obtain ⟨c,hcd⟩ : ∃ c,(openF M7).2.2 = c := ⟨_,rfl⟩
     obtain ⟨ls,hls⟩ : ∃ ls,(openF M7).2.1 = ls := ⟨_,rfl⟩
     have hlb : ls.length ≤ 1099511627776 := by
      rw [← hls]
      have := allF_len (M7.readB jn)
      have hb1 := readB_le bd7 jn
      unfold openF
      repeat' split
      all_goals first | (simp; done) | (simp only []; omega)
     obtain ⟨M8,hM8⟩ : ∃ M8,(openF M7).1 = M8 := ⟨_,rfl⟩
     rw [hM8] at hpA hs8
     simp only [hcd,hls]
     simp (maxSteps:=2000000) only[bitvec_to_nat,seval,↓tcd]
     refine op_o (by rw [ho9,ho7]) rfl hpA.d1 hs8 fun LB TB wB hoB hdB hstB => ?_
     have hpB := hpA.left hdB hstB
     have hgB := hgA.trans (Step.pl (o := oR) (fo := foA) hstB)
     simp (maxSteps:=2000000) only[bitvec_to_nat,seval,↓tcd]
     refine opr_o rfl hpB.d2 hs8 fun LC TC foC hrC hstC => ?_
     have hgC := hgB.trans (Step.pr (w := wB) hstC)
     obtain ⟨rb,hrb⟩ : ∃ x,M8.readB jn = x := ⟨_,rfl⟩
     obtain ⟨rc,hrc⟩ : ∃ x,(M8.read jn).2 = x := ⟨_,rfl⟩
     have hrb' : M8.readB [106,111,117,114,110,97,108] = rb := hrb
     have hrc' : (M8.read [106,111,117,114,110,97,108]).2 = rc := hrc
     have hc1 : decide ((c : Int) = (c : Int)) = true := decide_eq_true rfl
     have hc2 : decide ((rc : Int) = (rc : Int)) = true := decide_eq_true rfl
     simp only [hrb',hrc',code_V]
     simp (maxSteps:=2000000) only[bitvec_to_nat,seval,↓tcd,sameM,hc1,hc2,eq_self,unbv_map]
     refine ⟨⟨bv_clean ls,by rw [List.length_map]; exact hlb⟩,?_⟩
     have hl9 := hgC.len
     have ht9 := hgC.tlen
     exact ret_of (⟨by omega,fun _ _ h => absurd trivial h,fun _ h => h.elim,by omega,fun _ _ h => absurd trivial h,fun _ h => h.elim⟩ : Step (fun _ => True) (fun _ => True) L T noS noS LC TC) (hK _ _)
end Go.Proofs.YthlmfalfnpjndaaGreat.JourX
