import Derived.Test.YthlmfalfnpjndaaGreatAwX
import Derived.Test.YthlmfalfnpjndaaGreatJourA
import Derived.Test.YthlmfalfnpjndaaGreatDiskL
import Derived.Test.YthlmfalfnpjndaaGreatAw15
namespace Go.Proofs.YthlmfalfnpjndaaGreat.JourX
open Go Go.Proofs Aw Num DiskM DiskA DiskK DiskC Disk FrameM
open DiskL (readP syncP syncNamesP doomP createP appendP wbV len_wbV Sz sz_new crash_o op_o small_crash)
open Frame (allM putM sameM all_ok put_ok same_ok)
open Place (Do Makes putAll growAll putFP growFP makes_put makes_grow makes_syncNames)
set_option linter.unusedSimpArgs false
set_option linter.unusedVariables false
structure Act where
 kind : UInt8
 b : List UInt8
 w : Wreck
 n : Int
 deriving Inhabited
def actV (a : Act) : V := .agg [.int .u8 a.kind.toNat,.bytes a.b none,.int .i64 a.w.names,wbV a.w.bytes,.int .i64 a.n]
def Act.small (a : Act) : Prop := a.b.length ≤ 100 ∧ a.w.bytes.length ≤ 50
instance (a : Act) : Decidable a.small := by unfold Act.small; exact inferInstance
def few (l : List Act) : List Act := (l.take 60).filter fun a => decide a.small
theorem few_succ {l : List Act} {i : Nat} {a : Act} (h : l[i]? = some a) : few (l.take (i + 1)) = few (l.take i) ++ if i < 60 ∧ a.small then [a] else [] := by
 obtain ⟨hi,he⟩ := List.getElem?_eq_some_iff.1 h
 have e1 : l.take (i + 1) = l.take i ++ [a] := by rw [List.take_succ_eq_append_getElem hi,he]
 unfold few
 rw [e1]
 have hl : (l.take i).length = i := by rw [List.length_take]; omega
 by_cases h1 : i < 60
 · rw [List.take_append,List.filter_append,hl]
   have e2 : [a].take (60 - i) = [a] := by rw [List.take_of_length_le (by simp; omega)]
   rw [e2]
   congr 1
   by_cases h2 : a.small
   · rw [if_pos ⟨h1,h2⟩]; simp [h2]
   · rw [if_neg (fun h => h2 h.2)]; simp [h2]
 · rw [if_neg (fun h => h1 h.1),List.append_nil,List.take_append_of_le_length (by omega)]
theorem few_mem {l : List Act} {a : Act} (h : a ∈ few l) : a.small ∧ a ∈ l := by
 unfold few at h
 obtain ⟨h1,h2⟩ := List.mem_filter.1 h
 exact ⟨of_decide_eq_true h2,List.mem_of_mem_take h1⟩
theorem few_len (l : List Act) : (few l).length ≤ 60 := by
 unfold few
 refine Nat.le_trans (List.length_filter_le _ _) ?_
 rw [List.length_take]; omega
def J2 : Fns := { fn := fun f => J0.fn f,mu := fun d => bif d == 3 then .nil 22 else .no,hp := fun f => J0.hp f,ord := fun i => none,it := fun f => J0.it f }
theorem J2_fn (f : FuncId) : J2.fn f = (J0.fn f) := rfl
theorem J2_mu (d : Tmp) : J2.mu d = (bif d == 3 then .nil 22 else .no) := rfl
theorem J2_hp (f : FuncId) : J2.hp f = (J0.hp f) := rfl
theorem J2_ord (i : Nat) : J2.ord i = (none) := rfl
theorem J2_it (f : FuncId) : J2.it f = (J0.it f) := rfl
theorem J2_hy (b : Nat) : J2.hy b = none := rfl
theorem J2ok : FnsOk Tryz.prog J2 := FnsOk.same J0ok rfl rfl
attribute [bitvec_to_nat] J2_fn J2_mu J2_hp J2_ord J2_it J2_hy
def fewP : PM := fun args L T K => ∃ l : List Act,args = [.list 5 (l.map actV) none] ∧ l.length ≤ 9223372036854775807 ∧ ∀ L' T',Step noS noS L T noS noS L' T' → K (.list 5 ((few l).map actV) none) L' T'
theorem few_ok : PSound Tryz.prog 7 fewP := by
 refine psound tysOk J2ok mix Tryz.func7 rfl ?_
 intro args L T K hm
 obtain ⟨l,rfl,hlen,hK⟩ := hm
 simp (maxSteps:=2000000) only[bitvec_to_nat,seval,↓tcd,Tryz.f7,List.length_map]
 refine awpLoop_intro (α := {q : Nat × LL × TT // q.1 ≤ l.length ∧ Step noS noS L T noS noS q.2.1 q.2.2 ∧ q.2.2[T.length]? = some ((few (l.take q.1)).length,34) ∧ T.length < q.2.2.length})
  (fun q => ⟨[.any,.any,.any,.list 5 ((few (l.take q.1.1)).map actV) (some T.length),.any,.any,.list 5 (l.map actV) none,.int .i64 (l.length : Int),.int .i64 (q.1.1 : Int),.any,.any,.any,.any,.any,.any,.any,.any,.any,.any,.any,.any,.any,.any,.any,.any,.any,.any,.any,.any,.any,.any,.any,.any,.any],q.1.2.1,q.1.2.2⟩) (fun q => l.length - q.1.1)
  ⟨(0,L,T ++ [(0,34)]),Nat.zero_le _,(Step.refl _ _ _ _).tapp _,by rw [tat_new rfl]; rfl,by simp⟩ ?_ ?_ (fun q => ⟨q.2.2.1.len,q.2.2.1.tlen⟩)
 · simp (maxSteps:=2000000) only[bitvec_to_nat,seval,↓tcd,leLL_self]
   first | rfl | exact ⟨rfl,rfl⟩
 · rintro ⟨⟨i,L2,T2⟩,hi,hs2,hT,hTl⟩
   simp only at hi hs2 hT hTl
   by_cases him : i < l.length
   · have hdc : decide ((i : Int) < (l.length : Int)) = true := decide_eq_true (by omega)
     obtain ⟨a,ha⟩ : ∃ a,l[i]? = some a := ⟨_,List.getElem?_eq_getElem him⟩
     have hgd : (l.map actV).getD i .any = .agg [.int .u8 a.kind.toNat,.bytes a.b none,.int .i64 a.w.names,wbV a.w.bytes,.int .i64 a.n] := by
      rw [List.getD_eq_getElem?_getD,List.getElem?_map,ha]; rfl
     have hfs := few_succ ha
     have hi1 : IntKind.i64.wrap ((i : Int) + 1) = ((i + 1 : Nat) : Int) := by rw [i64w (by omega) (by omega)]; omega
     have hfl : (few (l.take i)).length ≤ 60 := by
      unfold few
      refine Nat.le_trans (List.length_filter_le _ _) ?_
      rw [List.length_take]; omega
     have hno : ¬ (i < 60 ∧ a.small) → few (l.take (i + 1)) = few (l.take i) := fun h => by rw [hfs,if_neg h,List.append_nil]
     simp (maxSteps:=2000000) only[bitvec_to_nat,seval,↓tcd,hdc,hgd,Int.toNat_natCast,List.length_map,len_wbV,hi1,hT,hTl]
     refine ⟨⟨by omega,by omega⟩,?_⟩
     refine awpIf_intro (fun h1 => ?_) (fun h1 => ?_) <;> simp only [decide_eq_true_eq,decide_eq_false_iff_not] at h1
     · refine awpIf_intro (fun h2 => ?_) (fun h2 => ?_) <;> simp only [decide_eq_true_eq,decide_eq_false_iff_not] at h2
       · refine awpIf_intro (fun h3 => ?_) (fun h3 => ?_) <;> simp only [decide_eq_true_eq,decide_eq_false_iff_not] at h3
         · have hye : few (l.take (i + 1)) = few (l.take i) ++ [a] := by rw [hfs,if_pos ⟨by omega,by omega,by omega⟩]
           refine ⟨by unfold maxBytes; omega,⟨(i + 1,L2 ++ [[.int .u8 a.kind.toNat,.bytes a.b none,.int .i64 a.w.names,.list 1 (a.w.bytes.map fun n => .int .i64 n) none,.int .i64 a.n]],(T2 ++ [(1,34)]).set T.length ((few (l.take i)).length + 1,34)),him,((hs2.app _).tapp [(1,34)]).tset (k := T.length) (.inr (Nat.le_refl _)) ((few (l.take i)).length + 1,34),?_,?_⟩,?_,by simp only; omega⟩
           · simp only
             rw [List.getElem?_set_self (by simp; omega),hye]; simp
           · simp only; simp; omega
           · simp (maxSteps:=2000000) only[bitvec_to_nat,seval,↓tcd,leLL_self,hye,List.map_append,List.length_append,List.length_map]
             all_goals first | rfl | exact ⟨rfl,rfl⟩
         · have hnoe := hno (by rintro ⟨q1,q2,q3⟩; omega)
           refine ⟨⟨(i + 1,L2 ++ [[.int .u8 a.kind.toNat,.bytes a.b none,.int .i64 a.w.names,.list 1 (a.w.bytes.map fun n => .int .i64 n) none,.int .i64 a.n]],T2),him,hs2.app _,by simp only; rw [hnoe]; exact hT,hTl⟩,?_,by simp only; omega⟩
           simp (maxSteps:=2000000) only[bitvec_to_nat,seval,↓tcd,leLL_self,hnoe]
       · have hnoe := hno (by rintro ⟨q1,q2,q3⟩; omega)
         refine ⟨⟨(i + 1,L2 ++ [[.int .u8 a.kind.toNat,.bytes a.b none,.int .i64 a.w.names,.list 1 (a.w.bytes.map fun n => .int .i64 n) none,.int .i64 a.n]],T2),him,hs2.app _,by simp only; rw [hnoe]; exact hT,hTl⟩,?_,by simp only; omega⟩
         simp (maxSteps:=2000000) only[bitvec_to_nat,seval,↓tcd,leLL_self,hnoe]
     · have hnoe := hno (by rintro ⟨q1,q2,q3⟩; omega)
       refine ⟨⟨(i + 1,L2 ++ [[.int .u8 a.kind.toNat,.bytes a.b none,.int .i64 a.w.names,.list 1 (a.w.bytes.map fun n => .int .i64 n) none,.int .i64 a.n]],T2),him,hs2.app _,by simp only; rw [hnoe]; exact hT,hTl⟩,?_,by simp only; omega⟩
       simp (maxSteps:=2000000) only[bitvec_to_nat,seval,↓tcd,leLL_self,hnoe]
   · have hdc : decide ((i : Int) < (l.length : Int)) = false := decide_eq_false (by omega)
     have hie : i = l.length := by omega
     subst hie
     simp (maxSteps:=2000000) only[bitvec_to_nat,seval,↓tcd,hdc,List.take_length]
     exact ret_le hs2 (hK _ _ hs2) ⟨rfl,rfl⟩
theorem makes_add {x : List UInt8} (h : x.length ≤ 100) : Makes 16 (addD x) := by
 intro k M ok hs hk
 obtain ⟨a,b,c⟩ := makes_grow jn (b := frameF x) (by rw [frameF_length]; omega) k M ok hs hk
 have e : (addD x).f M = (growAll jn (frameF x)).f M := if_neg (by omega)
 rw [e]
 exact ⟨fun _ => a,b,c⟩
def e0 : MD := DiskM.new 100
def e1 : MD := ((addD [97]).f e0).1
def e2 : MD := ((addD [98]).f e1).1
def e3 : MD := e2.crash ⟨0,[]⟩
theorem e1c : ((addD [97]).f e0).2 = 0 := by kernel_rfl
theorem e2c : ((addD [98]).f e1).2 = 0 := by kernel_rfl
theorem e3c : (e3.read jn).2 = 0 := by kernel_rfl
theorem e3b : e3.readB jn = framesF [[97],[98]] := by kernel_rfl
theorem e3o : openF e3 = ((e3.read jn).1,[[97],[98]],0) := by
 have h := all_frames' [[97],[98]] (by intro x hx; simp at hx; rcases hx with rfl | rfl <;> simp)
 unfold openF
 rw [e3c,e3b,h]
 simp
end Go.Proofs.YthlmfalfnpjndaaGreat.JourX
namespace Go.Proofs.YthlmfalfnpjndaaGreat.DiskO
open Go Go.Proofs Go.ChangeShapes Go.RowKit Aw DiskM DiskL
set_option linter.unusedVariables false
set_option linter.unusedSimpArgs false
theorem len2 : ∀ {l : List Value},l.length = 2 → ∃ a b,l = [a,b]
 | [a,b],_ => ⟨a,b,rfl⟩
section
variable {H : Type} {enc : TypeId × Value → H} {w : World} {base : Nat} {held : Bool}
theorem cu8 : Tryz.prog.cellsOf 5 = 1 := by kernel_rfl
theorem cint : Tryz.prog.cellsOf 3 = 1 := by kernel_rfl
theorem cbs : Tryz.prog.cellsOf 32 = 1 := by kernel_rfl
theorem cis : Tryz.prog.cellsOf 23 = 1 := by kernel_rfl
theorem cwr : Tryz.prog.cellsOf 25 = 2 := by kernel_rfl
theorem some_of {α : Type} {x : Option α} {l : List α} {i : Nat} (h : x = l[i]?) (hi : i < l.length) : ∃ y,x = some y := ⟨l[i],by rw [h,List.getElem?_eq_getElem hi]⟩
theorem wreck_open {n : Nat} {cs : List Value} {x : DataW H × List MemPlace} (h : DataW.trod enc Tryz.prog w base (fun _ => true) held n 25 cs = some x) :
 ∃ (k : Int) (A : Option Addr) (len cap : Nat) (l : List Int),cs = [.int .i64 k,.slice A len cap] ∧ l.length = len ∧ len ≤ maxLen ∧ Rel (K0 w) (wbV l) (.slice A len cap) := by
 obtain ⟨xs,m,_,_,hl,hxs,hall⟩ := DataW.trod_struct Tryz.underlying25 h
 rw [cwr] at hl
 obtain ⟨c0,c1,rfl⟩ := len2 hl
 have hn : xs.length = 2 := hxs
 obtain ⟨y0,e0⟩ := some_of (hall 0 _ rfl) (by omega)
 obtain ⟨y1,e1⟩ := some_of (hall 1 _ rfl) (by omega)
 simp only [List.getElem_toArray,List.getElem_cons_zero,List.getElem_cons_succ,cint,cis,List.drop_zero,List.drop_succ_cons,List.take_succ_cons,List.take_zero] at e0 e1
 obtain ⟨k,hk,_,_⟩ := DataW.trod_int Tryz.underlying3 e0
 obtain ⟨A,len,cap,l,hc,h1,h2,_,h3⟩ := ints_open Tryz.underlying23 Tryz.underlying3 cint e1
 simp only [List.cons.injEq,and_true] at hk hc
 subst hk hc
 exact ⟨k,A,len,cap,l,rfl,h1,h2,h3⟩
end
end Go.Proofs.YthlmfalfnpjndaaGreat.DiskO
namespace Go.Proofs.YthlmfalfnpjndaaGreat.JourO
open Go Go.Proofs Go.ChangeShapes Go.RowKit Aw DiskM DiskO
open DiskL (wbV)
open JourX (actV)
set_option linter.unusedVariables false
set_option linter.unusedSimpArgs false
theorem len5 : ∀ {l : List Value},l.length = 5 → ∃ a b c d e,l = [a,b,c,d,e]
 | [a,b,c,d,e],_ => ⟨a,b,c,d,e,rfl⟩
section
variable {H : Type} {enc : TypeId × Value → H} {w : World} {base : Nat} {held : Bool}
theorem cact : Tryz.prog.cellsOf 34 = 5 := by kernel_rfl
theorem act_open {n : Nat} {cs : List Value} {x : DataW H × List MemPlace} (h : DataW.trod enc Tryz.prog w base (fun _ => true) held n 34 cs = some x) :
 ∃ a : JourX.Act,(Lit.int .i64 a.n).wf = true ∧ CellsAre w (actV a) cs := by
 obtain ⟨xs,m,_,_,hl,hxs,hall⟩ := DataW.trod_struct Tryz.underlying34 h
 rw [cact] at hl
 obtain ⟨c0,c1,c2,c3,c4,rfl⟩ := len5 hl
 have hn : xs.length = 4 := hxs
 obtain ⟨y0,e0⟩ := some_of (hall 0 _ rfl) (by omega)
 obtain ⟨y1,e1⟩ := some_of (hall 1 _ rfl) (by omega)
 obtain ⟨y2,e2⟩ := some_of (hall 2 _ rfl) (by omega)
 obtain ⟨y3,e3⟩ := some_of (hall 3 _ rfl) (by omega)
 simp only [List.getElem_toArray,List.getElem_cons_zero,List.getElem_cons_succ,cu8,cint,cbs,cwr,List.drop_zero,List.drop_succ_cons,List.take_succ_cons,List.take_zero] at e0 e1 e2 e3
 obtain ⟨k0,h0,_,w0⟩ := DataW.trod_int Tryz.underlying5 e0
 obtain ⟨A2,len2,cap2,l2,h2,_,r2⟩ := bytes_open Tryz.underlying32 Tryz.underlying5 cu8 e1
 obtain ⟨k4,A4,len4,cap4,l4,h4,_,_,r4⟩ := wreck_open e2
 obtain ⟨k5,h5,_,w5⟩ := DataW.trod_int Tryz.underlying3 e3
 simp only [List.cons.injEq,and_true] at h0 h2 h4 h5
 obtain ⟨h4,h6⟩ := h4
 subst h0 h2 h4 h5 h6
 have hk0 : ((UInt8.ofNat k0.toNat).toNat : Int) = k0 := by
  simp [Lit.wf,IntKind.min,IntKind.max,IntKind.signed,IntKind.bits] at w0
  simp only [UInt8.toNat_ofNat']
  omega
 refine ⟨⟨UInt8.ofNat k0.toNat,l2,⟨k4,l4⟩,k5⟩,w5,rfl,fun j hj hj' => ?_⟩
 have hj5 : j < 5 := hj
 match j,hj5 with
 | 0,_ => exact ⟨by show Rel _ (.int .u8 ((UInt8.ofNat k0.toNat).toNat : Int)) _; rw [hk0]; exact .int _ _,rfl⟩
 | 1,_ => exact ⟨r2,rfl⟩
 | 2,_ => exact ⟨.int _ _,rfl⟩
 | 3,_ => exact ⟨r4,rfl⟩
 | 4,_ => exact ⟨.int _ _,rfl⟩
theorem acts_open {n : Nat} {cs : List Value} {x : DataW H × List MemPlace} (h : DataW.trod enc Tryz.prog w base (fun _ => true) held n 22 cs = some x) :
 ∃ (a : Option Addr) (len cap : Nat) (l : List JourX.Act),cs = [.slice a len cap] ∧ l.length = len ∧ len ≤ maxLen ∧ (∀ g ∈ l,(Lit.int .i64 g.n).wf = true) ∧ Rel (K0 w) (.list 5 (l.map actV) none) (.slice a len cap) :=
 slices_open Tryz.underlying22 cact (by omega) actV (fun g => (Lit.int .i64 g.n).wf = true) (fun g => rfl) (fun n cs x hx => act_open hx) h
end
end Go.Proofs.YthlmfalfnpjndaaGreat.JourO
