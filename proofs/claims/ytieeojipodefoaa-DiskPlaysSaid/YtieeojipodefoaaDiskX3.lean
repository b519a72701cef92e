/-
  THE LAW DiskPlays.
-/
import Derived.Test.YtieeojipodefoaaAwX
import Derived.Test.YtieeojipodefoaaDiskX2
namespace Go.Proofs.Ytieeojipodefoaa.DiskX
open Go Go.Proofs Go.Proofs.Ytieeojipodefoaa.Aw Go.Proofs.Ytieeojipodefoaa.Num Go.Proofs.Ytieeojipodefoaa.DiskM Go.Proofs.Ytieeojipodefoaa.DiskA Go.Proofs.Ytieeojipodefoaa.DiskK Go.Proofs.Ytieeojipodefoaa.DiskC Go.Proofs.Ytieeojipodefoaa.Disk Go.Proofs.Ytieeojipodefoaa.DiskL
open Go.Proofs.Ytieeojipodefoaa.Ref (RefAt rS opRP newRP crashRP usedRP cloneRP)
set_option linter.unusedSimpArgs false
set_option linter.unusedVariables false

def X3 : Fns := { fn := fun f => X1.fn f, mu := fun d => .no, hp := fun f => if f = 16 then some newP else if f = 17 then some newRP else if f = 19 then some doesP else if f = 20 then some didP else if f = 18 then some fewP else if f = 15 then some shownP else if f = 24 then some sameP else if f = 26 then some crashP else if f = 21 then some usedP else if f = 23 then some cloneDP else if f = 22 then some usedRP else if f = 25 then some cloneRP else if f = 27 then some crashRP else X1.hp f, ord := fun i => if i = 8 then some [(0, 0), (1, 3), (3, 0), (4, 3), (2, 1), (5, 4), (6, 0), (7, 0), (8, 0), (10, 0), (9, 4), (11, 4), (12, 0), (13, 0)] else none }
theorem X3_fn (f : FuncId) : X3.fn f = (X1.fn f) := rfl
theorem X3_mu (d : Tmp) : X3.mu d = (.no) := rfl
theorem X3_hp (f : FuncId) : X3.hp f = (if f = 16 then some newP else if f = 17 then some newRP else if f = 19 then some doesP else if f = 20 then some didP else if f = 18 then some fewP else if f = 15 then some shownP else if f = 24 then some sameP else if f = 26 then some crashP else if f = 21 then some usedP else if f = 23 then some cloneDP else if f = 22 then some usedRP else if f = 25 then some cloneRP else if f = 27 then some crashRP else X1.hp f) := rfl
theorem X3_ord (i : Nat) : X3.ord i = (if i = 8 then some [(0, 0), (1, 3), (3, 0), (4, 3), (2, 1), (5, 4), (6, 0), (7, 0), (8, 0), (10, 0), (9, 4), (11, 4), (12, 0), (13, 0)] else none) := rfl
theorem X3ok : FnsOk Try.prog X3 := FnsOk.same (FnsOk.consP (FnsOk.consP (FnsOk.consP (FnsOk.consP (FnsOk.consP (FnsOk.consP (FnsOk.consP (FnsOk.consP (FnsOk.consP (FnsOk.consP (FnsOk.consP (FnsOk.consP (FnsOk.consP X1ok _ _ Ref.crashR_ok Try.func27 (by decide) (fun h => by cases h)) _ _ Ref.cloneR_ok Try.func25 (by decide) (fun h => by cases h)) _ _ Ref.usedR_ok Try.func22 (by decide) (fun h => by cases h)) _ _ cloneD_ok Try.func23 (by decide) (fun h => by cases h)) _ _ used_ok Try.func21 (by decide) (fun h => by cases h)) _ _ crash_sound Try.func26 (by decide) (fun h => by cases h)) _ _ same_ok Try.func24 (by decide) (fun h => by cases h)) _ _ shown_ok Try.func15 (by decide) (fun h => by cases h)) _ _ few_ok Try.func18 (by decide) (fun h => by cases h)) _ _ did_ok Try.func20 (by decide) (fun h => by cases h)) _ _ does_ok Try.func19 (by decide) (fun h => by cases h)) _ _ Ref.newR_ok Try.func17 (by decide) (fun h => by cases h)) _ _ new_ok Try.func16 (by decide) (fun h => by cases h)) rfl rfl
attribute [bitvec_to_nat] X3_fn X3_mu X3_hp X3_ord

def playsP : PM := fun args L T K => ∃ (room : Int) (l : List DiskL.Act) (wr : Wreck), args = [.int .i64 room, .list 7 (l.map actV) none, .agg [.int .i64 wr.names, wbV wr.bytes]] ∧ l.length ≤ 9223372036854775807 ∧ (∀ a ∈ l, a.n ≤ 9223372036854775807) ∧ wr.bytes.length ≤ 9223372036854775807 ∧ ∀ L' T', K (.bool true) L' T'
set_option maxHeartbeats 4000000 in
theorem plays_ok : PSound Try.prog 3 playsP := by
  refine psound tysOk X3ok mix Try.func3 rfl ?_
  intro args L T K hm
  obtain ⟨room, l, wr, rfl, hlen, hn, hwb, hK⟩ := hm
  unfold wbV
  simp (maxSteps:=2000000) only[bitvec_to_nat,↓r_ifTrue,↓r_ifFalse,Nat.reduceAdd,Nat.reduceSub,Nat.reduceMul,Nat.reduceLT,Nat.reduceLeDiff,Nat.reduceEqDiff,Nat.reduceBEq,Nat.reduceBNe,Int.reduceToNat,Int.reduceLE,Int.reduceLT,Int.reduceEq,Int.reduceNe,Int.reduceNeg,Nat.reducePow,Int.reducePow,reduceIte,reduceCtorEq,↓tcd,Try.f3]
  refine ⟨rfl, fun L1 T1 hst1 => ?_⟩
  simp (maxSteps:=2000000) only[bitvec_to_nat,↓r_ifTrue,↓r_ifFalse,Nat.reduceAdd,Nat.reduceSub,Nat.reduceMul,Nat.reduceLT,Nat.reduceLeDiff,Nat.reduceEqDiff,Nat.reduceBEq,Nat.reduceBNe,Int.reduceToNat,Int.reduceLE,Int.reduceLT,Int.reduceEq,Int.reduceNe,Int.reduceNeg,Nat.reducePow,Int.reducePow,reduceIte,reduceCtorEq,↓tcd]
  refine ⟨room, rfl, fun L2 w2 ho2 hd2 hst2 => ?_⟩
  simp (maxSteps:=2000000) only[bitvec_to_nat,↓r_ifTrue,↓r_ifFalse,Nat.reduceAdd,Nat.reduceSub,Nat.reduceMul,Nat.reduceLT,Nat.reduceLeDiff,Nat.reduceEqDiff,Nat.reduceBEq,Nat.reduceBNe,Int.reduceToNat,Int.reduceLE,Int.reduceLT,Int.reduceEq,Int.reduceNe,Int.reduceNeg,Nat.reducePow,Int.reducePow,reduceIte,reduceCtorEq,↓tcd]
  have hwr1 : L1[L.length]? = some [.int .i64 wr.names, .list 1 (wr.bytes.map fun n => .int .i64 n) none] := by rw [hst1.keep L.length (by simp) (fun h => h), at_new rfl]
  have hlw := lt_at hwr1
  obtain ⟨od, hod⟩ : ∃ o, w2.o = o := ⟨_, rfl⟩
  rw [hod]
  refine ⟨room, rfl, fun L3 fo3 hr3 hst3 => ?_⟩
  simp (maxSteps:=2000000) only[bitvec_to_nat,↓r_ifTrue,↓r_ifFalse,Nat.reduceAdd,Nat.reduceSub,Nat.reduceMul,Nat.reduceLT,Nat.reduceLeDiff,Nat.reduceEqDiff,Nat.reduceBEq,Nat.reduceBNe,Int.reduceToNat,Int.reduceLE,Int.reduceLT,Int.reduceEq,Int.reduceNe,Int.reduceNeg,Nat.reducePow,Int.reducePow,reduceIte,reduceCtorEq,↓tcd]
  refine ⟨l, rfl, hlen, fun L5 T5 hst5 => ?_⟩
  simp (maxSteps:=2000000) only[bitvec_to_nat,↓r_ifTrue,↓r_ifFalse,Nat.reduceAdd,Nat.reduceSub,Nat.reduceMul,Nat.reduceLT,Nat.reduceLeDiff,Nat.reduceEqDiff,Nat.reduceBEq,Nat.reduceBNe,Int.reduceToNat,Int.reduceLE,Int.reduceLT,Int.reduceEq,Int.reduceNe,Int.reduceNeg,Nat.reducePow,Int.reducePow,reduceIte,reduceCtorEq,↓tcd,List.length_map]
  obtain ⟨oR, hoR⟩ : ∃ x, L2.length = x := ⟨_, rfl⟩
  rw [hoR] at hr3 hst3 ⊢
  have hp5 : Pair L5 T5 (DiskM.new room) w2 (DiskM.new room) oR fo3 := by
    refine Pair.other ⟨hd2.frame hst3 (fun _ _ h => h) (fun _ _ h => h), hr3, fun i h1 h2 => ?_⟩ hst5
    rcases hst3.own i h2 with h | h
    · exact h
    · have := hd2.lt i h1; omega
  have hg5 : Step noS noS L1 T1 (pS w2 oR fo3) w2.R L5 T5 := by
    have hx : Step noS noS L1 T1 w2.S w2.R L3 T1 := hst2.via hst3 (fun _ h => h.elim) (fun _ h => h.elim)
    have hy : Step noS noS L1 T1 (pS w2 oR fo3) w2.R L3 T1 := ⟨hx.len, hx.keep, fun i h => h.elim (hx.own i) (fun h => (hst3.own i h).elim (fun h => h.elim) (fun h => .inr (by have := hst2.len; omega))), hx.tlen, hx.tkeep, hx.town⟩
    exact hy.via hst5 (fun _ h => h.elim) (fun _ h => h.elim)
  have hF := few_len l
  have hT0 : T.length ≤ T1.length := hst1.tlen
  have hL0 : L.length ≤ L1.length := by omega
  refine awpLoop_intro (α := {q : Nat × LL × TT × MD × Own × Nat // q.1 ≤ (few l).length ∧ q.2.2.2.2.1.o = od ∧ Pair q.2.1 q.2.2.1 q.2.2.2.1 q.2.2.2.2.1 q.2.2.2.1 oR q.2.2.2.2.2 ∧ Step noS noS L1 T1 (pS q.2.2.2.2.1 oR q.2.2.2.2.2) q.2.2.2.2.1.R q.2.1 q.2.2.1 ∧ Sz q.1 q.2.2.2.1})
    (fun q => ⟨[.any, .any, .any, .any, .any, .box L.length 0, .bool false, .bool true, .box od 0, .box oR 0, .any, .any, .any, .any, .any, .any, .any, .any, .any, .any, .any, .list 7 ((few l).map actV) none, .int .i64 ((few l).length : Int), .int .i64 (q.1.1 : Int), .any, .any, .any, .any, .any, .any, .any, .any, .any, .any, .any, .any, .any, .any, .any, .any, .any, .any, .any, .any, .any, .any, .any, .any, .any, .any, .any, .any, .any, .any, .any, .any, .any, .any, .any, .any, .any, .any, .any, .any, .any], q.1.2.1, q.1.2.2.1⟩) (fun q => (few l).length - q.1.1)
    ⟨(0, L5, T5, DiskM.new room, w2, fo3), Nat.zero_le _, hod, hp5, hg5, sz_new room⟩ ?_ ?_ (fun q => ⟨Nat.le_trans hL0 q.2.2.2.2.1.len, Nat.le_trans hT0 q.2.2.2.2.1.tlen⟩)
  · simp (maxSteps:=2000000) only[bitvec_to_nat,↓r_ifTrue,↓r_ifFalse,Nat.reduceAdd,Nat.reduceSub,Nat.reduceMul,Nat.reduceLT,Nat.reduceLeDiff,Nat.reduceEqDiff,Nat.reduceBEq,Nat.reduceBNe,Int.reduceToNat,Int.reduceLE,Int.reduceLT,Int.reduceEq,Int.reduceNe,Int.reduceNeg,Nat.reducePow,Int.reducePow,reduceIte,reduceCtorEq,↓tcd,leLL_self]
    simp
  · rintro ⟨⟨i, L6, T6, M, wd, fo6⟩, hi, hwd, hp, hg, hsz⟩
    simp only at hi hwd hp hg hsz
    have hsmM : Small M := hsz.small (by omega)
    by_cases him : i < (few l).length
    · have hdc : decide ((i : Int) < ((few l).length : Int)) = true := decide_eq_true (by omega)
      obtain ⟨a, ha⟩ : ∃ a, (few l)[i]? = some a := ⟨_, List.getElem?_eq_getElem him⟩
      obtain ⟨ham, hal⟩ := few_mem (List.mem_of_getElem? ha)
      have hgd : ((few l).map actV).getD i .any = .agg [.int .u8 a.kind.toNat, .str a.name, .str a.to, .bytes a.b none, .int .i64 a.n, .int .i64 a.w.names, wbV a.w.bytes] := by
        rw [List.getD_eq_getElem?_getD, List.getElem?_map, ha]; rfl
      have hi1 : IntKind.i64.wrap ((i : Int) + 1) = ((i + 1 : Nat) : Int) := by rw [i64w (by omega) (by omega)]; omega
      unfold wbV at hgd
      simp (maxSteps:=2000000) only[bitvec_to_nat,↓r_ifTrue,↓r_ifFalse,Nat.reduceAdd,Nat.reduceSub,Nat.reduceMul,Nat.reduceLT,Nat.reduceLeDiff,Nat.reduceEqDiff,Nat.reduceBEq,Nat.reduceBNe,Int.reduceToNat,Int.reduceLE,Int.reduceLT,Int.reduceEq,Int.reduceNe,Int.reduceNeg,Nat.reducePow,Int.reducePow,reduceIte,reduceCtorEq,↓tcd,hdc,hgd,Int.toNat_natCast,List.length_map]
      refine ⟨⟨by omega, by omega⟩, by kernel_rfl, ?_⟩
      obtain ⟨A, hA⟩ : ∃ x, ([.int .u8 a.kind.toNat, .str a.name, .str a.to, .bytes a.b none, .int .i64 a.n, .int .i64 a.w.names, .list 1 (a.w.bytes.map fun n => .int .i64 n) none] : List V) = x := ⟨_, rfl⟩
      have hp7 : Pair (L6 ++ [A]) T6 M wd M oR fo6 := hp.other ((Step.refl noS noS L6 T6).app _)
      have ha7 : (L6 ++ [A])[L6.length]? = some A := by simp
      have hA7 : A.length = 7 := by rw [← hA]; rfl
      have hAa : V.agg A = actV a := by rw [← hA]; unfold actV wbV; rfl
      rw [hA]
      have hlt6 : ¬ pS wd oR fo6 L6.length := fun h => h.elim (fun h => by have := hp.d1.lt _ h; omega) (fun h => by have := ref_lt hp.d2 h; omega)
      refine ⟨M, wd, a, by rw [hwd, hAa], small_ok ham (hn a hal), hp7.d1, hsmM, fun L8 T8 w8 ho8 hd8 hst8 => ?_⟩
      rw [hwd] at ho8
      have hp8 := hp7.left hd8 hst8
      have hg8 := (hg.app [A]).trans (Step.pl (o := oR) (fo := fo6) hst8)
      have ha8 : L8[L6.length]? = some A := by rw [hst8.keep L6.length (by simp) (fun h => hlt6 (.inl h))]; exact ha7
      have hd7A : decide (7 ≤ A.length) = true := decide_eq_true (by omega)
      simp (maxSteps:=2000000) only[bitvec_to_nat,↓r_ifTrue,↓r_ifFalse,Nat.reduceAdd,Nat.reduceSub,Nat.reduceMul,Nat.reduceLT,Nat.reduceLeDiff,Nat.reduceEqDiff,Nat.reduceBEq,Nat.reduceBNe,Int.reduceToNat,Int.reduceLE,Int.reduceLT,Int.reduceEq,Int.reduceNe,Int.reduceNeg,Nat.reducePow,Int.reducePow,reduceIte,reduceCtorEq,↓tcd,ha8,hA7,List.take_of_length_le,Nat.le_refl]
      obtain ⟨cd, hcd⟩ : ∃ x, (act M a).2 = x := ⟨_, rfl⟩
      have hcc : decide ((cd : Int) = (cd : Int)) = true := decide_eq_true rfl
      refine ⟨M, oR, fo6, a, by rw [hAa], small_ok ham (hn a hal), hp8.d2, hsmM, fun L9 T9 fo9 hd9 hst9 => ?_⟩
      have hp9 := hp8.right hd9 hst9
      have hg9 := hg8.trans (Step.pr (w := w8) hst9)
      have hsz9 : Sz (i + 1) (act M a).1 := act_sz hsz hp.d1.ok ham
      have hs9 : Small (act M a).1 := hsz9.small (by omega)
      obtain ⟨M9, hM9⟩ : ∃ x, (act M a).1 = x := ⟨_, rfl⟩
      rw [hM9] at hp9 hsz9 hs9
      simp only [hcd, code_V]
      have huu : decide ((M9.used : Int) = (M9.used : Int)) = true := decide_eq_true rfl
      simp (maxSteps:=2000000) only[bitvec_to_nat,↓r_ifTrue,↓r_ifFalse,Nat.reduceAdd,Nat.reduceSub,Nat.reduceMul,Nat.reduceLT,Nat.reduceLeDiff,Nat.reduceEqDiff,Nat.reduceBEq,Nat.reduceBNe,Int.reduceToNat,Int.reduceLE,Int.reduceLT,Int.reduceEq,Int.reduceNe,Int.reduceNeg,Nat.reducePow,Int.reducePow,reduceIte,reduceCtorEq,↓tcd,hcc]
      refine ⟨M9, w8, by rw [ho8], hp9.d1, ?_⟩
      simp (maxSteps:=2000000) only[bitvec_to_nat,↓r_ifTrue,↓r_ifFalse,Nat.reduceAdd,Nat.reduceSub,Nat.reduceMul,Nat.reduceLT,Nat.reduceLeDiff,Nat.reduceEqDiff,Nat.reduceBEq,Nat.reduceBNe,Int.reduceToNat,Int.reduceLE,Int.reduceLT,Int.reduceEq,Int.reduceNe,Int.reduceNeg,Nat.reducePow,Int.reducePow,reduceIte,reduceCtorEq,↓tcd]
      refine ⟨M9, oR, fo9, rfl, hp9.d2, hs9, fun L10 T10 hst10 => ?_⟩
      simp (maxSteps:=2000000) only[bitvec_to_nat,↓r_ifTrue,↓r_ifFalse,Nat.reduceAdd,Nat.reduceSub,Nat.reduceMul,Nat.reduceLT,Nat.reduceLeDiff,Nat.reduceEqDiff,Nat.reduceBEq,Nat.reduceBNe,Int.reduceToNat,Int.reduceLE,Int.reduceLT,Int.reduceEq,Int.reduceNe,Int.reduceNeg,Nat.reducePow,Int.reducePow,reduceIte,reduceCtorEq,↓tcd,huu,hi1]
      refine ⟨⟨(i + 1, L10, T10, M9, w8, fo9), him, ho8, hp9.other hst10, hg9.via hst10 (fun _ h => h.elim) (fun _ h => h.elim), hsz9⟩, ?_, by simp only; omega⟩
      simp (maxSteps:=2000000) only[bitvec_to_nat,↓r_ifTrue,↓r_ifFalse,Nat.reduceAdd,Nat.reduceSub,Nat.reduceMul,Nat.reduceLT,Nat.reduceLeDiff,Nat.reduceEqDiff,Nat.reduceBEq,Nat.reduceBNe,Int.reduceToNat,Int.reduceLE,Int.reduceLT,Int.reduceEq,Int.reduceNe,Int.reduceNeg,Nat.reducePow,Int.reducePow,reduceIte,reduceCtorEq,↓tcd,leLL_self,hi1]
    · have hdc : decide ((i : Int) < ((few l).length : Int)) = false := decide_eq_false (by omega)
      simp (maxSteps:=2000000) only[bitvec_to_nat,↓r_ifTrue,↓r_ifFalse,Nat.reduceAdd,Nat.reduceSub,Nat.reduceMul,Nat.reduceLT,Nat.reduceLeDiff,Nat.reduceEqDiff,Nat.reduceBEq,Nat.reduceBNe,Int.reduceToNat,Int.reduceLE,Int.reduceLT,Int.reduceEq,Int.reduceNe,Int.reduceNeg,Nat.reducePow,Int.reducePow,reduceIte,reduceCtorEq,↓tcd,hdc]
      refine clone_o hwd hp.d1 hsmM fun L7 T7 wx hdx hstx => ?_
      obtain ⟨ox, hox⟩ : ∃ o, wx.o = o := ⟨_, rfl⟩
      rw [hox]
      simp (maxSteps:=2000000) only[bitvec_to_nat,↓r_ifTrue,↓r_ifFalse,Nat.reduceAdd,Nat.reduceSub,Nat.reduceMul,Nat.reduceLT,Nat.reduceLeDiff,Nat.reduceEqDiff,Nat.reduceBEq,Nat.reduceBNe,Int.reduceToNat,Int.reduceLE,Int.reduceLT,Int.reduceEq,Int.reduceNe,Int.reduceNeg,Nat.reducePow,Int.reducePow,reduceIte,reduceCtorEq,↓tcd]
      have hp7 : Pair L7 T7 M wd M oR fo6 := hp.other (hstx.less (fun _ h => h.elim) (fun _ h => h.elim))
      refine ⟨M, oR, fo6, rfl, hp7.d2, hsmM, fun L8 oc foc hdc8 hst8 => ?_⟩
      have hg7 : Step noS noS L1 T1 (pS wd oR fo6) wd.R L8 T7 := (hg.via hstx (fun _ h => h.elim) (fun _ h => h.elim)).via hst8 (fun _ h => h.elim) (fun _ h => h.elim)
      have hp8 : Pair L8 T7 M wd M oR fo6 := hp7.other (hst8.less (fun _ h => h.elim) (fun _ h => h.elim))
      have hdx8 : dAt L8 T7 M wx := hdx.frame hst8 (fun _ _ h => h) (fun _ _ h => h)
      -- what is new is none of what was
      have hxlo : ∀ i, wx.S i → L6.length ≤ i := fun i h => (hstx.own i h).elim (fun h => h.elim) id
      have hxr : ∀ k, wx.R k → T6.length ≤ k := fun k h => (hstx.town k h).elim (fun h => h.elim) id
      have hclo : ∀ i, rS oc foc i → L7.length ≤ i := fun i h => (hst8.own i h).elim (fun h => h.elim) id
      have hq8 : Pair L8 T7 M wd M oc foc := ⟨hp8.d1, hdc8, fun i h1 h2 => by have := hp7.d1.lt i h1; have := hclo i h2; omega⟩
      have hx6 : ∀ i, wx.S i → ¬ pS wd oc foc i := fun i h1 h2 => h2.elim (fun h => by have := hp.d1.lt i h; have := hxlo i h1; omega) (fun h => by have := hdx.lt i h1; have := hclo i h; omega)
      have hr6 : ∀ i, rS oR fo6 i → ¬ pS wd oc foc i := fun i h1 h2 => h2.elim (fun h => hp.sep i h h1) (fun h => by have := ref_lt hp7.d2 h1; have := hclo i h; omega)
      have hxR6 : ∀ k, wx.R k → ¬ wd.R k := fun k h1 h2 => by have := hp.d1.tlt k h2; have := hxr k h1; omega
      refine ⟨M, wd, oc, foc, by rw [hwd], hq8, hsmM, fun L9 T9 w9 fo9 hst9 => ?_⟩
      have hx9 : dAt L9 T9 M wx := hdx8.frame hst9 hx6 hxR6
      have hr9 : RefAt L9 M oR fo6 := hp8.d2.frame hst9 hr6
      have hL18 := hg7.len
      have hL78 := hst8.len
      have hL67 := hstx.len
      have hL89 := hst9.len
      have hL16 := hg.len
      have hT16 := hg.tlen
      have hT18 := hg7.tlen
      have hT89 := hst9.tlen
      have hw8 : L8[L.length]? = some [.int .i64 wr.names, .list 1 (wr.bytes.map fun n => .int .i64 n) none] := by rw [hg7.keep L.length hlw (fun h => h)]; exact hwr1
      have hw9 : L9[L.length]? = some [.int .i64 wr.names, .list 1 (wr.bytes.map fun n => .int .i64 n) none] := by
        rw [hst9.keep L.length (by omega) (fun h => h.elim (fun h => (hg7.own L.length (.inl h)).elim (fun h => h) (fun h => by omega)) (fun h => by have := hclo _ h; have := hstx.len; omega))]
        exact hw8
      have hlw9 : L.length < L9.length := by omega
      simp (maxSteps:=2000000) only[bitvec_to_nat,↓r_ifTrue,↓r_ifFalse,Nat.reduceAdd,Nat.reduceSub,Nat.reduceMul,Nat.reduceLT,Nat.reduceLeDiff,Nat.reduceEqDiff,Nat.reduceBEq,Nat.reduceBNe,Int.reduceToNat,Int.reduceLE,Int.reduceLT,Int.reduceEq,Int.reduceNe,Int.reduceNeg,Nat.reducePow,Int.reducePow,reduceIte,reduceCtorEq,↓tcd,hw9,hlw9]
      have hs1 : Small (M.crash ⟨wr.names, wr.bytes⟩) := small_crash hsmM hp.d1.ok _
      refine crash_o hox wr.bytes (.inr ⟨none, rfl⟩) hwb hx9 hsmM fun L10 T10 w10 ho10 hd10 hst10 => ?_
      have hL910 := hst10.len
      have hT910 := hst10.tlen
      have hw10 : L10[L.length]? = some [.int .i64 wr.names, .list 1 (wr.bytes.map fun n => .int .i64 n) none] := by
        rw [hst10.keep L.length hlw9 (fun h => by have := hxlo _ h; omega)]
        exact hw9
      have hlw10 : L.length < L10.length := by omega
      have hr10 : RefAt L10 M oR fo6 := hr9.frame hst10 fun i h1 h2 => by have := ref_lt hp.d2 h1; have := hxlo i h2; omega
      simp (maxSteps:=2000000) only[bitvec_to_nat,↓r_ifTrue,↓r_ifFalse,Nat.reduceAdd,Nat.reduceSub,Nat.reduceMul,Nat.reduceLT,Nat.reduceLeDiff,Nat.reduceEqDiff,Nat.reduceBEq,Nat.reduceBNe,Int.reduceToNat,Int.reduceLE,Int.reduceLT,Int.reduceEq,Int.reduceNe,Int.reduceNeg,Nat.reducePow,Int.reducePow,reduceIte,reduceCtorEq,↓tcd,hw10,hlw10]
      refine ⟨M, oR, fo6, wr.names, _, wr.bytes, rfl, .inr ⟨none, rfl⟩, hwb, hr10, hsmM, fun L11 T11 fo11 hr11 hst11 => ?_⟩
      have hL1011 := hst11.len
      have hT1011 := hst11.tlen
      have hx10 : ∀ i, w10.S i → ¬ rS oR fo6 i := fun i h1 h2 => by
        have h3 := ref_lt hp.d2 h2
        exact (hst10.own i h1).elim (fun h => by have := hxlo i h; omega) (fun h => by omega)
      have hp11 : Pair L11 T11 (M.crash ⟨wr.names, wr.bytes⟩) w10 (M.crash ⟨wr.names, wr.bytes⟩) oR fo11 :=
        ⟨hd10.frame hst11 hx10 (fun _ _ h => h), hr11, fun i h1 h2 => (hst11.own i h2).elim (fun h => hx10 i h1 h) (fun h => by have := hd10.lt i h1; omega)⟩
      simp (maxSteps:=2000000) only[bitvec_to_nat,↓r_ifTrue,↓r_ifFalse,Nat.reduceAdd,Nat.reduceSub,Nat.reduceMul,Nat.reduceLT,Nat.reduceLeDiff,Nat.reduceEqDiff,Nat.reduceBEq,Nat.reduceBNe,Int.reduceToNat,Int.reduceLE,Int.reduceLT,Int.reduceEq,Int.reduceNe,Int.reduceNeg,Nat.reducePow,Int.reducePow,reduceIte,reduceCtorEq,↓tcd]
      refine ⟨_, w10, oR, fo11, by rw [ho10], hp11, hs1, fun L12 T12 w12 fo12 hst12 => ?_⟩
      have hL1112 := hst12.len
      have hT1112 := hst12.tlen
      simp (maxSteps:=2000000) only[bitvec_to_nat,↓r_ifTrue,↓r_ifFalse,Nat.reduceAdd,Nat.reduceSub,Nat.reduceMul,Nat.reduceLT,Nat.reduceLeDiff,Nat.reduceEqDiff,Nat.reduceBEq,Nat.reduceBNe,Int.reduceToNat,Int.reduceLE,Int.reduceLT,Int.reduceEq,Int.reduceNe,Int.reduceNeg,Nat.reducePow,Int.reducePow,reduceIte,reduceCtorEq,↓tcd]
      exact ret_of (⟨by omega, fun _ _ h => absurd trivial h, fun _ h => h.elim, by omega, fun _ _ h => absurd trivial h, fun _ h => h.elim⟩ : Step (fun _ => True) (fun _ => True) L T noS noS L12 T12) (hK _ _)
end Go.Proofs.Ytieeojipodefoaa.DiskX
