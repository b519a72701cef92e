/-
  THE LAW DiskPlays.
-/
import Derived.Test.YtieeojipodefoaaAwX
import Derived.Test.YtieeojipodefoaaDiskX
namespace Go.Proofs.Ytieeojipodefoaa.DiskX
open Go Go.Proofs Go.Proofs.Ytieeojipodefoaa.Aw Go.Proofs.Ytieeojipodefoaa.Num Go.Proofs.Ytieeojipodefoaa.DiskM Go.Proofs.Ytieeojipodefoaa.DiskA Go.Proofs.Ytieeojipodefoaa.DiskK Go.Proofs.Ytieeojipodefoaa.DiskC Go.Proofs.Ytieeojipodefoaa.Disk Go.Proofs.Ytieeojipodefoaa.DiskL
open Go.Proofs.Ytieeojipodefoaa.Ref (RefAt rS opRP newRP crashRP usedRP cloneRP)
set_option linter.unusedSimpArgs false
set_option linter.unusedVariables false

/-- a disk and its reference -/
structure Pair (L : LL) (T : TT) (M1 : MD) (w : Own) (M2 : MD) (o fo : Nat) : Prop where
  d1 : dAt L T M1 w
  d2 : RefAt L M2 o fo
  sep : ∀ i, w.S i → ¬ rS o fo i
def pS (w : Own) (o fo : Nat) (i : Nat) : Prop := w.S i ∨ rS o fo i
theorem ref_lt {L : LL} {M : MD} {o fo : Nat} (h : RefAt L M o fo) {i : Nat} (hi : rS o fo i) : i < L.length := by rcases hi with rfl | rfl; exact h.lt.1; exact h.lt.2
theorem Pair.left {L L' : LL} {T T' : TT} {M1 M1' M2 : MD} {w w' : Own} {o fo : Nat} (h : Pair L T M1 w M2 o fo) (hd : dAt L' T' M1' w') (g : Step w.S w.R L T w'.S w'.R L' T') : Pair L' T' M1' w' M2 o fo :=
  ⟨hd, h.d2.frame g fun i hi hs => h.sep i hs hi, fun i hs hi => (g.own i hs).elim (fun hs => h.sep i hs hi) fun hl => by have := ref_lt h.d2 hi; omega⟩
theorem Pair.right {L L' : LL} {T T' : TT} {M1 M2 M2' : MD} {w : Own} {o fo fo' : Nat} (h : Pair L T M1 w M2 o fo) (hd : RefAt L' M2' o fo') (g : Step (rS o fo) noS L T (rS o fo') noS L' T') : Pair L' T' M1 w M2' o fo' :=
  ⟨h.d1.frame g (fun i hs hi => h.sep i hs hi) (fun _ _ h => h), hd, fun i hs hi => (g.own i hi).elim (h.sep i hs) fun hl => by have := h.d1.lt i hs; omega⟩
theorem Pair.other {L L' : LL} {T T' : TT} {M1 M2 : MD} {w : Own} {o fo : Nat} (h : Pair L T M1 w M2 o fo) (g : Step noS noS L T noS noS L' T') : Pair L' T' M1 w M2 o fo :=
  ⟨h.d1.frame g (fun _ _ h => h) (fun _ _ h => h), h.d2.frame g (fun _ _ h => h), h.sep⟩
theorem Step.pl {L L' : LL} {T T' : TT} {w w' : Own} {o fo : Nat} (g : Step w.S w.R L T w'.S w'.R L' T') : Step (pS w o fo) w.R L T (pS w' o fo) w'.R L' T' :=
  ⟨g.len, fun i hi hs => g.keep i hi (fun h => hs (.inl h)), fun i h => h.elim (fun h => (g.own i h).imp .inl id) (fun h => .inl (.inr h)), g.tlen, g.tkeep, g.town⟩
theorem Step.pr {L L' : LL} {T T' : TT} {w : Own} {o fo fo' : Nat} (g : Step (rS o fo) noS L T (rS o fo') noS L' T') : Step (pS w o fo) w.R L T (pS w o fo') w.R L' T' :=
  ⟨g.len, fun i hi hs => g.keep i hi (fun h => hs (.inr h)), fun i h => h.elim (fun h => .inl (.inl h)) (fun h => (g.own i h).imp .inr id), g.tlen, fun k hk hr => g.tkeep k hk (fun h => h), fun k h => .inl h⟩
theorem opr_o {op : List V → Option (MD → MD × V)} {L : LL} {T : TT} {M : MD} {o fo : Nat} {rest : List V} {g : MD → MD × V} {K : V → LL → TT → Prop} (hg : op rest = some g) (hd : RefAt L M o fo) (hs : Small M)
    (hK : ∀ L' T' fo', RefAt L' (g M).1 o fo' → Step (rS o fo) noS L T (rS o fo') noS L' T' → K (g M).2 L' T') : opRP op (.box o 0 :: rest) L T K := opr_at hg hd hs hK
theorem small_begin {M : MD} (h : Small M) : Small M.begin.1 := ⟨by rw [begin_chs]; exact h.chs, by rw [begin_used]; exact h.used, by rw [begin_files]; exact h.files, by rw [begin_files]; exact h.nf⟩
theorem names_begin (M : MD) : M.names.1 = M.begin.1 := by unfold MD.names; split <;> rfl
theorem read_begin (M : MD) (n : Name) : (M.read n).1 = M.begin.1 := by
  unfold MD.read MD.onFile
  split
  · rfl
  · split <;> rfl
def X2 : Fns := { fn := fun f => if f = 33 then some textsN else X1.fn f, mu := fun d => .no, hp := fun f => if f = 34 then some readP else if f = 28 then some namesP else if f = 21 then some usedP else if f = 22 then some usedRP else X1.hp f, ord := fun i => none }
theorem X2_fn (f : FuncId) : X2.fn f = (if f = 33 then some textsN else X1.fn f) := rfl
theorem X2_mu (d : Tmp) : X2.mu d = (.no) := rfl
theorem X2_hp (f : FuncId) : X2.hp f = (if f = 34 then some readP else if f = 28 then some namesP else if f = 21 then some usedP else if f = 22 then some usedRP else X1.hp f) := rfl
theorem X2_ord (i : Nat) : X2.ord i = (none) := rfl
theorem X2ok : FnsOk Try.prog X2 := FnsOk.same (FnsOk.consP (FnsOk.consP (FnsOk.consP (FnsOk.consP (FnsOk.cons X1ok _ _ texts_ok Try.func33 (by decide) (fun h => by cases h)) _ _ Ref.usedR_ok Try.func22 (by decide) (fun h => by cases h)) _ _ used_ok Try.func21 (by decide) (fun h => by cases h)) _ _ names_ok Try.func28 (by decide) (fun h => by cases h)) _ _ read_ok Try.func34 (by decide) (fun h => by cases h)) rfl rfl
attribute [bitvec_to_nat] X2_fn X2_mu X2_hp X2_ord

def sameP : PM := fun args L T K => ∃ (M : MD) (w : Own) (o fo : Nat), args = [.box w.o 0, .box o 0] ∧ Pair L T M w M o fo ∧ Small M ∧
  ∀ L' T' w' fo', Step (pS w o fo) w.R L T (pS w' o fo') w'.R L' T' → K (.bool true) L' T'
set_option maxHeartbeats 2000000 in
theorem same_ok : PSound Try.prog 24 sameP := by
  refine psound tysOk X2ok mix Try.func24 rfl ?_
  intro args L T K hm
  obtain ⟨M, w, o, fo, rfl, hp, hsm, hK⟩ := hm
  obtain ⟨o1, ho1⟩ : ∃ x, w.o = x := ⟨_, rfl⟩
  rw [ho1]
  simp (maxSteps:=2000000) only[bitvec_to_nat,↓r_ifTrue,↓r_ifFalse,Nat.reduceAdd,Nat.reduceSub,Nat.reduceMul,Nat.reduceLT,Nat.reduceLeDiff,Nat.reduceEqDiff,Nat.reduceBEq,Nat.reduceBNe,Int.reduceToNat,Int.reduceLE,Int.reduceLT,Int.reduceEq,Int.reduceNe,Int.reduceNeg,Nat.reducePow,Int.reducePow,reduceIte,reduceCtorEq,↓tcd,Try.f24]
  refine op_o ho1 rfl hp.d1 hsm fun L3 T3 w3 ho3 hd3 hst3 => ?_
  have hp3 := hp.left hd3 hst3
  have hg3 := Step.pl (o := o) (fo := fo) hst3
  obtain ⟨c, hc⟩ : ∃ c, M.names.2 = c := ⟨_, rfl⟩
  obtain ⟨ns, hns⟩ : ∃ ns, M.namesL = ns := ⟨_, rfl⟩
  have hnl : ns.length ≤ 1099511627776 := by
    rw [← hns]
    unfold MD.namesL
    split
    · simp
    · rw [List.length_map]; exact Nat.le_trans (now_len hp.d1.ok) hsm.nf
  simp only [hc, hns, code_V, names_begin] at hp3 ⊢
  simp (maxSteps:=2000000) only[bitvec_to_nat,↓r_ifTrue,↓r_ifFalse,Nat.reduceAdd,Nat.reduceSub,Nat.reduceMul,Nat.reduceLT,Nat.reduceLeDiff,Nat.reduceEqDiff,Nat.reduceBEq,Nat.reduceBNe,Int.reduceToNat,Int.reduceLE,Int.reduceLT,Int.reduceEq,Int.reduceNe,Int.reduceNeg,Nat.reducePow,Int.reducePow,reduceIte,reduceCtorEq,↓tcd]
  refine opr_o rfl hp3.d2 hsm fun L4 T4 fo4 hd4 hst4 => ?_
  have hp4 := hp3.right hd4 hst4
  have hg4 := hg3.trans (Step.pr (w := w3) hst4)
  simp only [hc, hns, code_V, names_begin] at hp4 ⊢
  have hcl : ∀ v ∈ ns.map V.str, v.clean := fun v hv => (by obtain ⟨y, _, rfl⟩ := List.mem_map.1 hv; simp [V.clean])
  have hcc : decide ((c : Int) = (c : Int)) = true := decide_eq_true rfl
  simp (maxSteps:=2000000) only[bitvec_to_nat,↓r_ifTrue,↓r_ifFalse,Nat.reduceAdd,Nat.reduceSub,Nat.reduceMul,Nat.reduceLT,Nat.reduceLeDiff,Nat.reduceEqDiff,Nat.reduceBEq,Nat.reduceBNe,Int.reduceToNat,Int.reduceLE,Int.reduceLT,Int.reduceEq,Int.reduceNe,Int.reduceNeg,Nat.reducePow,Int.reducePow,reduceIte,reduceCtorEq,↓tcd,textsN,List.length_map,hcc]
  have huu : decide ((M.begin.1.used : Int) = (M.begin.1.used : Int)) = true := decide_eq_true rfl
  refine ⟨⟨hcl, ns, ns, rfl, rfl, by omega, rfl⟩, M.begin.1, w3, by rw [ho3], hp4.d1, ?_⟩
  simp (maxSteps:=2000000) only[bitvec_to_nat,↓r_ifTrue,↓r_ifFalse,Nat.reduceAdd,Nat.reduceSub,Nat.reduceMul,Nat.reduceLT,Nat.reduceLeDiff,Nat.reduceEqDiff,Nat.reduceBEq,Nat.reduceBNe,Int.reduceToNat,Int.reduceLE,Int.reduceLT,Int.reduceEq,Int.reduceNe,Int.reduceNeg,Nat.reducePow,Int.reducePow,reduceIte,reduceCtorEq,↓tcd]
  refine ⟨M.begin.1, o, fo4, rfl, hp4.d2, small_begin hsm, fun L5 T5 hst5 => ?_⟩
  have hp5 := hp4.other hst5
  have hg5 : Step (pS w o fo) w.R L T (pS w3 o fo4) w3.R L5 T5 := ⟨Nat.le_trans hg4.len hst5.len, fun i hi hs => by rw [hst5.keep i (Nat.lt_of_lt_of_le hi hg4.len) (fun h => h)]; exact hg4.keep i hi hs, hg4.own, Nat.le_trans hg4.tlen hst5.tlen, fun k hk hr => by rw [hst5.tkeep k (Nat.lt_of_lt_of_le hk hg4.tlen) (fun h => h)]; exact hg4.tkeep k hk hr, hg4.town⟩
  simp (maxSteps:=2000000) only[bitvec_to_nat,↓r_ifTrue,↓r_ifFalse,Nat.reduceAdd,Nat.reduceSub,Nat.reduceMul,Nat.reduceLT,Nat.reduceLeDiff,Nat.reduceEqDiff,Nat.reduceBEq,Nat.reduceBNe,Int.reduceToNat,Int.reduceLE,Int.reduceLT,Int.reduceEq,Int.reduceNe,Int.reduceNeg,Nat.reducePow,Int.reducePow,reduceIte,reduceCtorEq,↓tcd,huu]
  refine awpLoop_intro (α := {q : Nat × LL × TT × MD × Own × Nat // q.1 ≤ ns.length ∧ q.2.2.2.2.1.o = o1 ∧ Small q.2.2.2.1 ∧ Pair q.2.1 q.2.2.1 q.2.2.2.1 q.2.2.2.2.1 q.2.2.2.1 o q.2.2.2.2.2 ∧ Step (pS w o fo) w.R L T (pS q.2.2.2.2.1 o q.2.2.2.2.2) q.2.2.2.2.1.R q.2.1 q.2.2.1})
    (fun q => ⟨[.box o1 0, .box o 0, .any, .any, .bool false, .any, .any, .any, .any, .any, .any, .any, .any, .any, .any, .any, .any, .any, .any, .any, .any, .any, .any, .any, .any, .any, .any, .any, .any, .any, .any, .any, .any, .any, .any, .any, .any, .any, .any, .any, .any, .list 1 (ns.map .str) none, .int .i64 (ns.length : Int), .int .i64 (q.1.1 : Int), .any, .any, .any, .any, .any, .any, .any, .any, .any, .any, .any, .any, .any, .any, .any, .any, .any, .any, .any, .any, .any, .any, .any, .any, .any, .any], q.1.2.1, q.1.2.2.1⟩) (fun q => ns.length - q.1.1)
    ⟨(0, L5, T5, M.begin.1, w3, fo4), Nat.zero_le _, ho3, small_begin hsm, hp5, hg5⟩ ?_ ?_ (fun q => ⟨q.2.2.2.2.2.len, q.2.2.2.2.2.tlen⟩)
  · simp (maxSteps:=2000000) only[bitvec_to_nat,↓r_ifTrue,↓r_ifFalse,Nat.reduceAdd,Nat.reduceSub,Nat.reduceMul,Nat.reduceLT,Nat.reduceLeDiff,Nat.reduceEqDiff,Nat.reduceBEq,Nat.reduceBNe,Int.reduceToNat,Int.reduceLE,Int.reduceLT,Int.reduceEq,Int.reduceNe,Int.reduceNeg,Nat.reducePow,Int.reducePow,reduceIte,reduceCtorEq,↓tcd,leLL_self]
    simp
  · rintro ⟨⟨j, L6, T6, M6, w6, fo6⟩, hj, ho6, hs6, hp6, hg6⟩
    simp only at hj ho6 hs6 hp6 hg6
    by_cases hjm : j < ns.length
    · have hdc : decide ((j : Int) < (ns.length : Int)) = true := decide_eq_true (by omega)
      have hgd : (ns.map V.str).getD j .any = .str ns[j] := by
        rw [List.getD_eq_getElem?_getD, List.getElem?_map, List.getElem?_eq_getElem hjm]; rfl
      have hj1 : IntKind.i64.wrap ((j : Int) + 1) = ((j + 1 : Nat) : Int) := by rw [i64w (by omega) (by omega)]; omega
      simp (maxSteps:=2000000) only[bitvec_to_nat,↓r_ifTrue,↓r_ifFalse,Nat.reduceAdd,Nat.reduceSub,Nat.reduceMul,Nat.reduceLT,Nat.reduceLeDiff,Nat.reduceEqDiff,Nat.reduceBEq,Nat.reduceBNe,Int.reduceToNat,Int.reduceLE,Int.reduceLT,Int.reduceEq,Int.reduceNe,Int.reduceNeg,Nat.reducePow,Int.reducePow,reduceIte,reduceCtorEq,↓tcd,hdc,hgd,Int.toNat_natCast,List.length_map,hj1]
      refine ⟨⟨by omega, by omega⟩, ?_⟩
      refine op_o ho6 rfl hp6.d1 hs6 fun L7 T7 w7 ho7 hd7 hst7 => ?_
      have hp7 := hp6.left hd7 hst7
      have hg7 := hg6.trans (Step.pl (o := o) (fo := fo6) hst7)
      simp (maxSteps:=2000000) only[bitvec_to_nat,↓r_ifTrue,↓r_ifFalse,Nat.reduceAdd,Nat.reduceSub,Nat.reduceMul,Nat.reduceLT,Nat.reduceLeDiff,Nat.reduceEqDiff,Nat.reduceBEq,Nat.reduceBNe,Int.reduceToNat,Int.reduceLE,Int.reduceLT,Int.reduceEq,Int.reduceNe,Int.reduceNeg,Nat.reducePow,Int.reducePow,reduceIte,reduceCtorEq,↓tcd]
      refine opr_o rfl hp7.d2 hs6 fun L8 T8 fo8 hd8 hst8 => ?_
      have hp8 := hp7.right hd8 hst8
      have hg8 := hg7.trans (Step.pr (w := w7) hst8)
      obtain ⟨c1, hc1⟩ : ∃ x, (M6.read ns[j]).2 = x := ⟨_, rfl⟩
      have hs8 : Small (M6.read ns[j]).1 := by rw [read_begin]; exact small_begin hs6
      have hcc1 : decide ((c1 : Int) = (c1 : Int)) = true := decide_eq_true rfl
      simp only [hc1, code_V] at hp8 ⊢
      simp (maxSteps:=2000000) only[bitvec_to_nat,↓r_ifTrue,↓r_ifFalse,Nat.reduceAdd,Nat.reduceSub,Nat.reduceMul,Nat.reduceLT,Nat.reduceLeDiff,Nat.reduceEqDiff,Nat.reduceBEq,Nat.reduceBNe,Int.reduceToNat,Int.reduceLE,Int.reduceLT,Int.reduceEq,Int.reduceNe,Int.reduceNeg,Nat.reducePow,Int.reducePow,reduceIte,reduceCtorEq,↓tcd,hcc1,hj1]
      refine ⟨⟨(j + 1, L8, T8, (M6.read ns[j]).1, w7, fo8), by omega, ho7, hs8, hp8, hg8⟩, ?_, by simp only; omega⟩
      simp (maxSteps:=2000000) only[bitvec_to_nat,↓r_ifTrue,↓r_ifFalse,Nat.reduceAdd,Nat.reduceSub,Nat.reduceMul,Nat.reduceLT,Nat.reduceLeDiff,Nat.reduceEqDiff,Nat.reduceBEq,Nat.reduceBNe,Int.reduceToNat,Int.reduceLE,Int.reduceLT,Int.reduceEq,Int.reduceNe,Int.reduceNeg,Nat.reducePow,Int.reducePow,reduceIte,reduceCtorEq,↓tcd,leLL_self]
    · have hdc : decide ((j : Int) < (ns.length : Int)) = false := decide_eq_false (by omega)
      simp (maxSteps:=2000000) only[bitvec_to_nat,↓r_ifTrue,↓r_ifFalse,Nat.reduceAdd,Nat.reduceSub,Nat.reduceMul,Nat.reduceLT,Nat.reduceLeDiff,Nat.reduceEqDiff,Nat.reduceBEq,Nat.reduceBNe,Int.reduceToNat,Int.reduceLE,Int.reduceLT,Int.reduceEq,Int.reduceNe,Int.reduceNeg,Nat.reducePow,Int.reducePow,reduceIte,reduceCtorEq,↓tcd,hdc]
      exact ret_of hg6 (hK _ _ w6 fo6 hg6)
end Go.Proofs.Ytieeojipodefoaa.DiskX
