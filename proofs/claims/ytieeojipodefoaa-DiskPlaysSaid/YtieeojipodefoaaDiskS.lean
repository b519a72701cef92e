/-
  THE LAWS' HELPERS for package disk: the document's examples.
-/
import Derived.Test.YtieeojipodefoaaAwX
import Derived.Test.YtieeojipodefoaaDiskL
namespace Go.Proofs.Ytieeojipodefoaa.DiskL
open Go Go.Proofs Go.Proofs.Ytieeojipodefoaa.Aw Go.Proofs.Ytieeojipodefoaa.Num Go.Proofs.Ytieeojipodefoaa.DiskM Go.Proofs.Ytieeojipodefoaa.DiskA Go.Proofs.Ytieeojipodefoaa.DiskK Go.Proofs.Ytieeojipodefoaa.DiskC Go.Proofs.Ytieeojipodefoaa.Disk
set_option linter.unusedSimpArgs false
set_option linter.unusedVariables false

def H3 : Fns := { fn := fun f => H0.fn f, mu := fun d => .no, hp := fun f => if f = 16 then some newP else if f = 35 then some createP else if f = 34 then some readP else if f = 30 then some syncNamesP else if f = 28 then some namesP else if f = 26 then some crashP else if f = 46 then some appendP else H0.hp f, ord := fun i => none }
theorem H3_fn (f : FuncId) : H3.fn f = (H0.fn f) := rfl
theorem H3_mu (d : Tmp) : H3.mu d = (.no) := rfl
theorem H3_hp (f : FuncId) : H3.hp f = (if f = 16 then some newP else if f = 35 then some createP else if f = 34 then some readP else if f = 30 then some syncNamesP else if f = 28 then some namesP else if f = 26 then some crashP else if f = 46 then some appendP else H0.hp f) := rfl
theorem H3_ord (i : Nat) : H3.ord i = (none) := rfl
theorem H3ok : FnsOk Try.prog H3 := FnsOk.same (FnsOk.consP (FnsOk.consP (FnsOk.consP (FnsOk.consP (FnsOk.consP (FnsOk.consP (FnsOk.consP H0ok _ _ append_ok Try.func46 (by decide) (fun h => by cases h)) _ _ crash_sound Try.func26 (by decide) (fun h => by cases h)) _ _ names_ok Try.func28 (by decide) (fun h => by cases h)) _ _ syncNames_ok Try.func30 (by decide) (fun h => by cases h)) _ _ read_ok Try.func34 (by decide) (fun h => by cases h)) _ _ create_ok Try.func35 (by decide) (fun h => by cases h)) _ _ new_ok Try.func16 (by decide) (fun h => by cases h)) rfl rfl
attribute [bitvec_to_nat] H3_fn H3_mu H3_hp H3_ord

def A1 : MD := ⟨[([], 0)], [], [⟨[], [97], 0⟩], 9, false, false, 0⟩
def A2 : MD := ⟨[([0, 0, 0, 0, 0], 0)], [], [⟨[], [97], 0⟩], 9, false, false, 0⟩
def A3 : MD := ⟨[], [], [], 9, false, false, 0⟩
def A4 : MD := ⟨[([], 0)], [([97], 0)], [], 9, false, false, 0⟩
def A5 : MD := ⟨[([0, 0, 0, 0, 0], 0)], [([97], 0)], [], 9, false, false, 0⟩
def A6 : MD := ⟨[([0, 0], 2)], [([97], 0)], [], 9, false, false, 0⟩
theorem s1 : (DiskM.new 9).create [97] = (A1, 0) := by kernel_rfl
theorem s2 : A1.append [97] [0, 0, 0, 0, 0] = (A2, 0) := by kernel_rfl
theorem s3 : A2.crash ⟨0, []⟩ = A3 := by kernel_rfl
theorem s4 : A3.names = (A3, 0) := by kernel_rfl
theorem s4b : A3.namesL = [] := by kernel_rfl
theorem s5 : A3.create [97] = (A1, 0) := by kernel_rfl
theorem s6 : A1.syncNames = (A4, 0) := by kernel_rfl
theorem s7 : A4.append [97] [0, 0, 0, 0, 0] = (A5, 0) := by kernel_rfl
theorem s8 : A5.crash ⟨0, [2]⟩ = A6 := by kernel_rfl
theorem s9 : A6.read [97] = (A6, 0) := by kernel_rfl
theorem s9b : A6.readB [97] = [0, 0] := by kernel_rfl
theorem s10 : A6.append [97] [0, 0, 0, 0, 0, 0, 0, 0] = (A6, 41) := by kernel_rfl
theorem small_of {M : MD} (h1 : M.chs.length ≤ 10) (h2 : M.used ≤ 10) (h3 : ∀ x ∈ M.files, x.1.length ≤ 10) (h4 : M.files.length ≤ 10) : Small M := ⟨by omega, by omega, fun x hx => by have := h3 x hx; omega, by omega⟩
theorem sm0 : Small (DiskM.new 9) := small_of (by decide) (by decide) (by decide) (by decide)
theorem sm1 : Small A1 := small_of (by decide) (by decide) (by decide) (by decide)
theorem sm2 : Small A2 := small_of (by decide) (by decide) (by decide) (by decide)
theorem sm3 : Small A3 := small_of (by decide) (by decide) (by decide) (by decide)
theorem sm4 : Small A4 := small_of (by decide) (by decide) (by decide) (by decide)
theorem sm5 : Small A5 := small_of (by decide) (by decide) (by decide) (by decide)
theorem sm6 : Small A6 := small_of (by decide) (by decide) (by decide) (by decide)
theorem appendF_some {n : Name} {b : List UInt8} {t : Option Nat} (h : b.length ≤ 1099511627776) : appendF [.str n, .bytes b t] = some fun M => ((M.append n b).1, codeV (M.append n b).2) := if_pos h
theorem op_o {op : List V → Option (MD → MD × V)} {L : LL} {T : TT} {M : MD} {w : Own} {o : Nat} (ho : w.o = o) {rest : List V} {g : MD → MD × V} {K : V → LL → TT → Prop} (hg : op rest = some g) (hd : dAt L T M w) (hs : Small M)
    (hK : ∀ L' T' w', w'.o = o → dAt L' T' (g M).1 w' → Step w.S w.R L T w'.S w'.R L' T' → K (g M).2 L' T') : opP op (.box o 0 :: rest) L T K := by
  subst ho
  exact ⟨M, w, rest, g, rfl, hg, hd, hs, hK⟩
theorem crash_o {L : LL} {T : TT} {M : MD} {w : Own} {o : Nat} (ho : w.o = o) {n : Int} {X : V} (bs : List Int) {K : V → LL → TT → Prop} (hX : wreckX X bs) (hb : bs.length ≤ 9223372036854775807) (hd : dAt L T M w) (hs : Small M)
    (hK : ∀ L' T' w', w'.o = o → dAt L' T' (M.crash ⟨n, bs⟩) w' → Step w.S w.R L T w'.S w'.R L' T' → K (codeV 0) L' T') : crashP [.box o 0, .agg [.int .i64 n, X]] L T K := by
  subst ho
  exact ⟨M, w, n, X, bs, rfl, hX, hb, hd, hs, hK⟩
def shownP : PM := fun args L T K => args = [] ∧ ∀ L' T', Step noS noS L T noS noS L' T' → K (.bool true) L' T'
theorem shown_ok : PSound Try.prog 15 shownP := by
  refine psound tysOk H3ok mix Try.func15 rfl ?_
  intro args L T K hm
  obtain ⟨rfl, hK⟩ := hm
  simp (config := { maxSteps := 2000000 }) only [bitvec_to_nat, ↓r_ifTrue, ↓r_ifFalse, Nat.reduceAdd, Nat.reduceSub, Nat.reduceMul, Nat.reduceLT, Nat.reduceLeDiff, Nat.reduceEqDiff, Nat.reduceBEq, Nat.reduceBNe, Int.reduceToNat, Int.reduceLE, Int.reduceLT, Int.reduceEq, Int.reduceNe, Int.reduceNeg, Nat.reducePow, Int.reducePow, reduceIte, reduceCtorEq, ↓tc25, ↓td25, ↓tc34, ↓td34, ↓tc76, ↓td76, ↓tc95, ↓td95, ↓tc103, ↓td103, Try.f15]
  refine ⟨9, rfl, fun L0 w0 ho0 hd0 hst0 => ?_⟩
  simp (config := { maxSteps := 2000000 }) only [bitvec_to_nat, ↓r_ifTrue, ↓r_ifFalse, Nat.reduceAdd, Nat.reduceSub, Nat.reduceMul, Nat.reduceLT, Nat.reduceLeDiff, Nat.reduceEqDiff, Nat.reduceBEq, Nat.reduceBNe, Int.reduceToNat, Int.reduceLE, Int.reduceLT, Int.reduceEq, Int.reduceNe, Int.reduceNeg, Nat.reducePow, Int.reducePow, reduceIte, reduceCtorEq, ↓tc25, ↓td25, ↓tc34, ↓td34, ↓tc76, ↓td76, ↓tc95, ↓td95, ↓tc103, ↓td103]
  refine op_o rfl rfl hd0 sm0 fun L1 T1 w1 ho1 hd1 hst1 => ?_
  simp only [s1, code_V, Int.natCast_zero, Int.cast_ofNat_Int] at hd1 ⊢
  simp (config := { maxSteps := 2000000 }) only [bitvec_to_nat, ↓r_ifTrue, ↓r_ifFalse, Nat.reduceAdd, Nat.reduceSub, Nat.reduceMul, Nat.reduceLT, Nat.reduceLeDiff, Nat.reduceEqDiff, Nat.reduceBEq, Nat.reduceBNe, Int.reduceToNat, Int.reduceLE, Int.reduceLT, Int.reduceEq, Int.reduceNe, Int.reduceNeg, Nat.reducePow, Int.reducePow, reduceIte, reduceCtorEq, ↓tc25, ↓td25, ↓tc34, ↓td34, ↓tc76, ↓td76, ↓tc95, ↓td95, ↓tc103, ↓td103, Int.natCast_zero, Int.cast_ofNat_Int]
  refine ⟨by decide, ?_⟩
  have hf2 : dAt L1 (T1 ++ [(5, 5)]) _ w1 := hd1.frame ((Step.refl noS noS L1 T1).tapp [(5, 5)]) (fun _ _ h => h) (fun _ _ h => h)
  refine op_o ho1 (appendF_some (by decide)) hf2 sm1 fun L2 T2 w2 ho2 hd2 hst2 => ?_
  simp only [s2, code_V, Int.natCast_zero, Int.cast_ofNat_Int] at hd2 ⊢
  simp (config := { maxSteps := 2000000 }) only [bitvec_to_nat, ↓r_ifTrue, ↓r_ifFalse, Nat.reduceAdd, Nat.reduceSub, Nat.reduceMul, Nat.reduceLT, Nat.reduceLeDiff, Nat.reduceEqDiff, Nat.reduceBEq, Nat.reduceBNe, Int.reduceToNat, Int.reduceLE, Int.reduceLT, Int.reduceEq, Int.reduceNe, Int.reduceNeg, Nat.reducePow, Int.reducePow, reduceIte, reduceCtorEq, ↓tc25, ↓td25, ↓tc34, ↓td34, ↓tc76, ↓td76, ↓tc95, ↓td95, ↓tc103, ↓td103, Int.natCast_zero, Int.cast_ofNat_Int]
  refine crash_o ho2 [] (.inl ⟨rfl, rfl⟩) (by decide) hd2 sm2 fun L3 T3 w3 ho3 hd3 hst3 => ?_
  simp only [s3] at hd3
  simp only [code_V, Int.natCast_zero]
  simp (config := { maxSteps := 2000000 }) only [bitvec_to_nat, ↓r_ifTrue, ↓r_ifFalse, Nat.reduceAdd, Nat.reduceSub, Nat.reduceMul, Nat.reduceLT, Nat.reduceLeDiff, Nat.reduceEqDiff, Nat.reduceBEq, Nat.reduceBNe, Int.reduceToNat, Int.reduceLE, Int.reduceLT, Int.reduceEq, Int.reduceNe, Int.reduceNeg, Nat.reducePow, Int.reducePow, reduceIte, reduceCtorEq, ↓tc25, ↓td25, ↓tc34, ↓td34, ↓tc76, ↓td76, ↓tc95, ↓td95, ↓tc103, ↓td103, Int.natCast_zero, Int.cast_ofNat_Int]
  refine op_o ho3 rfl hd3 sm3 fun L4 T4 w4 ho4 hd4 hst4 => ?_
  simp only [s4, s4b, List.map_nil, code_V, Int.natCast_zero, Int.cast_ofNat_Int] at hd4 ⊢
  simp (config := { maxSteps := 2000000 }) only [bitvec_to_nat, ↓r_ifTrue, ↓r_ifFalse, Nat.reduceAdd, Nat.reduceSub, Nat.reduceMul, Nat.reduceLT, Nat.reduceLeDiff, Nat.reduceEqDiff, Nat.reduceBEq, Nat.reduceBNe, Int.reduceToNat, Int.reduceLE, Int.reduceLT, Int.reduceEq, Int.reduceNe, Int.reduceNeg, Nat.reducePow, Int.reducePow, reduceIte, reduceCtorEq, ↓tc25, ↓td25, ↓tc34, ↓td34, ↓tc76, ↓td76, ↓tc95, ↓td95, ↓tc103, ↓td103, Int.natCast_zero, Int.cast_ofNat_Int]
  refine op_o ho4 rfl hd4 sm3 fun L5 T5 w5 ho5 hd5 hst5 => ?_
  simp only [s5, code_V, Int.natCast_zero, Int.cast_ofNat_Int] at hd5 ⊢
  simp (config := { maxSteps := 2000000 }) only [bitvec_to_nat, ↓r_ifTrue, ↓r_ifFalse, Nat.reduceAdd, Nat.reduceSub, Nat.reduceMul, Nat.reduceLT, Nat.reduceLeDiff, Nat.reduceEqDiff, Nat.reduceBEq, Nat.reduceBNe, Int.reduceToNat, Int.reduceLE, Int.reduceLT, Int.reduceEq, Int.reduceNe, Int.reduceNeg, Nat.reducePow, Int.reducePow, reduceIte, reduceCtorEq, ↓tc25, ↓td25, ↓tc34, ↓td34, ↓tc76, ↓td76, ↓tc95, ↓td95, ↓tc103, ↓td103, Int.natCast_zero, Int.cast_ofNat_Int]
  refine op_o ho5 rfl hd5 sm1 fun L6 T6 w6 ho6 hd6 hst6 => ?_
  simp only [s6, code_V, Int.natCast_zero, Int.cast_ofNat_Int] at hd6 ⊢
  simp (config := { maxSteps := 2000000 }) only [bitvec_to_nat, ↓r_ifTrue, ↓r_ifFalse, Nat.reduceAdd, Nat.reduceSub, Nat.reduceMul, Nat.reduceLT, Nat.reduceLeDiff, Nat.reduceEqDiff, Nat.reduceBEq, Nat.reduceBNe, Int.reduceToNat, Int.reduceLE, Int.reduceLT, Int.reduceEq, Int.reduceNe, Int.reduceNeg, Nat.reducePow, Int.reducePow, reduceIte, reduceCtorEq, ↓tc25, ↓td25, ↓tc34, ↓td34, ↓tc76, ↓td76, ↓tc95, ↓td95, ↓tc103, ↓td103, Int.natCast_zero, Int.cast_ofNat_Int]
  refine ⟨by decide, ?_⟩
  have hf7 : dAt L6 (T6 ++ [(5, 5)]) _ w6 := hd6.frame ((Step.refl noS noS L6 T6).tapp [(5, 5)]) (fun _ _ h => h) (fun _ _ h => h)
  refine op_o ho6 (appendF_some (by decide)) hf7 sm4 fun L7 T7 w7 ho7 hd7 hst7 => ?_
  simp only [s7, code_V, Int.natCast_zero, Int.cast_ofNat_Int] at hd7 ⊢
  simp (config := { maxSteps := 2000000 }) only [bitvec_to_nat, ↓r_ifTrue, ↓r_ifFalse, Nat.reduceAdd, Nat.reduceSub, Nat.reduceMul, Nat.reduceLT, Nat.reduceLeDiff, Nat.reduceEqDiff, Nat.reduceBEq, Nat.reduceBNe, Int.reduceToNat, Int.reduceLE, Int.reduceLT, Int.reduceEq, Int.reduceNe, Int.reduceNeg, Nat.reducePow, Int.reducePow, reduceIte, reduceCtorEq, ↓tc25, ↓td25, ↓tc34, ↓td34, ↓tc76, ↓td76, ↓tc95, ↓td95, ↓tc103, ↓td103, Int.natCast_zero, Int.cast_ofNat_Int]
  have hf8 : dAt L7 (T7 ++ [(1, 3)]) _ w7 := hd7.frame ((Step.refl noS noS L7 T7).tapp [(1, 3)]) (fun _ _ h => h) (fun _ _ h => h)
  refine crash_o ho7 [2] (.inr ⟨_, rfl⟩) (by decide) hf8 sm5 fun L8 T8 w8 ho8 hd8 hst8 => ?_
  simp only [s8] at hd8
  simp only [code_V, Int.natCast_zero]
  simp (config := { maxSteps := 2000000 }) only [bitvec_to_nat, ↓r_ifTrue, ↓r_ifFalse, Nat.reduceAdd, Nat.reduceSub, Nat.reduceMul, Nat.reduceLT, Nat.reduceLeDiff, Nat.reduceEqDiff, Nat.reduceBEq, Nat.reduceBNe, Int.reduceToNat, Int.reduceLE, Int.reduceLT, Int.reduceEq, Int.reduceNe, Int.reduceNeg, Nat.reducePow, Int.reducePow, reduceIte, reduceCtorEq, ↓tc25, ↓td25, ↓tc34, ↓td34, ↓tc76, ↓td76, ↓tc95, ↓td95, ↓tc103, ↓td103, Int.natCast_zero, Int.cast_ofNat_Int]
  refine op_o ho8 rfl hd8 sm6 fun L9 T9 w9 ho9 hd9 hst9 => ?_
  simp only [s9, s9b, code_V, Int.natCast_zero, Int.cast_ofNat_Int] at hd9 ⊢
  simp (config := { maxSteps := 2000000 }) only [bitvec_to_nat, ↓r_ifTrue, ↓r_ifFalse, Nat.reduceAdd, Nat.reduceSub, Nat.reduceMul, Nat.reduceLT, Nat.reduceLeDiff, Nat.reduceEqDiff, Nat.reduceBEq, Nat.reduceBNe, Int.reduceToNat, Int.reduceLE, Int.reduceLT, Int.reduceEq, Int.reduceNe, Int.reduceNeg, Nat.reducePow, Int.reducePow, reduceIte, reduceCtorEq, ↓tc25, ↓td25, ↓tc34, ↓td34, ↓tc76, ↓td76, ↓tc95, ↓td95, ↓tc103, ↓td103, Int.natCast_zero, Int.cast_ofNat_Int]
  refine ⟨by decide, ?_⟩
  have hf10 : dAt L9 (T9 ++ [(8, 5)]) _ w9 := hd9.frame ((Step.refl noS noS L9 T9).tapp [(8, 5)]) (fun _ _ h => h) (fun _ _ h => h)
  refine op_o ho9 (appendF_some (by decide)) hf10 sm6 fun L10 T10 w10 ho10 hd10 hst10 => ?_
  simp only [s10, code_V, Int.natCast_zero, Int.cast_ofNat_Int] at hd10 ⊢
  simp (config := { maxSteps := 2000000 }) only [bitvec_to_nat, ↓r_ifTrue, ↓r_ifFalse, Nat.reduceAdd, Nat.reduceSub, Nat.reduceMul, Nat.reduceLT, Nat.reduceLeDiff, Nat.reduceEqDiff, Nat.reduceBEq, Nat.reduceBNe, Int.reduceToNat, Int.reduceLE, Int.reduceLT, Int.reduceEq, Int.reduceNe, Int.reduceNeg, Nat.reducePow, Int.reducePow, reduceIte, reduceCtorEq, ↓tc25, ↓td25, ↓tc34, ↓td34, ↓tc76, ↓td76, ↓tc95, ↓td95, ↓tc103, ↓td103, Int.natCast_zero, Int.cast_ofNat_Int]
  have g1 := hst0.trans hst1
  have g2 := (g1.tapp [(5, 5)]).trans hst2
  have g3 := (g2).trans hst3
  have g4 := (g3).trans hst4
  have g5 := (g4).trans hst5
  have g6 := (g5).trans hst6
  have g7 := (g6.tapp [(5, 5)]).trans hst7
  have g8 := (g7.tapp [(1, 3)]).trans hst8
  have g9 := (g8).trans hst9
  have g10 := (g9.tapp [(8, 5)]).trans hst10
  exact ret_of g10 (hK _ _ (g10.less (fun _ h => h.elim) (fun _ h => h.elim)))
end Go.Proofs.Ytieeojipodefoaa.DiskL
