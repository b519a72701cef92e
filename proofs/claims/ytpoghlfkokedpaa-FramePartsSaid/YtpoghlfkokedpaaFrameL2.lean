/-
  THE LAWS FrameSeals AND FrameBursts: what the Go functions answer.
-/
import Derived.Test.YtpoghlfkokedpaaFrameL
import Derived.Test.YtpoghlfkokedpaaFrameT
namespace Go.Proofs.Ytpoghlfkokedpaa.Frame
open Go Go.Proofs Go.Proofs.Ytpoghlfkokedpaa.Aw Go.Proofs.Ytpoghlfkokedpaa.CrcM Go.Proofs.Ytpoghlfkokedpaa.CrcN Go.Proofs.Ytpoghlfkokedpaa.Num Go.Proofs.Ytpoghlfkokedpaa.VaryM Go.Proofs.Ytpoghlfkokedpaa.FrameM

set_option linter.unusedSimpArgs false
set_option linter.unusedVariables false
def P7a : Fns := { fn := fun f => if f = 22 then some sealM else if f = 23 then some unsealM else if f = 25 then some sealM else if f = 24 then some unsealM else P7.fn f, mu := fun d => .no, hp := fun f => P7.hp f, ord := fun i => none }
theorem P7a_fn (f : FuncId) : P7a.fn f = (if f = 22 then some sealM else if f = 23 then some unsealM else if f = 25 then some sealM else if f = 24 then some unsealM else P7.fn f) := rfl
theorem P7a_mu (d : Tmp) : P7a.mu d = (.no) := rfl
theorem P7a_hp (f : FuncId) : P7a.hp f = (P7.hp f) := rfl
theorem P7a_ord (i : Nat) : P7a.ord i = (none) := rfl
theorem P7aok : FnsOk Try.prog P7a := FnsOk.same (FnsOk.cons (FnsOk.cons (FnsOk.cons (FnsOk.cons P7ok _ _ runseal_ok Try.func24 (by decide) (fun h => by cases h)) _ _ rseal_ok Try.func25 (by decide) (fun h => by cases h)) _ _ unseal_ok Try.func23 (by decide) (fun h => by cases h)) _ _ seal_ok Try.func22 (by decide) (fun h => by cases h)) rfl rfl

def P8 : Fns := { fn := fun f => P7a.fn f, mu := fun d => bif d == 24 then .row else .no, hp := fun f => P7a.hp f, ord := fun i => none }
theorem P8_fn (f : FuncId) : P8.fn f = (P7a.fn f) := rfl
theorem P8_mu (d : Tmp) : P8.mu d = (bif d == 24 then .row else .no) := rfl
theorem P8_hp (f : FuncId) : P8.hp f = (P7a.hp f) := rfl
theorem P8_ord (i : Nat) : P8.ord i = (none) := rfl
theorem P8ok : FnsOk Try.prog P8 := FnsOk.same P7aok rfl rfl

theorem min400 (x : List UInt8) : ∃ m : Nat, (if 400 < (x.length : Int) then (400 : Int) else (x.length : Int)) = (m : Int) ∧ m ≤ 400 ∧ m ≤ x.length := by
  split
  · exact ⟨400, rfl, by omega, by omega⟩
  · exact ⟨x.length, rfl, by omega, by omega⟩
def sealsM : FM
  | [.bytes x _, .int .u16 at', .int .u32 turns] => some ((0 ≤ at' ∧ at' ≤ 65535) ∧ 0 ≤ turns ∧ turns ≤ 4294967295, .bool true, [])
  | _ => none
set_option maxRecDepth 100000 in
set_option maxHeartbeats 4000000 in
theorem seals_ok : FSound Try.prog 7 sealsM := by
  refine fsound tysOk P8ok mix Try.func7 rfl ?_
  intro args p r fr hm hp
  unfold sealsM at hm
  split at hm
  · rename_i x t at' turns
    cases hm
    obtain ⟨w, rfl⟩ := Int.eq_ofNat_of_zero_le hp.1.1
    obtain ⟨tn, rfl⟩ := Int.eq_ofNat_of_zero_le hp.2.1
    simp (config := { maxSteps := 2000000 }) only [r_stepN, r_stepR, r_stepS, r_stepL, r_todoStep, r_todoCall, r_toCall, r_todoCs, r_todoS, r_todoCn, r_to0, r_to1, r_to2, r_to3, r_to4, r_to5, r_to6, r_to7, r_to8, r_to9, r_to10, r_to11, r_to12, r_to13, r_to14, r_to15, r_to16, r_to17, r_to18, r_to19, r_to20, r_to21, r_to22, r_to23, r_to24, r_to25, r_to26, r_drawN, r_drawQ, r_qNil, r_qCons, r_qOp, r_qOpG, r_step1, r_step0, r_step2, r_outQ, r_guardQT, r_guardQF, r_guardQU, HM.toP, r_rowN, r_rowR, r_rowL, nilStep, thawO, castH, hpO, frz, List.foldl_cons, List.foldl_nil, V.plainB, V.plain1, List.all_cons, List.all_nil, r_orSome, r_orNone, r_outSome, r_exec, r_opsNil, r_opsCons, r_opsGuard, r_skip, r_label, r_exit, r_goto, r_ret, r_seq, r_block, r_scope, r_ngN, r_ngE, r_ngR, r_loop, r_region, r_draw, r_cond, r_condBool, r_condMay, nilV, isNilV, negV, evNil, sliceM, r_guardMT, r_guardMF, V.hasRow, headM, RetM, retRow, r_thenN, r_thenE, r_thenG, r_thenR, r_blockN, r_blockE, r_blockG, r_blockR, r_guardT, r_guardF, r_guardU, set8, get8, set_0, get_0, set_1, get_1, set_2, get_2, set_3, get_3, set_4, get_4, set_5, get_5, set_6, get_6, set_7, get_7, ↓r_ifTrue, ↓r_ifFalse, r_ifTrue, r_ifFalse, r_ifNot, r_muS, r_muN, splitE, isEff, r_drawS, r_lastN, r_lastS, r_outD, r_execDcons, r_dNil, r_nextDN, r_nextDS, r_mkD, isMkO, mkArgs, makeM, evMakeM, evAppendM, srcCells, evCopy, evMark, hasM, V.isM, evCallM, castM, castMP, allP, V.plain, List.any_cons, List.any_nil, evArrEq, V.mrow.injEq, leL_self, rep_length, r_dCons, r_dGuard, r_dGuardT, r_dGuardF, r_dGuardU, r_stepD, r_orDs, r_orDn, effD, evGrow, evNone, guardAt, leL_cons, leL_nil, le_any, r_le0, r_le1, r_le2, r_leD0, r_leD1, r_leD2, leLL_nil, leLL_cons, V.under, List.take_succ_cons, List.take_nil, true_or, or_true, false_implies, Option.some.injEq, forall_eq', V.bytes.injEq, V.int.injEq, V.bool.injEq, V.str.injEq, V.list.injEq, List.cons.injEq, evalPure, evalEff, evPick, evBin, evUn, evConvL, evConv, evExtract, evLen, evMin, evMax, evIndexAddr, evLoad, loadBox, evLoadR, evFieldAddr, evField, evIndex, evSlice, sliceV, evAppend, evMake, evBuildSlice, bytesOf, allOk, seqFrom, evBox, evAlloc, evStore, evBuild, fillV, setSeg, evCall, callArgs, castV, binInt, binStr, setO, evOp, V.ofV, V.ofV1, V.top, V.drop, V.up, V.up1, V.cells, V.storable, V.one, partV, cellV, loadV, lenV, retPost, resV, resAll, resOne, Ret, V.flat, V.flat1, V.clean, V.ren, V.ren1, renT, V.le, List.length_cons, List.length_nil, List.replicate, List.cons_append, List.nil_append, List.getElem?_cons_zero, List.getElem?_cons_succ, List.getElem?_toArray, List.getElem?_nil, List.map_cons, List.map_nil, List.zipWith_cons_cons, List.zipWith_nil_left, List.zipWith_nil_right, List.append_nil, List.mem_cons, List.not_mem_nil, List.take_zero, List.drop_zero, Nat.reduceAdd, Nat.reduceSub, Nat.reduceMul, Nat.reduceLT, Nat.reduceLeDiff, Nat.reduceEqDiff, Nat.reduceBEq, Nat.reduceBNe, Nat.zero_add, Nat.add_zero, Int.reduceToNat, Int.reduceLE, Int.reduceLT, Int.reduceEq, Int.reduceNe, Int.reduceNeg, Nat.reducePow, Int.reducePow, Nat.lt_irrefl, Nat.zero_lt_one, cond_true, cond_false, true_and, and_true, and_self, if_true, if_false, Option.map_some, Option.map_none, Option.bind_some, Option.bind_none, Option.isSome_some, Option.some.injEq, Prod.mk.injEq, exists_eq_left', reduceIte, reduceCtorEq, Bool.false_eq_true, Bool.true_and, Bool.and_true, Bool.not_true, Bool.not_false, Bool.or_true, Bool.or_false, Bool.true_or, Bool.false_or, Bool.and_self, Bool.false_and, Bool.and_false, ne_eq, not_false_eq_true, not_true_eq_false, false_or, or_false, forall_eq_or_imp, forall_eq, forall_const, implies_true, List.size_toArray, decide_true, decide_false, beq_self_eq_true, IntKind.bits, IntKind.signed, Array.toList_map, r_leS, Nat.min_self, Nat.mul_one, ty2, tk2, ts2, ta2, tu2, tn2, tr2, tz2, tv2, td2, ty3, tk3, ts3, ta3, tu3, tn3, tr3, tz3, tv3, td3, ty4, tk4, ts4, ta4, tu4, tn4, tr4, tz4, tv4, td4, ty5, tk5, ts5, ta5, tu5, tn5, tr5, tz5, tv5, td5, ty9, tk9, ts9, ta9, tu9, tn9, tr9, tz9, tv9, td9, ty22, tk22, ts22, ta22, tb22, te22, tu22, tn22, tr22, tz22, tv22, td22, ty23, tk23, ts23, ta23, tu23, tn23, tr23, tz23, tv23, td23, ty31, tk31, ts31, ta31, tb31, te31, tu31, tn31, tr31, tz31, tv31, td31, ty38, tk38, ts38, ta38, tu38, tn38, tr38, tz38, tv38, td38, ty40, tk40, ts40, ta40, tu40, tn40, tr40, tz40, tv40, td40, ty45, tk45, ts45, ta45, tu45, tn45, tr45, tz45, tv45, td45, ty56, tk56, ts56, ta56, tu56, tn56, tr56, tz56, tv56, td56, Try.f7, shownM, sealM, unsealM, turnP, turnM, Int.toNat_natCast, unbyte_map, List.length_map, F0_fn, F0_mu, F0_hp, F0_ord, F1_fn, F1_mu, F1_hp, F1_ord, F2_fn, F2_mu, F2_hp, F2_ord, F3_fn, F3_mu, F3_hp, F3_ord, F4_fn, F4_mu, F4_hp, F4_ord, F4a_fn, F4a_mu, F4a_hp, F4a_ord, F5_fn, F5_mu, F5_hp, F5_ord, P1_fn, P1_mu, P1_hp, P1_ord, P2_fn, P2_mu, P2_hp, P2_ord, P3_fn, P3_mu, P3_hp, P3_ord, P4_fn, P4_mu, P4_hp, P4_ord, P4a_fn, P4a_mu, P4a_hp, P4a_ord, P5_fn, P5_mu, P5_hp, P5_ord, P6_fn, P6_mu, P6_hp, P6_ord, P7_fn, P7_mu, P7_hp, P7_ord, P7a_fn, P7a_mu, P7a_hp, P7a_ord, P8_fn, P8_mu, P8_hp, P8_ord]
    obtain ⟨m, hm, hm1, hm2⟩ := min400 x
    rw [hm, Int.toNat_natCast]
    have hy : (x.take m).length ≤ 400 := by rw [List.length_take]; omega
    generalize x.take m = y at *
    have hsl := sealF_length y
    obtain ⟨f, hf, hfn⟩ : ∃ f : Nat, (IntKind.i64.wrap (w : Int)).tmod (IntKind.i64.wrap (8 * ((sealF y).length : Int))) = (f : Int) ∧ f < 8 * (sealF y).length := by
      rw [i64w (by omega) (by omega), i64w (by omega) (by omega), Int.tmod_eq_emod_of_nonneg (by omega)]
      exact ⟨w % (8 * (sealF y).length), by rw [Int.natCast_emod, Int.natCast_mul]; rfl, Nat.mod_lt _ (by omega)⟩
    rw [hf, Int.toNat_natCast]
    have hs := turnF_seen (sealF y) f tn
    generalize turnF (sealF y) f tn = q at *
    obtain ⟨c, tu⟩ := q
    simp only at hs
    have hc := hs.1
    have e1 : List.take (sealF y).length (List.map byteV (sealF y)) = List.map byteV (sealF y) := by rw [take_byteV, List.take_length]
    have e2 : List.take (sealF y).length (List.map byteV c) = List.map byteV c := by rw [take_byteV, ← hc, List.take_length]
    simp only [e1, e2, unbyte_map, List.length_map]
    refine ⟨⟨by omega, by omega⟩, by omega, by omega, by omega, by kernel_rfl, ⟨Nat.le_refl _, True.intro⟩, by omega, awpIf_intro (fun _ => awpIf_intro (fun h => ?_) (fun _ => ⟨?_, ⟨by omega, ⟨by omega, by omega⟩, hp.2⟩, ⟨⟨by omega, True.intro⟩, by omega⟩, ?_⟩)) (fun h => by simp at h)⟩
    · simp only [decide_eq_true_eq] at h; omega
    · rw [i64w (by omega) (by omega)]; omega
    · cases tu with
      | true =>
        rw [unseal_turned hs]
        simp [awpIf]
      | false =>
        rw [seen_same hs, unseal_seal]
        simp [awpIf]
  · cases hm
def P9 : Fns := { fn := fun f => P7.fn f, mu := fun d => bif d == 23 then .row else .no, hp := fun f => P7.hp f, ord := fun i => none }
theorem P9_fn (f : FuncId) : P9.fn f = (P7.fn f) := rfl
theorem P9_mu (d : Tmp) : P9.mu d = (bif d == 23 then .row else .no) := rfl
theorem P9_hp (f : FuncId) : P9.hp f = (P7.hp f) := rfl
theorem P9_ord (i : Nat) : P9.ord i = (none) := rfl
theorem P9ok : FnsOk Try.prog P9 := FnsOk.same P7ok rfl rfl

def burstsM : FM
  | [.bytes x _, .int .u16 at', .int .u32 turns] => some ((0 ≤ at' ∧ at' ≤ 65535) ∧ 0 ≤ turns ∧ turns ≤ 4294967295, .bool true, [])
  | _ => none
set_option maxRecDepth 100000 in
set_option maxHeartbeats 4000000 in
theorem bursts_ok : FSound Try.prog 6 burstsM := by
  refine fsound tysOk P9ok mix Try.func6 rfl ?_
  intro args p r fr hm hp
  unfold burstsM at hm
  split at hm
  · rename_i x t at' turns
    cases hm
    obtain ⟨w, rfl⟩ := Int.eq_ofNat_of_zero_le hp.1.1
    obtain ⟨tn, rfl⟩ := Int.eq_ofNat_of_zero_le hp.2.1
    obtain ⟨m, hm, hm1, hm2⟩ := min400 x
    have hy : (x.take m).length ≤ 400 := by rw [List.length_take]; omega
    have hx : ¬ 4096 < (x.take m).length := by omega
    simp (config := { maxSteps := 2000000 }) only [r_stepN, r_stepR, r_stepS, r_stepL, r_todoStep, r_todoCall, r_toCall, r_todoCs, r_todoS, r_todoCn, r_to0, r_to1, r_to2, r_to3, r_to4, r_to5, r_to6, r_to7, r_to8, r_to9, r_to10, r_to11, r_to12, r_to13, r_to14, r_to15, r_to16, r_to17, r_to18, r_to19, r_to20, r_to21, r_to22, r_to23, r_to24, r_to25, r_to26, r_drawN, r_drawQ, r_qNil, r_qCons, r_qOp, r_qOpG, r_step1, r_step0, r_step2, r_outQ, r_guardQT, r_guardQF, r_guardQU, HM.toP, r_rowN, r_rowR, r_rowL, nilStep, thawO, castH, hpO, frz, List.foldl_cons, List.foldl_nil, V.plainB, V.plain1, List.all_cons, List.all_nil, r_orSome, r_orNone, r_outSome, r_exec, r_opsNil, r_opsCons, r_opsGuard, r_skip, r_label, r_exit, r_goto, r_ret, r_seq, r_block, r_scope, r_ngN, r_ngE, r_ngR, r_loop, r_region, r_draw, r_cond, r_condBool, r_condMay, nilV, isNilV, negV, evNil, sliceM, r_guardMT, r_guardMF, V.hasRow, headM, RetM, retRow, r_thenN, r_thenE, r_thenG, r_thenR, r_blockN, r_blockE, r_blockG, r_blockR, r_guardT, r_guardF, r_guardU, set8, get8, set_0, get_0, set_1, get_1, set_2, get_2, set_3, get_3, set_4, get_4, set_5, get_5, set_6, get_6, set_7, get_7, ↓r_ifTrue, ↓r_ifFalse, r_ifTrue, r_ifFalse, r_ifNot, r_muS, r_muN, splitE, isEff, r_drawS, r_lastN, r_lastS, r_outD, r_execDcons, r_dNil, r_nextDN, r_nextDS, r_mkD, isMkO, mkArgs, makeM, evMakeM, evAppendM, srcCells, evCopy, evMark, hasM, V.isM, evCallM, castM, castMP, allP, V.plain, List.any_cons, List.any_nil, evArrEq, V.mrow.injEq, leL_self, rep_length, r_dCons, r_dGuard, r_dGuardT, r_dGuardF, r_dGuardU, r_stepD, r_orDs, r_orDn, effD, evGrow, evNone, guardAt, leL_cons, leL_nil, le_any, r_le0, r_le1, r_le2, r_leD0, r_leD1, r_leD2, leLL_nil, leLL_cons, V.under, List.take_succ_cons, List.take_nil, true_or, or_true, false_implies, Option.some.injEq, forall_eq', V.bytes.injEq, V.int.injEq, V.bool.injEq, V.str.injEq, V.list.injEq, List.cons.injEq, evalPure, evalEff, evPick, evBin, evUn, evConvL, evConv, evExtract, evLen, evMin, evMax, evIndexAddr, evLoad, loadBox, evLoadR, evFieldAddr, evField, evIndex, evSlice, sliceV, evAppend, evMake, evBuildSlice, bytesOf, allOk, seqFrom, evBox, evAlloc, evStore, evBuild, fillV, setSeg, evCall, callArgs, castV, binInt, binStr, setO, evOp, V.ofV, V.ofV1, V.top, V.drop, V.up, V.up1, V.cells, V.storable, V.one, partV, cellV, loadV, lenV, retPost, resV, resAll, resOne, Ret, V.flat, V.flat1, V.clean, V.ren, V.ren1, renT, V.le, List.length_cons, List.length_nil, List.replicate, List.cons_append, List.nil_append, List.getElem?_cons_zero, List.getElem?_cons_succ, List.getElem?_toArray, List.getElem?_nil, List.map_cons, List.map_nil, List.zipWith_cons_cons, List.zipWith_nil_left, List.zipWith_nil_right, List.append_nil, List.mem_cons, List.not_mem_nil, List.take_zero, List.drop_zero, Nat.reduceAdd, Nat.reduceSub, Nat.reduceMul, Nat.reduceLT, Nat.reduceLeDiff, Nat.reduceEqDiff, Nat.reduceBEq, Nat.reduceBNe, Nat.zero_add, Nat.add_zero, Int.reduceToNat, Int.reduceLE, Int.reduceLT, Int.reduceEq, Int.reduceNe, Int.reduceNeg, Nat.reducePow, Int.reducePow, Nat.lt_irrefl, Nat.zero_lt_one, cond_true, cond_false, true_and, and_true, and_self, if_true, if_false, Option.map_some, Option.map_none, Option.bind_some, Option.bind_none, Option.isSome_some, Option.some.injEq, Prod.mk.injEq, exists_eq_left', reduceIte, reduceCtorEq, Bool.false_eq_true, Bool.true_and, Bool.and_true, Bool.not_true, Bool.not_false, Bool.or_true, Bool.or_false, Bool.true_or, Bool.false_or, Bool.and_self, Bool.false_and, Bool.and_false, ne_eq, not_false_eq_true, not_true_eq_false, false_or, or_false, forall_eq_or_imp, forall_eq, forall_const, implies_true, List.size_toArray, decide_true, decide_false, beq_self_eq_true, IntKind.bits, IntKind.signed, Array.toList_map, r_leS, Nat.min_self, Nat.mul_one, ty2, tk2, ts2, ta2, tu2, tn2, tr2, tz2, tv2, td2, ty3, tk3, ts3, ta3, tu3, tn3, tr3, tz3, tv3, td3, ty4, tk4, ts4, ta4, tu4, tn4, tr4, tz4, tv4, td4, ty5, tk5, ts5, ta5, tu5, tn5, tr5, tz5, tv5, td5, ty9, tk9, ts9, ta9, tu9, tn9, tr9, tz9, tv9, td9, ty22, tk22, ts22, ta22, tb22, te22, tu22, tn22, tr22, tz22, tv22, td22, ty23, tk23, ts23, ta23, tu23, tn23, tr23, tz23, tv23, td23, ty31, tk31, ts31, ta31, tb31, te31, tu31, tn31, tr31, tz31, tv31, td31, ty38, tk38, ts38, ta38, tu38, tn38, tr38, tz38, tv38, td38, ty40, tk40, ts40, ta40, tu40, tn40, tr40, tz40, tv40, td40, ty45, tk45, ts45, ta45, tu45, tn45, tr45, tz45, tv45, td45, ty56, tk56, ts56, ta56, tu56, tn56, tr56, tz56, tv56, td56, Try.f6, shownM, putM, takeM, turnP, turnM, Int.toNat_natCast, unbyte_map, List.length_map, hm, hx, List.nil_append, F0_fn, F0_mu, F0_hp, F0_ord, F1_fn, F1_mu, F1_hp, F1_ord, F2_fn, F2_mu, F2_hp, F2_ord, F3_fn, F3_mu, F3_hp, F3_ord, F4_fn, F4_mu, F4_hp, F4_ord, F4a_fn, F4a_mu, F4a_hp, F4a_ord, F5_fn, F5_mu, F5_hp, F5_ord, P1_fn, P1_mu, P1_hp, P1_ord, P2_fn, P2_mu, P2_hp, P2_ord, P3_fn, P3_mu, P3_hp, P3_ord, P4_fn, P4_mu, P4_hp, P4_ord, P4a_fn, P4a_mu, P4a_hp, P4a_ord, P5_fn, P5_mu, P5_hp, P5_ord, P6_fn, P6_mu, P6_hp, P6_ord, P7_fn, P7_mu, P7_hp, P7_ord, P7a_fn, P7a_mu, P7a_hp, P7a_ord, P8_fn, P8_mu, P8_hp, P8_ord, P9_fn, P9_mu, P9_hp, P9_ord]
    generalize x.take m = y at *
    have hfl := frameF_length y
    have w1 : IntKind.i64.wrap (IntKind.i64.wrap (8 * ((frameF y).length : Int)) - 32) = ((8 * (frameF y).length - 32 : Nat) : Int) := by
      rw [i64w (n := 8 * ((frameF y).length : Int)) (by omega) (by omega), i64w (by omega) (by omega)]; omega
    rw [w1]
    obtain ⟨f, hf, hf32, hfn⟩ : ∃ f : Nat, IntKind.i64.wrap (32 + (IntKind.i64.wrap (w : Int)).tmod ((8 * (frameF y).length - 32 : Nat) : Int)) = (f : Int) ∧ 32 ≤ f ∧ f < 8 * (frameF y).length := by
      have hlt := Nat.mod_lt w (show 8 * (frameF y).length - 32 > 0 by omega)
      refine ⟨32 + w % (8 * (frameF y).length - 32), ?_, by omega, by omega⟩
      rw [i64w (n := (w : Int)) (by omega) (by omega), Int.tmod_eq_emod_of_nonneg (by omega), ← Int.natCast_emod, i64w (by omega) (by omega)]
      omega
    rw [hf, Int.toNat_natCast]
    have hs := turnF_seen (frameF y) f tn
    generalize turnF (frameF y) f tn = q at *
    obtain ⟨c, tu⟩ := q
    simp only at hs
    have hc := hs.1
    have e2 : List.take (frameF y).length (List.map byteV c) = List.map byteV c := by rw [take_byteV, ← hc, List.take_length]
    simp only [e2, unbyte_map, List.length_map]
    refine ⟨⟨by omega, by omega⟩, awpIf_intro (fun h => ?_) (fun _ => ⟨by omega, ⟨by omega, ⟨by omega, by omega⟩, hp.2⟩, ⟨⟨by omega, True.intro⟩, by omega⟩, ?_⟩)⟩
    · simp only [decide_eq_true_eq] at h; omega
    · cases tu with
      | true =>
        rw [take_turned hs hf32 (by omega)]
        simp [awpIf]
      | false =>
        have ht := take_frame (x := y) [] (by omega)
        rw [List.append_nil] at ht
        rw [seen_same hs, ht]
        simp [awpIf]
  · cases hm
end Go.Proofs.Ytpoghlfkokedpaa.Frame
