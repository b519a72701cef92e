/-
  THE LAW CrcTable: what the Go function answers.
-/
import Derived.Test.YtjlogjhbjbebdaaCrc
namespace Go.Proofs.Ytjlogjhbjbebdaa.Crc
open Go Go.Proofs Go.Proofs.Ytjlogjhbjbebdaa.Aw Go.Proofs.Ytjlogjhbjbebdaa.CrcM Go.Proofs.Ytjlogjhbjbebdaa.CrcN Go.Proofs.Ytjlogjhbjbebdaa.Num
set_option linter.unusedSimpArgs false
set_option linter.unusedVariables false
def ctableM : FM
  | [.int .u8 i, .int .u8 k] => some ((0 ≤ i ∧ i ≤ 255) ∧ 0 ≤ k ∧ k ≤ 255, .bool true, [])
  | _ => none
set_option maxHeartbeats 16000000 in
set_option maxRecDepth 100000 in
theorem ctable_ok : FSound Try.prog 7 ctableM := by
  refine fsound tysOk GLok mix Try.func7 rfl ?_
  intro args p r fr hm hp
  unfold ctableM at hm
  split at hm
  · rename_i i k
    cases hm
    obtain ⟨i, rfl⟩ := Int.eq_ofNat_of_zero_le hp.1.1
    obtain ⟨k, rfl⟩ := Int.eq_ofNat_of_zero_le hp.2.1
    have hi : i < 256 := by omega
    have hk : k < 256 := by omega
    have hx : i ^^^ k < 256 := Nat.xor_lt_two_pow (n := 8) hi hk
    have g0 : tbl.getD 0 (.int .u32 0) = .int .u32 (ent 0) := tbl_getD (by omega)
    have gi := tbl_getD hi
    have gk := tbl_getD hk
    have gx := tbl_getD hx
    have ex := xor8 hi hk
    simp (config := { maxSteps := 2000000 }) only [r_step, r_orSome, r_orNone, r_outSome, r_exec, r_opsNil, r_opsCons, r_opsGuard, r_skip, r_label, r_exit, r_goto, r_ret, r_seq, r_block, r_scope, r_ngN, r_ngE, r_ngR, r_loop, r_region, r_draw, r_cond, r_condBool, r_thenN, r_thenE, r_thenG, r_thenR, r_blockN, r_blockE, r_blockG, r_blockR, r_guardT, r_guardF, r_guardU, set8, get8, set_0, get_0, set_1, get_1, set_2, get_2, set_3, get_3, set_4, get_4, set_5, get_5, set_6, get_6, set_7, get_7, ↓r_ifTrue, ↓r_ifFalse, r_ifTrue, r_ifFalse, r_ifNot, r_muS, r_muN, splitE, isEff, r_drawS, r_lastN, r_lastS, r_outD, r_execDcons, r_dNil, r_nextDN, r_nextDS, r_mkD, isMkO, mkArgs, makeM, evMakeM, evAppendM, srcCells, evCopy, evMark, hasM, V.isM, evCallM, castM, castMP, allP, V.plain, List.any_cons, List.any_nil, evArrEq, V.mrow.injEq, leL_self, rep_length, r_dCons, r_dGuard, r_dGuardT, r_dGuardF, r_dGuardU, r_stepD, r_orDs, r_orDn, effD, guardAt, leL_cons, leL_nil, le_any, r_le0, r_le1, r_le2, r_leD0, r_leD1, r_leD2, leLL_nil, leLL_cons, V.under, List.take_succ_cons, List.take_nil, true_or, or_true, false_implies, Option.some.injEq, forall_eq', V.bytes.injEq, V.int.injEq, V.bool.injEq, V.str.injEq, V.list.injEq, List.cons.injEq, evalPure, evalEff, evPick, evBin, evUn, evConv, evExtract, evLen, evMin, evMax, evIndexAddr, evLoad, loadBox, evLoadR, evFieldAddr, evField, evIndex, evSlice, sliceV, evAppend, evMake, evBuildSlice, bytesOf, allOk, seqFrom, evBox, evAlloc, evStore, evBuild, fillV, setSeg, evCall, callArgs, castV, binInt, binStr, setO, evOp, V.ofV, V.ofV1, V.top, V.drop, V.up, V.up1, V.cells, V.storable, V.one, partV, cellV, loadV, lenV, retPost, resV, resAll, resOne, Ret, V.flat, V.flat1, V.clean, V.ren, V.ren1, renT, V.le, List.length_cons, List.length_nil, List.replicate, List.cons_append, List.nil_append, List.getElem?_cons_zero, List.getElem?_cons_succ, List.getElem?_toArray, List.getElem?_nil, List.map_cons, List.map_nil, List.zipWith_cons_cons, List.zipWith_nil_left, List.zipWith_nil_right, List.append_nil, List.mem_cons, List.not_mem_nil, List.take_zero, List.drop_zero, Nat.reduceAdd, Nat.reduceSub, Nat.reduceMul, Nat.reduceLT, Nat.reduceLeDiff, Nat.reduceEqDiff, Nat.reduceBEq, Nat.reduceBNe, Nat.zero_add, Nat.add_zero, Int.reduceToNat, Int.reduceLE, Int.reduceLT, Int.reduceEq, Int.reduceNe, Int.reduceNeg, Nat.reducePow, Int.reducePow, Nat.lt_irrefl, Nat.zero_lt_one, cond_true, cond_false, true_and, and_true, and_self, if_true, if_false, Option.map_some, Option.map_none, Option.bind_some, Option.bind_none, Option.isSome_some, Option.some.injEq, Prod.mk.injEq, exists_eq_left', reduceIte, reduceCtorEq, Bool.false_eq_true, Bool.true_and, Bool.and_true, Bool.not_true, Bool.not_false, Bool.or_true, Bool.or_false, Bool.true_or, Bool.false_or, Bool.and_self, Bool.false_and, Bool.and_false, ne_eq, not_false_eq_true, not_true_eq_false, false_or, or_false, forall_eq_or_imp, forall_eq, forall_const, implies_true, List.size_toArray, decide_true, decide_false, beq_self_eq_true, IntKind.bits, IntKind.signed, Array.toList_map, r_leS, Nat.min_self, Nat.mul_one, ty2, tk2, ts2, ta2, tu2, tn2, tr2, tz2, tv2, td2, ty3, tk3, ts3, ta3, tu3, tn3, tr3, tz3, tv3, td3, ty4, tk4, ts4, ta4, tu4, tn4, tr4, tz4, tv4, td4, ty5, tk5, ts5, ta5, tu5, tn5, tr5, tz5, tv5, td5, ty22, tk22, ts22, ta22, tb22, te22, tu22, tn22, tr22, tz22, tv22, td22, ty23, tk23, ts23, ta23, tu23, tn23, tr23, tz23, tv23, td23, ty28, tk28, ts28, ta28, tu28, tn28, tr28, tz28, tv28, tc28, ty32, tk32, ts32, ta32, tu32, tn32, tr32, tz32, tv32, td32, ty35, tk35, ts35, ta35, tu35, tn35, tr35, tz35, tv35, td35, Try.f7, GL_fn, GL_mu, GF_fn, GF_mu, GS_fn, GA_fn, shownM, tableM, tbl_length, rep_length, rep_drop, g0, gi, gk, gx, ex, Int.toNat_natCast]
    have e0 : decide (ent 0 = 0) = true := by kernel_rfl
    have e1 : decide (ent (i ^^^ k) = xorK .u32 (ent i) (ent k)) = true := decide_eq_true (ent_xor i k)
    have e2 : (decide (ent i = ent k) == decide ((i : Int) = (k : Int))) = true := by
      rw [beq_iff_eq]
      exact decide_eq_decide.2 ((ent_inj hi hk).trans (by omega))
    rw [e0, e1, e2]
    simp only [r_ifTrue]
    refine ⟨tbl_clean, by kernel_rfl, ?_⟩
    and_intros <;> first | omega | trivial
  · cases hm
end Go.Proofs.Ytjlogjhbjbebdaa.Crc
