/-
  THE LAWS' OWN FUNCTIONS: what 'shown' and each law answers.
-/
import Derived.Test.YtljmfemcfkhehaaVary2
namespace Go.Proofs.Ytljmfemcfkhehaa.Vary
open Go Go.Proofs Go.Proofs.Ytljmfemcfkhehaa.Aw Go.Proofs.Ytljmfemcfkhehaa.VaryM Go.Proofs.Ytljmfemcfkhehaa.Num
set_option linter.unusedSimpArgs false
set_option linter.unusedVariables false
def G3 : Fns := fun f => if f = 15 then some putM else if f = 16 then some zagM else if f = 17 then some zigM else if f = 18 then some fixM else if f = 10 then some takeM else if f = 12 then some unfixM else if f = 11 then some takeM else if f = 13 then some unfixM else if f = 9 then some someM else G0 f
theorem G3ok : FnsOk Try.prog G3 :=
  FnsOk.cons (FnsOk.cons (FnsOk.cons (FnsOk.cons (FnsOk.cons (FnsOk.cons (FnsOk.cons (FnsOk.cons (FnsOk.cons G0ok
    _ _ some_ok Try.func9 (by decide) (fun h => by cases h))
    _ _ runfix_ok Try.func13 (by decide) (fun h => by cases h))
    _ _ rtake_ok Try.func11 (by decide) (fun h => by cases h))
    _ _ unfix_ok Try.func12 (by decide) (fun h => by cases h))
    _ _ take_ok Try.func10 (by decide) (fun h => by cases h))
    _ _ fix_ok Try.func18 (by decide) (fun h => by cases h))
    _ _ zig_ok Try.func17 (by decide) (fun h => by cases h))
    _ _ zag_ok Try.func16 (by decide) (fun h => by cases h))
    _ _ put_ok Try.func15 (by decide) (fun h => by cases h)
def shownM : FM
  | [] => some (True, .bool true, [])
  | _ => none
set_option maxHeartbeats 8000000 in
theorem shown_ok : FSound Try.prog 14 shownM := by
  refine fsound tysOk G3ok mix Try.func14 rfl ?_
  intro args p r fr hm hp
  unfold shownM at hm
  split at hm
  · cases hm
    simp (config := { maxSteps := 2000000 }) only [r_step, r_orSome, r_orNone, r_outSome, r_exec, r_opsNil, r_opsCons, r_opsGuard, r_skip, r_label, r_exit, r_goto, r_ret, r_seq, r_block, r_scope, r_ngN, r_ngE, r_ngR, r_loop, r_region, r_draw, r_cond, r_condBool, r_thenN, r_thenE, r_thenG, r_thenR, r_blockN, r_blockE, r_blockG, r_blockR, r_guardT, r_guardF, r_guardU, set8, get8, set_0, get_0, set_1, get_1, set_2, get_2, set_3, get_3, set_4, get_4, set_5, get_5, set_6, get_6, set_7, get_7, ↓r_ifTrue, ↓r_ifFalse, r_ifTrue, r_ifFalse, r_ifNot, r_outD, r_execDcons, r_dNil, r_nextD, r_dCons, r_dGuard, r_dGuardT, r_dGuardF, r_dGuardU, r_stepD, r_orDs, r_orDn, effD, guardAt, leL_cons, leL_nil, le_any, r_le0, r_le1, r_le2, r_leD0, r_leD1, r_leD2, leLL_nil, leLL_cons, V.under, List.take_succ_cons, List.take_nil, true_or, or_true, false_implies, Option.some.injEq, forall_eq', V.bytes.injEq, V.int.injEq, V.bool.injEq, V.str.injEq, V.list.injEq, List.cons.injEq, evalPure, evalEff, evPick, evBin, evUn, evConv, evExtract, evLen, evMin, evMax, evIndexAddr, evLoad, evFieldAddr, evField, evIndex, evSlice, sliceV, evAppend, evMake, evBuildSlice, bytesOf, allOk, seqFrom, evBox, evAlloc, evStore, evBuild, fillV, setSeg, evCall, callArgs, castV, binInt, binStr, setO, evOp, V.ofV, V.ofV1, V.top, V.drop, V.up, V.up1, V.cells, V.storable, V.one, partV, cellV, loadV, lenV, retPost, resV, resAll, resOne, Ret, V.flat, V.flat1, V.clean, V.ren, V.ren1, renT, V.le, List.length_cons, List.length_nil, List.replicate, List.cons_append, List.nil_append, List.getElem?_cons_zero, List.getElem?_cons_succ, List.getElem?_toArray, List.getElem?_nil, List.map_cons, List.map_nil, List.zipWith_cons_cons, List.zipWith_nil_left, List.zipWith_nil_right, List.append_nil, List.mem_cons, List.not_mem_nil, List.take_zero, List.drop_zero, Nat.reduceAdd, Nat.reduceSub, Nat.reduceMul, Nat.reduceLT, Nat.reduceLeDiff, Nat.reduceEqDiff, Nat.reduceBEq, Nat.reduceBNe, Nat.zero_add, Nat.add_zero, Int.reduceToNat, Int.reduceLE, Int.reduceLT, Int.reduceEq, Int.reduceNe, Int.reduceNeg, Nat.reducePow, Int.reducePow, Nat.lt_irrefl, Nat.zero_lt_one, cond_true, cond_false, true_and, and_true, and_self, if_true, if_false, Option.map_some, Option.map_none, Option.bind_some, Option.bind_none, Option.isSome_some, Option.some.injEq, Prod.mk.injEq, exists_eq_left', reduceIte, reduceCtorEq, Bool.false_eq_true, Bool.true_and, Bool.and_true, Bool.not_true, Bool.not_false, Bool.or_true, Bool.or_false, Bool.true_or, Bool.false_or, Bool.and_self, Bool.false_and, Bool.and_false, ne_eq, not_false_eq_true, not_true_eq_false, false_or, or_false, forall_eq_or_imp, forall_eq, forall_const, implies_true, List.size_toArray, decide_true, decide_false, beq_self_eq_true, IntKind.bits, IntKind.signed, Array.toList_map, ty2, tk2, ts2, ta2, tu2, tn2, tr2, tz2, tv2, ty3, tk3, ts3, ta3, tu3, tn3, tr3, tz3, tv3, ty4, tk4, ts4, ta4, tu4, tn4, tr4, tz4, tv4, ty5, tk5, ts5, ta5, tu5, tn5, tr5, tz5, tv5, ty9, tk9, ts9, ta9, tu9, tn9, tr9, tz9, tv9, ty22, tk22, ts22, ta22, tb22, te22, tu22, tn22, tr22, tz22, tv22, ty24, tk24, ts24, ta24, tu24, tn24, tr24, tz24, tv24, ty25, tk25, ts25, ta25, tu25, tn25, tr25, tz25, tv25, ty39, tk39, ts39, ta39, tu39, tn39, tr39, tz39, tv39, Try.f14, G3, putM, zagM, zigM, fixM, takeM, unfixM, someM]
    have e1 : decide (leb 300 = [172, 2]) = true := by rw [leb_big (by omega), leb_small (by omega)]; decide
    have e2 : decide ((takeF [UInt8.ofNat 128, UInt8.ofNat 0]).snd.snd = 6) = true := by decide
    have e3 : decide ((takeF [UInt8.ofNat 128]).snd.snd = 5) = true := by decide
    have e4 : decide (zigF (-1) = 1) = true := by decide
    have e5 : decide (fixF [] 258 3 = [0, 1, 2]) = true := by decide
    simp only [e1, e2, e3, e4, e5, r_ifTrue]
  · cases hm
def G4 : Fns := fun f => if f = 14 then some shownM else G3 f
theorem G4ok : FnsOk Try.prog G4 := G3ok.cons _ _ shown_ok Try.func14 (by decide) (fun h => by cases h)

end Go.Proofs.Ytljmfemcfkhehaa.Vary
