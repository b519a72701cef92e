/-
  PACKAGE vary's Unfix, AND ITS REFERENCE's Take AND Unfix: what each answers.
-/
import Derived.Test.YtljmfemcfkhehaaVary
namespace Go.Proofs.Ytljmfemcfkhehaa.Vary
open Go Go.Proofs Go.Proofs.Ytljmfemcfkhehaa.Aw Go.Proofs.Ytljmfemcfkhehaa.VaryM Go.Proofs.Ytljmfemcfkhehaa.Num
set_option linter.unusedSimpArgs false
set_option linter.unusedVariables false

theorem beVal_succ (b : List UInt8) (k : Nat) (h : k < b.length) : beVal 0 (b.take (k + 1)) = beVal 0 (b.take k) * 256 + (b.getD k 0).toNat := by
  have : b.take (k + 1) = b.take k ++ [b.getD k 0] := by
    rw [List.take_succ_eq_append_getElem h, List.getD_eq_getElem?_getD, List.getElem?_eq_getElem h]; rfl
  rw [this, beVal_append]; rfl
theorem beVal_take_lt (b : List UInt8) (k s : Nat) (h : k ≤ s) : beVal 0 (b.take k) < 256 ^ s := by
  have h1 := beVal_lt (b.take k) 0
  have h2 : 256 ^ (b.take k).length ≤ 256 ^ s := Nat.pow_le_pow_right (by omega) (by rw [List.length_take]; omega)
  omega
theorem getD_take (b : List UInt8) (k s : Nat) (h : k < s) : (b.take s).getD k 0 = b.getD k 0 := by
  rw [List.getD_eq_getElem?_getD, List.getD_eq_getElem?_getD, List.getElem?_take, if_pos h]

def unfixF (b : List UInt8) (size : Int) : Nat × List UInt8 × Int :=
  if 1 ≤ size ∧ size ≤ 8 then (if (b.length : Int) < size then (0, [], 5) else (beVal 0 (b.take size.toNat), b.drop size.toNat, 0)) else (0, [], 1)
def unfixM : FM
  | [.bytes b _, .int .i64 size] => some (b.length ≤ 549755813888, .tuple [.int .u64 (unfixF b size).1, .bytes (unfixF b size).2.1 none, .int .i64 (unfixF b size).2.2], [])
  | _ => none
theorem unfix_ok : FSound Try.prog 12 unfixM := by
  refine fsound tysOk G2ok mix Try.func12 rfl ?_
  intro args p r fr hm hp
  unfold unfixM at hm
  split at hm
  · rename_i b t size
    cases hm
    simp (config := { maxSteps := 2000000 }) only [r_step, r_orSome, r_orNone, r_outSome, r_exec, r_opsNil, r_opsCons, r_opsGuard, r_skip, r_label, r_exit, r_goto, r_ret, r_seq, r_block, r_scope, r_ngN, r_ngE, r_ngR, r_loop, r_region, r_draw, r_cond, r_condBool, r_thenN, r_thenE, r_thenG, r_thenR, r_blockN, r_blockE, r_blockG, r_blockR, r_guardT, r_guardF, r_guardU, set8, get8, set_0, get_0, set_1, get_1, set_2, get_2, set_3, get_3, set_4, get_4, set_5, get_5, set_6, get_6, set_7, get_7, ↓r_ifTrue, ↓r_ifFalse, r_ifTrue, r_ifFalse, r_ifNot, r_outD, r_execDcons, r_dNil, r_nextD, r_dCons, r_dGuard, r_dGuardT, r_dGuardF, r_dGuardU, r_stepD, r_orDs, r_orDn, effD, guardAt, leL_cons, leL_nil, le_any, r_le0, r_le1, r_le2, r_leD0, r_leD1, r_leD2, leLL_nil, leLL_cons, V.under, List.take_succ_cons, List.take_nil, true_or, or_true, false_implies, Option.some.injEq, forall_eq', V.bytes.injEq, V.int.injEq, V.bool.injEq, V.str.injEq, V.list.injEq, List.cons.injEq, evalPure, evalEff, evPick, evBin, evUn, evConv, evExtract, evLen, evMin, evMax, evIndexAddr, evLoad, evFieldAddr, evField, evIndex, evSlice, sliceV, evAppend, evMake, evBuildSlice, bytesOf, allOk, seqFrom, evBox, evAlloc, evStore, evBuild, fillV, setSeg, evCall, callArgs, castV, binInt, binStr, setO, evOp, V.ofV, V.ofV1, V.top, V.drop, V.up, V.up1, V.cells, V.storable, V.one, partV, cellV, loadV, lenV, retPost, resV, resAll, resOne, Ret, V.flat, V.flat1, V.clean, V.ren, V.ren1, renT, V.le, List.length_cons, List.length_nil, List.replicate, List.cons_append, List.nil_append, List.getElem?_cons_zero, List.getElem?_cons_succ, List.getElem?_toArray, List.getElem?_nil, List.map_cons, List.map_nil, List.zipWith_cons_cons, List.zipWith_nil_left, List.zipWith_nil_right, List.append_nil, List.mem_cons, List.not_mem_nil, List.take_zero, List.drop_zero, Nat.reduceAdd, Nat.reduceSub, Nat.reduceMul, Nat.reduceLT, Nat.reduceLeDiff, Nat.reduceEqDiff, Nat.reduceBEq, Nat.reduceBNe, Nat.zero_add, Nat.add_zero, Int.reduceToNat, Int.reduceLE, Int.reduceLT, Int.reduceEq, Int.reduceNe, Int.reduceNeg, Nat.reducePow, Int.reducePow, Nat.lt_irrefl, Nat.zero_lt_one, cond_true, cond_false, true_and, and_true, and_self, if_true, if_false, Option.map_some, Option.map_none, Option.bind_some, Option.bind_none, Option.isSome_some, Option.some.injEq, Prod.mk.injEq, exists_eq_left', reduceIte, reduceCtorEq, Bool.false_eq_true, Bool.true_and, Bool.and_true, Bool.not_true, Bool.not_false, Bool.or_true, Bool.or_false, Bool.true_or, Bool.false_or, Bool.and_self, Bool.false_and, Bool.and_false, ne_eq, not_false_eq_true, not_true_eq_false, false_or, or_false, forall_eq_or_imp, forall_eq, forall_const, implies_true, List.size_toArray, decide_true, decide_false, beq_self_eq_true, IntKind.bits, IntKind.signed, Array.toList_map, ty2, tk2, ts2, ta2, tu2, tn2, tr2, tz2, tv2, ty3, tk3, ts3, ta3, tu3, tn3, tr3, tz3, tv3, ty4, tk4, ts4, ta4, tu4, tn4, tr4, tz4, tv4, ty5, tk5, ts5, ta5, tu5, tn5, tr5, tz5, tv5, ty9, tk9, ts9, ta9, tu9, tn9, tr9, tz9, tv9, ty22, tk22, ts22, ta22, tb22, te22, tu22, tn22, tr22, tz22, tv22, ty24, tk24, ts24, ta24, tu24, tn24, tr24, tz24, tv24, ty25, tk25, ts25, ta25, tu25, tn25, tr25, tz25, tv25, ty39, tk39, ts39, ta39, tu39, tn39, tr39, tz39, tv39, Try.f12, G2, G1, roomyM, sizedM]
    refine awpIf_intro (fun h => ?_) (fun h => ?_)
    · have hs : 1 ≤ size ∧ size ≤ 8 := by simpa [sizedB] using h
      refine awpIf_intro (fun h => ?_) (fun h => ?_)
      · simp only [decide_eq_true_eq] at h
        rw [show unfixF b size = (0, [], 5) by unfold unfixF; rw [if_pos hs, if_pos h]]
        exact ⟨rfl, rfl, rfl⟩
      · simp only [decide_eq_false_iff_not] at h
        obtain ⟨s, rfl⟩ := Int.eq_ofNat_of_zero_le (show 0 ≤ size by omega)
        have hu : unfixF b s = (beVal 0 (b.take s), b.drop s, 0) := by unfold unfixF; rw [if_pos hs, if_neg h]; rfl
        have htl : (b.take s).length = s := by rw [List.length_take]; omega
        refine ⟨by omega, ?_⟩
        simp only [Int.toNat_natCast, htl]
        refine awpLoop_intro (α := {k : Nat // k ≤ s})
          (fun k => ⟨[.bytes b none, .int .i64 s, .any, .any, .any, .nils, .any, .int .u64 (beVal 0 (b.take k.1)), .any, .any, .any, .any, .any, .any, .any, .any, .any, .any, .any, .bytes (b.take s) none, .int .i64 s, .int .i64 k.1, .any, .any, .any, .any, .any, .any, .any, .any, .any, .any, .any, .any, .any, .any], [], []⟩) (fun k => s - k.1)
          ⟨0, by omega⟩ ?_ ?_
        · simp (config := { maxSteps := 2000000 }) only [r_step, r_orSome, r_orNone, r_outSome, r_exec, r_opsNil, r_opsCons, r_opsGuard, r_skip, r_label, r_exit, r_goto, r_ret, r_seq, r_block, r_scope, r_ngN, r_ngE, r_ngR, r_loop, r_region, r_draw, r_cond, r_condBool, r_thenN, r_thenE, r_thenG, r_thenR, r_blockN, r_blockE, r_blockG, r_blockR, r_guardT, r_guardF, r_guardU, set8, get8, set_0, get_0, set_1, get_1, set_2, get_2, set_3, get_3, set_4, get_4, set_5, get_5, set_6, get_6, set_7, get_7, ↓r_ifTrue, ↓r_ifFalse, r_ifTrue, r_ifFalse, r_ifNot, r_outD, r_execDcons, r_dNil, r_nextD, r_dCons, r_dGuard, r_dGuardT, r_dGuardF, r_dGuardU, r_stepD, r_orDs, r_orDn, effD, guardAt, leL_cons, leL_nil, le_any, r_le0, r_le1, r_le2, r_leD0, r_leD1, r_leD2, leLL_nil, leLL_cons, V.under, List.take_succ_cons, List.take_nil, true_or, or_true, false_implies, Option.some.injEq, forall_eq', V.bytes.injEq, V.int.injEq, V.bool.injEq, V.str.injEq, V.list.injEq, List.cons.injEq, evalPure, evalEff, evPick, evBin, evUn, evConv, evExtract, evLen, evMin, evMax, evIndexAddr, evLoad, evFieldAddr, evField, evIndex, evSlice, sliceV, evAppend, evMake, evBuildSlice, bytesOf, allOk, seqFrom, evBox, evAlloc, evStore, evBuild, fillV, setSeg, evCall, callArgs, castV, binInt, binStr, setO, evOp, V.ofV, V.ofV1, V.top, V.drop, V.up, V.up1, V.cells, V.storable, V.one, partV, cellV, loadV, lenV, retPost, resV, resAll, resOne, Ret, V.flat, V.flat1, V.clean, V.ren, V.ren1, renT, V.le, List.length_cons, List.length_nil, List.replicate, List.cons_append, List.nil_append, List.getElem?_cons_zero, List.getElem?_cons_succ, List.getElem?_toArray, List.getElem?_nil, List.map_cons, List.map_nil, List.zipWith_cons_cons, List.zipWith_nil_left, List.zipWith_nil_right, List.append_nil, List.mem_cons, List.not_mem_nil, List.take_zero, List.drop_zero, Nat.reduceAdd, Nat.reduceSub, Nat.reduceMul, Nat.reduceLT, Nat.reduceLeDiff, Nat.reduceEqDiff, Nat.reduceBEq, Nat.reduceBNe, Nat.zero_add, Nat.add_zero, Int.reduceToNat, Int.reduceLE, Int.reduceLT, Int.reduceEq, Int.reduceNe, Int.reduceNeg, Nat.reducePow, Int.reducePow, Nat.lt_irrefl, Nat.zero_lt_one, cond_true, cond_false, true_and, and_true, and_self, if_true, if_false, Option.map_some, Option.map_none, Option.bind_some, Option.bind_none, Option.isSome_some, Option.some.injEq, Prod.mk.injEq, exists_eq_left', reduceIte, reduceCtorEq, Bool.false_eq_true, Bool.true_and, Bool.and_true, Bool.not_true, Bool.not_false, Bool.or_true, Bool.or_false, Bool.true_or, Bool.false_or, Bool.and_self, Bool.false_and, Bool.and_false, ne_eq, not_false_eq_true, not_true_eq_false, false_or, or_false, forall_eq_or_imp, forall_eq, forall_const, implies_true, List.size_toArray, decide_true, decide_false, beq_self_eq_true, IntKind.bits, IntKind.signed, Array.toList_map, ty2, tk2, ts2, ta2, tu2, tn2, tr2, tz2, tv2, ty3, tk3, ts3, ta3, tu3, tn3, tr3, tz3, tv3, ty4, tk4, ts4, ta4, tu4, tn4, tr4, tz4, tv4, ty5, tk5, ts5, ta5, tu5, tn5, tr5, tz5, tv5, ty9, tk9, ts9, ta9, tu9, tn9, tr9, tz9, tv9, ty22, tk22, ts22, ta22, tb22, te22, tu22, tn22, tr22, tz22, tv22, ty24, tk24, ts24, ta24, tu24, tn24, tr24, tz24, tv24, ty25, tk25, ts25, ta25, tu25, tn25, tr25, tz25, tv25, ty39, tk39, ts39, ta39, tu39, tn39, tr39, tz39, tv39]
          simp [beVal]
        · rintro ⟨k, hk⟩
          simp (config := { maxSteps := 2000000 }) only [r_step, r_orSome, r_orNone, r_outSome, r_exec, r_opsNil, r_opsCons, r_opsGuard, r_skip, r_label, r_exit, r_goto, r_ret, r_seq, r_block, r_scope, r_ngN, r_ngE, r_ngR, r_loop, r_region, r_draw, r_cond, r_condBool, r_thenN, r_thenE, r_thenG, r_thenR, r_blockN, r_blockE, r_blockG, r_blockR, r_guardT, r_guardF, r_guardU, set8, get8, set_0, get_0, set_1, get_1, set_2, get_2, set_3, get_3, set_4, get_4, set_5, get_5, set_6, get_6, set_7, get_7, ↓r_ifTrue, ↓r_ifFalse, r_ifTrue, r_ifFalse, r_ifNot, r_outD, r_execDcons, r_dNil, r_nextD, r_dCons, r_dGuard, r_dGuardT, r_dGuardF, r_dGuardU, r_stepD, r_orDs, r_orDn, effD, guardAt, leL_cons, leL_nil, le_any, r_le0, r_le1, r_le2, r_leD0, r_leD1, r_leD2, leLL_nil, leLL_cons, V.under, List.take_succ_cons, List.take_nil, true_or, or_true, false_implies, Option.some.injEq, forall_eq', V.bytes.injEq, V.int.injEq, V.bool.injEq, V.str.injEq, V.list.injEq, List.cons.injEq, evalPure, evalEff, evPick, evBin, evUn, evConv, evExtract, evLen, evMin, evMax, evIndexAddr, evLoad, evFieldAddr, evField, evIndex, evSlice, sliceV, evAppend, evMake, evBuildSlice, bytesOf, allOk, seqFrom, evBox, evAlloc, evStore, evBuild, fillV, setSeg, evCall, callArgs, castV, binInt, binStr, setO, evOp, V.ofV, V.ofV1, V.top, V.drop, V.up, V.up1, V.cells, V.storable, V.one, partV, cellV, loadV, lenV, retPost, resV, resAll, resOne, Ret, V.flat, V.flat1, V.clean, V.ren, V.ren1, renT, V.le, List.length_cons, List.length_nil, List.replicate, List.cons_append, List.nil_append, List.getElem?_cons_zero, List.getElem?_cons_succ, List.getElem?_toArray, List.getElem?_nil, List.map_cons, List.map_nil, List.zipWith_cons_cons, List.zipWith_nil_left, List.zipWith_nil_right, List.append_nil, List.mem_cons, List.not_mem_nil, List.take_zero, List.drop_zero, Nat.reduceAdd, Nat.reduceSub, Nat.reduceMul, Nat.reduceLT, Nat.reduceLeDiff, Nat.reduceEqDiff, Nat.reduceBEq, Nat.reduceBNe, Nat.zero_add, Nat.add_zero, Int.reduceToNat, Int.reduceLE, Int.reduceLT, Int.reduceEq, Int.reduceNe, Int.reduceNeg, Nat.reducePow, Int.reducePow, Nat.lt_irrefl, Nat.zero_lt_one, cond_true, cond_false, true_and, and_true, and_self, if_true, if_false, Option.map_some, Option.map_none, Option.bind_some, Option.bind_none, Option.isSome_some, Option.some.injEq, Prod.mk.injEq, exists_eq_left', reduceIte, reduceCtorEq, Bool.false_eq_true, Bool.true_and, Bool.and_true, Bool.not_true, Bool.not_false, Bool.or_true, Bool.or_false, Bool.true_or, Bool.false_or, Bool.and_self, Bool.false_and, Bool.and_false, ne_eq, not_false_eq_true, not_true_eq_false, false_or, or_false, forall_eq_or_imp, forall_eq, forall_const, implies_true, List.size_toArray, decide_true, decide_false, beq_self_eq_true, IntKind.bits, IntKind.signed, Array.toList_map, ty2, tk2, ts2, ta2, tu2, tn2, tr2, tz2, tv2, ty3, tk3, ts3, ta3, tu3, tn3, tr3, tz3, tv3, ty4, tk4, ts4, ta4, tu4, tn4, tr4, tz4, tv4, ty5, tk5, ts5, ta5, tu5, tn5, tr5, tz5, tv5, ty9, tk9, ts9, ta9, tu9, tn9, tr9, tz9, tv9, ty22, tk22, ts22, ta22, tb22, te22, tu22, tn22, tr22, tz22, tv22, ty24, tk24, ts24, ta24, tu24, tn24, tr24, tz24, tv24, ty25, tk25, ts25, ta25, tu25, tn25, tr25, tz25, tv25, ty39, tk39, ts39, ta39, tu39, tn39, tr39, tz39, tv39, G2, G1, roomyM, sizedM]
          refine awpIf_intro (fun h' => ?_) (fun h' => ?_) <;> simp only [decide_eq_true_eq, decide_eq_false_iff_not] at h'
          · refine ⟨⟨by omega, by rw [htl]; omega⟩, ⟨k + 1, by omega⟩, ⟨?_, by rw [i64w (by omega) (by omega)]; simp⟩, by simp only; omega⟩
            have hb := beVal_take_lt b k 7 (by omega)
            have hc := (b.getD k 0).toNat_lt
            have e7 : (256 : Nat) ^ 7 = 72057594037927936 := by decide
            simp only [Int.toNat_natCast, getD_take b k s (by omega)]
            rw [u64w (by omega) (by omega), show ((8 : Int)) = ((8 : Nat) : Int) from rfl, shl64 _ _ (by omega), Nat.mod_eq_of_lt (by omega), beVal_succ b k (by omega), orK_comm, or64_add (by omega) (by omega)]
            omega
          · have hk : k = s := by omega
            subst hk
            simp only [Int.toNat_natCast, hu]
            exact ⟨by omega, by rw [List.length_drop]; omega, trivial, trivial, trivial⟩
    · have hs : ¬ (1 ≤ size ∧ size ≤ 8) := by simpa [sizedB] using h
      rw [show unfixF b size = (0, [], 1) by unfold unfixF; rw [if_neg hs]]
      exact ⟨rfl, rfl, rfl⟩
  · cases hm
set_option maxHeartbeats 4000000 in
theorem rtake_ok : FSound Try.prog 11 takeM := by
  refine fsound tysOk G0ok mix Try.func11 rfl ?_
  intro args p r fr hm hp
  unfold takeM at hm
  split at hm
  · rename_i b t
    cases hm
    simp (config := { maxSteps := 2000000 }) only [r_step, r_orSome, r_orNone, r_outSome, r_exec, r_opsNil, r_opsCons, r_opsGuard, r_skip, r_label, r_exit, r_goto, r_ret, r_seq, r_block, r_scope, r_ngN, r_ngE, r_ngR, r_loop, r_region, r_draw, r_cond, r_condBool, r_thenN, r_thenE, r_thenG, r_thenR, r_blockN, r_blockE, r_blockG, r_blockR, r_guardT, r_guardF, r_guardU, set8, get8, set_0, get_0, set_1, get_1, set_2, get_2, set_3, get_3, set_4, get_4, set_5, get_5, set_6, get_6, set_7, get_7, ↓r_ifTrue, ↓r_ifFalse, r_ifTrue, r_ifFalse, r_ifNot, r_outD, r_execDcons, r_dNil, r_nextD, r_dCons, r_dGuard, r_dGuardT, r_dGuardF, r_dGuardU, r_stepD, r_orDs, r_orDn, effD, guardAt, leL_cons, leL_nil, le_any, r_le0, r_le1, r_le2, r_leD0, r_leD1, r_leD2, leLL_nil, leLL_cons, V.under, List.take_succ_cons, List.take_nil, true_or, or_true, false_implies, Option.some.injEq, forall_eq', V.bytes.injEq, V.int.injEq, V.bool.injEq, V.str.injEq, V.list.injEq, List.cons.injEq, evalPure, evalEff, evPick, evBin, evUn, evConv, evExtract, evLen, evMin, evMax, evIndexAddr, evLoad, evFieldAddr, evField, evIndex, evSlice, sliceV, evAppend, evMake, evBuildSlice, bytesOf, allOk, seqFrom, evBox, evAlloc, evStore, evBuild, fillV, setSeg, evCall, callArgs, castV, binInt, binStr, setO, evOp, V.ofV, V.ofV1, V.top, V.drop, V.up, V.up1, V.cells, V.storable, V.one, partV, cellV, loadV, lenV, retPost, resV, resAll, resOne, Ret, V.flat, V.flat1, V.clean, V.ren, V.ren1, renT, V.le, List.length_cons, List.length_nil, List.replicate, List.cons_append, List.nil_append, List.getElem?_cons_zero, List.getElem?_cons_succ, List.getElem?_toArray, List.getElem?_nil, List.map_cons, List.map_nil, List.zipWith_cons_cons, List.zipWith_nil_left, List.zipWith_nil_right, List.append_nil, List.mem_cons, List.not_mem_nil, List.take_zero, List.drop_zero, Nat.reduceAdd, Nat.reduceSub, Nat.reduceMul, Nat.reduceLT, Nat.reduceLeDiff, Nat.reduceEqDiff, Nat.reduceBEq, Nat.reduceBNe, Nat.zero_add, Nat.add_zero, Int.reduceToNat, Int.reduceLE, Int.reduceLT, Int.reduceEq, Int.reduceNe, Int.reduceNeg, Nat.reducePow, Int.reducePow, Nat.lt_irrefl, Nat.zero_lt_one, cond_true, cond_false, true_and, and_true, and_self, if_true, if_false, Option.map_some, Option.map_none, Option.bind_some, Option.bind_none, Option.isSome_some, Option.some.injEq, Prod.mk.injEq, exists_eq_left', reduceIte, reduceCtorEq, Bool.false_eq_true, Bool.true_and, Bool.and_true, Bool.not_true, Bool.not_false, Bool.or_true, Bool.or_false, Bool.true_or, Bool.false_or, Bool.and_self, Bool.false_and, Bool.and_false, ne_eq, not_false_eq_true, not_true_eq_false, false_or, or_false, forall_eq_or_imp, forall_eq, forall_const, implies_true, List.size_toArray, decide_true, decide_false, beq_self_eq_true, IntKind.bits, IntKind.signed, Array.toList_map, ty2, tk2, ts2, ta2, tu2, tn2, tr2, tz2, tv2, ty3, tk3, ts3, ta3, tu3, tn3, tr3, tz3, tv3, ty4, tk4, ts4, ta4, tu4, tn4, tr4, tz4, tv4, ty5, tk5, ts5, ta5, tu5, tn5, tr5, tz5, tv5, ty9, tk9, ts9, ta9, tu9, tn9, tr9, tz9, tv9, ty22, tk22, ts22, ta22, tb22, te22, tu22, tn22, tr22, tz22, tv22, ty24, tk24, ts24, ta24, tu24, tn24, tr24, tz24, tv24, ty25, tk25, ts25, ta25, tu25, tn25, tr25, tz25, tv25, ty39, tk39, ts39, ta39, tu39, tn39, tr39, tz39, tv39, Try.f11]
    refine awpLoop_intro (α := {x : Nat × Nat // x.1 ≤ b.length ∧ x.1 ≤ 10 ∧ (x.1 ≤ 9 → x.2 < 128 ^ x.1 ∧ takeF b = takeGo (10 - x.1) (128 ^ x.1) x.2 (b.drop x.1)) ∧ (x.1 = 10 → takeF b = (0, [], 6))})
      (fun x => ⟨[.bytes b none, .any, .any, .nils, .any, .int .u64 x.1.2, .int .u64 ((128 ^ x.1.1 % 18446744073709551616 : Nat) : Int), .int .i64 x.1.1, .any, .any, .any, .any, .any, .any, .any, .any, .any, .any, .any, .any, .any, .any, .any, .any, .any, .any, .any, .any, .any, .any, .any, .any, .any, .any, .any, .any, .any, .any, .any, .any, .any, .any, .any, .any, .any, .any, .any, .any, .any, .any, .any, .any, .any, .any, .any, .any, .any], [], []⟩) (fun x => b.length + 1 - x.1.1)
      ⟨(0, 0), by omega, by omega, fun _ => ⟨by simp, by simp [takeF]⟩, fun h => by cases h⟩ ?_ ?_
    · simp (config := { maxSteps := 2000000 }) only [r_step, r_orSome, r_orNone, r_outSome, r_exec, r_opsNil, r_opsCons, r_opsGuard, r_skip, r_label, r_exit, r_goto, r_ret, r_seq, r_block, r_scope, r_ngN, r_ngE, r_ngR, r_loop, r_region, r_draw, r_cond, r_condBool, r_thenN, r_thenE, r_thenG, r_thenR, r_blockN, r_blockE, r_blockG, r_blockR, r_guardT, r_guardF, r_guardU, set8, get8, set_0, get_0, set_1, get_1, set_2, get_2, set_3, get_3, set_4, get_4, set_5, get_5, set_6, get_6, set_7, get_7, ↓r_ifTrue, ↓r_ifFalse, r_ifTrue, r_ifFalse, r_ifNot, r_outD, r_execDcons, r_dNil, r_nextD, r_dCons, r_dGuard, r_dGuardT, r_dGuardF, r_dGuardU, r_stepD, r_orDs, r_orDn, effD, guardAt, leL_cons, leL_nil, le_any, r_le0, r_le1, r_le2, r_leD0, r_leD1, r_leD2, leLL_nil, leLL_cons, V.under, List.take_succ_cons, List.take_nil, true_or, or_true, false_implies, Option.some.injEq, forall_eq', V.bytes.injEq, V.int.injEq, V.bool.injEq, V.str.injEq, V.list.injEq, List.cons.injEq, evalPure, evalEff, evPick, evBin, evUn, evConv, evExtract, evLen, evMin, evMax, evIndexAddr, evLoad, evFieldAddr, evField, evIndex, evSlice, sliceV, evAppend, evMake, evBuildSlice, bytesOf, allOk, seqFrom, evBox, evAlloc, evStore, evBuild, fillV, setSeg, evCall, callArgs, castV, binInt, binStr, setO, evOp, V.ofV, V.ofV1, V.top, V.drop, V.up, V.up1, V.cells, V.storable, V.one, partV, cellV, loadV, lenV, retPost, resV, resAll, resOne, Ret, V.flat, V.flat1, V.clean, V.ren, V.ren1, renT, V.le, List.length_cons, List.length_nil, List.replicate, List.cons_append, List.nil_append, List.getElem?_cons_zero, List.getElem?_cons_succ, List.getElem?_toArray, List.getElem?_nil, List.map_cons, List.map_nil, List.zipWith_cons_cons, List.zipWith_nil_left, List.zipWith_nil_right, List.append_nil, List.mem_cons, List.not_mem_nil, List.take_zero, List.drop_zero, Nat.reduceAdd, Nat.reduceSub, Nat.reduceMul, Nat.reduceLT, Nat.reduceLeDiff, Nat.reduceEqDiff, Nat.reduceBEq, Nat.reduceBNe, Nat.zero_add, Nat.add_zero, Int.reduceToNat, Int.reduceLE, Int.reduceLT, Int.reduceEq, Int.reduceNe, Int.reduceNeg, Nat.reducePow, Int.reducePow, Nat.lt_irrefl, Nat.zero_lt_one, cond_true, cond_false, true_and, and_true, and_self, if_true, if_false, Option.map_some, Option.map_none, Option.bind_some, Option.bind_none, Option.isSome_some, Option.some.injEq, Prod.mk.injEq, exists_eq_left', reduceIte, reduceCtorEq, Bool.false_eq_true, Bool.true_and, Bool.and_true, Bool.not_true, Bool.not_false, Bool.or_true, Bool.or_false, Bool.true_or, Bool.false_or, Bool.and_self, Bool.false_and, Bool.and_false, ne_eq, not_false_eq_true, not_true_eq_false, false_or, or_false, forall_eq_or_imp, forall_eq, forall_const, implies_true, List.size_toArray, decide_true, decide_false, beq_self_eq_true, IntKind.bits, IntKind.signed, Array.toList_map, ty2, tk2, ts2, ta2, tu2, tn2, tr2, tz2, tv2, ty3, tk3, ts3, ta3, tu3, tn3, tr3, tz3, tv3, ty4, tk4, ts4, ta4, tu4, tn4, tr4, tz4, tv4, ty5, tk5, ts5, ta5, tu5, tn5, tr5, tz5, tv5, ty9, tk9, ts9, ta9, tu9, tn9, tr9, tz9, tv9, ty22, tk22, ts22, ta22, tb22, te22, tu22, tn22, tr22, tz22, tv22, ty24, tk24, ts24, ta24, tu24, tn24, tr24, tz24, tv24, ty25, tk25, ts25, ta25, tu25, tn25, tr25, tz25, tv25, ty39, tk39, ts39, ta39, tu39, tn39, tr39, tz39, tv39]
      simp
    · rintro ⟨⟨i, acc⟩, h1, h2, h3, h4⟩
      simp (config := { maxSteps := 2000000 }) only [r_step, r_orSome, r_orNone, r_outSome, r_exec, r_opsNil, r_opsCons, r_opsGuard, r_skip, r_label, r_exit, r_goto, r_ret, r_seq, r_block, r_scope, r_ngN, r_ngE, r_ngR, r_loop, r_region, r_draw, r_cond, r_condBool, r_thenN, r_thenE, r_thenG, r_thenR, r_blockN, r_blockE, r_blockG, r_blockR, r_guardT, r_guardF, r_guardU, set8, get8, set_0, get_0, set_1, get_1, set_2, get_2, set_3, get_3, set_4, get_4, set_5, get_5, set_6, get_6, set_7, get_7, ↓r_ifTrue, ↓r_ifFalse, r_ifTrue, r_ifFalse, r_ifNot, r_outD, r_execDcons, r_dNil, r_nextD, r_dCons, r_dGuard, r_dGuardT, r_dGuardF, r_dGuardU, r_stepD, r_orDs, r_orDn, effD, guardAt, leL_cons, leL_nil, le_any, r_le0, r_le1, r_le2, r_leD0, r_leD1, r_leD2, leLL_nil, leLL_cons, V.under, List.take_succ_cons, List.take_nil, true_or, or_true, false_implies, Option.some.injEq, forall_eq', V.bytes.injEq, V.int.injEq, V.bool.injEq, V.str.injEq, V.list.injEq, List.cons.injEq, evalPure, evalEff, evPick, evBin, evUn, evConv, evExtract, evLen, evMin, evMax, evIndexAddr, evLoad, evFieldAddr, evField, evIndex, evSlice, sliceV, evAppend, evMake, evBuildSlice, bytesOf, allOk, seqFrom, evBox, evAlloc, evStore, evBuild, fillV, setSeg, evCall, callArgs, castV, binInt, binStr, setO, evOp, V.ofV, V.ofV1, V.top, V.drop, V.up, V.up1, V.cells, V.storable, V.one, partV, cellV, loadV, lenV, retPost, resV, resAll, resOne, Ret, V.flat, V.flat1, V.clean, V.ren, V.ren1, renT, V.le, List.length_cons, List.length_nil, List.replicate, List.cons_append, List.nil_append, List.getElem?_cons_zero, List.getElem?_cons_succ, List.getElem?_toArray, List.getElem?_nil, List.map_cons, List.map_nil, List.zipWith_cons_cons, List.zipWith_nil_left, List.zipWith_nil_right, List.append_nil, List.mem_cons, List.not_mem_nil, List.take_zero, List.drop_zero, Nat.reduceAdd, Nat.reduceSub, Nat.reduceMul, Nat.reduceLT, Nat.reduceLeDiff, Nat.reduceEqDiff, Nat.reduceBEq, Nat.reduceBNe, Nat.zero_add, Nat.add_zero, Int.reduceToNat, Int.reduceLE, Int.reduceLT, Int.reduceEq, Int.reduceNe, Int.reduceNeg, Nat.reducePow, Int.reducePow, Nat.lt_irrefl, Nat.zero_lt_one, cond_true, cond_false, true_and, and_true, and_self, if_true, if_false, Option.map_some, Option.map_none, Option.bind_some, Option.bind_none, Option.isSome_some, Option.some.injEq, Prod.mk.injEq, exists_eq_left', reduceIte, reduceCtorEq, Bool.false_eq_true, Bool.true_and, Bool.and_true, Bool.not_true, Bool.not_false, Bool.or_true, Bool.or_false, Bool.true_or, Bool.false_or, Bool.and_self, Bool.false_and, Bool.and_false, ne_eq, not_false_eq_true, not_true_eq_false, false_or, or_false, forall_eq_or_imp, forall_eq, forall_const, implies_true, List.size_toArray, decide_true, decide_false, beq_self_eq_true, IntKind.bits, IntKind.signed, Array.toList_map, ty2, tk2, ts2, ta2, tu2, tn2, tr2, tz2, tv2, ty3, tk3, ts3, ta3, tu3, tn3, tr3, tz3, tv3, ty4, tk4, ts4, ta4, tu4, tn4, tr4, tz4, tv4, ty5, tk5, ts5, ta5, tu5, tn5, tr5, tz5, tv5, ty9, tk9, ts9, ta9, tu9, tn9, tr9, tz9, tv9, ty22, tk22, ts22, ta22, tb22, te22, tu22, tn22, tr22, tz22, tv22, ty24, tk24, ts24, ta24, tu24, tn24, tr24, tz24, tv24, ty25, tk25, ts25, ta25, tu25, tn25, tr25, tz25, tv25, ty39, tk39, ts39, ta39, tu39, tn39, tr39, tz39, tv39]
      simp only at h1 h2 h3 h4
      have fin6 : takeF b = (0, [], 6) → (0 : Int) = ((takeF b).1 : Int) ∧ (takeF b).2.1 = [] ∧ (6 : Int) = (takeF b).2.2 := fun e => by rw [e]; exact ⟨rfl, rfl, rfl⟩
      refine awpIf_intro (fun h => ?_) (fun h => ?_)
      · simp only [decide_eq_true_eq] at h
        obtain ⟨h3, h5⟩ := h3 (by omega)
        clear h4
        refine awpIf_intro (fun h' => ?_) (fun h' => ?_)
        · simp only [decide_eq_true_eq] at h'
          have hi : i = b.length := by omega
          have : takeF b = (0, [], 5) := by
            rw [h5, hi, List.drop_length]
            obtain ⟨k, hk⟩ : ∃ k, 10 - b.length = k + 1 := ⟨9 - b.length, by omega⟩
            rw [hk, takeGo]
          rw [this]
          exact ⟨rfl, rfl, rfl⟩
        simp only [decide_eq_false_iff_not] at h'
        simp only [Int.toNat_natCast]
        obtain ⟨c, l, hd⟩ : ∃ c l, b.drop i = c :: l := by
          cases hd : b.drop i with
          | nil => have := congrArg List.length hd; simp at this; omega
          | cons c l => exact ⟨c, l, rfl⟩
        have hl : b.drop (i + 1) = l := by have := congrArg (List.drop 1) hd; simpa [Nat.add_comm] using this
        have hg : b.getD i 0 = c := by
          have : (b.drop i)[0]? = some c := by rw [hd]; rfl
          rw [List.getElem?_drop] at this
          simp only [Nat.add_zero] at this
          rw [List.getD_eq_getElem?_getD, this]; rfl
        have hc := c.toNat_lt
        obtain ⟨k, hk⟩ : ∃ k, 10 - i = k + 1 := ⟨9 - i, by omega⟩
        have hll : l.length = b.length - (i + 1) := by rw [← hl, List.length_drop]
        have hni : (IntKind.i64.wrap ((i : Int) + 1)) = ((i + 1 : Nat) : Int) := by rw [i64w (by omega) (by omega)]; omega
        have hwc : IntKind.u64.wrap (c.toNat : Int) = (c.toNat : Int) := u64w (by omega) (by omega)
        have h128 : 128 ^ i ≤ 128 ^ 9 := Nat.pow_le_pow_right (by omega) (by omega)
        have e9 : (128 : Nat) ^ 9 = 9223372036854775808 := by decide
        have hw : 128 ^ i % 18446744073709551616 = 128 ^ i := Nat.mod_eq_of_lt (by omega)
        have hww : IntKind.u64.wrap (((128 ^ i : Nat) : Int) * 128) = ((128 ^ (i + 1) % 18446744073709551616 : Nat) : Int) := by
          rw [u64wrap, Nat.pow_succ]; omega
        rw [hd, hk, takeGo] at h5
        simp only [hg, hni, hwc, hw, hww, Int.toNat_natCast, hl]
        refine ⟨by omega, ?_⟩
        have bad : c.toNat < 128 → ((c.toNat = 0 ∧ k < 9) ∨ (k = 0 ∧ 1 < c.toNat)) → takeF b = (0, [], 6) := fun a d => by rw [h5, if_pos a, if_pos d]
        have fin : c.toNat < 128 → ¬ ((c.toNat = 0 ∧ k < 9) ∨ (k = 0 ∧ 1 < c.toNat)) → IntKind.u64.wrap ((acc : Int) + IntKind.u64.wrap ((c.toNat : Int) * ((128 ^ i : Nat) : Int))) = ((takeF b).1 : Int) ∧ l = (takeF b).2.1 ∧ (0 : Int) = (takeF b).2.2 := fun a d => by
          rw [h5, if_pos a, if_neg d]
          have hb : acc + c.toNat * 128 ^ i < 18446744073709551616 := by
            by_cases hi : i = 9
            · subst hi
              have : c.toNat = 0 ∨ c.toNat = 1 := by omega
              rcases this with e | e <;> rw [e] <;> omega
            · have h6 : 128 ^ i ≤ 128 ^ 8 := Nat.pow_le_pow_right (by omega) (by omega)
              have h7 : c.toNat * 128 ^ i ≤ 127 * 128 ^ i := Nat.mul_le_mul_right _ (by omega)
              have h8 : (128 : Nat) ^ 8 = 72057594037927936 := by decide
              omega
          have hm : (c.toNat : Int) * ((128 ^ i : Nat) : Int) = ((c.toNat * 128 ^ i : Nat) : Int) := by rw [Int.natCast_mul]
          rw [hm, u64w (n := ((c.toNat * 128 ^ i : Nat) : Int)) (by omega) (by omega), u64w (by omega) (by omega)]
          exact ⟨by omega, rfl, rfl⟩
        have rnd : ¬ c.toNat < 128 → ∃ a' : {x : Nat × Nat // x.1 ≤ b.length ∧ x.1 ≤ 10 ∧ (x.1 ≤ 9 → x.2 < 128 ^ x.1 ∧ takeF b = takeGo (10 - x.1) (128 ^ x.1) x.2 (b.drop x.1)) ∧ (x.1 = 10 → takeF b = (0, [], 6))},
            (IntKind.u64.wrap ((acc : Int) + IntKind.u64.wrap (IntKind.u64.wrap ((c.toNat : Int) - 128) * ((128 ^ i : Nat) : Int))) = (a'.1.2 : Int) ∧ ((128 ^ (i + 1) % 18446744073709551616 : Nat) : Int) = ((128 ^ a'.1.1 % 18446744073709551616 : Nat) : Int) ∧ ((i + 1 : Nat) : Int) = (a'.1.1 : Int)) ∧ b.length + 1 - a'.1.1 < b.length + 1 - i := fun a => by
          rw [if_neg a] at h5
          have e1 : IntKind.u64.wrap ((c.toNat : Int) - 128) = ((c.toNat - 128 : Nat) : Int) := by rw [u64w (by omega) (by omega)]; omega
          have hm : ((c.toNat - 128 : Nat) : Int) * ((128 ^ i : Nat) : Int) = (((c.toNat - 128) * 128 ^ i : Nat) : Int) := by rw [Int.natCast_mul]
          have h7 : (c.toNat - 128) * 128 ^ i ≤ 127 * 128 ^ i := Nat.mul_le_mul_right _ (by omega)
          rw [e1, hm, u64wrap, u64wrap]
          refine ⟨⟨(i + 1, ((acc : Int) + (((c.toNat - 128) * 128 ^ i : Nat) : Int) % 18446744073709551616).toNat % 18446744073709551616), by omega, by omega, fun h9 => ?_, fun h9 => ?_⟩, ⟨by simp only; omega, rfl, rfl⟩, by show b.length + 1 - (i + 1) < _; omega⟩
          · have h9' : i ≤ 8 := by simpa using h9
            have h6 : 128 ^ i ≤ 128 ^ 8 := Nat.pow_le_pow_right (by omega) h9'
            have h8 : (128 : Nat) ^ 8 = 72057594037927936 := by decide
            have e2 : ((acc : Int) + (((c.toNat - 128) * 128 ^ i : Nat) : Int) % 18446744073709551616).toNat % 18446744073709551616 = acc + (c.toNat - 128) * 128 ^ i := by omega
            simp only [e2]
            refine ⟨by rw [Nat.pow_succ]; omega, ?_⟩
            rw [h5, hl, Nat.pow_succ]
            congr 1
            omega
          · have h9' : i + 1 = 10 := h9
            have : k = 0 := by omega
            subst this
            rw [h5]; rfl
        clear h5 hd hl hg hni h3 hwc hw hww h128 e9
        generalize c.toNat = e at *
        refine awpIf_intro (fun h => ?_) (fun h => ?_)
        · repeat' refine awpIf_intro (fun h => ?_) (fun h => ?_)
          all_goals simp only [decide_eq_true_eq, decide_eq_false_iff_not] at *
          all_goals first
            | (exfalso; clear fin6 bad fin rnd; omega)
            | (refine fin6 (bad ?_ ?_) <;> clear fin6 bad fin rnd <;> omega)
            | exact ⟨(by clear fin6 bad fin rnd; omega), mb _ (by clear fin6 bad fin rnd; omega), fin (by clear fin6 bad fin rnd; omega) (by clear fin6 bad fin rnd; omega)⟩
        · simp only [decide_eq_false_iff_not] at h
          exact rnd (by clear fin6 bad fin rnd; omega)
      · simp only [decide_eq_false_iff_not] at h
        exact fin6 (h4 (by omega))
  · cases hm
theorem runfix_ok : FSound Try.prog 13 unfixM := by
  refine fsound tysOk G0ok mix Try.func13 rfl ?_
  intro args p r fr hm hp
  unfold unfixM at hm
  split at hm
  · rename_i b t size
    cases hm
    simp (config := { maxSteps := 2000000 }) only [r_step, r_orSome, r_orNone, r_outSome, r_exec, r_opsNil, r_opsCons, r_opsGuard, r_skip, r_label, r_exit, r_goto, r_ret, r_seq, r_block, r_scope, r_ngN, r_ngE, r_ngR, r_loop, r_region, r_draw, r_cond, r_condBool, r_thenN, r_thenE, r_thenG, r_thenR, r_blockN, r_blockE, r_blockG, r_blockR, r_guardT, r_guardF, r_guardU, set8, get8, set_0, get_0, set_1, get_1, set_2, get_2, set_3, get_3, set_4, get_4, set_5, get_5, set_6, get_6, set_7, get_7, ↓r_ifTrue, ↓r_ifFalse, r_ifTrue, r_ifFalse, r_ifNot, r_outD, r_execDcons, r_dNil, r_nextD, r_dCons, r_dGuard, r_dGuardT, r_dGuardF, r_dGuardU, r_stepD, r_orDs, r_orDn, effD, guardAt, leL_cons, leL_nil, le_any, r_le0, r_le1, r_le2, r_leD0, r_leD1, r_leD2, leLL_nil, leLL_cons, V.under, List.take_succ_cons, List.take_nil, true_or, or_true, false_implies, Option.some.injEq, forall_eq', V.bytes.injEq, V.int.injEq, V.bool.injEq, V.str.injEq, V.list.injEq, List.cons.injEq, evalPure, evalEff, evPick, evBin, evUn, evConv, evExtract, evLen, evMin, evMax, evIndexAddr, evLoad, evFieldAddr, evField, evIndex, evSlice, sliceV, evAppend, evMake, evBuildSlice, bytesOf, allOk, seqFrom, evBox, evAlloc, evStore, evBuild, fillV, setSeg, evCall, callArgs, castV, binInt, binStr, setO, evOp, V.ofV, V.ofV1, V.top, V.drop, V.up, V.up1, V.cells, V.storable, V.one, partV, cellV, loadV, lenV, retPost, resV, resAll, resOne, Ret, V.flat, V.flat1, V.clean, V.ren, V.ren1, renT, V.le, List.length_cons, List.length_nil, List.replicate, List.cons_append, List.nil_append, List.getElem?_cons_zero, List.getElem?_cons_succ, List.getElem?_toArray, List.getElem?_nil, List.map_cons, List.map_nil, List.zipWith_cons_cons, List.zipWith_nil_left, List.zipWith_nil_right, List.append_nil, List.mem_cons, List.not_mem_nil, List.take_zero, List.drop_zero, Nat.reduceAdd, Nat.reduceSub, Nat.reduceMul, Nat.reduceLT, Nat.reduceLeDiff, Nat.reduceEqDiff, Nat.reduceBEq, Nat.reduceBNe, Nat.zero_add, Nat.add_zero, Int.reduceToNat, Int.reduceLE, Int.reduceLT, Int.reduceEq, Int.reduceNe, Int.reduceNeg, Nat.reducePow, Int.reducePow, Nat.lt_irrefl, Nat.zero_lt_one, cond_true, cond_false, true_and, and_true, and_self, if_true, if_false, Option.map_some, Option.map_none, Option.bind_some, Option.bind_none, Option.isSome_some, Option.some.injEq, Prod.mk.injEq, exists_eq_left', reduceIte, reduceCtorEq, Bool.false_eq_true, Bool.true_and, Bool.and_true, Bool.not_true, Bool.not_false, Bool.or_true, Bool.or_false, Bool.true_or, Bool.false_or, Bool.and_self, Bool.false_and, Bool.and_false, ne_eq, not_false_eq_true, not_true_eq_false, false_or, or_false, forall_eq_or_imp, forall_eq, forall_const, implies_true, List.size_toArray, decide_true, decide_false, beq_self_eq_true, IntKind.bits, IntKind.signed, Array.toList_map, ty2, tk2, ts2, ta2, tu2, tn2, tr2, tz2, tv2, ty3, tk3, ts3, ta3, tu3, tn3, tr3, tz3, tv3, ty4, tk4, ts4, ta4, tu4, tn4, tr4, tz4, tv4, ty5, tk5, ts5, ta5, tu5, tn5, tr5, tz5, tv5, ty9, tk9, ts9, ta9, tu9, tn9, tr9, tz9, tv9, ty22, tk22, ts22, ta22, tb22, te22, tu22, tn22, tr22, tz22, tv22, ty24, tk24, ts24, ta24, tu24, tn24, tr24, tz24, tv24, ty25, tk25, ts25, ta25, tu25, tn25, tr25, tz25, tv25, ty39, tk39, ts39, ta39, tu39, tn39, tr39, tz39, tv39, Try.f13]
    refine awpIf_intro (fun h => ?_) (fun h => ?_)
    · simp only [decide_eq_true_eq] at h
      rw [show unfixF b size = (0, [], 1) by unfold unfixF; rw [if_neg (by omega)]]
      exact ⟨rfl, rfl, rfl⟩
    simp only [decide_eq_false_iff_not] at h
    refine awpIf_intro (fun h => ?_) (fun h => ?_)
    · simp only [decide_eq_true_eq] at h
      rw [show unfixF b size = (0, [], 1) by unfold unfixF; rw [if_neg (by omega)]]
      exact ⟨rfl, rfl, rfl⟩
    rename_i h1
    simp only [decide_eq_false_iff_not] at h
    have hs : 1 ≤ size ∧ size ≤ 8 := by omega
    refine awpIf_intro (fun h => ?_) (fun h => ?_)
    · simp only [decide_eq_true_eq] at h
      rw [show unfixF b size = (0, [], 5) by unfold unfixF; rw [if_pos hs, if_pos h]]
      exact ⟨rfl, rfl, rfl⟩
    simp only [decide_eq_false_iff_not] at h
    obtain ⟨s, rfl⟩ := Int.eq_ofNat_of_zero_le (show 0 ≤ size by omega)
    have hu : unfixF b s = (beVal 0 (b.take s), b.drop s, 0) := by unfold unfixF; rw [if_pos hs, if_neg h]; rfl
    refine awpLoop_intro (α := {k : Nat // k ≤ s})
      (fun k => ⟨[.bytes b none, .int .i64 s, .any, .any, .any, .nils, .any, .int .u64 (beVal 0 (b.take k.1)), .int .i64 k.1, .any, .any, .any, .any, .any, .any, .any, .any, .any, .any, .any, .any, .any, .any, .any, .any, .any, .any, .any, .any, .any, .any, .any, .any, .any, .any, .any, .any, .any], [], []⟩) (fun k => s - k.1)
      ⟨0, by omega⟩ ?_ ?_
    · simp (config := { maxSteps := 2000000 }) only [r_step, r_orSome, r_orNone, r_outSome, r_exec, r_opsNil, r_opsCons, r_opsGuard, r_skip, r_label, r_exit, r_goto, r_ret, r_seq, r_block, r_scope, r_ngN, r_ngE, r_ngR, r_loop, r_region, r_draw, r_cond, r_condBool, r_thenN, r_thenE, r_thenG, r_thenR, r_blockN, r_blockE, r_blockG, r_blockR, r_guardT, r_guardF, r_guardU, set8, get8, set_0, get_0, set_1, get_1, set_2, get_2, set_3, get_3, set_4, get_4, set_5, get_5, set_6, get_6, set_7, get_7, ↓r_ifTrue, ↓r_ifFalse, r_ifTrue, r_ifFalse, r_ifNot, r_outD, r_execDcons, r_dNil, r_nextD, r_dCons, r_dGuard, r_dGuardT, r_dGuardF, r_dGuardU, r_stepD, r_orDs, r_orDn, effD, guardAt, leL_cons, leL_nil, le_any, r_le0, r_le1, r_le2, r_leD0, r_leD1, r_leD2, leLL_nil, leLL_cons, V.under, List.take_succ_cons, List.take_nil, true_or, or_true, false_implies, Option.some.injEq, forall_eq', V.bytes.injEq, V.int.injEq, V.bool.injEq, V.str.injEq, V.list.injEq, List.cons.injEq, evalPure, evalEff, evPick, evBin, evUn, evConv, evExtract, evLen, evMin, evMax, evIndexAddr, evLoad, evFieldAddr, evField, evIndex, evSlice, sliceV, evAppend, evMake, evBuildSlice, bytesOf, allOk, seqFrom, evBox, evAlloc, evStore, evBuild, fillV, setSeg, evCall, callArgs, castV, binInt, binStr, setO, evOp, V.ofV, V.ofV1, V.top, V.drop, V.up, V.up1, V.cells, V.storable, V.one, partV, cellV, loadV, lenV, retPost, resV, resAll, resOne, Ret, V.flat, V.flat1, V.clean, V.ren, V.ren1, renT, V.le, List.length_cons, List.length_nil, List.replicate, List.cons_append, List.nil_append, List.getElem?_cons_zero, List.getElem?_cons_succ, List.getElem?_toArray, List.getElem?_nil, List.map_cons, List.map_nil, List.zipWith_cons_cons, List.zipWith_nil_left, List.zipWith_nil_right, List.append_nil, List.mem_cons, List.not_mem_nil, List.take_zero, List.drop_zero, Nat.reduceAdd, Nat.reduceSub, Nat.reduceMul, Nat.reduceLT, Nat.reduceLeDiff, Nat.reduceEqDiff, Nat.reduceBEq, Nat.reduceBNe, Nat.zero_add, Nat.add_zero, Int.reduceToNat, Int.reduceLE, Int.reduceLT, Int.reduceEq, Int.reduceNe, Int.reduceNeg, Nat.reducePow, Int.reducePow, Nat.lt_irrefl, Nat.zero_lt_one, cond_true, cond_false, true_and, and_true, and_self, if_true, if_false, Option.map_some, Option.map_none, Option.bind_some, Option.bind_none, Option.isSome_some, Option.some.injEq, Prod.mk.injEq, exists_eq_left', reduceIte, reduceCtorEq, Bool.false_eq_true, Bool.true_and, Bool.and_true, Bool.not_true, Bool.not_false, Bool.or_true, Bool.or_false, Bool.true_or, Bool.false_or, Bool.and_self, Bool.false_and, Bool.and_false, ne_eq, not_false_eq_true, not_true_eq_false, false_or, or_false, forall_eq_or_imp, forall_eq, forall_const, implies_true, List.size_toArray, decide_true, decide_false, beq_self_eq_true, IntKind.bits, IntKind.signed, Array.toList_map, ty2, tk2, ts2, ta2, tu2, tn2, tr2, tz2, tv2, ty3, tk3, ts3, ta3, tu3, tn3, tr3, tz3, tv3, ty4, tk4, ts4, ta4, tu4, tn4, tr4, tz4, tv4, ty5, tk5, ts5, ta5, tu5, tn5, tr5, tz5, tv5, ty9, tk9, ts9, ta9, tu9, tn9, tr9, tz9, tv9, ty22, tk22, ts22, ta22, tb22, te22, tu22, tn22, tr22, tz22, tv22, ty24, tk24, ts24, ta24, tu24, tn24, tr24, tz24, tv24, ty25, tk25, ts25, ta25, tu25, tn25, tr25, tz25, tv25, ty39, tk39, ts39, ta39, tu39, tn39, tr39, tz39, tv39]
      simp [beVal]
    · rintro ⟨k, hk⟩
      simp (config := { maxSteps := 2000000 }) only [r_step, r_orSome, r_orNone, r_outSome, r_exec, r_opsNil, r_opsCons, r_opsGuard, r_skip, r_label, r_exit, r_goto, r_ret, r_seq, r_block, r_scope, r_ngN, r_ngE, r_ngR, r_loop, r_region, r_draw, r_cond, r_condBool, r_thenN, r_thenE, r_thenG, r_thenR, r_blockN, r_blockE, r_blockG, r_blockR, r_guardT, r_guardF, r_guardU, set8, get8, set_0, get_0, set_1, get_1, set_2, get_2, set_3, get_3, set_4, get_4, set_5, get_5, set_6, get_6, set_7, get_7, ↓r_ifTrue, ↓r_ifFalse, r_ifTrue, r_ifFalse, r_ifNot, r_outD, r_execDcons, r_dNil, r_nextD, r_dCons, r_dGuard, r_dGuardT, r_dGuardF, r_dGuardU, r_stepD, r_orDs, r_orDn, effD, guardAt, leL_cons, leL_nil, le_any, r_le0, r_le1, r_le2, r_leD0, r_leD1, r_leD2, leLL_nil, leLL_cons, V.under, List.take_succ_cons, List.take_nil, true_or, or_true, false_implies, Option.some.injEq, forall_eq', V.bytes.injEq, V.int.injEq, V.bool.injEq, V.str.injEq, V.list.injEq, List.cons.injEq, evalPure, evalEff, evPick, evBin, evUn, evConv, evExtract, evLen, evMin, evMax, evIndexAddr, evLoad, evFieldAddr, evField, evIndex, evSlice, sliceV, evAppend, evMake, evBuildSlice, bytesOf, allOk, seqFrom, evBox, evAlloc, evStore, evBuild, fillV, setSeg, evCall, callArgs, castV, binInt, binStr, setO, evOp, V.ofV, V.ofV1, V.top, V.drop, V.up, V.up1, V.cells, V.storable, V.one, partV, cellV, loadV, lenV, retPost, resV, resAll, resOne, Ret, V.flat, V.flat1, V.clean, V.ren, V.ren1, renT, V.le, List.length_cons, List.length_nil, List.replicate, List.cons_append, List.nil_append, List.getElem?_cons_zero, List.getElem?_cons_succ, List.getElem?_toArray, List.getElem?_nil, List.map_cons, List.map_nil, List.zipWith_cons_cons, List.zipWith_nil_left, List.zipWith_nil_right, List.append_nil, List.mem_cons, List.not_mem_nil, List.take_zero, List.drop_zero, Nat.reduceAdd, Nat.reduceSub, Nat.reduceMul, Nat.reduceLT, Nat.reduceLeDiff, Nat.reduceEqDiff, Nat.reduceBEq, Nat.reduceBNe, Nat.zero_add, Nat.add_zero, Int.reduceToNat, Int.reduceLE, Int.reduceLT, Int.reduceEq, Int.reduceNe, Int.reduceNeg, Nat.reducePow, Int.reducePow, Nat.lt_irrefl, Nat.zero_lt_one, cond_true, cond_false, true_and, and_true, and_self, if_true, if_false, Option.map_some, Option.map_none, Option.bind_some, Option.bind_none, Option.isSome_some, Option.some.injEq, Prod.mk.injEq, exists_eq_left', reduceIte, reduceCtorEq, Bool.false_eq_true, Bool.true_and, Bool.and_true, Bool.not_true, Bool.not_false, Bool.or_true, Bool.or_false, Bool.true_or, Bool.false_or, Bool.and_self, Bool.false_and, Bool.and_false, ne_eq, not_false_eq_true, not_true_eq_false, false_or, or_false, forall_eq_or_imp, forall_eq, forall_const, implies_true, List.size_toArray, decide_true, decide_false, beq_self_eq_true, IntKind.bits, IntKind.signed, Array.toList_map, ty2, tk2, ts2, ta2, tu2, tn2, tr2, tz2, tv2, ty3, tk3, ts3, ta3, tu3, tn3, tr3, tz3, tv3, ty4, tk4, ts4, ta4, tu4, tn4, tr4, tz4, tv4, ty5, tk5, ts5, ta5, tu5, tn5, tr5, tz5, tv5, ty9, tk9, ts9, ta9, tu9, tn9, tr9, tz9, tv9, ty22, tk22, ts22, ta22, tb22, te22, tu22, tn22, tr22, tz22, tv22, ty24, tk24, ts24, ta24, tu24, tn24, tr24, tz24, tv24, ty25, tk25, ts25, ta25, tu25, tn25, tr25, tz25, tv25, ty39, tk39, ts39, ta39, tu39, tn39, tr39, tz39, tv39]
      refine awpIf_intro (fun h' => ?_) (fun h' => ?_) <;> simp only [decide_eq_true_eq, decide_eq_false_iff_not] at h'
      · refine ⟨by omega, ⟨k + 1, by omega⟩, ⟨?_, by rw [i64w (by omega) (by omega)]; simp⟩, by simp only; omega⟩
        have hb := beVal_take_lt b k 7 (by omega)
        have hc := (b.getD k 0).toNat_lt
        have e7 : (256 : Nat) ^ 7 = 72057594037927936 := by decide
        simp only [Int.toNat_natCast]
        rw [u64w (n := ((b.getD k 0).toNat : Int)) (by omega) (by omega), u64w (n := (beVal 0 (b.take k) : Int) * 256) (by omega) (by omega), u64w (by omega) (by omega), beVal_succ b k (by omega)]
        omega
      · have hk : k = s := by omega
        subst hk
        simp only [Int.toNat_natCast, hu]
        exact ⟨by omega, mb _ (by rw [List.length_drop]; omega), trivial, trivial, trivial⟩
  · cases hm
def someM : FM
  | [.bytes b _] => some (True, .bytes (b.take 200) none, [])
  | _ => none
theorem some_ok : FSound Try.prog 9 someM := by
  refine fsound tysOk G0ok mix Try.func9 rfl ?_
  intro args p r fr hm hp
  unfold someM at hm
  split at hm
  · rename_i b t
    cases hm
    simp (config := { maxSteps := 2000000 }) only [r_step, r_orSome, r_orNone, r_outSome, r_exec, r_opsNil, r_opsCons, r_opsGuard, r_skip, r_label, r_exit, r_goto, r_ret, r_seq, r_block, r_scope, r_ngN, r_ngE, r_ngR, r_loop, r_region, r_draw, r_cond, r_condBool, r_thenN, r_thenE, r_thenG, r_thenR, r_blockN, r_blockE, r_blockG, r_blockR, r_guardT, r_guardF, r_guardU, set8, get8, set_0, get_0, set_1, get_1, set_2, get_2, set_3, get_3, set_4, get_4, set_5, get_5, set_6, get_6, set_7, get_7, ↓r_ifTrue, ↓r_ifFalse, r_ifTrue, r_ifFalse, r_ifNot, r_outD, r_execDcons, r_dNil, r_nextD, r_dCons, r_dGuard, r_dGuardT, r_dGuardF, r_dGuardU, r_stepD, r_orDs, r_orDn, effD, guardAt, leL_cons, leL_nil, le_any, r_le0, r_le1, r_le2, r_leD0, r_leD1, r_leD2, leLL_nil, leLL_cons, V.under, List.take_succ_cons, List.take_nil, true_or, or_true, false_implies, Option.some.injEq, forall_eq', V.bytes.injEq, V.int.injEq, V.bool.injEq, V.str.injEq, V.list.injEq, List.cons.injEq, evalPure, evalEff, evPick, evBin, evUn, evConv, evExtract, evLen, evMin, evMax, evIndexAddr, evLoad, evFieldAddr, evField, evIndex, evSlice, sliceV, evAppend, evMake, evBuildSlice, bytesOf, allOk, seqFrom, evBox, evAlloc, evStore, evBuild, fillV, setSeg, evCall, callArgs, castV, binInt, binStr, setO, evOp, V.ofV, V.ofV1, V.top, V.drop, V.up, V.up1, V.cells, V.storable, V.one, partV, cellV, loadV, lenV, retPost, resV, resAll, resOne, Ret, V.flat, V.flat1, V.clean, V.ren, V.ren1, renT, V.le, List.length_cons, List.length_nil, List.replicate, List.cons_append, List.nil_append, List.getElem?_cons_zero, List.getElem?_cons_succ, List.getElem?_toArray, List.getElem?_nil, List.map_cons, List.map_nil, List.zipWith_cons_cons, List.zipWith_nil_left, List.zipWith_nil_right, List.append_nil, List.mem_cons, List.not_mem_nil, List.take_zero, List.drop_zero, Nat.reduceAdd, Nat.reduceSub, Nat.reduceMul, Nat.reduceLT, Nat.reduceLeDiff, Nat.reduceEqDiff, Nat.reduceBEq, Nat.reduceBNe, Nat.zero_add, Nat.add_zero, Int.reduceToNat, Int.reduceLE, Int.reduceLT, Int.reduceEq, Int.reduceNe, Int.reduceNeg, Nat.reducePow, Int.reducePow, Nat.lt_irrefl, Nat.zero_lt_one, cond_true, cond_false, true_and, and_true, and_self, if_true, if_false, Option.map_some, Option.map_none, Option.bind_some, Option.bind_none, Option.isSome_some, Option.some.injEq, Prod.mk.injEq, exists_eq_left', reduceIte, reduceCtorEq, Bool.false_eq_true, Bool.true_and, Bool.and_true, Bool.not_true, Bool.not_false, Bool.or_true, Bool.or_false, Bool.true_or, Bool.false_or, Bool.and_self, Bool.false_and, Bool.and_false, ne_eq, not_false_eq_true, not_true_eq_false, false_or, or_false, forall_eq_or_imp, forall_eq, forall_const, implies_true, List.size_toArray, decide_true, decide_false, beq_self_eq_true, IntKind.bits, IntKind.signed, Array.toList_map, ty2, tk2, ts2, ta2, tu2, tn2, tr2, tz2, tv2, ty3, tk3, ts3, ta3, tu3, tn3, tr3, tz3, tv3, ty4, tk4, ts4, ta4, tu4, tn4, tr4, tz4, tv4, ty5, tk5, ts5, ta5, tu5, tn5, tr5, tz5, tv5, ty9, tk9, ts9, ta9, tu9, tn9, tr9, tz9, tv9, ty22, tk22, ts22, ta22, tb22, te22, tu22, tn22, tr22, tz22, tv22, ty24, tk24, ts24, ta24, tu24, tn24, tr24, tz24, tv24, ty25, tk25, ts25, ta25, tu25, tn25, tr25, tz25, tv25, ty39, tk39, ts39, ta39, tu39, tn39, tr39, tz39, tv39, Try.f9]
    refine ⟨by omega, ?_⟩
    by_cases h : 200 < b.length
    · rw [if_pos (by omega)]; rfl
    · rw [if_neg (by omega), List.take_of_length_le (by omega), List.take_of_length_le (by omega)]
  · cases hm
end Go.Proofs.Ytljmfemcfkhehaa.Vary
