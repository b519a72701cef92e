/-
  PACKAGE vary AND ITS REFERENCE: what each function answers.
-/
import Derived.Test.YtpoghlfkokedpaaProg
import Derived.Test.YtpoghlfkokedpaaVaryM
import Derived.Test.YtpoghlfkokedpaaNum
import Derived.KernelRfl
namespace Go.Proofs.Ytpoghlfkokedpaa.Vary
open Go Go.Proofs Go.Proofs.Ytpoghlfkokedpaa.Aw Go.Proofs.Ytpoghlfkokedpaa.VaryM Go.Proofs.Ytpoghlfkokedpaa.Num
set_option linter.unusedSimpArgs false
set_option linter.unusedVariables false

def tys : Tys := fun t => if t = 2 then some ⟨.int .i64, 1, 8, (.int .i64 0)⟩ else if t = 3 then some ⟨.int .i64, 1, 8, (.int .i64 0)⟩ else if t = 4 then some ⟨.bool, 1, 1, (.bool false)⟩ else if t = 5 then some ⟨.int .u8, 1, 1, (.int .u8 0)⟩ else if t = 9 then some ⟨.str, 1, 16, (.string .empty)⟩ else if t = 22 then some ⟨.slice 5, 1, 24, (.slice none 0 0)⟩ else if t = 23 then some ⟨.int .i64, 1, 8, (.int .i64 0)⟩ else if t = 45 then some ⟨.int .u64, 1, 8, (.int .u64 0)⟩ else if t = 56 then some ⟨.int .u64, 1, 8, (.int .u64 0)⟩ else none
theorem tysOk : TyOk Try.prog tys := by
  refine TyOk.cons ?_ 2 _ (by kernel_rfl) (by kernel_rfl)
  refine TyOk.cons ?_ 3 _ (by kernel_rfl) (by kernel_rfl)
  refine TyOk.cons ?_ 4 _ (by kernel_rfl) (by kernel_rfl)
  refine TyOk.cons ?_ 5 _ (by kernel_rfl) (by kernel_rfl)
  refine TyOk.cons ?_ 9 _ (by kernel_rfl) (by kernel_rfl)
  refine TyOk.cons ?_ 22 _ (by kernel_rfl) (by kernel_rfl)
  refine TyOk.cons ?_ 23 _ (by kernel_rfl) (by kernel_rfl)
  refine TyOk.cons ?_ 45 _ (by kernel_rfl) (by kernel_rfl)
  refine TyOk.cons ?_ 56 _ (by kernel_rfl) (by kernel_rfl)
  exact TyOk.nil _
theorem mix : Try.prog.follows .mixedOrders = true := by kernel_rfl
theorem ty2 : tys 2 = some ⟨.int .i64, 1, 8, (.int .i64 0)⟩ := rfl
theorem tk2 : kindV tys 2 = some (.int .i64) := rfl
theorem ts2 : sizeV tys 2 = 1 := rfl
theorem ta2 : TyI.isAgg ⟨.int .i64, 1, 8, (.int .i64 0)⟩ = false := rfl
theorem tu2 : isU8 ⟨.int .i64, 1, 8, (.int .i64 0)⟩ = false := rfl
theorem tn2 : notIntK tys 2 = false := rfl
theorem tr2 : isStrK tys 2 = false := rfl
theorem tz2 : zeroOk ⟨.int .i64, 1, 8, (.int .i64 0)⟩ = true := by kernel_rfl
theorem tv2 : zeroU8 ⟨.int .i64, 1, 8, (.int .i64 0)⟩ = false := rfl
theorem td2 : TyI.zeroV ⟨.int .i64, 1, 8, (.int .i64 0)⟩ = V.ofV1 (.int .i64 0) := rfl
theorem ty3 : tys 3 = some ⟨.int .i64, 1, 8, (.int .i64 0)⟩ := rfl
theorem tk3 : kindV tys 3 = some (.int .i64) := rfl
theorem ts3 : sizeV tys 3 = 1 := rfl
theorem ta3 : TyI.isAgg ⟨.int .i64, 1, 8, (.int .i64 0)⟩ = false := rfl
theorem tu3 : isU8 ⟨.int .i64, 1, 8, (.int .i64 0)⟩ = false := rfl
theorem tn3 : notIntK tys 3 = false := rfl
theorem tr3 : isStrK tys 3 = false := rfl
theorem tz3 : zeroOk ⟨.int .i64, 1, 8, (.int .i64 0)⟩ = true := by kernel_rfl
theorem tv3 : zeroU8 ⟨.int .i64, 1, 8, (.int .i64 0)⟩ = false := rfl
theorem td3 : TyI.zeroV ⟨.int .i64, 1, 8, (.int .i64 0)⟩ = V.ofV1 (.int .i64 0) := rfl
theorem ty4 : tys 4 = some ⟨.bool, 1, 1, (.bool false)⟩ := rfl
theorem tk4 : kindV tys 4 = some (.bool) := rfl
theorem ts4 : sizeV tys 4 = 1 := rfl
theorem ta4 : TyI.isAgg ⟨.bool, 1, 1, (.bool false)⟩ = false := rfl
theorem tu4 : isU8 ⟨.bool, 1, 1, (.bool false)⟩ = false := rfl
theorem tn4 : notIntK tys 4 = true := rfl
theorem tr4 : isStrK tys 4 = false := rfl
theorem tz4 : zeroOk ⟨.bool, 1, 1, (.bool false)⟩ = true := by kernel_rfl
theorem tv4 : zeroU8 ⟨.bool, 1, 1, (.bool false)⟩ = false := rfl
theorem td4 : TyI.zeroV ⟨.bool, 1, 1, (.bool false)⟩ = V.ofV1 (.bool false) := rfl
theorem ty5 : tys 5 = some ⟨.int .u8, 1, 1, (.int .u8 0)⟩ := rfl
theorem tk5 : kindV tys 5 = some (.int .u8) := rfl
theorem ts5 : sizeV tys 5 = 1 := rfl
theorem ta5 : TyI.isAgg ⟨.int .u8, 1, 1, (.int .u8 0)⟩ = false := rfl
theorem tu5 : isU8 ⟨.int .u8, 1, 1, (.int .u8 0)⟩ = true := rfl
theorem tn5 : notIntK tys 5 = false := rfl
theorem tr5 : isStrK tys 5 = false := rfl
theorem tz5 : zeroOk ⟨.int .u8, 1, 1, (.int .u8 0)⟩ = true := by kernel_rfl
theorem tv5 : zeroU8 ⟨.int .u8, 1, 1, (.int .u8 0)⟩ = true := rfl
theorem td5 : TyI.zeroV ⟨.int .u8, 1, 1, (.int .u8 0)⟩ = V.ofV1 (.int .u8 0) := rfl
theorem ty9 : tys 9 = some ⟨.str, 1, 16, (.string .empty)⟩ := rfl
theorem tk9 : kindV tys 9 = some (.str) := rfl
theorem ts9 : sizeV tys 9 = 1 := rfl
theorem ta9 : TyI.isAgg ⟨.str, 1, 16, (.string .empty)⟩ = false := rfl
theorem tu9 : isU8 ⟨.str, 1, 16, (.string .empty)⟩ = false := rfl
theorem tn9 : notIntK tys 9 = true := rfl
theorem tr9 : isStrK tys 9 = true := rfl
theorem tz9 : zeroOk ⟨.str, 1, 16, (.string .empty)⟩ = true := by kernel_rfl
theorem tv9 : zeroU8 ⟨.str, 1, 16, (.string .empty)⟩ = false := rfl
theorem td9 : TyI.zeroV ⟨.str, 1, 16, (.string .empty)⟩ = V.ofV1 (.string .empty) := rfl
theorem ty22 : tys 22 = some ⟨.slice 5, 1, 24, (.slice none 0 0)⟩ := rfl
theorem tk22 : kindV tys 22 = some (.slice 5) := rfl
theorem ts22 : sizeV tys 22 = 1 := rfl
theorem ta22 : TyI.isAgg ⟨.slice 5, 1, 24, (.slice none 0 0)⟩ = false := rfl
theorem tb22 : isBytes tys 22 = true := rfl
theorem te22 : elemI tys 22 = some (5, ⟨.int .u8, 1, 1, (.int .u8 0)⟩) := rfl
theorem tu22 : isU8 ⟨.slice 5, 1, 24, (.slice none 0 0)⟩ = false := rfl
theorem tn22 : notIntK tys 22 = true := rfl
theorem tr22 : isStrK tys 22 = false := rfl
theorem tz22 : zeroOk ⟨.slice 5, 1, 24, (.slice none 0 0)⟩ = true := by kernel_rfl
theorem tv22 : zeroU8 ⟨.slice 5, 1, 24, (.slice none 0 0)⟩ = false := rfl
theorem td22 : TyI.zeroV ⟨.slice 5, 1, 24, (.slice none 0 0)⟩ = V.ofV1 (.slice none 0 0) := rfl
theorem ty23 : tys 23 = some ⟨.int .i64, 1, 8, (.int .i64 0)⟩ := rfl
theorem tk23 : kindV tys 23 = some (.int .i64) := rfl
theorem ts23 : sizeV tys 23 = 1 := rfl
theorem ta23 : TyI.isAgg ⟨.int .i64, 1, 8, (.int .i64 0)⟩ = false := rfl
theorem tu23 : isU8 ⟨.int .i64, 1, 8, (.int .i64 0)⟩ = false := rfl
theorem tn23 : notIntK tys 23 = false := rfl
theorem tr23 : isStrK tys 23 = false := rfl
theorem tz23 : zeroOk ⟨.int .i64, 1, 8, (.int .i64 0)⟩ = true := by kernel_rfl
theorem tv23 : zeroU8 ⟨.int .i64, 1, 8, (.int .i64 0)⟩ = false := rfl
theorem td23 : TyI.zeroV ⟨.int .i64, 1, 8, (.int .i64 0)⟩ = V.ofV1 (.int .i64 0) := rfl
theorem ty45 : tys 45 = some ⟨.int .u64, 1, 8, (.int .u64 0)⟩ := rfl
theorem tk45 : kindV tys 45 = some (.int .u64) := rfl
theorem ts45 : sizeV tys 45 = 1 := rfl
theorem ta45 : TyI.isAgg ⟨.int .u64, 1, 8, (.int .u64 0)⟩ = false := rfl
theorem tu45 : isU8 ⟨.int .u64, 1, 8, (.int .u64 0)⟩ = false := rfl
theorem tn45 : notIntK tys 45 = false := rfl
theorem tr45 : isStrK tys 45 = false := rfl
theorem tz45 : zeroOk ⟨.int .u64, 1, 8, (.int .u64 0)⟩ = true := by kernel_rfl
theorem tv45 : zeroU8 ⟨.int .u64, 1, 8, (.int .u64 0)⟩ = false := rfl
theorem td45 : TyI.zeroV ⟨.int .u64, 1, 8, (.int .u64 0)⟩ = V.ofV1 (.int .u64 0) := rfl
theorem ty56 : tys 56 = some ⟨.int .u64, 1, 8, (.int .u64 0)⟩ := rfl
theorem tk56 : kindV tys 56 = some (.int .u64) := rfl
theorem ts56 : sizeV tys 56 = 1 := rfl
theorem ta56 : TyI.isAgg ⟨.int .u64, 1, 8, (.int .u64 0)⟩ = false := rfl
theorem tu56 : isU8 ⟨.int .u64, 1, 8, (.int .u64 0)⟩ = false := rfl
theorem tn56 : notIntK tys 56 = false := rfl
theorem tr56 : isStrK tys 56 = false := rfl
theorem tz56 : zeroOk ⟨.int .u64, 1, 8, (.int .u64 0)⟩ = true := by kernel_rfl
theorem tv56 : zeroU8 ⟨.int .u64, 1, 8, (.int .u64 0)⟩ = false := rfl
theorem td56 : TyI.zeroV ⟨.int .u64, 1, 8, (.int .u64 0)⟩ = V.ofV1 (.int .u64 0) := rfl



def G0 : Fns := { fn := fun _ => none }
theorem G0_fn (f : FuncId) : G0.fn f = none := rfl
theorem G0_mu (d : Tmp) : G0.mu d = .no := rfl
theorem G0_hp (f : FuncId) : G0.hp f = none := rfl
theorem G0_ord (i : Nat) : G0.ord i = none := rfl
theorem G0ok : FnsOk Try.prog G0 := FnsOk.nil _ rfl rfl


def roomyM : FM
  | [.bytes b _, .int .i64 r] => some (0 ≤ r ∧ r ≤ 1000 ∧ b.length ≤ 1099511627776, .bytes b (some 0), [(b.length, 5)])
  | _ => none
theorem roomy_ok : FSound Try.prog 37 roomyM := by
  refine fsound tysOk G0ok mix Try.func37 rfl ?_
  intro args p r fr hm hp
  unfold roomyM at hm
  split at hm
  · rename_i b t r
    cases hm
    obtain ⟨h0, h1, h2⟩ := hp
    simp (config := { maxSteps := 2000000 }) only [r_stepN, r_stepR, r_stepS, r_stepL, r_todoStep, r_todoCall, r_toCall, r_todoCs, r_todoS, r_todoCn, r_to0, r_to1, r_to2, r_to3, r_to4, r_to5, r_to6, r_to7, r_to8, r_to9, r_to10, r_to11, r_to12, r_to13, r_to14, r_to15, r_to16, r_to17, r_to18, r_to19, r_to20, r_to21, r_to22, r_to23, r_to24, r_to25, r_to26, r_drawN, r_drawQ, r_qNil, r_qCons, r_qOp, r_qOpG, r_step1, r_step0, r_step2, r_outQ, r_guardQT, r_guardQF, r_guardQU, HM.toP, r_rowN, r_rowR, r_rowL, nilStep, thawO, castH, hpO, frz, List.foldl_cons, List.foldl_nil, V.plainB, V.plain1, List.all_cons, List.all_nil, r_orSome, r_orNone, r_outSome, r_exec, r_opsNil, r_opsCons, r_opsGuard, r_skip, r_label, r_exit, r_goto, r_ret, r_seq, r_block, r_scope, r_ngN, r_ngE, r_ngR, r_loop, r_region, r_draw, r_cond, r_condBool, r_condMay, nilV, isNilV, negV, evNil, sliceM, r_guardMT, r_guardMF, V.hasRow, headM, RetM, retRow, r_thenN, r_thenE, r_thenG, r_thenR, r_blockN, r_blockE, r_blockG, r_blockR, r_guardT, r_guardF, r_guardU, set8, get8, set_0, get_0, set_1, get_1, set_2, get_2, set_3, get_3, set_4, get_4, set_5, get_5, set_6, get_6, set_7, get_7, ↓r_ifTrue, ↓r_ifFalse, r_ifTrue, r_ifFalse, r_ifNot, r_muS, r_muN, splitE, isEff, r_drawS, r_lastN, r_lastS, r_outD, r_execDcons, r_dNil, r_nextDN, r_nextDS, r_mkD, isMkO, mkArgs, makeM, evMakeM, evAppendM, srcCells, evCopy, evMark, hasM, V.isM, evCallM, castM, castMP, allP, V.plain, List.any_cons, List.any_nil, evArrEq, V.mrow.injEq, leL_self, rep_length, r_dCons, r_dGuard, r_dGuardT, r_dGuardF, r_dGuardU, r_stepD, r_orDs, r_orDn, effD, evGrow, evNone, guardAt, leL_cons, leL_nil, le_any, r_le0, r_le1, r_le2, r_leD0, r_leD1, r_leD2, leLL_nil, leLL_cons, V.under, List.take_succ_cons, List.take_nil, true_or, or_true, false_implies, Option.some.injEq, forall_eq', V.bytes.injEq, V.int.injEq, V.bool.injEq, V.str.injEq, V.list.injEq, List.cons.injEq, evalPure, evalEff, evPick, evBin, evUn, evConvL, evConv, evExtract, evLen, evMin, evMax, evIndexAddr, evLoad, loadBox, evLoadR, evFieldAddr, evField, evIndex, evSlice, sliceV, evAppend, evMake, evBuildSlice, bytesOf, allOk, seqFrom, evBox, evAlloc, evStore, evBuild, fillV, setSeg, evCall, callArgs, castV, binInt, binStr, setO, evOp, V.ofV, V.ofV1, V.top, V.drop, V.up, V.up1, V.cells, V.storable, V.one, partV, cellV, loadV, lenV, retPost, resV, resAll, resOne, Ret, V.flat, V.flat1, V.clean, V.ren, V.ren1, renT, V.le, List.length_cons, List.length_nil, List.replicate, List.cons_append, List.nil_append, List.getElem?_cons_zero, List.getElem?_cons_succ, List.getElem?_toArray, List.getElem?_nil, List.map_cons, List.map_nil, List.zipWith_cons_cons, List.zipWith_nil_left, List.zipWith_nil_right, List.append_nil, List.mem_cons, List.not_mem_nil, List.take_zero, List.drop_zero, Nat.reduceAdd, Nat.reduceSub, Nat.reduceMul, Nat.reduceLT, Nat.reduceLeDiff, Nat.reduceEqDiff, Nat.reduceBEq, Nat.reduceBNe, Nat.zero_add, Nat.add_zero, Int.reduceToNat, Int.reduceLE, Int.reduceLT, Int.reduceEq, Int.reduceNe, Int.reduceNeg, Nat.reducePow, Int.reducePow, Nat.lt_irrefl, Nat.zero_lt_one, cond_true, cond_false, true_and, and_true, and_self, if_true, if_false, Option.map_some, Option.map_none, Option.bind_some, Option.bind_none, Option.isSome_some, Option.some.injEq, Prod.mk.injEq, exists_eq_left', reduceIte, reduceCtorEq, Bool.false_eq_true, Bool.true_and, Bool.and_true, Bool.not_true, Bool.not_false, Bool.or_true, Bool.or_false, Bool.true_or, Bool.false_or, Bool.and_self, Bool.false_and, Bool.and_false, ne_eq, not_false_eq_true, not_true_eq_false, false_or, or_false, forall_eq_or_imp, forall_eq, forall_const, implies_true, List.size_toArray, decide_true, decide_false, beq_self_eq_true, IntKind.bits, IntKind.signed, Array.toList_map, r_leS, Nat.min_self, Nat.mul_one, ty2, tk2, ts2, ta2, tu2, tn2, tr2, tz2, tv2, td2, ty3, tk3, ts3, ta3, tu3, tn3, tr3, tz3, tv3, td3, ty4, tk4, ts4, ta4, tu4, tn4, tr4, tz4, tv4, td4, ty5, tk5, ts5, ta5, tu5, tn5, tr5, tz5, tv5, td5, ty9, tk9, ts9, ta9, tu9, tn9, tr9, tz9, tv9, td9, ty22, tk22, ts22, ta22, tb22, te22, tu22, tn22, tr22, tz22, tv22, td22, ty23, tk23, ts23, ta23, tu23, tn23, tr23, tz23, tv23, td23, ty45, tk45, ts45, ta45, tu45, tn45, tr45, tz45, tv45, td45, ty56, tk56, ts56, ta56, tu56, tn56, tr56, tz56, tv56, td56, Try.f37, G0_fn, G0_mu, G0_hp, G0_ord]
    rw [i64w (by omega) (by omega)]
    exact ⟨⟨by omega, by omega, by omega⟩, by unfold maxBytes; omega, 0, rfl, rfl⟩
  · cases hm

def sizedB (n : Int) : Bool := decide (1 ≤ n ∧ n ≤ 8)
def sizedM : FM
  | [.int .i64 n] => some (True, .bool (sizedB n), [])
  | _ => none
theorem sized_ok : FSound Try.prog 36 sizedM := by
  refine fsound tysOk G0ok mix Try.func36 rfl ?_
  intro args p r fr hm hp
  unfold sizedM at hm
  split at hm
  · rename_i n
    cases hm
    simp (config := { maxSteps := 2000000 }) only [r_stepN, r_stepR, r_stepS, r_stepL, r_todoStep, r_todoCall, r_toCall, r_todoCs, r_todoS, r_todoCn, r_to0, r_to1, r_to2, r_to3, r_to4, r_to5, r_to6, r_to7, r_to8, r_to9, r_to10, r_to11, r_to12, r_to13, r_to14, r_to15, r_to16, r_to17, r_to18, r_to19, r_to20, r_to21, r_to22, r_to23, r_to24, r_to25, r_to26, r_drawN, r_drawQ, r_qNil, r_qCons, r_qOp, r_qOpG, r_step1, r_step0, r_step2, r_outQ, r_guardQT, r_guardQF, r_guardQU, HM.toP, r_rowN, r_rowR, r_rowL, nilStep, thawO, castH, hpO, frz, List.foldl_cons, List.foldl_nil, V.plainB, V.plain1, List.all_cons, List.all_nil, r_orSome, r_orNone, r_outSome, r_exec, r_opsNil, r_opsCons, r_opsGuard, r_skip, r_label, r_exit, r_goto, r_ret, r_seq, r_block, r_scope, r_ngN, r_ngE, r_ngR, r_loop, r_region, r_draw, r_cond, r_condBool, r_condMay, nilV, isNilV, negV, evNil, sliceM, r_guardMT, r_guardMF, V.hasRow, headM, RetM, retRow, r_thenN, r_thenE, r_thenG, r_thenR, r_blockN, r_blockE, r_blockG, r_blockR, r_guardT, r_guardF, r_guardU, set8, get8, set_0, get_0, set_1, get_1, set_2, get_2, set_3, get_3, set_4, get_4, set_5, get_5, set_6, get_6, set_7, get_7, ↓r_ifTrue, ↓r_ifFalse, r_ifTrue, r_ifFalse, r_ifNot, r_muS, r_muN, splitE, isEff, r_drawS, r_lastN, r_lastS, r_outD, r_execDcons, r_dNil, r_nextDN, r_nextDS, r_mkD, isMkO, mkArgs, makeM, evMakeM, evAppendM, srcCells, evCopy, evMark, hasM, V.isM, evCallM, castM, castMP, allP, V.plain, List.any_cons, List.any_nil, evArrEq, V.mrow.injEq, leL_self, rep_length, r_dCons, r_dGuard, r_dGuardT, r_dGuardF, r_dGuardU, r_stepD, r_orDs, r_orDn, effD, evGrow, evNone, guardAt, leL_cons, leL_nil, le_any, r_le0, r_le1, r_le2, r_leD0, r_leD1, r_leD2, leLL_nil, leLL_cons, V.under, List.take_succ_cons, List.take_nil, true_or, or_true, false_implies, Option.some.injEq, forall_eq', V.bytes.injEq, V.int.injEq, V.bool.injEq, V.str.injEq, V.list.injEq, List.cons.injEq, evalPure, evalEff, evPick, evBin, evUn, evConvL, evConv, evExtract, evLen, evMin, evMax, evIndexAddr, evLoad, loadBox, evLoadR, evFieldAddr, evField, evIndex, evSlice, sliceV, evAppend, evMake, evBuildSlice, bytesOf, allOk, seqFrom, evBox, evAlloc, evStore, evBuild, fillV, setSeg, evCall, callArgs, castV, binInt, binStr, setO, evOp, V.ofV, V.ofV1, V.top, V.drop, V.up, V.up1, V.cells, V.storable, V.one, partV, cellV, loadV, lenV, retPost, resV, resAll, resOne, Ret, V.flat, V.flat1, V.clean, V.ren, V.ren1, renT, V.le, List.length_cons, List.length_nil, List.replicate, List.cons_append, List.nil_append, List.getElem?_cons_zero, List.getElem?_cons_succ, List.getElem?_toArray, List.getElem?_nil, List.map_cons, List.map_nil, List.zipWith_cons_cons, List.zipWith_nil_left, List.zipWith_nil_right, List.append_nil, List.mem_cons, List.not_mem_nil, List.take_zero, List.drop_zero, Nat.reduceAdd, Nat.reduceSub, Nat.reduceMul, Nat.reduceLT, Nat.reduceLeDiff, Nat.reduceEqDiff, Nat.reduceBEq, Nat.reduceBNe, Nat.zero_add, Nat.add_zero, Int.reduceToNat, Int.reduceLE, Int.reduceLT, Int.reduceEq, Int.reduceNe, Int.reduceNeg, Nat.reducePow, Int.reducePow, Nat.lt_irrefl, Nat.zero_lt_one, cond_true, cond_false, true_and, and_true, and_self, if_true, if_false, Option.map_some, Option.map_none, Option.bind_some, Option.bind_none, Option.isSome_some, Option.some.injEq, Prod.mk.injEq, exists_eq_left', reduceIte, reduceCtorEq, Bool.false_eq_true, Bool.true_and, Bool.and_true, Bool.not_true, Bool.not_false, Bool.or_true, Bool.or_false, Bool.true_or, Bool.false_or, Bool.and_self, Bool.false_and, Bool.and_false, ne_eq, not_false_eq_true, not_true_eq_false, false_or, or_false, forall_eq_or_imp, forall_eq, forall_const, implies_true, List.size_toArray, decide_true, decide_false, beq_self_eq_true, IntKind.bits, IntKind.signed, Array.toList_map, r_leS, Nat.min_self, Nat.mul_one, ty2, tk2, ts2, ta2, tu2, tn2, tr2, tz2, tv2, td2, ty3, tk3, ts3, ta3, tu3, tn3, tr3, tz3, tv3, td3, ty4, tk4, ts4, ta4, tu4, tn4, tr4, tz4, tv4, td4, ty5, tk5, ts5, ta5, tu5, tn5, tr5, tz5, tv5, td5, ty9, tk9, ts9, ta9, tu9, tn9, tr9, tz9, tv9, td9, ty22, tk22, ts22, ta22, tb22, te22, tu22, tn22, tr22, tz22, tv22, td22, ty23, tk23, ts23, ta23, tu23, tn23, tr23, tz23, tv23, td23, ty45, tk45, ts45, ta45, tu45, tn45, tr45, tz45, tv45, td45, ty56, tk56, ts56, ta56, tu56, tn56, tr56, tz56, tv56, td56, Try.f36, G0_fn, G0_mu, G0_hp, G0_ord]
    refine awpIf_intro (fun h => ?_) (fun h => ?_) <;> simp at h <;> simp [sizedB] <;> omega
  · cases hm

def putM : FM
  | [.bytes b _, .int .u64 n] => some (0 ≤ n ∧ n ≤ 18446744073709551615 ∧ b.length ≤ 549755813888, .bytes (b ++ leb n.toNat) (some 0), [((b ++ leb n.toNat).length, 5)])
  | _ => none
def G1 : Fns := { fn := fun f => if f = 37 then some roomyM else G0.fn f, mu := fun d => .no, hp := fun f => G0.hp f, ord := fun i => none }
theorem G1_fn (f : FuncId) : G1.fn f = (if f = 37 then some roomyM else G0.fn f) := rfl
theorem G1_mu (d : Tmp) : G1.mu d = (.no) := rfl
theorem G1_hp (f : FuncId) : G1.hp f = (G0.hp f) := rfl
theorem G1_ord (i : Nat) : G1.ord i = (none) := rfl
theorem G1ok : FnsOk Try.prog G1 := FnsOk.same (FnsOk.cons G0ok _ _ roomy_ok Try.func37 (by decide) (fun h => by cases h)) rfl rfl

-- (not in this seat)
/-! ### signs -/
def zigM : FM
  | [.int .i64 n] => some (-9223372036854775808 ≤ n ∧ n ≤ 9223372036854775807, .int .u64 (zigF n), [])
  | _ => none
-- (not in this seat)
def zagM : FM
  | [.int .u64 n] => some (0 ≤ n ∧ n ≤ 18446744073709551615, .int .i64 (zagF n), [])
  | _ => none
-- (not in this seat)
/-! ### so many bytes -/
def fixF (b : List UInt8) (n : Int) (size : Int) : List UInt8 := if 1 ≤ size ∧ size ≤ 8 then b ++ be size.toNat n.toNat else b
def fixM : FM
  | [.bytes b _, .int .u64 n, .int .i64 size] => some (0 ≤ n ∧ n ≤ 18446744073709551615 ∧ b.length ≤ 549755813888, .bytes (fixF b n size) (some 0), [((fixF b n size).length, 5)])
  | _ => none
def G2 : Fns := { fn := fun f => if f = 36 then some sizedM else G1.fn f, mu := fun d => .no, hp := fun f => G1.hp f, ord := fun i => none }
theorem G2_fn (f : FuncId) : G2.fn f = (if f = 36 then some sizedM else G1.fn f) := rfl
theorem G2_mu (d : Tmp) : G2.mu d = (.no) := rfl
theorem G2_hp (f : FuncId) : G2.hp f = (G1.hp f) := rfl
theorem G2_ord (i : Nat) : G2.ord i = (none) := rfl
theorem G2ok : FnsOk Try.prog G2 := FnsOk.same (FnsOk.cons G1ok _ _ sized_ok Try.func36 (by decide) (fun h => by cases h)) rfl rfl

theorem fix_ok : FSound Try.prog 26 fixM := by
  refine fsound tysOk G2ok mix Try.func26 rfl ?_
  intro args p r fr hm hp
  unfold fixM at hm
  split at hm
  · rename_i b t n size
    cases hm
    obtain ⟨h0, h1, h2⟩ := hp
    obtain ⟨m, rfl⟩ := Int.eq_ofNat_of_zero_le h0
    simp (config := { maxSteps := 2000000 }) only [r_stepN, r_stepR, r_stepS, r_stepL, r_todoStep, r_todoCall, r_toCall, r_todoCs, r_todoS, r_todoCn, r_to0, r_to1, r_to2, r_to3, r_to4, r_to5, r_to6, r_to7, r_to8, r_to9, r_to10, r_to11, r_to12, r_to13, r_to14, r_to15, r_to16, r_to17, r_to18, r_to19, r_to20, r_to21, r_to22, r_to23, r_to24, r_to25, r_to26, r_drawN, r_drawQ, r_qNil, r_qCons, r_qOp, r_qOpG, r_step1, r_step0, r_step2, r_outQ, r_guardQT, r_guardQF, r_guardQU, HM.toP, r_rowN, r_rowR, r_rowL, nilStep, thawO, castH, hpO, frz, List.foldl_cons, List.foldl_nil, V.plainB, V.plain1, List.all_cons, List.all_nil, r_orSome, r_orNone, r_outSome, r_exec, r_opsNil, r_opsCons, r_opsGuard, r_skip, r_label, r_exit, r_goto, r_ret, r_seq, r_block, r_scope, r_ngN, r_ngE, r_ngR, r_loop, r_region, r_draw, r_cond, r_condBool, r_condMay, nilV, isNilV, negV, evNil, sliceM, r_guardMT, r_guardMF, V.hasRow, headM, RetM, retRow, r_thenN, r_thenE, r_thenG, r_thenR, r_blockN, r_blockE, r_blockG, r_blockR, r_guardT, r_guardF, r_guardU, set8, get8, set_0, get_0, set_1, get_1, set_2, get_2, set_3, get_3, set_4, get_4, set_5, get_5, set_6, get_6, set_7, get_7, ↓r_ifTrue, ↓r_ifFalse, r_ifTrue, r_ifFalse, r_ifNot, r_muS, r_muN, splitE, isEff, r_drawS, r_lastN, r_lastS, r_outD, r_execDcons, r_dNil, r_nextDN, r_nextDS, r_mkD, isMkO, mkArgs, makeM, evMakeM, evAppendM, srcCells, evCopy, evMark, hasM, V.isM, evCallM, castM, castMP, allP, V.plain, List.any_cons, List.any_nil, evArrEq, V.mrow.injEq, leL_self, rep_length, r_dCons, r_dGuard, r_dGuardT, r_dGuardF, r_dGuardU, r_stepD, r_orDs, r_orDn, effD, evGrow, evNone, guardAt, leL_cons, leL_nil, le_any, r_le0, r_le1, r_le2, r_leD0, r_leD1, r_leD2, leLL_nil, leLL_cons, V.under, List.take_succ_cons, List.take_nil, true_or, or_true, false_implies, Option.some.injEq, forall_eq', V.bytes.injEq, V.int.injEq, V.bool.injEq, V.str.injEq, V.list.injEq, List.cons.injEq, evalPure, evalEff, evPick, evBin, evUn, evConvL, evConv, evExtract, evLen, evMin, evMax, evIndexAddr, evLoad, loadBox, evLoadR, evFieldAddr, evField, evIndex, evSlice, sliceV, evAppend, evMake, evBuildSlice, bytesOf, allOk, seqFrom, evBox, evAlloc, evStore, evBuild, fillV, setSeg, evCall, callArgs, castV, binInt, binStr, setO, evOp, V.ofV, V.ofV1, V.top, V.drop, V.up, V.up1, V.cells, V.storable, V.one, partV, cellV, loadV, lenV, retPost, resV, resAll, resOne, Ret, V.flat, V.flat1, V.clean, V.ren, V.ren1, renT, V.le, List.length_cons, List.length_nil, List.replicate, List.cons_append, List.nil_append, List.getElem?_cons_zero, List.getElem?_cons_succ, List.getElem?_toArray, List.getElem?_nil, List.map_cons, List.map_nil, List.zipWith_cons_cons, List.zipWith_nil_left, List.zipWith_nil_right, List.append_nil, List.mem_cons, List.not_mem_nil, List.take_zero, List.drop_zero, Nat.reduceAdd, Nat.reduceSub, Nat.reduceMul, Nat.reduceLT, Nat.reduceLeDiff, Nat.reduceEqDiff, Nat.reduceBEq, Nat.reduceBNe, Nat.zero_add, Nat.add_zero, Int.reduceToNat, Int.reduceLE, Int.reduceLT, Int.reduceEq, Int.reduceNe, Int.reduceNeg, Nat.reducePow, Int.reducePow, Nat.lt_irrefl, Nat.zero_lt_one, cond_true, cond_false, true_and, and_true, and_self, if_true, if_false, Option.map_some, Option.map_none, Option.bind_some, Option.bind_none, Option.isSome_some, Option.some.injEq, Prod.mk.injEq, exists_eq_left', reduceIte, reduceCtorEq, Bool.false_eq_true, Bool.true_and, Bool.and_true, Bool.not_true, Bool.not_false, Bool.or_true, Bool.or_false, Bool.true_or, Bool.false_or, Bool.and_self, Bool.false_and, Bool.and_false, ne_eq, not_false_eq_true, not_true_eq_false, false_or, or_false, forall_eq_or_imp, forall_eq, forall_const, implies_true, List.size_toArray, decide_true, decide_false, beq_self_eq_true, IntKind.bits, IntKind.signed, Array.toList_map, r_leS, Nat.min_self, Nat.mul_one, ty2, tk2, ts2, ta2, tu2, tn2, tr2, tz2, tv2, td2, ty3, tk3, ts3, ta3, tu3, tn3, tr3, tz3, tv3, td3, ty4, tk4, ts4, ta4, tu4, tn4, tr4, tz4, tv4, td4, ty5, tk5, ts5, ta5, tu5, tn5, tr5, tz5, tv5, td5, ty9, tk9, ts9, ta9, tu9, tn9, tr9, tz9, tv9, td9, ty22, tk22, ts22, ta22, tb22, te22, tu22, tn22, tr22, tz22, tv22, td22, ty23, tk23, ts23, ta23, tu23, tn23, tr23, tz23, tv23, td23, ty45, tk45, ts45, ta45, tu45, tn45, tr45, tz45, tv45, td45, ty56, tk56, ts56, ta56, tu56, tn56, tr56, tz56, tv56, td56, Try.f26, roomyM, sizedM, G0_fn, G0_mu, G0_hp, G0_ord, G1_fn, G1_mu, G1_hp, G1_ord, G2_fn, G2_mu, G2_hp, G2_ord]
    refine awpIf_intro (fun h => ?_) (fun h => ?_)
    · have hs : 1 ≤ size ∧ size ≤ 8 := by simpa [sizedB] using h
      refine ⟨⟨by omega, by omega, by omega⟩, ?_⟩
      rw [i64w (by omega) (by omega)]
      refine awpLoop_intro (α := {k : Nat // k ≤ size.toNat})
        (fun k => ⟨[.any, .int .u64 m, .any, .any, .any, .any, .any, .bytes (b ++ (be size.toNat m).take (size.toNat - k.1)) (some 0), .int .i64 ((k.1 : Int) - 1), .any, .any, .any, .any, .any, .any, .any, .any, .any, .any, .any, .any, .any, .any, .any, .any, .any, .any, .any, .any, .any, .any, .any], [], [((b ++ (be size.toNat m).take (size.toNat - k.1)).length, 5)]⟩) (fun k => k.1)
        ⟨size.toNat, by omega⟩ ?_ ?_
      · simp (config := { maxSteps := 2000000 }) only [r_stepN, r_stepR, r_stepS, r_stepL, r_todoStep, r_todoCall, r_toCall, r_todoCs, r_todoS, r_todoCn, r_to0, r_to1, r_to2, r_to3, r_to4, r_to5, r_to6, r_to7, r_to8, r_to9, r_to10, r_to11, r_to12, r_to13, r_to14, r_to15, r_to16, r_to17, r_to18, r_to19, r_to20, r_to21, r_to22, r_to23, r_to24, r_to25, r_to26, r_drawN, r_drawQ, r_qNil, r_qCons, r_qOp, r_qOpG, r_step1, r_step0, r_step2, r_outQ, r_guardQT, r_guardQF, r_guardQU, HM.toP, r_rowN, r_rowR, r_rowL, nilStep, thawO, castH, hpO, frz, List.foldl_cons, List.foldl_nil, V.plainB, V.plain1, List.all_cons, List.all_nil, r_orSome, r_orNone, r_outSome, r_exec, r_opsNil, r_opsCons, r_opsGuard, r_skip, r_label, r_exit, r_goto, r_ret, r_seq, r_block, r_scope, r_ngN, r_ngE, r_ngR, r_loop, r_region, r_draw, r_cond, r_condBool, r_condMay, nilV, isNilV, negV, evNil, sliceM, r_guardMT, r_guardMF, V.hasRow, headM, RetM, retRow, r_thenN, r_thenE, r_thenG, r_thenR, r_blockN, r_blockE, r_blockG, r_blockR, r_guardT, r_guardF, r_guardU, set8, get8, set_0, get_0, set_1, get_1, set_2, get_2, set_3, get_3, set_4, get_4, set_5, get_5, set_6, get_6, set_7, get_7, ↓r_ifTrue, ↓r_ifFalse, r_ifTrue, r_ifFalse, r_ifNot, r_muS, r_muN, splitE, isEff, r_drawS, r_lastN, r_lastS, r_outD, r_execDcons, r_dNil, r_nextDN, r_nextDS, r_mkD, isMkO, mkArgs, makeM, evMakeM, evAppendM, srcCells, evCopy, evMark, hasM, V.isM, evCallM, castM, castMP, allP, V.plain, List.any_cons, List.any_nil, evArrEq, V.mrow.injEq, leL_self, rep_length, r_dCons, r_dGuard, r_dGuardT, r_dGuardF, r_dGuardU, r_stepD, r_orDs, r_orDn, effD, evGrow, evNone, guardAt, leL_cons, leL_nil, le_any, r_le0, r_le1, r_le2, r_leD0, r_leD1, r_leD2, leLL_nil, leLL_cons, V.under, List.take_succ_cons, List.take_nil, true_or, or_true, false_implies, Option.some.injEq, forall_eq', V.bytes.injEq, V.int.injEq, V.bool.injEq, V.str.injEq, V.list.injEq, List.cons.injEq, evalPure, evalEff, evPick, evBin, evUn, evConvL, evConv, evExtract, evLen, evMin, evMax, evIndexAddr, evLoad, loadBox, evLoadR, evFieldAddr, evField, evIndex, evSlice, sliceV, evAppend, evMake, evBuildSlice, bytesOf, allOk, seqFrom, evBox, evAlloc, evStore, evBuild, fillV, setSeg, evCall, callArgs, castV, binInt, binStr, setO, evOp, V.ofV, V.ofV1, V.top, V.drop, V.up, V.up1, V.cells, V.storable, V.one, partV, cellV, loadV, lenV, retPost, resV, resAll, resOne, Ret, V.flat, V.flat1, V.clean, V.ren, V.ren1, renT, V.le, List.length_cons, List.length_nil, List.replicate, List.cons_append, List.nil_append, List.getElem?_cons_zero, List.getElem?_cons_succ, List.getElem?_toArray, List.getElem?_nil, List.map_cons, List.map_nil, List.zipWith_cons_cons, List.zipWith_nil_left, List.zipWith_nil_right, List.append_nil, List.mem_cons, List.not_mem_nil, List.take_zero, List.drop_zero, Nat.reduceAdd, Nat.reduceSub, Nat.reduceMul, Nat.reduceLT, Nat.reduceLeDiff, Nat.reduceEqDiff, Nat.reduceBEq, Nat.reduceBNe, Nat.zero_add, Nat.add_zero, Int.reduceToNat, Int.reduceLE, Int.reduceLT, Int.reduceEq, Int.reduceNe, Int.reduceNeg, Nat.reducePow, Int.reducePow, Nat.lt_irrefl, Nat.zero_lt_one, cond_true, cond_false, true_and, and_true, and_self, if_true, if_false, Option.map_some, Option.map_none, Option.bind_some, Option.bind_none, Option.isSome_some, Option.some.injEq, Prod.mk.injEq, exists_eq_left', reduceIte, reduceCtorEq, Bool.false_eq_true, Bool.true_and, Bool.and_true, Bool.not_true, Bool.not_false, Bool.or_true, Bool.or_false, Bool.true_or, Bool.false_or, Bool.and_self, Bool.false_and, Bool.and_false, ne_eq, not_false_eq_true, not_true_eq_false, false_or, or_false, forall_eq_or_imp, forall_eq, forall_const, implies_true, List.size_toArray, decide_true, decide_false, beq_self_eq_true, IntKind.bits, IntKind.signed, Array.toList_map, r_leS, Nat.min_self, Nat.mul_one, ty2, tk2, ts2, ta2, tu2, tn2, tr2, tz2, tv2, td2, ty3, tk3, ts3, ta3, tu3, tn3, tr3, tz3, tv3, td3, ty4, tk4, ts4, ta4, tu4, tn4, tr4, tz4, tv4, td4, ty5, tk5, ts5, ta5, tu5, tn5, tr5, tz5, tv5, td5, ty9, tk9, ts9, ta9, tu9, tn9, tr9, tz9, tv9, td9, ty22, tk22, ts22, ta22, tb22, te22, tu22, tn22, tr22, tz22, tv22, td22, ty23, tk23, ts23, ta23, tu23, tn23, tr23, tz23, tv23, td23, ty45, tk45, ts45, ta45, tu45, tn45, tr45, tz45, tv45, td45, ty56, tk56, ts56, ta56, tu56, tn56, tr56, tz56, tv56, td56, G0_fn, G0_mu, G0_hp, G0_ord, G1_fn, G1_mu, G1_hp, G1_ord, G2_fn, G2_mu, G2_hp, G2_ord]
        simp
        omega
      · rintro ⟨k, hk⟩
        simp (config := { maxSteps := 2000000 }) only [r_stepN, r_stepR, r_stepS, r_stepL, r_todoStep, r_todoCall, r_toCall, r_todoCs, r_todoS, r_todoCn, r_to0, r_to1, r_to2, r_to3, r_to4, r_to5, r_to6, r_to7, r_to8, r_to9, r_to10, r_to11, r_to12, r_to13, r_to14, r_to15, r_to16, r_to17, r_to18, r_to19, r_to20, r_to21, r_to22, r_to23, r_to24, r_to25, r_to26, r_drawN, r_drawQ, r_qNil, r_qCons, r_qOp, r_qOpG, r_step1, r_step0, r_step2, r_outQ, r_guardQT, r_guardQF, r_guardQU, HM.toP, r_rowN, r_rowR, r_rowL, nilStep, thawO, castH, hpO, frz, List.foldl_cons, List.foldl_nil, V.plainB, V.plain1, List.all_cons, List.all_nil, r_orSome, r_orNone, r_outSome, r_exec, r_opsNil, r_opsCons, r_opsGuard, r_skip, r_label, r_exit, r_goto, r_ret, r_seq, r_block, r_scope, r_ngN, r_ngE, r_ngR, r_loop, r_region, r_draw, r_cond, r_condBool, r_condMay, nilV, isNilV, negV, evNil, sliceM, r_guardMT, r_guardMF, V.hasRow, headM, RetM, retRow, r_thenN, r_thenE, r_thenG, r_thenR, r_blockN, r_blockE, r_blockG, r_blockR, r_guardT, r_guardF, r_guardU, set8, get8, set_0, get_0, set_1, get_1, set_2, get_2, set_3, get_3, set_4, get_4, set_5, get_5, set_6, get_6, set_7, get_7, ↓r_ifTrue, ↓r_ifFalse, r_ifTrue, r_ifFalse, r_ifNot, r_muS, r_muN, splitE, isEff, r_drawS, r_lastN, r_lastS, r_outD, r_execDcons, r_dNil, r_nextDN, r_nextDS, r_mkD, isMkO, mkArgs, makeM, evMakeM, evAppendM, srcCells, evCopy, evMark, hasM, V.isM, evCallM, castM, castMP, allP, V.plain, List.any_cons, List.any_nil, evArrEq, V.mrow.injEq, leL_self, rep_length, r_dCons, r_dGuard, r_dGuardT, r_dGuardF, r_dGuardU, r_stepD, r_orDs, r_orDn, effD, evGrow, evNone, guardAt, leL_cons, leL_nil, le_any, r_le0, r_le1, r_le2, r_leD0, r_leD1, r_leD2, leLL_nil, leLL_cons, V.under, List.take_succ_cons, List.take_nil, true_or, or_true, false_implies, Option.some.injEq, forall_eq', V.bytes.injEq, V.int.injEq, V.bool.injEq, V.str.injEq, V.list.injEq, List.cons.injEq, evalPure, evalEff, evPick, evBin, evUn, evConvL, evConv, evExtract, evLen, evMin, evMax, evIndexAddr, evLoad, loadBox, evLoadR, evFieldAddr, evField, evIndex, evSlice, sliceV, evAppend, evMake, evBuildSlice, bytesOf, allOk, seqFrom, evBox, evAlloc, evStore, evBuild, fillV, setSeg, evCall, callArgs, castV, binInt, binStr, setO, evOp, V.ofV, V.ofV1, V.top, V.drop, V.up, V.up1, V.cells, V.storable, V.one, partV, cellV, loadV, lenV, retPost, resV, resAll, resOne, Ret, V.flat, V.flat1, V.clean, V.ren, V.ren1, renT, V.le, List.length_cons, List.length_nil, List.replicate, List.cons_append, List.nil_append, List.getElem?_cons_zero, List.getElem?_cons_succ, List.getElem?_toArray, List.getElem?_nil, List.map_cons, List.map_nil, List.zipWith_cons_cons, List.zipWith_nil_left, List.zipWith_nil_right, List.append_nil, List.mem_cons, List.not_mem_nil, List.take_zero, List.drop_zero, Nat.reduceAdd, Nat.reduceSub, Nat.reduceMul, Nat.reduceLT, Nat.reduceLeDiff, Nat.reduceEqDiff, Nat.reduceBEq, Nat.reduceBNe, Nat.zero_add, Nat.add_zero, Int.reduceToNat, Int.reduceLE, Int.reduceLT, Int.reduceEq, Int.reduceNe, Int.reduceNeg, Nat.reducePow, Int.reducePow, Nat.lt_irrefl, Nat.zero_lt_one, cond_true, cond_false, true_and, and_true, and_self, if_true, if_false, Option.map_some, Option.map_none, Option.bind_some, Option.bind_none, Option.isSome_some, Option.some.injEq, Prod.mk.injEq, exists_eq_left', reduceIte, reduceCtorEq, Bool.false_eq_true, Bool.true_and, Bool.and_true, Bool.not_true, Bool.not_false, Bool.or_true, Bool.or_false, Bool.true_or, Bool.false_or, Bool.and_self, Bool.false_and, Bool.and_false, ne_eq, not_false_eq_true, not_true_eq_false, false_or, or_false, forall_eq_or_imp, forall_eq, forall_const, implies_true, List.size_toArray, decide_true, decide_false, beq_self_eq_true, IntKind.bits, IntKind.signed, Array.toList_map, r_leS, Nat.min_self, Nat.mul_one, ty2, tk2, ts2, ta2, tu2, tn2, tr2, tz2, tv2, td2, ty3, tk3, ts3, ta3, tu3, tn3, tr3, tz3, tv3, td3, ty4, tk4, ts4, ta4, tu4, tn4, tr4, tz4, tv4, td4, ty5, tk5, ts5, ta5, tu5, tn5, tr5, tz5, tv5, td5, ty9, tk9, ts9, ta9, tu9, tn9, tr9, tz9, tv9, td9, ty22, tk22, ts22, ta22, tb22, te22, tu22, tn22, tr22, tz22, tv22, td22, ty23, tk23, ts23, ta23, tu23, tn23, tr23, tz23, tv23, td23, ty45, tk45, ts45, ta45, tu45, tn45, tr45, tz45, tv45, td45, ty56, tk56, ts56, ta56, tu56, tn56, tr56, tz56, tv56, td56, G0_fn, G0_mu, G0_hp, G0_ord, G1_fn, G1_mu, G1_hp, G1_ord, G2_fn, G2_mu, G2_hp, G2_ord]
        obtain ⟨s, rfl⟩ := Int.eq_ofNat_of_zero_le (show 0 ≤ size by omega)
        refine awpIf_intro (fun h => ?_) (fun h => ?_)
        · simp only [decide_eq_true_eq] at h
          obtain ⟨k, rfl⟩ : ∃ k', k = k' + 1 := ⟨k - 1, by omega⟩
          have e1 : ((k + 1 : Nat) : Int) - 1 = (k : Int) := by omega
          rw [e1, i64w (n := 8 * (k : Int)) (by omega) (by omega), i64w (n := (k : Int) - 1) (by omega) (by omega), shr8 _ _ (by omega), u8nat]
          have hl : ((be s m).take (s - (k + 1))).length = s - (k + 1) := by rw [List.length_take, be_length]; omega
          simp only [Int.toNat_natCast]
          refine ⟨by omega, by omega, by first | exact mb _ (by simp only [List.length_append, hl]; omega) | exact mb _ (by simp only [hl]; omega) | exact mb _ (by omega), ⟨⟨k, by omega⟩, ?_⟩⟩
          have e2 : s - k = (s - (k + 1)) + 1 := by omega
          have e3 : s - 1 - (s - (k + 1)) = k := by omega
          rw [e2, be_take s m _ (by omega), e3]
          simp
        · simp only [decide_eq_false_iff_not] at h
          have hk0 : k = 0 := by omega
          subst hk0
          have hf : fixF b m s = b ++ be s m := by unfold fixF; rw [if_pos hs]; rfl
          have ht : (be s m).take s = be s m := List.take_of_length_le (by rw [be_length]; omega)
          simp only [Int.toNat_natCast, Nat.sub_zero]
          rw [hf, ht]
          exact ⟨0, rfl, rfl, rfl⟩
    · have hs : ¬ (1 ≤ size ∧ size ≤ 8) := by simpa [sizedB] using h
      have hf : fixF b m size = b := by unfold fixF; rw [if_neg hs]
      rw [hf]
      exact ⟨by omega, 0, rfl, rfl, rfl⟩
  · cases hm

/-! ### taken -/
def takeM : FM
  | [.bytes b _] => some (b.length ≤ 549755813888, .tuple [.int .u64 (takeF b).1, .bytes (takeF b).2.1 none, .int .i64 (takeF b).2.2], [])
  | _ => none
theorem p128 (i : Nat) : 2 ^ (7 * i) = 128 ^ i := by rw [Nat.pow_mul]
theorem digit (i acc c : Nat) (hi : i ≤ 8 ∨ (i = 9 ∧ c ≤ 1)) (ha : acc < 128 ^ i) :
    orK .u64 (acc : Int) (shlK .u64 (IntKind.u64.wrap ((c : Int).tmod 128)) (IntKind.i64.wrap (7 * (i : Int)))) = ((acc + c % 128 * 128 ^ i : Nat) : Int) := by
  have hd : (c : Int).tmod 128 = ((c % 128 : Nat) : Int) := by rw [Int.tmod_eq_emod_of_nonneg (by omega)]; omega
  have h7 : (7 * (i : Int)) = ((7 * i : Nat) : Int) := by omega
  have hb : acc + c % 128 * 128 ^ i < 18446744073709551616 := by
    rcases hi with hi | ⟨rfl, hc⟩
    · have h1 : 128 ^ i ≤ 128 ^ 8 := Nat.pow_le_pow_right (by omega) hi
      have h2 : c % 128 * 128 ^ i ≤ 127 * 128 ^ i := Nat.mul_le_mul_right _ (by omega)
      have h3 : (128 : Nat) ^ 8 = 72057594037927936 := by decide
      omega
    · have h3 : (128 : Nat) ^ 9 = 9223372036854775808 := by decide
      have : c = 0 ∨ c = 1 := by omega
      rcases this with rfl | rfl <;> omega
  rw [hd, u64w (by omega) (by omega), i64w (by omega) (by omega), h7, shl64 _ _ (by omega), p128, Nat.mod_eq_of_lt (by omega)]
  rw [← p128] at ha hb ⊢
  exact or64_add ha hb

-- (not in this seat)
end Go.Proofs.Ytpoghlfkokedpaa.Vary
