/-
  PACKAGE vary AND ITS REFERENCE: what each function answers.
-/
import Derived.Test.YtljmfemcfkhehaaProg
import Derived.Test.YtljmfemcfkhehaaVaryM
import Derived.Test.YtljmfemcfkhehaaNum
import Derived.KernelRfl
namespace Go.Proofs.Ytljmfemcfkhehaa.Vary
open Go Go.Proofs Go.Proofs.Ytljmfemcfkhehaa.Aw Go.Proofs.Ytljmfemcfkhehaa.VaryM Go.Proofs.Ytljmfemcfkhehaa.Num
set_option linter.unusedSimpArgs false
set_option linter.unusedVariables false

def tys : Tys := fun t => if t = 2 then some ⟨.int .i64, 1, 8, (.int .i64 0)⟩ else if t = 3 then some ⟨.int .i64, 1, 8, (.int .i64 0)⟩ else if t = 4 then some ⟨.bool, 1, 1, (.bool false)⟩ else if t = 5 then some ⟨.int .u8, 1, 1, (.int .u8 0)⟩ else if t = 9 then some ⟨.str, 1, 16, (.string .empty)⟩ else if t = 22 then some ⟨.slice 5, 1, 24, (.slice none 0 0)⟩ else if t = 24 then some ⟨.int .u64, 1, 8, (.int .u64 0)⟩ else if t = 25 then some ⟨.int .i64, 1, 8, (.int .i64 0)⟩ else if t = 39 then some ⟨.int .u64, 1, 8, (.int .u64 0)⟩ else none
theorem tysOk : TyOk Try.prog tys := by
  refine TyOk.cons ?_ 2 _ (by kernel_rfl) (by kernel_rfl)
  refine TyOk.cons ?_ 3 _ (by kernel_rfl) (by kernel_rfl)
  refine TyOk.cons ?_ 4 _ (by kernel_rfl) (by kernel_rfl)
  refine TyOk.cons ?_ 5 _ (by kernel_rfl) (by kernel_rfl)
  refine TyOk.cons ?_ 9 _ (by kernel_rfl) (by kernel_rfl)
  refine TyOk.cons ?_ 22 _ (by kernel_rfl) (by kernel_rfl)
  refine TyOk.cons ?_ 24 _ (by kernel_rfl) (by kernel_rfl)
  refine TyOk.cons ?_ 25 _ (by kernel_rfl) (by kernel_rfl)
  refine TyOk.cons ?_ 39 _ (by kernel_rfl) (by kernel_rfl)
  exact TyOk.nil _
theorem mix : Try.prog.follows .mixedOrders = true := by kernel_rfl
theorem ty2 : tys 2 = some ⟨.int .i64, 1, 8, (.int .i64 0)⟩ := rfl
theorem tk2 : kindV tys 2 = some (.int .i64) := rfl
theorem ts2 : sizeV tys 2 = 1 := rfl
theorem ta2 : TyI.isAgg ⟨.int .i64, 1, 8, (.int .i64 0)⟩ = false := rfl
theorem tu2 : isU8 ⟨.int .i64, 1, 8, (.int .i64 0)⟩ = false := rfl
theorem tn2 : notIntK tys 2 = false := rfl
theorem tr2 : isStrK tys 2 = false := rfl
theorem tz2 : zeroOk ⟨.int .i64, 1, 8, (.int .i64 0)⟩ = true := by kernel_rfl
theorem tv2 : zeroU8 ⟨.int .i64, 1, 8, (.int .i64 0)⟩ = false := rfl
theorem ty3 : tys 3 = some ⟨.int .i64, 1, 8, (.int .i64 0)⟩ := rfl
theorem tk3 : kindV tys 3 = some (.int .i64) := rfl
theorem ts3 : sizeV tys 3 = 1 := rfl
theorem ta3 : TyI.isAgg ⟨.int .i64, 1, 8, (.int .i64 0)⟩ = false := rfl
theorem tu3 : isU8 ⟨.int .i64, 1, 8, (.int .i64 0)⟩ = false := rfl
theorem tn3 : notIntK tys 3 = false := rfl
theorem tr3 : isStrK tys 3 = false := rfl
theorem tz3 : zeroOk ⟨.int .i64, 1, 8, (.int .i64 0)⟩ = true := by kernel_rfl
theorem tv3 : zeroU8 ⟨.int .i64, 1, 8, (.int .i64 0)⟩ = false := rfl
theorem ty4 : tys 4 = some ⟨.bool, 1, 1, (.bool false)⟩ := rfl
theorem tk4 : kindV tys 4 = some (.bool) := rfl
theorem ts4 : sizeV tys 4 = 1 := rfl
theorem ta4 : TyI.isAgg ⟨.bool, 1, 1, (.bool false)⟩ = false := rfl
theorem tu4 : isU8 ⟨.bool, 1, 1, (.bool false)⟩ = false := rfl
theorem tn4 : notIntK tys 4 = true := rfl
theorem tr4 : isStrK tys 4 = false := rfl
theorem tz4 : zeroOk ⟨.bool, 1, 1, (.bool false)⟩ = true := by kernel_rfl
theorem tv4 : zeroU8 ⟨.bool, 1, 1, (.bool false)⟩ = false := rfl
theorem ty5 : tys 5 = some ⟨.int .u8, 1, 1, (.int .u8 0)⟩ := rfl
theorem tk5 : kindV tys 5 = some (.int .u8) := rfl
theorem ts5 : sizeV tys 5 = 1 := rfl
theorem ta5 : TyI.isAgg ⟨.int .u8, 1, 1, (.int .u8 0)⟩ = false := rfl
theorem tu5 : isU8 ⟨.int .u8, 1, 1, (.int .u8 0)⟩ = true := rfl
theorem tn5 : notIntK tys 5 = false := rfl
theorem tr5 : isStrK tys 5 = false := rfl
theorem tz5 : zeroOk ⟨.int .u8, 1, 1, (.int .u8 0)⟩ = true := by kernel_rfl
theorem tv5 : zeroU8 ⟨.int .u8, 1, 1, (.int .u8 0)⟩ = true := rfl
theorem ty9 : tys 9 = some ⟨.str, 1, 16, (.string .empty)⟩ := rfl
theorem tk9 : kindV tys 9 = some (.str) := rfl
theorem ts9 : sizeV tys 9 = 1 := rfl
theorem ta9 : TyI.isAgg ⟨.str, 1, 16, (.string .empty)⟩ = false := rfl
theorem tu9 : isU8 ⟨.str, 1, 16, (.string .empty)⟩ = false := rfl
theorem tn9 : notIntK tys 9 = true := rfl
theorem tr9 : isStrK tys 9 = true := rfl
theorem tz9 : zeroOk ⟨.str, 1, 16, (.string .empty)⟩ = true := by kernel_rfl
theorem tv9 : zeroU8 ⟨.str, 1, 16, (.string .empty)⟩ = false := rfl
theorem ty22 : tys 22 = some ⟨.slice 5, 1, 24, (.slice none 0 0)⟩ := rfl
theorem tk22 : kindV tys 22 = some (.slice 5) := rfl
theorem ts22 : sizeV tys 22 = 1 := rfl
theorem ta22 : TyI.isAgg ⟨.slice 5, 1, 24, (.slice none 0 0)⟩ = false := rfl
theorem tb22 : isBytes tys 22 = true := rfl
theorem te22 : elemI tys 22 = some (5, ⟨.int .u8, 1, 1, (.int .u8 0)⟩) := rfl
theorem tu22 : isU8 ⟨.slice 5, 1, 24, (.slice none 0 0)⟩ = false := rfl
theorem tn22 : notIntK tys 22 = true := rfl
theorem tr22 : isStrK tys 22 = false := rfl
theorem tz22 : zeroOk ⟨.slice 5, 1, 24, (.slice none 0 0)⟩ = true := by kernel_rfl
theorem tv22 : zeroU8 ⟨.slice 5, 1, 24, (.slice none 0 0)⟩ = false := rfl
theorem ty24 : tys 24 = some ⟨.int .u64, 1, 8, (.int .u64 0)⟩ := rfl
theorem tk24 : kindV tys 24 = some (.int .u64) := rfl
theorem ts24 : sizeV tys 24 = 1 := rfl
theorem ta24 : TyI.isAgg ⟨.int .u64, 1, 8, (.int .u64 0)⟩ = false := rfl
theorem tu24 : isU8 ⟨.int .u64, 1, 8, (.int .u64 0)⟩ = false := rfl
theorem tn24 : notIntK tys 24 = false := rfl
theorem tr24 : isStrK tys 24 = false := rfl
theorem tz24 : zeroOk ⟨.int .u64, 1, 8, (.int .u64 0)⟩ = true := by kernel_rfl
theorem tv24 : zeroU8 ⟨.int .u64, 1, 8, (.int .u64 0)⟩ = false := rfl
theorem ty25 : tys 25 = some ⟨.int .i64, 1, 8, (.int .i64 0)⟩ := rfl
theorem tk25 : kindV tys 25 = some (.int .i64) := rfl
theorem ts25 : sizeV tys 25 = 1 := rfl
theorem ta25 : TyI.isAgg ⟨.int .i64, 1, 8, (.int .i64 0)⟩ = false := rfl
theorem tu25 : isU8 ⟨.int .i64, 1, 8, (.int .i64 0)⟩ = false := rfl
theorem tn25 : notIntK tys 25 = false := rfl
theorem tr25 : isStrK tys 25 = false := rfl
theorem tz25 : zeroOk ⟨.int .i64, 1, 8, (.int .i64 0)⟩ = true := by kernel_rfl
theorem tv25 : zeroU8 ⟨.int .i64, 1, 8, (.int .i64 0)⟩ = false := rfl
theorem ty39 : tys 39 = some ⟨.int .u64, 1, 8, (.int .u64 0)⟩ := rfl
theorem tk39 : kindV tys 39 = some (.int .u64) := rfl
theorem ts39 : sizeV tys 39 = 1 := rfl
theorem ta39 : TyI.isAgg ⟨.int .u64, 1, 8, (.int .u64 0)⟩ = false := rfl
theorem tu39 : isU8 ⟨.int .u64, 1, 8, (.int .u64 0)⟩ = false := rfl
theorem tn39 : notIntK tys 39 = false := rfl
theorem tr39 : isStrK tys 39 = false := rfl
theorem tz39 : zeroOk ⟨.int .u64, 1, 8, (.int .u64 0)⟩ = true := by kernel_rfl
theorem tv39 : zeroU8 ⟨.int .u64, 1, 8, (.int .u64 0)⟩ = false := rfl


def G0 : Fns := fun _ => none
theorem G0ok : FnsOk Try.prog G0 := FnsOk.nil _

def roomyM : FM
  | [.bytes b _, .int .i64 r] => some (0 ≤ r ∧ r ≤ 1000 ∧ b.length ≤ 1099511627776, .bytes b (some 0), [(b.length, 5)])
  | _ => none
theorem roomy_ok : FSound Try.prog 19 roomyM := by
  refine fsound tysOk G0ok mix Try.func19 rfl ?_
  intro args p r fr hm hp
  unfold roomyM at hm
  split at hm
  · rename_i b t r
    cases hm
    obtain ⟨h0, h1, h2⟩ := hp
    simp (config := { maxSteps := 2000000 }) only [r_step, r_orSome, r_orNone, r_outSome, r_exec, r_opsNil, r_opsCons, r_opsGuard, r_skip, r_label, r_exit, r_goto, r_ret, r_seq, r_block, r_scope, r_ngN, r_ngE, r_ngR, r_loop, r_region, r_draw, r_cond, r_condBool, r_thenN, r_thenE, r_thenG, r_thenR, r_blockN, r_blockE, r_blockG, r_blockR, r_guardT, r_guardF, r_guardU, set8, get8, set_0, get_0, set_1, get_1, set_2, get_2, set_3, get_3, set_4, get_4, set_5, get_5, set_6, get_6, set_7, get_7, ↓r_ifTrue, ↓r_ifFalse, r_ifTrue, r_ifFalse, r_ifNot, r_outD, r_execDcons, r_dNil, r_nextD, r_dCons, r_dGuard, r_dGuardT, r_dGuardF, r_dGuardU, r_stepD, r_orDs, r_orDn, effD, guardAt, leL_cons, leL_nil, le_any, r_le0, r_le1, r_le2, r_leD0, r_leD1, r_leD2, leLL_nil, leLL_cons, V.under, List.take_succ_cons, List.take_nil, true_or, or_true, false_implies, Option.some.injEq, forall_eq', V.bytes.injEq, V.int.injEq, V.bool.injEq, V.str.injEq, V.list.injEq, List.cons.injEq, evalPure, evalEff, evPick, evBin, evUn, evConv, evExtract, evLen, evMin, evMax, evIndexAddr, evLoad, evFieldAddr, evField, evIndex, evSlice, sliceV, evAppend, evMake, evBuildSlice, bytesOf, allOk, seqFrom, evBox, evAlloc, evStore, evBuild, fillV, setSeg, evCall, callArgs, castV, binInt, binStr, setO, evOp, V.ofV, V.ofV1, V.top, V.drop, V.up, V.up1, V.cells, V.storable, V.one, partV, cellV, loadV, lenV, retPost, resV, resAll, resOne, Ret, V.flat, V.flat1, V.clean, V.ren, V.ren1, renT, V.le, List.length_cons, List.length_nil, List.replicate, List.cons_append, List.nil_append, List.getElem?_cons_zero, List.getElem?_cons_succ, List.getElem?_toArray, List.getElem?_nil, List.map_cons, List.map_nil, List.zipWith_cons_cons, List.zipWith_nil_left, List.zipWith_nil_right, List.append_nil, List.mem_cons, List.not_mem_nil, List.take_zero, List.drop_zero, Nat.reduceAdd, Nat.reduceSub, Nat.reduceMul, Nat.reduceLT, Nat.reduceLeDiff, Nat.reduceEqDiff, Nat.reduceBEq, Nat.reduceBNe, Nat.zero_add, Nat.add_zero, Int.reduceToNat, Int.reduceLE, Int.reduceLT, Int.reduceEq, Int.reduceNe, Int.reduceNeg, Nat.reducePow, Int.reducePow, Nat.lt_irrefl, Nat.zero_lt_one, cond_true, cond_false, true_and, and_true, and_self, if_true, if_false, Option.map_some, Option.map_none, Option.bind_some, Option.bind_none, Option.isSome_some, Option.some.injEq, Prod.mk.injEq, exists_eq_left', reduceIte, reduceCtorEq, Bool.false_eq_true, Bool.true_and, Bool.and_true, Bool.not_true, Bool.not_false, Bool.or_true, Bool.or_false, Bool.true_or, Bool.false_or, Bool.and_self, Bool.false_and, Bool.and_false, ne_eq, not_false_eq_true, not_true_eq_false, false_or, or_false, forall_eq_or_imp, forall_eq, forall_const, implies_true, List.size_toArray, decide_true, decide_false, beq_self_eq_true, IntKind.bits, IntKind.signed, Array.toList_map, ty2, tk2, ts2, ta2, tu2, tn2, tr2, tz2, tv2, ty3, tk3, ts3, ta3, tu3, tn3, tr3, tz3, tv3, ty4, tk4, ts4, ta4, tu4, tn4, tr4, tz4, tv4, ty5, tk5, ts5, ta5, tu5, tn5, tr5, tz5, tv5, ty9, tk9, ts9, ta9, tu9, tn9, tr9, tz9, tv9, ty22, tk22, ts22, ta22, tb22, te22, tu22, tn22, tr22, tz22, tv22, ty24, tk24, ts24, ta24, tu24, tn24, tr24, tz24, tv24, ty25, tk25, ts25, ta25, tu25, tn25, tr25, tz25, tv25, ty39, tk39, ts39, ta39, tu39, tn39, tr39, tz39, tv39, Try.f19]
    rw [i64w (by omega) (by omega)]
    exact ⟨⟨by omega, by omega, by omega⟩, by unfold maxBytes; omega, 0, rfl, rfl⟩
  · cases hm

def sizedB (n : Int) : Bool := decide (1 ≤ n ∧ n ≤ 8)
def sizedM : FM
  | [.int .i64 n] => some (True, .bool (sizedB n), [])
  | _ => none
theorem sized_ok : FSound Try.prog 20 sizedM := by
  refine fsound tysOk G0ok mix Try.func20 rfl ?_
  intro args p r fr hm hp
  unfold sizedM at hm
  split at hm
  · rename_i n
    cases hm
    simp (config := { maxSteps := 2000000 }) only [r_step, r_orSome, r_orNone, r_outSome, r_exec, r_opsNil, r_opsCons, r_opsGuard, r_skip, r_label, r_exit, r_goto, r_ret, r_seq, r_block, r_scope, r_ngN, r_ngE, r_ngR, r_loop, r_region, r_draw, r_cond, r_condBool, r_thenN, r_thenE, r_thenG, r_thenR, r_blockN, r_blockE, r_blockG, r_blockR, r_guardT, r_guardF, r_guardU, set8, get8, set_0, get_0, set_1, get_1, set_2, get_2, set_3, get_3, set_4, get_4, set_5, get_5, set_6, get_6, set_7, get_7, ↓r_ifTrue, ↓r_ifFalse, r_ifTrue, r_ifFalse, r_ifNot, r_outD, r_execDcons, r_dNil, r_nextD, r_dCons, r_dGuard, r_dGuardT, r_dGuardF, r_dGuardU, r_stepD, r_orDs, r_orDn, effD, guardAt, leL_cons, leL_nil, le_any, r_le0, r_le1, r_le2, r_leD0, r_leD1, r_leD2, leLL_nil, leLL_cons, V.under, List.take_succ_cons, List.take_nil, true_or, or_true, false_implies, Option.some.injEq, forall_eq', V.bytes.injEq, V.int.injEq, V.bool.injEq, V.str.injEq, V.list.injEq, List.cons.injEq, evalPure, evalEff, evPick, evBin, evUn, evConv, evExtract, evLen, evMin, evMax, evIndexAddr, evLoad, evFieldAddr, evField, evIndex, evSlice, sliceV, evAppend, evMake, evBuildSlice, bytesOf, allOk, seqFrom, evBox, evAlloc, evStore, evBuild, fillV, setSeg, evCall, callArgs, castV, binInt, binStr, setO, evOp, V.ofV, V.ofV1, V.top, V.drop, V.up, V.up1, V.cells, V.storable, V.one, partV, cellV, loadV, lenV, retPost, resV, resAll, resOne, Ret, V.flat, V.flat1, V.clean, V.ren, V.ren1, renT, V.le, List.length_cons, List.length_nil, List.replicate, List.cons_append, List.nil_append, List.getElem?_cons_zero, List.getElem?_cons_succ, List.getElem?_toArray, List.getElem?_nil, List.map_cons, List.map_nil, List.zipWith_cons_cons, List.zipWith_nil_left, List.zipWith_nil_right, List.append_nil, List.mem_cons, List.not_mem_nil, List.take_zero, List.drop_zero, Nat.reduceAdd, Nat.reduceSub, Nat.reduceMul, Nat.reduceLT, Nat.reduceLeDiff, Nat.reduceEqDiff, Nat.reduceBEq, Nat.reduceBNe, Nat.zero_add, Nat.add_zero, Int.reduceToNat, Int.reduceLE, Int.reduceLT, Int.reduceEq, Int.reduceNe, Int.reduceNeg, Nat.reducePow, Int.reducePow, Nat.lt_irrefl, Nat.zero_lt_one, cond_true, cond_false, true_and, and_true, and_self, if_true, if_false, Option.map_some, Option.map_none, Option.bind_some, Option.bind_none, Option.isSome_some, Option.some.injEq, Prod.mk.injEq, exists_eq_left', reduceIte, reduceCtorEq, Bool.false_eq_true, Bool.true_and, Bool.and_true, Bool.not_true, Bool.not_false, Bool.or_true, Bool.or_false, Bool.true_or, Bool.false_or, Bool.and_self, Bool.false_and, Bool.and_false, ne_eq, not_false_eq_true, not_true_eq_false, false_or, or_false, forall_eq_or_imp, forall_eq, forall_const, implies_true, List.size_toArray, decide_true, decide_false, beq_self_eq_true, IntKind.bits, IntKind.signed, Array.toList_map, ty2, tk2, ts2, ta2, tu2, tn2, tr2, tz2, tv2, ty3, tk3, ts3, ta3, tu3, tn3, tr3, tz3, tv3, ty4, tk4, ts4, ta4, tu4, tn4, tr4, tz4, tv4, ty5, tk5, ts5, ta5, tu5, tn5, tr5, tz5, tv5, ty9, tk9, ts9, ta9, tu9, tn9, tr9, tz9, tv9, ty22, tk22, ts22, ta22, tb22, te22, tu22, tn22, tr22, tz22, tv22, ty24, tk24, ts24, ta24, tu24, tn24, tr24, tz24, tv24, ty25, tk25, ts25, ta25, tu25, tn25, tr25, tz25, tv25, ty39, tk39, ts39, ta39, tu39, tn39, tr39, tz39, tv39, Try.f20]
    refine awpIf_intro (fun h => ?_) (fun h => ?_) <;> simp at h <;> simp [sizedB] <;> omega
  · cases hm

def putM : FM
  | [.bytes b _, .int .u64 n] => some (0 ≤ n ∧ n ≤ 18446744073709551615 ∧ b.length ≤ 549755813888, .bytes (b ++ leb n.toNat) (some 0), [((b ++ leb n.toNat).length, 5)])
  | _ => none
def G1 : Fns := fun f => if f = 19 then some roomyM else G0 f
theorem G1ok : FnsOk Try.prog G1 := G0ok.cons _ _ roomy_ok Try.func19 (by decide) (fun h => by cases h)
theorem put_ok : FSound Try.prog 15 putM := by
  refine fsound tysOk G1ok mix Try.func15 rfl ?_
  intro args p r fr hm hp
  unfold putM at hm
  split at hm
  · rename_i b t n
    cases hm
    obtain ⟨h0, h1, h2⟩ := hp
    simp (config := { maxSteps := 2000000 }) only [r_step, r_orSome, r_orNone, r_outSome, r_exec, r_opsNil, r_opsCons, r_opsGuard, r_skip, r_label, r_exit, r_goto, r_ret, r_seq, r_block, r_scope, r_ngN, r_ngE, r_ngR, r_loop, r_region, r_draw, r_cond, r_condBool, r_thenN, r_thenE, r_thenG, r_thenR, r_blockN, r_blockE, r_blockG, r_blockR, r_guardT, r_guardF, r_guardU, set8, get8, set_0, get_0, set_1, get_1, set_2, get_2, set_3, get_3, set_4, get_4, set_5, get_5, set_6, get_6, set_7, get_7, ↓r_ifTrue, ↓r_ifFalse, r_ifTrue, r_ifFalse, r_ifNot, r_outD, r_execDcons, r_dNil, r_nextD, r_dCons, r_dGuard, r_dGuardT, r_dGuardF, r_dGuardU, r_stepD, r_orDs, r_orDn, effD, guardAt, leL_cons, leL_nil, le_any, r_le0, r_le1, r_le2, r_leD0, r_leD1, r_leD2, leLL_nil, leLL_cons, V.under, List.take_succ_cons, List.take_nil, true_or, or_true, false_implies, Option.some.injEq, forall_eq', V.bytes.injEq, V.int.injEq, V.bool.injEq, V.str.injEq, V.list.injEq, List.cons.injEq, evalPure, evalEff, evPick, evBin, evUn, evConv, evExtract, evLen, evMin, evMax, evIndexAddr, evLoad, evFieldAddr, evField, evIndex, evSlice, sliceV, evAppend, evMake, evBuildSlice, bytesOf, allOk, seqFrom, evBox, evAlloc, evStore, evBuild, fillV, setSeg, evCall, callArgs, castV, binInt, binStr, setO, evOp, V.ofV, V.ofV1, V.top, V.drop, V.up, V.up1, V.cells, V.storable, V.one, partV, cellV, loadV, lenV, retPost, resV, resAll, resOne, Ret, V.flat, V.flat1, V.clean, V.ren, V.ren1, renT, V.le, List.length_cons, List.length_nil, List.replicate, List.cons_append, List.nil_append, List.getElem?_cons_zero, List.getElem?_cons_succ, List.getElem?_toArray, List.getElem?_nil, List.map_cons, List.map_nil, List.zipWith_cons_cons, List.zipWith_nil_left, List.zipWith_nil_right, List.append_nil, List.mem_cons, List.not_mem_nil, List.take_zero, List.drop_zero, Nat.reduceAdd, Nat.reduceSub, Nat.reduceMul, Nat.reduceLT, Nat.reduceLeDiff, Nat.reduceEqDiff, Nat.reduceBEq, Nat.reduceBNe, Nat.zero_add, Nat.add_zero, Int.reduceToNat, Int.reduceLE, Int.reduceLT, Int.reduceEq, Int.reduceNe, Int.reduceNeg, Nat.reducePow, Int.reducePow, Nat.lt_irrefl, Nat.zero_lt_one, cond_true, cond_false, true_and, and_true, and_self, if_true, if_false, Option.map_some, Option.map_none, Option.bind_some, Option.bind_none, Option.isSome_some, Option.some.injEq, Prod.mk.injEq, exists_eq_left', reduceIte, reduceCtorEq, Bool.false_eq_true, Bool.true_and, Bool.and_true, Bool.not_true, Bool.not_false, Bool.or_true, Bool.or_false, Bool.true_or, Bool.false_or, Bool.and_self, Bool.false_and, Bool.and_false, ne_eq, not_false_eq_true, not_true_eq_false, false_or, or_false, forall_eq_or_imp, forall_eq, forall_const, implies_true, List.size_toArray, decide_true, decide_false, beq_self_eq_true, IntKind.bits, IntKind.signed, Array.toList_map, ty2, tk2, ts2, ta2, tu2, tn2, tr2, tz2, tv2, ty3, tk3, ts3, ta3, tu3, tn3, tr3, tz3, tv3, ty4, tk4, ts4, ta4, tu4, tn4, tr4, tz4, tv4, ty5, tk5, ts5, ta5, tu5, tn5, tr5, tz5, tv5, ty9, tk9, ts9, ta9, tu9, tn9, tr9, tz9, tv9, ty22, tk22, ts22, ta22, tb22, te22, tu22, tn22, tr22, tz22, tv22, ty24, tk24, ts24, ta24, tu24, tn24, tr24, tz24, tv24, ty25, tk25, ts25, ta25, tu25, tn25, tr25, tz25, tv25, ty39, tk39, ts39, ta39, tu39, tn39, tr39, tz39, tv39, Try.f15, G1, roomyM]
    refine ⟨by omega, ?_⟩
    refine awpLoop_intro (α := {x : List UInt8 × Nat // x.1 ++ leb x.2 = leb n.toNat ∧ x.2 ≤ 18446744073709551615 ∧ x.1.length + (leb x.2).length ≤ 10})
      (fun x => ⟨[.any, .int .u64 x.1.2, .any, .any, .any, .bytes (b ++ x.1.1) (some 0), .any, .any, .any, .any, .any, .any, .any, .any, .any, .any, .any, .any, .any, .any, .any, .any, .any], [], [((b ++ x.1.1).length, 5)]⟩) (fun x => x.1.2)
      ⟨([], n.toNat), by simp, by omega, by simpa using leb_len10 n.toNat (by omega)⟩ ?_ ?_
    · simp (config := { maxSteps := 2000000 }) only [r_step, r_orSome, r_orNone, r_outSome, r_exec, r_opsNil, r_opsCons, r_opsGuard, r_skip, r_label, r_exit, r_goto, r_ret, r_seq, r_block, r_scope, r_ngN, r_ngE, r_ngR, r_loop, r_region, r_draw, r_cond, r_condBool, r_thenN, r_thenE, r_thenG, r_thenR, r_blockN, r_blockE, r_blockG, r_blockR, r_guardT, r_guardF, r_guardU, set8, get8, set_0, get_0, set_1, get_1, set_2, get_2, set_3, get_3, set_4, get_4, set_5, get_5, set_6, get_6, set_7, get_7, ↓r_ifTrue, ↓r_ifFalse, r_ifTrue, r_ifFalse, r_ifNot, r_outD, r_execDcons, r_dNil, r_nextD, r_dCons, r_dGuard, r_dGuardT, r_dGuardF, r_dGuardU, r_stepD, r_orDs, r_orDn, effD, guardAt, leL_cons, leL_nil, le_any, r_le0, r_le1, r_le2, r_leD0, r_leD1, r_leD2, leLL_nil, leLL_cons, V.under, List.take_succ_cons, List.take_nil, true_or, or_true, false_implies, Option.some.injEq, forall_eq', V.bytes.injEq, V.int.injEq, V.bool.injEq, V.str.injEq, V.list.injEq, List.cons.injEq, evalPure, evalEff, evPick, evBin, evUn, evConv, evExtract, evLen, evMin, evMax, evIndexAddr, evLoad, evFieldAddr, evField, evIndex, evSlice, sliceV, evAppend, evMake, evBuildSlice, bytesOf, allOk, seqFrom, evBox, evAlloc, evStore, evBuild, fillV, setSeg, evCall, callArgs, castV, binInt, binStr, setO, evOp, V.ofV, V.ofV1, V.top, V.drop, V.up, V.up1, V.cells, V.storable, V.one, partV, cellV, loadV, lenV, retPost, resV, resAll, resOne, Ret, V.flat, V.flat1, V.clean, V.ren, V.ren1, renT, V.le, List.length_cons, List.length_nil, List.replicate, List.cons_append, List.nil_append, List.getElem?_cons_zero, List.getElem?_cons_succ, List.getElem?_toArray, List.getElem?_nil, List.map_cons, List.map_nil, List.zipWith_cons_cons, List.zipWith_nil_left, List.zipWith_nil_right, List.append_nil, List.mem_cons, List.not_mem_nil, List.take_zero, List.drop_zero, Nat.reduceAdd, Nat.reduceSub, Nat.reduceMul, Nat.reduceLT, Nat.reduceLeDiff, Nat.reduceEqDiff, Nat.reduceBEq, Nat.reduceBNe, Nat.zero_add, Nat.add_zero, Int.reduceToNat, Int.reduceLE, Int.reduceLT, Int.reduceEq, Int.reduceNe, Int.reduceNeg, Nat.reducePow, Int.reducePow, Nat.lt_irrefl, Nat.zero_lt_one, cond_true, cond_false, true_and, and_true, and_self, if_true, if_false, Option.map_some, Option.map_none, Option.bind_some, Option.bind_none, Option.isSome_some, Option.some.injEq, Prod.mk.injEq, exists_eq_left', reduceIte, reduceCtorEq, Bool.false_eq_true, Bool.true_and, Bool.and_true, Bool.not_true, Bool.not_false, Bool.or_true, Bool.or_false, Bool.true_or, Bool.false_or, Bool.and_self, Bool.false_and, Bool.and_false, ne_eq, not_false_eq_true, not_true_eq_false, false_or, or_false, forall_eq_or_imp, forall_eq, forall_const, implies_true, List.size_toArray, decide_true, decide_false, beq_self_eq_true, IntKind.bits, IntKind.signed, Array.toList_map, ty2, tk2, ts2, ta2, tu2, tn2, tr2, tz2, tv2, ty3, tk3, ts3, ta3, tu3, tn3, tr3, tz3, tv3, ty4, tk4, ts4, ta4, tu4, tn4, tr4, tz4, tv4, ty5, tk5, ts5, ta5, tu5, tn5, tr5, tz5, tv5, ty9, tk9, ts9, ta9, tu9, tn9, tr9, tz9, tv9, ty22, tk22, ts22, ta22, tb22, te22, tu22, tn22, tr22, tz22, tv22, ty24, tk24, ts24, ta24, tu24, tn24, tr24, tz24, tv24, ty25, tk25, ts25, ta25, tu25, tn25, tr25, tz25, tv25, ty39, tk39, ts39, ta39, tu39, tn39, tr39, tz39, tv39]
      simp
      omega
    · rintro ⟨⟨x, m⟩, h3, h4, h5⟩
      simp (config := { maxSteps := 2000000 }) only [r_step, r_orSome, r_orNone, r_outSome, r_exec, r_opsNil, r_opsCons, r_opsGuard, r_skip, r_label, r_exit, r_goto, r_ret, r_seq, r_block, r_scope, r_ngN, r_ngE, r_ngR, r_loop, r_region, r_draw, r_cond, r_condBool, r_thenN, r_thenE, r_thenG, r_thenR, r_blockN, r_blockE, r_blockG, r_blockR, r_guardT, r_guardF, r_guardU, set8, get8, set_0, get_0, set_1, get_1, set_2, get_2, set_3, get_3, set_4, get_4, set_5, get_5, set_6, get_6, set_7, get_7, ↓r_ifTrue, ↓r_ifFalse, r_ifTrue, r_ifFalse, r_ifNot, r_outD, r_execDcons, r_dNil, r_nextD, r_dCons, r_dGuard, r_dGuardT, r_dGuardF, r_dGuardU, r_stepD, r_orDs, r_orDn, effD, guardAt, leL_cons, leL_nil, le_any, r_le0, r_le1, r_le2, r_leD0, r_leD1, r_leD2, leLL_nil, leLL_cons, V.under, List.take_succ_cons, List.take_nil, true_or, or_true, false_implies, Option.some.injEq, forall_eq', V.bytes.injEq, V.int.injEq, V.bool.injEq, V.str.injEq, V.list.injEq, List.cons.injEq, evalPure, evalEff, evPick, evBin, evUn, evConv, evExtract, evLen, evMin, evMax, evIndexAddr, evLoad, evFieldAddr, evField, evIndex, evSlice, sliceV, evAppend, evMake, evBuildSlice, bytesOf, allOk, seqFrom, evBox, evAlloc, evStore, evBuild, fillV, setSeg, evCall, callArgs, castV, binInt, binStr, setO, evOp, V.ofV, V.ofV1, V.top, V.drop, V.up, V.up1, V.cells, V.storable, V.one, partV, cellV, loadV, lenV, retPost, resV, resAll, resOne, Ret, V.flat, V.flat1, V.clean, V.ren, V.ren1, renT, V.le, List.length_cons, List.length_nil, List.replicate, List.cons_append, List.nil_append, List.getElem?_cons_zero, List.getElem?_cons_succ, List.getElem?_toArray, List.getElem?_nil, List.map_cons, List.map_nil, List.zipWith_cons_cons, List.zipWith_nil_left, List.zipWith_nil_right, List.append_nil, List.mem_cons, List.not_mem_nil, List.take_zero, List.drop_zero, Nat.reduceAdd, Nat.reduceSub, Nat.reduceMul, Nat.reduceLT, Nat.reduceLeDiff, Nat.reduceEqDiff, Nat.reduceBEq, Nat.reduceBNe, Nat.zero_add, Nat.add_zero, Int.reduceToNat, Int.reduceLE, Int.reduceLT, Int.reduceEq, Int.reduceNe, Int.reduceNeg, Nat.reducePow, Int.reducePow, Nat.lt_irrefl, Nat.zero_lt_one, cond_true, cond_false, true_and, and_true, and_self, if_true, if_false, Option.map_some, Option.map_none, Option.bind_some, Option.bind_none, Option.isSome_some, Option.some.injEq, Prod.mk.injEq, exists_eq_left', reduceIte, reduceCtorEq, Bool.false_eq_true, Bool.true_and, Bool.and_true, Bool.not_true, Bool.not_false, Bool.or_true, Bool.or_false, Bool.true_or, Bool.false_or, Bool.and_self, Bool.false_and, Bool.and_false, ne_eq, not_false_eq_true, not_true_eq_false, false_or, or_false, forall_eq_or_imp, forall_eq, forall_const, implies_true, List.size_toArray, decide_true, decide_false, beq_self_eq_true, IntKind.bits, IntKind.signed, Array.toList_map, ty2, tk2, ts2, ta2, tu2, tn2, tr2, tz2, tv2, ty3, tk3, ts3, ta3, tu3, tn3, tr3, tz3, tv3, ty4, tk4, ts4, ta4, tu4, tn4, tr4, tz4, tv4, ty5, tk5, ts5, ta5, tu5, tn5, tr5, tz5, tv5, ty9, tk9, ts9, ta9, tu9, tn9, tr9, tz9, tv9, ty22, tk22, ts22, ta22, tb22, te22, tu22, tn22, tr22, tz22, tv22, ty24, tk24, ts24, ta24, tu24, tn24, tr24, tz24, tv24, ty25, tk25, ts25, ta25, tu25, tn25, tr25, tz25, tv25, ty39, tk39, ts39, ta39, tu39, tn39, tr39, tz39, tv39, Try.f15]
      simp only at h3 h4 h5
      refine awpIf_intro (fun h => ?_) (fun h => ?_)
      · simp only [decide_eq_true_eq] at h
        have hm : 128 ≤ m := by omega
        rw [leb_big hm] at h3 h5
        simp only [List.length_cons] at h5
        rw [low7, shr7]
        refine ⟨by omega, mb _ (by simp; omega), ?_⟩
        refine ⟨⟨(x ++ [UInt8.ofNat (m % 128 + 128)], m / 128), by simpa using h3, by omega, by simp; omega⟩, ?_⟩
        simp only [Int.toNat_natCast, List.append_assoc]
        simp
        omega
      · simp only [decide_eq_false_iff_not] at h
        have hm : m < 128 := by omega
        rw [leb_small hm] at h3
        rw [u8w (by omega) (by omega)]
        refine ⟨by omega, mb _ (by simp; omega), 0, ?_, ?_⟩
        · simp [← h3]
        · simp [← h3]
  · cases hm

/-! ### signs -/
def zigM : FM
  | [.int .i64 n] => some (-9223372036854775808 ≤ n ∧ n ≤ 9223372036854775807, .int .u64 (zigF n), [])
  | _ => none
theorem zig_ok : FSound Try.prog 17 zigM := by
  refine fsound tysOk G0ok mix Try.func17 rfl ?_
  intro args p r fr hm hp
  unfold zigM at hm
  split at hm
  · rename_i n
    cases hm
    obtain ⟨h0, h1⟩ := hp
    simp (config := { maxSteps := 2000000 }) only [r_step, r_orSome, r_orNone, r_outSome, r_exec, r_opsNil, r_opsCons, r_opsGuard, r_skip, r_label, r_exit, r_goto, r_ret, r_seq, r_block, r_scope, r_ngN, r_ngE, r_ngR, r_loop, r_region, r_draw, r_cond, r_condBool, r_thenN, r_thenE, r_thenG, r_thenR, r_blockN, r_blockE, r_blockG, r_blockR, r_guardT, r_guardF, r_guardU, set8, get8, set_0, get_0, set_1, get_1, set_2, get_2, set_3, get_3, set_4, get_4, set_5, get_5, set_6, get_6, set_7, get_7, ↓r_ifTrue, ↓r_ifFalse, r_ifTrue, r_ifFalse, r_ifNot, r_outD, r_execDcons, r_dNil, r_nextD, r_dCons, r_dGuard, r_dGuardT, r_dGuardF, r_dGuardU, r_stepD, r_orDs, r_orDn, effD, guardAt, leL_cons, leL_nil, le_any, r_le0, r_le1, r_le2, r_leD0, r_leD1, r_leD2, leLL_nil, leLL_cons, V.under, List.take_succ_cons, List.take_nil, true_or, or_true, false_implies, Option.some.injEq, forall_eq', V.bytes.injEq, V.int.injEq, V.bool.injEq, V.str.injEq, V.list.injEq, List.cons.injEq, evalPure, evalEff, evPick, evBin, evUn, evConv, evExtract, evLen, evMin, evMax, evIndexAddr, evLoad, evFieldAddr, evField, evIndex, evSlice, sliceV, evAppend, evMake, evBuildSlice, bytesOf, allOk, seqFrom, evBox, evAlloc, evStore, evBuild, fillV, setSeg, evCall, callArgs, castV, binInt, binStr, setO, evOp, V.ofV, V.ofV1, V.top, V.drop, V.up, V.up1, V.cells, V.storable, V.one, partV, cellV, loadV, lenV, retPost, resV, resAll, resOne, Ret, V.flat, V.flat1, V.clean, V.ren, V.ren1, renT, V.le, List.length_cons, List.length_nil, List.replicate, List.cons_append, List.nil_append, List.getElem?_cons_zero, List.getElem?_cons_succ, List.getElem?_toArray, List.getElem?_nil, List.map_cons, List.map_nil, List.zipWith_cons_cons, List.zipWith_nil_left, List.zipWith_nil_right, List.append_nil, List.mem_cons, List.not_mem_nil, List.take_zero, List.drop_zero, Nat.reduceAdd, Nat.reduceSub, Nat.reduceMul, Nat.reduceLT, Nat.reduceLeDiff, Nat.reduceEqDiff, Nat.reduceBEq, Nat.reduceBNe, Nat.zero_add, Nat.add_zero, Int.reduceToNat, Int.reduceLE, Int.reduceLT, Int.reduceEq, Int.reduceNe, Int.reduceNeg, Nat.reducePow, Int.reducePow, Nat.lt_irrefl, Nat.zero_lt_one, cond_true, cond_false, true_and, and_true, and_self, if_true, if_false, Option.map_some, Option.map_none, Option.bind_some, Option.bind_none, Option.isSome_some, Option.some.injEq, Prod.mk.injEq, exists_eq_left', reduceIte, reduceCtorEq, Bool.false_eq_true, Bool.true_and, Bool.and_true, Bool.not_true, Bool.not_false, Bool.or_true, Bool.or_false, Bool.true_or, Bool.false_or, Bool.and_self, Bool.false_and, Bool.and_false, ne_eq, not_false_eq_true, not_true_eq_false, false_or, or_false, forall_eq_or_imp, forall_eq, forall_const, implies_true, List.size_toArray, decide_true, decide_false, beq_self_eq_true, IntKind.bits, IntKind.signed, Array.toList_map, ty2, tk2, ts2, ta2, tu2, tn2, tr2, tz2, tv2, ty3, tk3, ts3, ta3, tu3, tn3, tr3, tz3, tv3, ty4, tk4, ts4, ta4, tu4, tn4, tr4, tz4, tv4, ty5, tk5, ts5, ta5, tu5, tn5, tr5, tz5, tv5, ty9, tk9, ts9, ta9, tu9, tn9, tr9, tz9, tv9, ty22, tk22, ts22, ta22, tb22, te22, tu22, tn22, tr22, tz22, tv22, ty24, tk24, ts24, ta24, tu24, tn24, tr24, tz24, tv24, ty25, tk25, ts25, ta25, tu25, tn25, tr25, tz25, tv25, ty39, tk39, ts39, ta39, tu39, tn39, tr39, tz39, tv39, Try.f17]
    have e : shlK .u64 (IntKind.u64.wrap n) 1 = ((2 * n) % 18446744073709551616).toNat := by
      show IntKind.u64.wrap (IntKind.u64.wrap n * 2 ^ 1) = _
      rw [u64wrap, u64wrap]; omega
    rw [e]
    refine awpIf_intro (fun h => ?_) (fun h => ?_) <;> simp only [decide_eq_true_eq, decide_eq_false_iff_not] at h <;> congr 1
    · rw [not64 _ (by omega)]; unfold zigF; rw [if_pos h]; omega
    · unfold zigF; rw [if_neg (by omega)]; omega
  · cases hm

def zagM : FM
  | [.int .u64 n] => some (0 ≤ n ∧ n ≤ 18446744073709551615, .int .i64 (zagF n), [])
  | _ => none
theorem zag_ok : FSound Try.prog 16 zagM := by
  refine fsound tysOk G0ok mix Try.func16 rfl ?_
  intro args p r fr hm hp
  unfold zagM at hm
  split at hm
  · rename_i n
    cases hm
    obtain ⟨h0, h1⟩ := hp
    obtain ⟨m, rfl⟩ := Int.eq_ofNat_of_zero_le h0
    simp (config := { maxSteps := 2000000 }) only [r_step, r_orSome, r_orNone, r_outSome, r_exec, r_opsNil, r_opsCons, r_opsGuard, r_skip, r_label, r_exit, r_goto, r_ret, r_seq, r_block, r_scope, r_ngN, r_ngE, r_ngR, r_loop, r_region, r_draw, r_cond, r_condBool, r_thenN, r_thenE, r_thenG, r_thenR, r_blockN, r_blockE, r_blockG, r_blockR, r_guardT, r_guardF, r_guardU, set8, get8, set_0, get_0, set_1, get_1, set_2, get_2, set_3, get_3, set_4, get_4, set_5, get_5, set_6, get_6, set_7, get_7, ↓r_ifTrue, ↓r_ifFalse, r_ifTrue, r_ifFalse, r_ifNot, r_outD, r_execDcons, r_dNil, r_nextD, r_dCons, r_dGuard, r_dGuardT, r_dGuardF, r_dGuardU, r_stepD, r_orDs, r_orDn, effD, guardAt, leL_cons, leL_nil, le_any, r_le0, r_le1, r_le2, r_leD0, r_leD1, r_leD2, leLL_nil, leLL_cons, V.under, List.take_succ_cons, List.take_nil, true_or, or_true, false_implies, Option.some.injEq, forall_eq', V.bytes.injEq, V.int.injEq, V.bool.injEq, V.str.injEq, V.list.injEq, List.cons.injEq, evalPure, evalEff, evPick, evBin, evUn, evConv, evExtract, evLen, evMin, evMax, evIndexAddr, evLoad, evFieldAddr, evField, evIndex, evSlice, sliceV, evAppend, evMake, evBuildSlice, bytesOf, allOk, seqFrom, evBox, evAlloc, evStore, evBuild, fillV, setSeg, evCall, callArgs, castV, binInt, binStr, setO, evOp, V.ofV, V.ofV1, V.top, V.drop, V.up, V.up1, V.cells, V.storable, V.one, partV, cellV, loadV, lenV, retPost, resV, resAll, resOne, Ret, V.flat, V.flat1, V.clean, V.ren, V.ren1, renT, V.le, List.length_cons, List.length_nil, List.replicate, List.cons_append, List.nil_append, List.getElem?_cons_zero, List.getElem?_cons_succ, List.getElem?_toArray, List.getElem?_nil, List.map_cons, List.map_nil, List.zipWith_cons_cons, List.zipWith_nil_left, List.zipWith_nil_right, List.append_nil, List.mem_cons, List.not_mem_nil, List.take_zero, List.drop_zero, Nat.reduceAdd, Nat.reduceSub, Nat.reduceMul, Nat.reduceLT, Nat.reduceLeDiff, Nat.reduceEqDiff, Nat.reduceBEq, Nat.reduceBNe, Nat.zero_add, Nat.add_zero, Int.reduceToNat, Int.reduceLE, Int.reduceLT, Int.reduceEq, Int.reduceNe, Int.reduceNeg, Nat.reducePow, Int.reducePow, Nat.lt_irrefl, Nat.zero_lt_one, cond_true, cond_false, true_and, and_true, and_self, if_true, if_false, Option.map_some, Option.map_none, Option.bind_some, Option.bind_none, Option.isSome_some, Option.some.injEq, Prod.mk.injEq, exists_eq_left', reduceIte, reduceCtorEq, Bool.false_eq_true, Bool.true_and, Bool.and_true, Bool.not_true, Bool.not_false, Bool.or_true, Bool.or_false, Bool.true_or, Bool.false_or, Bool.and_self, Bool.false_and, Bool.and_false, ne_eq, not_false_eq_true, not_true_eq_false, false_or, or_false, forall_eq_or_imp, forall_eq, forall_const, implies_true, List.size_toArray, decide_true, decide_false, beq_self_eq_true, IntKind.bits, IntKind.signed, Array.toList_map, ty2, tk2, ts2, ta2, tu2, tn2, tr2, tz2, tv2, ty3, tk3, ts3, ta3, tu3, tn3, tr3, tz3, tv3, ty4, tk4, ts4, ta4, tu4, tn4, tr4, tz4, tv4, ty5, tk5, ts5, ta5, tu5, tn5, tr5, tz5, tv5, ty9, tk9, ts9, ta9, tu9, tn9, tr9, tz9, tv9, ty22, tk22, ts22, ta22, tb22, te22, tu22, tn22, tr22, tz22, tv22, ty24, tk24, ts24, ta24, tu24, tn24, tr24, tz24, tv24, ty25, tk25, ts25, ta25, tu25, tn25, tr25, tz25, tv25, ty39, tk39, ts39, ta39, tu39, tn39, tr39, tz39, tv39, Try.f16]
    rw [shr1, i64w (by omega) (by omega), noti64 _ (by omega) (by omega)]
    have ht : (m : Int).tmod 2 = (m : Int) % 2 := Int.tmod_eq_emod_of_nonneg h0
    rw [ht]
    refine awpIf_intro (fun h => ?_) (fun h => ?_) <;> simp only [decide_eq_true_eq, decide_eq_false_iff_not] at h <;> unfold zagF
    · rw [if_pos h]; simp
    · rw [if_neg h]; simp
  · cases hm

/-! ### so many bytes -/
def fixF (b : List UInt8) (n : Int) (size : Int) : List UInt8 := if 1 ≤ size ∧ size ≤ 8 then b ++ be size.toNat n.toNat else b
def fixM : FM
  | [.bytes b _, .int .u64 n, .int .i64 size] => some (0 ≤ n ∧ n ≤ 18446744073709551615 ∧ b.length ≤ 549755813888, .bytes (fixF b n size) (some 0), [((fixF b n size).length, 5)])
  | _ => none
def G2 : Fns := fun f => if f = 20 then some sizedM else G1 f
theorem G2ok : FnsOk Try.prog G2 := G1ok.cons _ _ sized_ok Try.func20 (by decide) (fun h => by cases h)
theorem fix_ok : FSound Try.prog 18 fixM := by
  refine fsound tysOk G2ok mix Try.func18 rfl ?_
  intro args p r fr hm hp
  unfold fixM at hm
  split at hm
  · rename_i b t n size
    cases hm
    obtain ⟨h0, h1, h2⟩ := hp
    obtain ⟨m, rfl⟩ := Int.eq_ofNat_of_zero_le h0
    simp (config := { maxSteps := 2000000 }) only [r_step, r_orSome, r_orNone, r_outSome, r_exec, r_opsNil, r_opsCons, r_opsGuard, r_skip, r_label, r_exit, r_goto, r_ret, r_seq, r_block, r_scope, r_ngN, r_ngE, r_ngR, r_loop, r_region, r_draw, r_cond, r_condBool, r_thenN, r_thenE, r_thenG, r_thenR, r_blockN, r_blockE, r_blockG, r_blockR, r_guardT, r_guardF, r_guardU, set8, get8, set_0, get_0, set_1, get_1, set_2, get_2, set_3, get_3, set_4, get_4, set_5, get_5, set_6, get_6, set_7, get_7, ↓r_ifTrue, ↓r_ifFalse, r_ifTrue, r_ifFalse, r_ifNot, r_outD, r_execDcons, r_dNil, r_nextD, r_dCons, r_dGuard, r_dGuardT, r_dGuardF, r_dGuardU, r_stepD, r_orDs, r_orDn, effD, guardAt, leL_cons, leL_nil, le_any, r_le0, r_le1, r_le2, r_leD0, r_leD1, r_leD2, leLL_nil, leLL_cons, V.under, List.take_succ_cons, List.take_nil, true_or, or_true, false_implies, Option.some.injEq, forall_eq', V.bytes.injEq, V.int.injEq, V.bool.injEq, V.str.injEq, V.list.injEq, List.cons.injEq, evalPure, evalEff, evPick, evBin, evUn, evConv, evExtract, evLen, evMin, evMax, evIndexAddr, evLoad, evFieldAddr, evField, evIndex, evSlice, sliceV, evAppend, evMake, evBuildSlice, bytesOf, allOk, seqFrom, evBox, evAlloc, evStore, evBuild, fillV, setSeg, evCall, callArgs, castV, binInt, binStr, setO, evOp, V.ofV, V.ofV1, V.top, V.drop, V.up, V.up1, V.cells, V.storable, V.one, partV, cellV, loadV, lenV, retPost, resV, resAll, resOne, Ret, V.flat, V.flat1, V.clean, V.ren, V.ren1, renT, V.le, List.length_cons, List.length_nil, List.replicate, List.cons_append, List.nil_append, List.getElem?_cons_zero, List.getElem?_cons_succ, List.getElem?_toArray, List.getElem?_nil, List.map_cons, List.map_nil, List.zipWith_cons_cons, List.zipWith_nil_left, List.zipWith_nil_right, List.append_nil, List.mem_cons, List.not_mem_nil, List.take_zero, List.drop_zero, Nat.reduceAdd, Nat.reduceSub, Nat.reduceMul, Nat.reduceLT, Nat.reduceLeDiff, Nat.reduceEqDiff, Nat.reduceBEq, Nat.reduceBNe, Nat.zero_add, Nat.add_zero, Int.reduceToNat, Int.reduceLE, Int.reduceLT, Int.reduceEq, Int.reduceNe, Int.reduceNeg, Nat.reducePow, Int.reducePow, Nat.lt_irrefl, Nat.zero_lt_one, cond_true, cond_false, true_and, and_true, and_self, if_true, if_false, Option.map_some, Option.map_none, Option.bind_some, Option.bind_none, Option.isSome_some, Option.some.injEq, Prod.mk.injEq, exists_eq_left', reduceIte, reduceCtorEq, Bool.false_eq_true, Bool.true_and, Bool.and_true, Bool.not_true, Bool.not_false, Bool.or_true, Bool.or_false, Bool.true_or, Bool.false_or, Bool.and_self, Bool.false_and, Bool.and_false, ne_eq, not_false_eq_true, not_true_eq_false, false_or, or_false, forall_eq_or_imp, forall_eq, forall_const, implies_true, List.size_toArray, decide_true, decide_false, beq_self_eq_true, IntKind.bits, IntKind.signed, Array.toList_map, ty2, tk2, ts2, ta2, tu2, tn2, tr2, tz2, tv2, ty3, tk3, ts3, ta3, tu3, tn3, tr3, tz3, tv3, ty4, tk4, ts4, ta4, tu4, tn4, tr4, tz4, tv4, ty5, tk5, ts5, ta5, tu5, tn5, tr5, tz5, tv5, ty9, tk9, ts9, ta9, tu9, tn9, tr9, tz9, tv9, ty22, tk22, ts22, ta22, tb22, te22, tu22, tn22, tr22, tz22, tv22, ty24, tk24, ts24, ta24, tu24, tn24, tr24, tz24, tv24, ty25, tk25, ts25, ta25, tu25, tn25, tr25, tz25, tv25, ty39, tk39, ts39, ta39, tu39, tn39, tr39, tz39, tv39, Try.f18, G2, G1, roomyM, sizedM]
    refine awpIf_intro (fun h => ?_) (fun h => ?_)
    · have hs : 1 ≤ size ∧ size ≤ 8 := by simpa [sizedB] using h
      refine ⟨⟨by omega, by omega, by omega⟩, ?_⟩
      rw [i64w (by omega) (by omega)]
      refine awpLoop_intro (α := {k : Nat // k ≤ size.toNat})
        (fun k => ⟨[.any, .int .u64 m, .any, .any, .any, .any, .any, .bytes (b ++ (be size.toNat m).take (size.toNat - k.1)) (some 0), .int .i64 ((k.1 : Int) - 1), .any, .any, .any, .any, .any, .any, .any, .any, .any, .any, .any, .any, .any, .any, .any, .any, .any, .any, .any, .any, .any, .any, .any], [], [((b ++ (be size.toNat m).take (size.toNat - k.1)).length, 5)]⟩) (fun k => k.1)
        ⟨size.toNat, by omega⟩ ?_ ?_
      · simp (config := { maxSteps := 2000000 }) only [r_step, r_orSome, r_orNone, r_outSome, r_exec, r_opsNil, r_opsCons, r_opsGuard, r_skip, r_label, r_exit, r_goto, r_ret, r_seq, r_block, r_scope, r_ngN, r_ngE, r_ngR, r_loop, r_region, r_draw, r_cond, r_condBool, r_thenN, r_thenE, r_thenG, r_thenR, r_blockN, r_blockE, r_blockG, r_blockR, r_guardT, r_guardF, r_guardU, set8, get8, set_0, get_0, set_1, get_1, set_2, get_2, set_3, get_3, set_4, get_4, set_5, get_5, set_6, get_6, set_7, get_7, ↓r_ifTrue, ↓r_ifFalse, r_ifTrue, r_ifFalse, r_ifNot, r_outD, r_execDcons, r_dNil, r_nextD, r_dCons, r_dGuard, r_dGuardT, r_dGuardF, r_dGuardU, r_stepD, r_orDs, r_orDn, effD, guardAt, leL_cons, leL_nil, le_any, r_le0, r_le1, r_le2, r_leD0, r_leD1, r_leD2, leLL_nil, leLL_cons, V.under, List.take_succ_cons, List.take_nil, true_or, or_true, false_implies, Option.some.injEq, forall_eq', V.bytes.injEq, V.int.injEq, V.bool.injEq, V.str.injEq, V.list.injEq, List.cons.injEq, evalPure, evalEff, evPick, evBin, evUn, evConv, evExtract, evLen, evMin, evMax, evIndexAddr, evLoad, evFieldAddr, evField, evIndex, evSlice, sliceV, evAppend, evMake, evBuildSlice, bytesOf, allOk, seqFrom, evBox, evAlloc, evStore, evBuild, fillV, setSeg, evCall, callArgs, castV, binInt, binStr, setO, evOp, V.ofV, V.ofV1, V.top, V.drop, V.up, V.up1, V.cells, V.storable, V.one, partV, cellV, loadV, lenV, retPost, resV, resAll, resOne, Ret, V.flat, V.flat1, V.clean, V.ren, V.ren1, renT, V.le, List.length_cons, List.length_nil, List.replicate, List.cons_append, List.nil_append, List.getElem?_cons_zero, List.getElem?_cons_succ, List.getElem?_toArray, List.getElem?_nil, List.map_cons, List.map_nil, List.zipWith_cons_cons, List.zipWith_nil_left, List.zipWith_nil_right, List.append_nil, List.mem_cons, List.not_mem_nil, List.take_zero, List.drop_zero, Nat.reduceAdd, Nat.reduceSub, Nat.reduceMul, Nat.reduceLT, Nat.reduceLeDiff, Nat.reduceEqDiff, Nat.reduceBEq, Nat.reduceBNe, Nat.zero_add, Nat.add_zero, Int.reduceToNat, Int.reduceLE, Int.reduceLT, Int.reduceEq, Int.reduceNe, Int.reduceNeg, Nat.reducePow, Int.reducePow, Nat.lt_irrefl, Nat.zero_lt_one, cond_true, cond_false, true_and, and_true, and_self, if_true, if_false, Option.map_some, Option.map_none, Option.bind_some, Option.bind_none, Option.isSome_some, Option.some.injEq, Prod.mk.injEq, exists_eq_left', reduceIte, reduceCtorEq, Bool.false_eq_true, Bool.true_and, Bool.and_true, Bool.not_true, Bool.not_false, Bool.or_true, Bool.or_false, Bool.true_or, Bool.false_or, Bool.and_self, Bool.false_and, Bool.and_false, ne_eq, not_false_eq_true, not_true_eq_false, false_or, or_false, forall_eq_or_imp, forall_eq, forall_const, implies_true, List.size_toArray, decide_true, decide_false, beq_self_eq_true, IntKind.bits, IntKind.signed, Array.toList_map, ty2, tk2, ts2, ta2, tu2, tn2, tr2, tz2, tv2, ty3, tk3, ts3, ta3, tu3, tn3, tr3, tz3, tv3, ty4, tk4, ts4, ta4, tu4, tn4, tr4, tz4, tv4, ty5, tk5, ts5, ta5, tu5, tn5, tr5, tz5, tv5, ty9, tk9, ts9, ta9, tu9, tn9, tr9, tz9, tv9, ty22, tk22, ts22, ta22, tb22, te22, tu22, tn22, tr22, tz22, tv22, ty24, tk24, ts24, ta24, tu24, tn24, tr24, tz24, tv24, ty25, tk25, ts25, ta25, tu25, tn25, tr25, tz25, tv25, ty39, tk39, ts39, ta39, tu39, tn39, tr39, tz39, tv39]
        simp
        omega
      · rintro ⟨k, hk⟩
        simp (config := { maxSteps := 2000000 }) only [r_step, r_orSome, r_orNone, r_outSome, r_exec, r_opsNil, r_opsCons, r_opsGuard, r_skip, r_label, r_exit, r_goto, r_ret, r_seq, r_block, r_scope, r_ngN, r_ngE, r_ngR, r_loop, r_region, r_draw, r_cond, r_condBool, r_thenN, r_thenE, r_thenG, r_thenR, r_blockN, r_blockE, r_blockG, r_blockR, r_guardT, r_guardF, r_guardU, set8, get8, set_0, get_0, set_1, get_1, set_2, get_2, set_3, get_3, set_4, get_4, set_5, get_5, set_6, get_6, set_7, get_7, ↓r_ifTrue, ↓r_ifFalse, r_ifTrue, r_ifFalse, r_ifNot, r_outD, r_execDcons, r_dNil, r_nextD, r_dCons, r_dGuard, r_dGuardT, r_dGuardF, r_dGuardU, r_stepD, r_orDs, r_orDn, effD, guardAt, leL_cons, leL_nil, le_any, r_le0, r_le1, r_le2, r_leD0, r_leD1, r_leD2, leLL_nil, leLL_cons, V.under, List.take_succ_cons, List.take_nil, true_or, or_true, false_implies, Option.some.injEq, forall_eq', V.bytes.injEq, V.int.injEq, V.bool.injEq, V.str.injEq, V.list.injEq, List.cons.injEq, evalPure, evalEff, evPick, evBin, evUn, evConv, evExtract, evLen, evMin, evMax, evIndexAddr, evLoad, evFieldAddr, evField, evIndex, evSlice, sliceV, evAppend, evMake, evBuildSlice, bytesOf, allOk, seqFrom, evBox, evAlloc, evStore, evBuild, fillV, setSeg, evCall, callArgs, castV, binInt, binStr, setO, evOp, V.ofV, V.ofV1, V.top, V.drop, V.up, V.up1, V.cells, V.storable, V.one, partV, cellV, loadV, lenV, retPost, resV, resAll, resOne, Ret, V.flat, V.flat1, V.clean, V.ren, V.ren1, renT, V.le, List.length_cons, List.length_nil, List.replicate, List.cons_append, List.nil_append, List.getElem?_cons_zero, List.getElem?_cons_succ, List.getElem?_toArray, List.getElem?_nil, List.map_cons, List.map_nil, List.zipWith_cons_cons, List.zipWith_nil_left, List.zipWith_nil_right, List.append_nil, List.mem_cons, List.not_mem_nil, List.take_zero, List.drop_zero, Nat.reduceAdd, Nat.reduceSub, Nat.reduceMul, Nat.reduceLT, Nat.reduceLeDiff, Nat.reduceEqDiff, Nat.reduceBEq, Nat.reduceBNe, Nat.zero_add, Nat.add_zero, Int.reduceToNat, Int.reduceLE, Int.reduceLT, Int.reduceEq, Int.reduceNe, Int.reduceNeg, Nat.reducePow, Int.reducePow, Nat.lt_irrefl, Nat.zero_lt_one, cond_true, cond_false, true_and, and_true, and_self, if_true, if_false, Option.map_some, Option.map_none, Option.bind_some, Option.bind_none, Option.isSome_some, Option.some.injEq, Prod.mk.injEq, exists_eq_left', reduceIte, reduceCtorEq, Bool.false_eq_true, Bool.true_and, Bool.and_true, Bool.not_true, Bool.not_false, Bool.or_true, Bool.or_false, Bool.true_or, Bool.false_or, Bool.and_self, Bool.false_and, Bool.and_false, ne_eq, not_false_eq_true, not_true_eq_false, false_or, or_false, forall_eq_or_imp, forall_eq, forall_const, implies_true, List.size_toArray, decide_true, decide_false, beq_self_eq_true, IntKind.bits, IntKind.signed, Array.toList_map, ty2, tk2, ts2, ta2, tu2, tn2, tr2, tz2, tv2, ty3, tk3, ts3, ta3, tu3, tn3, tr3, tz3, tv3, ty4, tk4, ts4, ta4, tu4, tn4, tr4, tz4, tv4, ty5, tk5, ts5, ta5, tu5, tn5, tr5, tz5, tv5, ty9, tk9, ts9, ta9, tu9, tn9, tr9, tz9, tv9, ty22, tk22, ts22, ta22, tb22, te22, tu22, tn22, tr22, tz22, tv22, ty24, tk24, ts24, ta24, tu24, tn24, tr24, tz24, tv24, ty25, tk25, ts25, ta25, tu25, tn25, tr25, tz25, tv25, ty39, tk39, ts39, ta39, tu39, tn39, tr39, tz39, tv39]
        obtain ⟨s, rfl⟩ := Int.eq_ofNat_of_zero_le (show 0 ≤ size by omega)
        refine awpIf_intro (fun h => ?_) (fun h => ?_)
        · simp only [decide_eq_true_eq] at h
          obtain ⟨k, rfl⟩ : ∃ k', k = k' + 1 := ⟨k - 1, by omega⟩
          have e1 : ((k + 1 : Nat) : Int) - 1 = (k : Int) := by omega
          rw [e1, i64w (n := 8 * (k : Int)) (by omega) (by omega), i64w (n := (k : Int) - 1) (by omega) (by omega), shr8 _ _ (by omega), u8nat]
          have hl : ((be s m).take (s - (k + 1))).length = s - (k + 1) := by rw [List.length_take, be_length]; omega
          simp only [Int.toNat_natCast]
          refine ⟨by omega, by omega, mb _ (by simp only [List.length_append, hl]; omega), ⟨⟨k, by omega⟩, ?_⟩⟩
          have e2 : s - k = (s - (k + 1)) + 1 := by omega
          have e3 : s - 1 - (s - (k + 1)) = k := by omega
          rw [e2, be_take s m _ (by omega), e3]
          simp
        · simp only [decide_eq_false_iff_not] at h
          have hk0 : k = 0 := by omega
          subst hk0
          have hf : fixF b m s = b ++ be s m := by unfold fixF; rw [if_pos hs]; rfl
          have ht : (be s m).take s = be s m := List.take_of_length_le (by rw [be_length]; omega)
          simp only [Int.toNat_natCast, Nat.sub_zero]
          rw [hf, ht]
          exact ⟨0, rfl, rfl, rfl⟩
    · have hs : ¬ (1 ≤ size ∧ size ≤ 8) := by simpa [sizedB] using h
      have hf : fixF b m size = b := by unfold fixF; rw [if_neg hs]
      rw [hf]
      exact ⟨by omega, 0, rfl, rfl, rfl⟩
  · cases hm

/-! ### taken -/
def takeM : FM
  | [.bytes b _] => some (b.length ≤ 549755813888, .tuple [.int .u64 (takeF b).1, .bytes (takeF b).2.1 none, .int .i64 (takeF b).2.2], [])
  | _ => none
theorem p128 (i : Nat) : 2 ^ (7 * i) = 128 ^ i := by rw [Nat.pow_mul]
theorem digit (i acc c : Nat) (hi : i ≤ 8 ∨ (i = 9 ∧ c ≤ 1)) (ha : acc < 128 ^ i) :
    orK .u64 (acc : Int) (shlK .u64 (IntKind.u64.wrap ((c : Int).tmod 128)) (IntKind.i64.wrap (7 * (i : Int)))) = ((acc + c % 128 * 128 ^ i : Nat) : Int) := by
  have hd : (c : Int).tmod 128 = ((c % 128 : Nat) : Int) := by rw [Int.tmod_eq_emod_of_nonneg (by omega)]; omega
  have h7 : (7 * (i : Int)) = ((7 * i : Nat) : Int) := by omega
  have hb : acc + c % 128 * 128 ^ i < 18446744073709551616 := by
    rcases hi with hi | ⟨rfl, hc⟩
    · have h1 : 128 ^ i ≤ 128 ^ 8 := Nat.pow_le_pow_right (by omega) hi
      have h2 : c % 128 * 128 ^ i ≤ 127 * 128 ^ i := Nat.mul_le_mul_right _ (by omega)
      have h3 : (128 : Nat) ^ 8 = 72057594037927936 := by decide
      omega
    · have h3 : (128 : Nat) ^ 9 = 9223372036854775808 := by decide
      have : c = 0 ∨ c = 1 := by omega
      rcases this with rfl | rfl <;> omega
  rw [hd, u64w (by omega) (by omega), i64w (by omega) (by omega), h7, shl64 _ _ (by omega), p128, Nat.mod_eq_of_lt (by omega)]
  rw [← p128] at ha hb ⊢
  exact or64_add ha hb

set_option maxHeartbeats 2000000 in
theorem take_ok : FSound Try.prog 10 takeM := by
  refine fsound tysOk G1ok mix Try.func10 rfl ?_
  intro args p r fr hm hp
  unfold takeM at hm
  split at hm
  · rename_i b t
    cases hm
    simp (config := { maxSteps := 2000000 }) only [r_step, r_orSome, r_orNone, r_outSome, r_exec, r_opsNil, r_opsCons, r_opsGuard, r_skip, r_label, r_exit, r_goto, r_ret, r_seq, r_block, r_scope, r_ngN, r_ngE, r_ngR, r_loop, r_region, r_draw, r_cond, r_condBool, r_thenN, r_thenE, r_thenG, r_thenR, r_blockN, r_blockE, r_blockG, r_blockR, r_guardT, r_guardF, r_guardU, set8, get8, set_0, get_0, set_1, get_1, set_2, get_2, set_3, get_3, set_4, get_4, set_5, get_5, set_6, get_6, set_7, get_7, ↓r_ifTrue, ↓r_ifFalse, r_ifTrue, r_ifFalse, r_ifNot, r_outD, r_execDcons, r_dNil, r_nextD, r_dCons, r_dGuard, r_dGuardT, r_dGuardF, r_dGuardU, r_stepD, r_orDs, r_orDn, effD, guardAt, leL_cons, leL_nil, le_any, r_le0, r_le1, r_le2, r_leD0, r_leD1, r_leD2, leLL_nil, leLL_cons, V.under, List.take_succ_cons, List.take_nil, true_or, or_true, false_implies, Option.some.injEq, forall_eq', V.bytes.injEq, V.int.injEq, V.bool.injEq, V.str.injEq, V.list.injEq, List.cons.injEq, evalPure, evalEff, evPick, evBin, evUn, evConv, evExtract, evLen, evMin, evMax, evIndexAddr, evLoad, evFieldAddr, evField, evIndex, evSlice, sliceV, evAppend, evMake, evBuildSlice, bytesOf, allOk, seqFrom, evBox, evAlloc, evStore, evBuild, fillV, setSeg, evCall, callArgs, castV, binInt, binStr, setO, evOp, V.ofV, V.ofV1, V.top, V.drop, V.up, V.up1, V.cells, V.storable, V.one, partV, cellV, loadV, lenV, retPost, resV, resAll, resOne, Ret, V.flat, V.flat1, V.clean, V.ren, V.ren1, renT, V.le, List.length_cons, List.length_nil, List.replicate, List.cons_append, List.nil_append, List.getElem?_cons_zero, List.getElem?_cons_succ, List.getElem?_toArray, List.getElem?_nil, List.map_cons, List.map_nil, List.zipWith_cons_cons, List.zipWith_nil_left, List.zipWith_nil_right, List.append_nil, List.mem_cons, List.not_mem_nil, List.take_zero, List.drop_zero, Nat.reduceAdd, Nat.reduceSub, Nat.reduceMul, Nat.reduceLT, Nat.reduceLeDiff, Nat.reduceEqDiff, Nat.reduceBEq, Nat.reduceBNe, Nat.zero_add, Nat.add_zero, Int.reduceToNat, Int.reduceLE, Int.reduceLT, Int.reduceEq, Int.reduceNe, Int.reduceNeg, Nat.reducePow, Int.reducePow, Nat.lt_irrefl, Nat.zero_lt_one, cond_true, cond_false, true_and, and_true, and_self, if_true, if_false, Option.map_some, Option.map_none, Option.bind_some, Option.bind_none, Option.isSome_some, Option.some.injEq, Prod.mk.injEq, exists_eq_left', reduceIte, reduceCtorEq, Bool.false_eq_true, Bool.true_and, Bool.and_true, Bool.not_true, Bool.not_false, Bool.or_true, Bool.or_false, Bool.true_or, Bool.false_or, Bool.and_self, Bool.false_and, Bool.and_false, ne_eq, not_false_eq_true, not_true_eq_false, false_or, or_false, forall_eq_or_imp, forall_eq, forall_const, implies_true, List.size_toArray, decide_true, decide_false, beq_self_eq_true, IntKind.bits, IntKind.signed, Array.toList_map, ty2, tk2, ts2, ta2, tu2, tn2, tr2, tz2, tv2, ty3, tk3, ts3, ta3, tu3, tn3, tr3, tz3, tv3, ty4, tk4, ts4, ta4, tu4, tn4, tr4, tz4, tv4, ty5, tk5, ts5, ta5, tu5, tn5, tr5, tz5, tv5, ty9, tk9, ts9, ta9, tu9, tn9, tr9, tz9, tv9, ty22, tk22, ts22, ta22, tb22, te22, tu22, tn22, tr22, tz22, tv22, ty24, tk24, ts24, ta24, tu24, tn24, tr24, tz24, tv24, ty25, tk25, ts25, ta25, tu25, tn25, tr25, tz25, tv25, ty39, tk39, ts39, ta39, tu39, tn39, tr39, tz39, tv39, Try.f10, G1, roomyM]
    refine awpLoop_intro (α := {x : Nat × Nat // x.1 ≤ b.length ∧ x.1 ≤ 9 ∧ x.2 < 128 ^ x.1 ∧ takeF b = takeGo (10 - x.1) (128 ^ x.1) x.2 (b.drop x.1)})
      (fun x => ⟨[.bytes b none, .any, .any, .any, .any, .int .u64 x.1.2, .int .i64 0, .any, .any, .bytes b none, .int .i64 b.length, .int .i64 x.1.1, .any, .any, .any, .any, .any, .any, .any, .any, .any, .any, .any, .any, .any, .any, .any, .any, .any, .any, .any, .any, .any, .any, .any, .any, .any, .any, .any, .any, .any, .any, .any, .any, .any, .any, .any, .any, .any, .any, .any], [], []⟩) (fun x => b.length - x.1.1)
      ⟨(0, 0), by omega, by omega, by simp, by simp [takeF]⟩ ?_ ?_
    · simp (config := { maxSteps := 2000000 }) only [r_step, r_orSome, r_orNone, r_outSome, r_exec, r_opsNil, r_opsCons, r_opsGuard, r_skip, r_label, r_exit, r_goto, r_ret, r_seq, r_block, r_scope, r_ngN, r_ngE, r_ngR, r_loop, r_region, r_draw, r_cond, r_condBool, r_thenN, r_thenE, r_thenG, r_thenR, r_blockN, r_blockE, r_blockG, r_blockR, r_guardT, r_guardF, r_guardU, set8, get8, set_0, get_0, set_1, get_1, set_2, get_2, set_3, get_3, set_4, get_4, set_5, get_5, set_6, get_6, set_7, get_7, ↓r_ifTrue, ↓r_ifFalse, r_ifTrue, r_ifFalse, r_ifNot, r_outD, r_execDcons, r_dNil, r_nextD, r_dCons, r_dGuard, r_dGuardT, r_dGuardF, r_dGuardU, r_stepD, r_orDs, r_orDn, effD, guardAt, leL_cons, leL_nil, le_any, r_le0, r_le1, r_le2, r_leD0, r_leD1, r_leD2, leLL_nil, leLL_cons, V.under, List.take_succ_cons, List.take_nil, true_or, or_true, false_implies, Option.some.injEq, forall_eq', V.bytes.injEq, V.int.injEq, V.bool.injEq, V.str.injEq, V.list.injEq, List.cons.injEq, evalPure, evalEff, evPick, evBin, evUn, evConv, evExtract, evLen, evMin, evMax, evIndexAddr, evLoad, evFieldAddr, evField, evIndex, evSlice, sliceV, evAppend, evMake, evBuildSlice, bytesOf, allOk, seqFrom, evBox, evAlloc, evStore, evBuild, fillV, setSeg, evCall, callArgs, castV, binInt, binStr, setO, evOp, V.ofV, V.ofV1, V.top, V.drop, V.up, V.up1, V.cells, V.storable, V.one, partV, cellV, loadV, lenV, retPost, resV, resAll, resOne, Ret, V.flat, V.flat1, V.clean, V.ren, V.ren1, renT, V.le, List.length_cons, List.length_nil, List.replicate, List.cons_append, List.nil_append, List.getElem?_cons_zero, List.getElem?_cons_succ, List.getElem?_toArray, List.getElem?_nil, List.map_cons, List.map_nil, List.zipWith_cons_cons, List.zipWith_nil_left, List.zipWith_nil_right, List.append_nil, List.mem_cons, List.not_mem_nil, List.take_zero, List.drop_zero, Nat.reduceAdd, Nat.reduceSub, Nat.reduceMul, Nat.reduceLT, Nat.reduceLeDiff, Nat.reduceEqDiff, Nat.reduceBEq, Nat.reduceBNe, Nat.zero_add, Nat.add_zero, Int.reduceToNat, Int.reduceLE, Int.reduceLT, Int.reduceEq, Int.reduceNe, Int.reduceNeg, Nat.reducePow, Int.reducePow, Nat.lt_irrefl, Nat.zero_lt_one, cond_true, cond_false, true_and, and_true, and_self, if_true, if_false, Option.map_some, Option.map_none, Option.bind_some, Option.bind_none, Option.isSome_some, Option.some.injEq, Prod.mk.injEq, exists_eq_left', reduceIte, reduceCtorEq, Bool.false_eq_true, Bool.true_and, Bool.and_true, Bool.not_true, Bool.not_false, Bool.or_true, Bool.or_false, Bool.true_or, Bool.false_or, Bool.and_self, Bool.false_and, Bool.and_false, ne_eq, not_false_eq_true, not_true_eq_false, false_or, or_false, forall_eq_or_imp, forall_eq, forall_const, implies_true, List.size_toArray, decide_true, decide_false, beq_self_eq_true, IntKind.bits, IntKind.signed, Array.toList_map, ty2, tk2, ts2, ta2, tu2, tn2, tr2, tz2, tv2, ty3, tk3, ts3, ta3, tu3, tn3, tr3, tz3, tv3, ty4, tk4, ts4, ta4, tu4, tn4, tr4, tz4, tv4, ty5, tk5, ts5, ta5, tu5, tn5, tr5, tz5, tv5, ty9, tk9, ts9, ta9, tu9, tn9, tr9, tz9, tv9, ty22, tk22, ts22, ta22, tb22, te22, tu22, tn22, tr22, tz22, tv22, ty24, tk24, ts24, ta24, tu24, tn24, tr24, tz24, tv24, ty25, tk25, ts25, ta25, tu25, tn25, tr25, tz25, tv25, ty39, tk39, ts39, ta39, tu39, tn39, tr39, tz39, tv39]
      simp
    · rintro ⟨⟨i, acc⟩, h1, h2, h3, h4⟩
      simp (config := { maxSteps := 2000000 }) only [r_step, r_orSome, r_orNone, r_outSome, r_exec, r_opsNil, r_opsCons, r_opsGuard, r_skip, r_label, r_exit, r_goto, r_ret, r_seq, r_block, r_scope, r_ngN, r_ngE, r_ngR, r_loop, r_region, r_draw, r_cond, r_condBool, r_thenN, r_thenE, r_thenG, r_thenR, r_blockN, r_blockE, r_blockG, r_blockR, r_guardT, r_guardF, r_guardU, set8, get8, set_0, get_0, set_1, get_1, set_2, get_2, set_3, get_3, set_4, get_4, set_5, get_5, set_6, get_6, set_7, get_7, ↓r_ifTrue, ↓r_ifFalse, r_ifTrue, r_ifFalse, r_ifNot, r_outD, r_execDcons, r_dNil, r_nextD, r_dCons, r_dGuard, r_dGuardT, r_dGuardF, r_dGuardU, r_stepD, r_orDs, r_orDn, effD, guardAt, leL_cons, leL_nil, le_any, r_le0, r_le1, r_le2, r_leD0, r_leD1, r_leD2, leLL_nil, leLL_cons, V.under, List.take_succ_cons, List.take_nil, true_or, or_true, false_implies, Option.some.injEq, forall_eq', V.bytes.injEq, V.int.injEq, V.bool.injEq, V.str.injEq, V.list.injEq, List.cons.injEq, evalPure, evalEff, evPick, evBin, evUn, evConv, evExtract, evLen, evMin, evMax, evIndexAddr, evLoad, evFieldAddr, evField, evIndex, evSlice, sliceV, evAppend, evMake, evBuildSlice, bytesOf, allOk, seqFrom, evBox, evAlloc, evStore, evBuild, fillV, setSeg, evCall, callArgs, castV, binInt, binStr, setO, evOp, V.ofV, V.ofV1, V.top, V.drop, V.up, V.up1, V.cells, V.storable, V.one, partV, cellV, loadV, lenV, retPost, resV, resAll, resOne, Ret, V.flat, V.flat1, V.clean, V.ren, V.ren1, renT, V.le, List.length_cons, List.length_nil, List.replicate, List.cons_append, List.nil_append, List.getElem?_cons_zero, List.getElem?_cons_succ, List.getElem?_toArray, List.getElem?_nil, List.map_cons, List.map_nil, List.zipWith_cons_cons, List.zipWith_nil_left, List.zipWith_nil_right, List.append_nil, List.mem_cons, List.not_mem_nil, List.take_zero, List.drop_zero, Nat.reduceAdd, Nat.reduceSub, Nat.reduceMul, Nat.reduceLT, Nat.reduceLeDiff, Nat.reduceEqDiff, Nat.reduceBEq, Nat.reduceBNe, Nat.zero_add, Nat.add_zero, Int.reduceToNat, Int.reduceLE, Int.reduceLT, Int.reduceEq, Int.reduceNe, Int.reduceNeg, Nat.reducePow, Int.reducePow, Nat.lt_irrefl, Nat.zero_lt_one, cond_true, cond_false, true_and, and_true, and_self, if_true, if_false, Option.map_some, Option.map_none, Option.bind_some, Option.bind_none, Option.isSome_some, Option.some.injEq, Prod.mk.injEq, exists_eq_left', reduceIte, reduceCtorEq, Bool.false_eq_true, Bool.true_and, Bool.and_true, Bool.not_true, Bool.not_false, Bool.or_true, Bool.or_false, Bool.true_or, Bool.false_or, Bool.and_self, Bool.false_and, Bool.and_false, ne_eq, not_false_eq_true, not_true_eq_false, false_or, or_false, forall_eq_or_imp, forall_eq, forall_const, implies_true, List.size_toArray, decide_true, decide_false, beq_self_eq_true, IntKind.bits, IntKind.signed, Array.toList_map, ty2, tk2, ts2, ta2, tu2, tn2, tr2, tz2, tv2, ty3, tk3, ts3, ta3, tu3, tn3, tr3, tz3, tv3, ty4, tk4, ts4, ta4, tu4, tn4, tr4, tz4, tv4, ty5, tk5, ts5, ta5, tu5, tn5, tr5, tz5, tv5, ty9, tk9, ts9, ta9, tu9, tn9, tr9, tz9, tv9, ty22, tk22, ts22, ta22, tb22, te22, tu22, tn22, tr22, tz22, tv22, ty24, tk24, ts24, ta24, tu24, tn24, tr24, tz24, tv24, ty25, tk25, ts25, ta25, tu25, tn25, tr25, tz25, tv25, ty39, tk39, ts39, ta39, tu39, tn39, tr39, tz39, tv39, Try.f10, G1, roomyM]
      simp only at h1 h2 h3 h4
      refine awpIf_intro (fun h => ?_) (fun h => ?_)
      · simp only [decide_eq_true_eq] at h
        simp only [Int.toNat_natCast]
        obtain ⟨c, l, hd⟩ : ∃ c l, b.drop i = c :: l := by
          cases hd : b.drop i with
          | nil => have := congrArg List.length hd; simp at this; omega
          | cons c l => exact ⟨c, l, rfl⟩
        have hl : b.drop (i + 1) = l := by have := congrArg (List.drop 1) hd; simpa [Nat.add_comm] using this
        have hg : b.getD i 0 = c := by
          have : (b.drop i)[0]? = some c := by rw [hd]; rfl
          rw [List.getElem?_drop] at this
          simp only [Nat.add_zero] at this
          rw [List.getD_eq_getElem?_getD, this]; rfl
        have hc := c.toNat_lt
        obtain ⟨k, hk⟩ : ∃ k, 10 - i = k + 1 := ⟨9 - i, by omega⟩
        have hll : l.length = b.length - (i + 1) := by rw [← hl, List.length_drop]
        have hni : (IntKind.i64.wrap ((i : Int) + 1)) = ((i + 1 : Nat) : Int) := by rw [i64w (by omega) (by omega)]; omega
        rw [hd, hk, takeGo] at h4
        simp only [hg, hni, Int.toNat_natCast, hl]
        refine ⟨by omega, by rw [i64w (by omega) (by omega)]; omega, ?_⟩
        have bad : c.toNat < 128 → ((c.toNat = 0 ∧ k < 9) ∨ (k = 0 ∧ 1 < c.toNat)) → takeF b = (0, [], 6) := fun a d => by rw [h4, if_pos a, if_pos d]
        have bad2 : ¬ c.toNat < 128 → k = 0 → takeF b = (0, [], 6) := fun a d => by rw [h4, if_neg a]; subst d; rfl
        have good : c.toNat < 128 → ¬ ((c.toNat = 0 ∧ k < 9) ∨ (k = 0 ∧ 1 < c.toNat)) → takeF b = (acc + c.toNat * 128 ^ i, l, 0) := fun a d => by rw [h4, if_pos a, if_neg d]
        have more : ¬ c.toNat < 128 → takeF b = takeGo k (128 ^ i * 128) (acc + (c.toNat - 128) * 128 ^ i) l := fun a => by rw [h4, if_neg a]
        have fin6 : takeF b = (0, [], 6) → (0 : Int) = ((takeF b).1 : Int) ∧ (takeF b).2.1 = [] ∧ (6 : Int) = (takeF b).2.2 := fun e => by rw [e]; exact ⟨rfl, rfl, rfl⟩
        have fin : c.toNat < 128 → ¬ ((c.toNat = 0 ∧ k < 9) ∨ (k = 0 ∧ 1 < c.toNat)) → orK .u64 (acc : Int) (shlK .u64 (IntKind.u64.wrap ((c.toNat : Int).tmod 128)) (IntKind.i64.wrap (7 * (i : Int)))) = ((takeF b).1 : Int) ∧ l = (takeF b).2.1 ∧ (0 : Int) = (takeF b).2.2 := fun a d => by
          rw [good a d, digit _ _ _ (by omega) h3, Nat.mod_eq_of_lt a]; exact ⟨rfl, rfl, rfl⟩
        have rnd : ¬ c.toNat < 128 → ¬ (k = 0) → ∃ a' : {x : Nat × Nat // x.1 ≤ b.length ∧ x.1 ≤ 9 ∧ x.2 < 128 ^ x.1 ∧ takeF b = takeGo (10 - x.1) (128 ^ x.1) x.2 (b.drop x.1)},
            (orK .u64 (acc : Int) (shlK .u64 (IntKind.u64.wrap ((c.toNat : Int).tmod 128)) (IntKind.i64.wrap (7 * (i : Int)))) = (a'.1.2 : Int) ∧ ((i + 1 : Nat) : Int) = (a'.1.1 : Int)) ∧ b.length - a'.1.1 < b.length - i := fun a d => by
          have e1 : c.toNat % 128 = c.toNat - 128 := by omega
          refine ⟨⟨(i + 1, acc + (c.toNat - 128) * 128 ^ i), ?_⟩, ?_⟩
          · refine ⟨by omega, by omega, ?_, ?_⟩
            · show _ < 128 ^ (i + 1)
              have h5 : (c.toNat - 128) * 128 ^ i ≤ 127 * 128 ^ i := Nat.mul_le_mul_right _ (by omega)
              rw [Nat.pow_succ]; omega
            · show _ = takeGo (10 - (i + 1)) (128 ^ (i + 1)) _ (b.drop (i + 1))
              rw [more a, hl, Nat.pow_succ]
              congr 1
              omega
          · rw [digit _ _ _ (by omega) h3, e1]
            exact ⟨⟨rfl, rfl⟩, by show b.length - (i + 1) < _; omega⟩
        clear h4 good more hd hl hg hni h3
        generalize c.toNat = e at *
        repeat' refine awpIf_intro (fun h => ?_) (fun h => ?_)
        all_goals simp only [decide_eq_true_eq, decide_eq_false_iff_not] at *
        all_goals first
          | (exfalso; clear fin6 bad bad2 fin rnd; omega)
          | (refine fin6 ?_; by_cases hx : e < 128; exact bad hx (by clear fin6 bad bad2 fin rnd; omega); exact bad2 hx (by clear fin6 bad bad2 fin rnd; omega))
          | exact ⟨(by clear fin6 bad bad2 fin rnd; omega), (by clear fin6 bad bad2 fin rnd; omega), fin (by clear fin6 bad bad2 fin rnd; omega) (by clear fin6 bad bad2 fin rnd; omega)⟩
          | exact rnd (by clear fin6 bad bad2 fin rnd; omega) (by clear fin6 bad bad2 fin rnd; omega)
      · simp only [decide_eq_false_iff_not] at h
        have hi : i = b.length := by omega
        have : takeF b = (0, [], 5) := by
          rw [h4, hi, List.drop_length]
          obtain ⟨k, hk⟩ : ∃ k, 10 - b.length = k + 1 := ⟨9 - b.length, by omega⟩
          rw [hk, takeGo]
        rw [this]
        exact ⟨rfl, rfl, rfl⟩
  · cases hm
end Go.Proofs.Ytljmfemcfkhehaa.Vary
