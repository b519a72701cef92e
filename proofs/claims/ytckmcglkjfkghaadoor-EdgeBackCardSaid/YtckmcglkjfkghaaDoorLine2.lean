import Derived.Test.YtckmcglkjfkghaaDoorAwX
import Derived.Test.YtckmcglkjfkghaaDoorLine
namespace Go.Proofs.YtckmcglkjfkghaaDoor.Line
open Go Go.Proofs Go.Proofs.YtckmcglkjfkghaaDoor.Aw Go.Proofs.YtckmcglkjfkghaaDoor.LineM Go.Proofs.YtckmcglkjfkghaaDoor.Num Go.Proofs.YtckmcglkjfkghaaDoor.LibB
set_option linter.unusedSimpArgs false
set_option linter.unusedVariables false
theorem index_ge : ∀ (b : List UInt8), indexF b 10 = if lineN b < b.length then (lineN b : Int) else -1
  | [] => rfl
  | c :: b => by
    have ih := index_ge b
    unfold indexF lineN at *
    unfold Lib.indexByte
    rw [List.takeWhile_cons, ih]
    by_cases h : c = 10
    · subst h
      simp
    · have h' : ¬ (c == 10) = true := by simpa using h
      have h'' : (c != 10) = true := by simpa using h
      rw [if_neg h', if_pos h'']
      simp only [List.length_cons]
      by_cases h2 : (List.takeWhile (fun x => x != 10) b).length < b.length
      · rw [if_pos h2, if_neg (by simp), if_pos (by omega)]
        omega
      · have e1 : ((-1 : Int) == -1) = true := rfl
        rw [if_neg h2, if_pos e1, if_neg (by omega)]
def firstM : FM
  | [.bytes b _] => some (b.length ≤ 1099511627776, .tuple [.bytes (firstF b).1 none, .int .i64 ((firstF b).2 : Nat)], [])
  | _ => none
def G3 : Fns := { fn := fun f => if f = 23 then some cloneM else if f = 27 then some unbrokenM else G2.fn f, mu := fun d => .no, hp := fun f => G2.hp f, ord := fun i => none, it := fun f => G2.it f }
theorem G3_fn (f : FuncId) : G3.fn f = (if f = 23 then some cloneM else if f = 27 then some unbrokenM else G2.fn f) := rfl
theorem G3_mu (d : Tmp) : G3.mu d = (.no) := rfl
theorem G3_hp (f : FuncId) : G3.hp f = (G2.hp f) := rfl
theorem G3_ord (i : Nat) : G3.ord i = (none) := rfl
theorem G3_it (f : FuncId) : G3.it f = (G2.it f) := rfl
theorem G3_hy (b : Nat) : G3.hy b = none := rfl
theorem G3ok : FnsOk Tryd.prog G3 := FnsOk.same (FnsOk.cons (FnsOk.cons G2ok _ _ unbroken_ok Tryd.func27 (by decide) (fun h => by cases h)) _ _ clone_ok Tryd.func23 (by decide) (fun h => by cases h)) rfl rfl
attribute [bitvec_to_nat] G3_fn G3_mu G3_hp G3_ord G3_it G3_hy
def wordsM : FM
  | [.agg [.int .i64 a, .bytes b _]] => some (0 ≤ a ∧ a ≤ 4611686018427387904 ∧ b.length ≤ 1099511627776, .list 2 ((wordsF a.toNat b).map lv) none, [])
  | _ => none
def G4 : Fns := { fn := fun f => G3.fn f, mu := fun d => .no, hp := fun f => G3.hp f, ord := fun i => none, it := fun f => G3.it f }
theorem G4_fn (f : FuncId) : G4.fn f = (G3.fn f) := rfl
theorem G4_mu (d : Tmp) : G4.mu d = (.no) := rfl
theorem G4_hp (f : FuncId) : G4.hp f = (G3.hp f) := rfl
theorem G4_ord (i : Nat) : G4.ord i = (none) := rfl
theorem G4_it (f : FuncId) : G4.it f = (G3.it f) := rfl
theorem G4_hy (b : Nat) : G4.hy b = none := rfl
theorem G4ok : FnsOk Tryd.prog G4 := FnsOk.same G3ok rfl rfl
attribute [bitvec_to_nat] G4_fn G4_mu G4_hp G4_ord G4_it G4_hy
def G4w : Fns := { fn := fun f => G4.fn f, mu := fun d => bif d == 3 then .nil 46 else bif d == 35 then .seq else .no, hp := fun f => G4.hp f, ord := fun i => if i = 7 then some [(16, 9), (0, 0), (1, 0), (3, 0), (5, 0), (7, 0), (8, 0), (9, 0), (10, 0), (2, 2), (4, 0), (6, 2), (11, 0), (12, 0), (13, 0), (14, 0), (15, 1)] else none, it := fun f => G4.it f }
theorem G4w_fn (f : FuncId) : G4w.fn f = (G4.fn f) := rfl
theorem G4w_mu (d : Tmp) : G4w.mu d = (bif d == 3 then .nil 46 else bif d == 35 then .seq else .no) := rfl
theorem G4w_hp (f : FuncId) : G4w.hp f = (G4.hp f) := rfl
theorem G4w_ord (i : Nat) : G4w.ord i = (if i = 7 then some [(16, 9), (0, 0), (1, 0), (3, 0), (5, 0), (7, 0), (8, 0), (9, 0), (10, 0), (2, 2), (4, 0), (6, 2), (11, 0), (12, 0), (13, 0), (14, 0), (15, 1)] else none) := rfl
theorem G4w_it (f : FuncId) : G4w.it f = (G4.it f) := rfl
theorem G4w_hy (b : Nat) : G4w.hy b = none := rfl
theorem G4wok : FnsOk Tryd.prog G4w := FnsOk.same G4ok rfl rfl
attribute [bitvec_to_nat] G4w_fn G4w_mu G4w_hp G4w_ord G4w_it G4w_hy
theorem words_ok : FSound Tryd.prog 22 wordsM := by
  refine fsoundV tysOk G4wok mix Tryd.func22 rfl ?_
  intro args p r fr hm hp
  unfold wordsM at hm
  split at hm
  · rename_i a b t
    cases hm
    obtain ⟨h0, h1, h2⟩ := hp
    obtain ⟨a, rfl⟩ := Int.eq_ofNat_of_zero_le h0
    refine ⟨rfl, ?_⟩
    simp (maxSteps:=2000000) only[bitvec_to_nat,seval,↓tcd,Tryd.f22,unbrokenM,cloneM]
    refine awpLoop_intro (α := {q : Nat × List Ln // q.1 ≤ b.length ∧ q.2.length ≤ q.1 ∧ q.2 ++ wordsF (a + q.1) (b.drop q.1) = wordsF a b})
      (fun q => ⟨[.any, .box 0 0, .any, .list 2 (q.1.2.map lv) (some 0), .int .i64 (q.1.1 : Int), .any, .any, .any, .any, .any, .any, .any, .any, .any, .any, .any, .any, .any, .any, .any, .any, .any, .any, .any, .any, .any, .any, .any, .any, .any, .any, .any, .any, .any, .any, .any, .any, .any, .any, .any], [[.int .i64 (a : Int), .bytes b none]], [((q.1.2.map lv).length, 35)]⟩) (fun q => b.length - q.1.1)
      ⟨(0, []), by simp, by simp, by simp⟩ ?_ ?_
    · simp (maxSteps:=2000000) only[bitvec_to_nat,seval,↓tcd]
      all_goals simp
    · rintro ⟨⟨i, ws⟩, hi, hw, heq⟩
      simp only at hi hw heq
      simp (maxSteps:=2000000) only[bitvec_to_nat,seval,↓tcd,Tryd.f22,unbrokenM,cloneM,Int.toNat_natCast,retPostV,RetV]
      refine awpIf_intro (fun h => ?_) (fun h => ?_) <;> simp only [decide_eq_true_eq, decide_eq_false_iff_not] at h
      · have hlt : i < b.length := by omega
        have hdl : (b.drop i).length = b.length - i := List.length_drop
        have hwn := wordN_le (b.drop i)
        refine ⟨⟨by omega, by omega⟩, by omega, awpIf_intro (fun h0 => ?_) (fun h0 => ?_)⟩ <;> simp only [decide_eq_true_eq, decide_eq_false_iff_not] at h0
        · rw [i64w (by omega) (by omega)]
          refine ⟨⟨(i + 1, ws), by simp only; omega, by simp only; omega, ?_⟩, ⟨⟨rfl, by simp⟩, rfl⟩, by simp only; omega⟩
          simp only
          rw [← heq]
          congr 1
          have hc : b.drop i = b[i] :: b.drop (i + 1) := (List.getElem_cons_drop hlt).symm
          rw [hc] at h0 ⊢
          rw [wordsF_blank _ (wordN_zero (r := b.drop (i + 1)) (by omega))]
          rfl
        · have hw0 : 0 < wordN (b.drop i) := by omega
          rw [i64w (n := (i : Int) + ((wordN (b.drop i) : Nat) : Int)) (by omega) (by omega), i64w (by omega) (by omega)]
          have e1 : ((i : Int) + ((wordN (b.drop i) : Nat) : Int)).toNat = i + wordN (b.drop i) := by omega
          have e2 : (b.take (i + wordN (b.drop i))).drop i = (b.drop i).take (wordN (b.drop i)) := by rw [List.drop_take]; congr 1; omega
          rw [e1, e2]
          have e3 : List.map lv ws ++ [V.agg [V.int IntKind.i64 ((a : Int) + (i : Int)), V.bytes ((b.drop i).take (wordN (b.drop i))) none]] = (ws ++ [(a + i, (b.drop i).take (wordN (b.drop i)))]).map lv := by
            rw [List.map_append]; rfl
          rw [e3]
          refine ⟨⟨by kernel_rfl, by kernel_rfl⟩, ⟨by omega, by omega, by omega⟩, by rw [List.length_take]; omega, mb _ (by rw [List.length_map]; omega), ⟨(i + wordN (b.drop i), ws ++ [(a + i, (b.drop i).take (wordN (b.drop i)))]), by simp only; omega, by simp only [List.length_append, List.length_cons, List.length_nil]; omega, ?_⟩, ⟨⟨rfl, by simp⟩, rfl⟩, by simp only; omega⟩
          simp only
          rw [← heq, wordsF_word _ hw0, List.drop_drop]
          simp only [List.append_assoc, List.cons_append, List.nil_append, Nat.add_assoc]
      · have e : i = b.length := by omega
        rw [e, List.drop_length] at heq
        have : ws = wordsF a b := by rw [← heq]; simp [wordsF, goW]
        rw [← this]
        exact retV_list (lv_clean ws)
  · cases hm
def bareM : FM
  | [.agg [.int .i64 a, .bytes b none]] => some (0 ≤ a ∧ a ≤ 4611686018427387904 ∧ b.length ≤ 1099511627776, .bool (bareF b), [])
  | _ => none
def G5 : Fns := { fn := fun f => if f = 22 then some wordsM else G4.fn f, mu := fun d => .no, hp := fun f => G4.hp f, ord := fun i => none, it := fun f => G4.it f }
theorem G5_fn (f : FuncId) : G5.fn f = (if f = 22 then some wordsM else G4.fn f) := rfl
theorem G5_mu (d : Tmp) : G5.mu d = (.no) := rfl
theorem G5_hp (f : FuncId) : G5.hp f = (G4.hp f) := rfl
theorem G5_ord (i : Nat) : G5.ord i = (none) := rfl
theorem G5_it (f : FuncId) : G5.it f = (G4.it f) := rfl
theorem G5_hy (b : Nat) : G5.hy b = none := rfl
theorem G5ok : FnsOk Tryd.prog G5 := FnsOk.same (FnsOk.cons G4ok _ _ words_ok Tryd.func22 (by decide) (fun h => by cases h)) rfl rfl
attribute [bitvec_to_nat] G5_fn G5_mu G5_hp G5_ord G5_it G5_hy
def G6 : Fns := { fn := fun f => G5.fn f, mu := fun d => .no, hp := fun f => G5.hp f, ord := fun i => none, it := fun f => G5.it f }
theorem G6_fn (f : FuncId) : G6.fn f = (G5.fn f) := rfl
theorem G6_mu (d : Tmp) : G6.mu d = (.no) := rfl
theorem G6_hp (f : FuncId) : G6.hp f = (G5.hp f) := rfl
theorem G6_ord (i : Nat) : G6.ord i = (none) := rfl
theorem G6_it (f : FuncId) : G6.it f = (G5.it f) := rfl
theorem G6_hy (b : Nat) : G6.hy b = none := rfl
theorem G6ok : FnsOk Tryd.prog G6 := FnsOk.same G5ok rfl rfl
attribute [bitvec_to_nat] G6_fn G6_mu G6_hp G6_ord G6_it G6_hy
def yargs (k : Nat) (x : Ln) : List V := [.int .i64 (k : Int), lv x]
def yall (l : List Ln) : List (List V) := (List.range l.length).map fun k => yargs k (l.getD k (0, []))
theorem yall_drop {l : List Ln} {k : Nat} {x : Ln} {r : List Ln} (h : l.drop k = x :: r) : (yall l).drop k = yargs k x :: (yall l).drop (k + 1) := by
  have hk : k < l.length := by
    rcases Nat.lt_or_ge k l.length with h1 | h1
    · exact h1
    · rw [List.drop_of_length_le h1] at h; cases h
  have hx : l[k] = x := by
    rw [List.drop_eq_getElem_cons hk] at h
    exact (List.cons.inj h).1
  rw [List.drop_eq_getElem_cons (by simpa [yall] using hk)]
  simp [yall, List.getD_eq_getElem?_getD, List.getElem?_eq_getElem hk, hx]
theorem yall_end {l : List Ln} {k : Nat} (h : l.drop k = []) : (yall l).drop k = [] := by
  have hk : l.length ≤ k := by simpa using h
  exact List.drop_of_length_le (by simpa [yall] using hk)
theorem yall_len (l : List Ln) : (yall l).length = l.length := by simp [yall]
theorem yall_at {l : List Ln} {k : Nat} (h : k < (yall l).length) : (yall l)[k] = yargs k (l.getD k (0, [])) := by simp [yall]
def allI : IM := fun yb Y args L T K => ∃ (b : List UInt8) (o : Nat), args = [.fn (.yield yb) [] [], .box o 0] ∧ b.length ≤ 1099511627776 ∧
  runY (fun L' T' => (L.length ≤ L'.length ∧ T.length ≤ T'.length) ∧ L'[o]? = some [.bytes b none]) Y (fun L' T' => (L.length ≤ L'.length ∧ T.length ≤ T'.length) ∧ K (.tuple []) L' T') (yall (linesF 0 b)) L T
end Go.Proofs.YtckmcglkjfkghaaDoor.Line
