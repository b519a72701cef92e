import Derived.Test.YthlmfalfnpjndaaAwX
import Derived.Test.YthlmfalfnpjndaaLine
namespace Go.Proofs.Ythlmfalfnpjndaa.Line
open Go Go.Proofs Go.Proofs.Ythlmfalfnpjndaa.Aw Go.Proofs.Ythlmfalfnpjndaa.LineM Go.Proofs.Ythlmfalfnpjndaa.Num Go.Proofs.Ythlmfalfnpjndaa.LibB
set_option linter.unusedSimpArgs false
set_option linter.unusedVariables false
theorem index_ge : ∀ (b : List UInt8), indexF b 10 = if lineN b < b.length then (lineN b : Int) else -1
  | [] => rfl
  | c :: b => by
    have ih := index_ge b
    unfold indexF lineN at *
    unfold Lib.indexByte
    rw [List.takeWhile_cons, ih]
    by_cases h : c = 10
    · subst h
      simp
    · have h' : ¬ (c == 10) = true := by simpa using h
      have h'' : (c != 10) = true := by simpa using h
      rw [if_neg h', if_pos h'']
      simp only [List.length_cons]
      by_cases h2 : (List.takeWhile (fun x => x != 10) b).length < b.length
      · rw [if_pos h2, if_neg (by simp), if_pos (by omega)]
        omega
      · have e1 : ((-1 : Int) == -1) = true := rfl
        rw [if_neg h2, if_pos e1, if_neg (by omega)]
def firstM : FM
  | [.bytes b _] => some (b.length ≤ 1099511627776, .tuple [.bytes (firstF b).1 none, .int .i64 ((firstF b).2 : Nat)], [])
  | _ => none
def G3 : Fns := { fn := fun f => if f = 26 then some trimM else if f = 25 then some indexM else if f = 21 then some cloneM else if f = 20 then some unbrokenM else G2.fn f, mu := fun d => .no, hp := fun f => G2.hp f, ord := fun i => none, it := fun f => G2.it f }
theorem G3_fn (f : FuncId) : G3.fn f = (if f = 26 then some trimM else if f = 25 then some indexM else if f = 21 then some cloneM else if f = 20 then some unbrokenM else G2.fn f) := rfl
theorem G3_mu (d : Tmp) : G3.mu d = (.no) := rfl
theorem G3_hp (f : FuncId) : G3.hp f = (G2.hp f) := rfl
theorem G3_ord (i : Nat) : G3.ord i = (none) := rfl
theorem G3_it (f : FuncId) : G3.it f = (G2.it f) := rfl
theorem G3_hy (b : Nat) : G3.hy b = none := rfl
theorem G3ok : FnsOk Try.prog G3 := FnsOk.same (FnsOk.cons (FnsOk.cons (FnsOk.cons (FnsOk.cons G2ok _ _ unbroken_ok Try.func20 (by decide) (fun h => by cases h)) _ _ clone_ok Try.func21 (by decide) (fun h => by cases h)) _ _ index_ok Try.func25 (by decide) (fun h => by cases h)) _ _ trim_ok Try.func26 (by decide) (fun h => by cases h)) rfl rfl
attribute [bitvec_to_nat] G3_fn G3_mu G3_hp G3_ord G3_it G3_hy
theorem first_ok : FSound Try.prog 24 firstM := by
  refine fsound tysOk G3ok mix Try.func24 rfl ?_
  intro args p r fr hm hp
  unfold firstM at hm
  split at hm
  · rename_i b t
    cases hm
    have hx : indexF b (Int.toNat 10).toUInt8 = if lineN b < b.length then (lineN b : Int) else -1 := index_ge b
    simp (maxSteps:=2000000) only[bitvec_to_nat,seval,↓tcd,Try.f24,trimM,indexM]
    have hx' : indexF b (Nat.toUInt8 10) = if lineN b < b.length then (lineN b : Int) else -1 := index_ge b
    rw [hx']
    have hle := lineN_le b
    unfold firstF
    by_cases h : lineN b < b.length
    · simp only [if_pos h]
      have hd : decide (0 ≤ (lineN b : Int)) = true := decide_eq_true (by omega)
      rw [hd]
      simp only [r_ifTrue, Int.toNat_natCast]
      rw [i64w (by omega) (by omega)]
      refine ⟨⟨by omega, by omega⟩, by rw [List.length_take]; omega, trimSuf_13 _, by omega⟩
    · simp only [if_neg h]
      refine awpIf_intro (fun hf => ?_) (fun _ => ?_)
      · simp at hf
      · exact ⟨by omega, trimSuf_13 _, trivial⟩
  · cases hm
def wordsM : FM
  | [.agg [.int .i64 a, .bytes b _]] => some (0 ≤ a ∧ a ≤ 4611686018427387904 ∧ b.length ≤ 1099511627776, .list 2 ((wordsF a.toNat b).map lv) none, [])
  | _ => none
def G4 : Fns := { fn := fun f => if f = 24 then some firstM else G3.fn f, mu := fun d => .no, hp := fun f => G3.hp f, ord := fun i => none, it := fun f => G3.it f }
theorem G4_fn (f : FuncId) : G4.fn f = (if f = 24 then some firstM else G3.fn f) := rfl
theorem G4_mu (d : Tmp) : G4.mu d = (.no) := rfl
theorem G4_hp (f : FuncId) : G4.hp f = (G3.hp f) := rfl
theorem G4_ord (i : Nat) : G4.ord i = (none) := rfl
theorem G4_it (f : FuncId) : G4.it f = (G3.it f) := rfl
theorem G4_hy (b : Nat) : G4.hy b = none := rfl
theorem G4ok : FnsOk Try.prog G4 := FnsOk.same (FnsOk.cons G3ok _ _ first_ok Try.func24 (by decide) (fun h => by cases h)) rfl rfl
attribute [bitvec_to_nat] G4_fn G4_mu G4_hp G4_ord G4_it G4_hy
def G4w : Fns := { fn := fun f => G4.fn f, mu := fun d => bif d == 3 then .nil 24 else bif d == 35 then .seq else .no, hp := fun f => G4.hp f, ord := fun i => if i = 7 then some [(16, 9), (0, 0), (1, 0), (3, 0), (5, 0), (7, 0), (8, 0), (9, 0), (10, 0), (2, 2), (4, 0), (6, 2), (11, 0), (12, 0), (13, 0), (14, 0), (15, 1)] else none, it := fun f => G4.it f }
theorem G4w_fn (f : FuncId) : G4w.fn f = (G4.fn f) := rfl
theorem G4w_mu (d : Tmp) : G4w.mu d = (bif d == 3 then .nil 24 else bif d == 35 then .seq else .no) := rfl
theorem G4w_hp (f : FuncId) : G4w.hp f = (G4.hp f) := rfl
theorem G4w_ord (i : Nat) : G4w.ord i = (if i = 7 then some [(16, 9), (0, 0), (1, 0), (3, 0), (5, 0), (7, 0), (8, 0), (9, 0), (10, 0), (2, 2), (4, 0), (6, 2), (11, 0), (12, 0), (13, 0), (14, 0), (15, 1)] else none) := rfl
theorem G4w_it (f : FuncId) : G4w.it f = (G4.it f) := rfl
theorem G4w_hy (b : Nat) : G4w.hy b = none := rfl
theorem G4wok : FnsOk Try.prog G4w := FnsOk.same G4ok rfl rfl
attribute [bitvec_to_nat] G4w_fn G4w_mu G4w_hp G4w_ord G4w_it G4w_hy
theorem words_ok : FSound Try.prog 14 wordsM := by
  refine fsoundV tysOk G4wok mix Try.func14 rfl ?_
  intro args p r fr hm hp
  unfold wordsM at hm
  split at hm
  · rename_i a b t
    cases hm
    obtain ⟨h0, h1, h2⟩ := hp
    obtain ⟨a, rfl⟩ := Int.eq_ofNat_of_zero_le h0
    refine ⟨rfl, ?_⟩
    simp (maxSteps:=2000000) only[bitvec_to_nat,seval,↓tcd,Try.f14,unbrokenM,cloneM]
    refine awpLoop_intro (α := {q : Nat × List Ln // q.1 ≤ b.length ∧ q.2.length ≤ q.1 ∧ q.2 ++ wordsF (a + q.1) (b.drop q.1) = wordsF a b})
      (fun q => ⟨[.any, .box 0 0, .any, .list 2 (q.1.2.map lv) (some 0), .int .i64 (q.1.1 : Int), .any, .any, .any, .any, .any, .any, .any, .any, .any, .any, .any, .any, .any, .any, .any, .any, .any, .any, .any, .any, .any, .any, .any, .any, .any, .any, .any, .any, .any, .any, .any, .any, .any, .any, .any], [[.int .i64 (a : Int), .bytes b none]], [((q.1.2.map lv).length, 31)]⟩) (fun q => b.length - q.1.1)
      ⟨(0, []), by simp, by simp, by simp⟩ ?_ ?_
    · simp (maxSteps:=2000000) only[bitvec_to_nat,seval,↓tcd]
      all_goals simp
    · rintro ⟨⟨i, ws⟩, hi, hw, heq⟩
      simp only at hi hw heq
      simp (maxSteps:=2000000) only[bitvec_to_nat,seval,↓tcd,Try.f14,unbrokenM,cloneM,Int.toNat_natCast,retPostV,RetV]
      refine awpIf_intro (fun h => ?_) (fun h => ?_) <;> simp only [decide_eq_true_eq, decide_eq_false_iff_not] at h
      · have hlt : i < b.length := by omega
        have hdl : (b.drop i).length = b.length - i := List.length_drop
        have hwn := wordN_le (b.drop i)
        refine ⟨⟨by omega, by omega⟩, by omega, awpIf_intro (fun h0 => ?_) (fun h0 => ?_)⟩ <;> simp only [decide_eq_true_eq, decide_eq_false_iff_not] at h0
        · rw [i64w (by omega) (by omega)]
          refine ⟨⟨(i + 1, ws), by simp only; omega, by simp only; omega, ?_⟩, ⟨⟨rfl, by simp⟩, rfl⟩, by simp only; omega⟩
          simp only
          rw [← heq]
          congr 1
          have hc : b.drop i = b[i] :: b.drop (i + 1) := (List.getElem_cons_drop hlt).symm
          rw [hc] at h0 ⊢
          rw [wordsF_blank _ (wordN_zero (r := b.drop (i + 1)) (by omega))]
          rfl
        · have hw0 : 0 < wordN (b.drop i) := by omega
          rw [i64w (n := (i : Int) + ((wordN (b.drop i) : Nat) : Int)) (by omega) (by omega), i64w (by omega) (by omega)]
          have e1 : ((i : Int) + ((wordN (b.drop i) : Nat) : Int)).toNat = i + wordN (b.drop i) := by omega
          have e2 : (b.take (i + wordN (b.drop i))).drop i = (b.drop i).take (wordN (b.drop i)) := by rw [List.drop_take]; congr 1; omega
          rw [e1, e2]
          have e3 : List.map lv ws ++ [V.agg [V.int IntKind.i64 ((a : Int) + (i : Int)), V.bytes ((b.drop i).take (wordN (b.drop i))) none]] = (ws ++ [(a + i, (b.drop i).take (wordN (b.drop i)))]).map lv := by
            rw [List.map_append]; rfl
          rw [e3]
          refine ⟨⟨by kernel_rfl, by kernel_rfl⟩, ⟨by omega, by omega, by omega⟩, by rw [List.length_take]; omega, mb _ (by rw [List.length_map]; omega), ⟨(i + wordN (b.drop i), ws ++ [(a + i, (b.drop i).take (wordN (b.drop i)))]), by simp only; omega, by simp only [List.length_append, List.length_cons, List.length_nil]; omega, ?_⟩, ⟨⟨rfl, by simp⟩, rfl⟩, by simp only; omega⟩
          simp only
          rw [← heq, wordsF_word _ hw0, List.drop_drop]
          simp only [List.append_assoc, List.cons_append, List.nil_append, Nat.add_assoc]
      · have e : i = b.length := by omega
        rw [e, List.drop_length] at heq
        have : ws = wordsF a b := by rw [← heq]; simp [wordsF, goW]
        rw [← this]
        exact retV_list (lv_clean ws)
  · cases hm
def bareM : FM
  | [.agg [.int .i64 a, .bytes b none]] => some (0 ≤ a ∧ a ≤ 4611686018427387904 ∧ b.length ≤ 1099511627776, .bool (bareF b), [])
  | _ => none
def G5 : Fns := { fn := fun f => if f = 14 then some wordsM else G4.fn f, mu := fun d => .no, hp := fun f => G4.hp f, ord := fun i => none, it := fun f => G4.it f }
theorem G5_fn (f : FuncId) : G5.fn f = (if f = 14 then some wordsM else G4.fn f) := rfl
theorem G5_mu (d : Tmp) : G5.mu d = (.no) := rfl
theorem G5_hp (f : FuncId) : G5.hp f = (G4.hp f) := rfl
theorem G5_ord (i : Nat) : G5.ord i = (none) := rfl
theorem G5_it (f : FuncId) : G5.it f = (G4.it f) := rfl
theorem G5_hy (b : Nat) : G5.hy b = none := rfl
theorem G5ok : FnsOk Try.prog G5 := FnsOk.same (FnsOk.cons G4ok _ _ words_ok Try.func14 (by decide) (fun h => by cases h)) rfl rfl
attribute [bitvec_to_nat] G5_fn G5_mu G5_hp G5_ord G5_it G5_hy
theorem bare_ok : FSound Try.prog 16 bareM := by
  refine fsound tysOk G5ok mix Try.func16 rfl ?_
  intro args p r fr hm hp
  unfold bareM at hm
  split at hm
  · rename_i a b
    cases hm
    obtain ⟨h0, h1, h2⟩ := hp
    obtain ⟨a, rfl⟩ := Int.eq_ofNat_of_zero_le h0
    rw [bareF_at a b]
    have hcl := lv_clean (wordsF a b)
    have hne := goW_ne b none a (by simp)
    obtain ⟨ws, hws⟩ : ∃ ws, wordsF a b = ws := ⟨_, rfl⟩
    have hne : ∀ x ∈ ws, x.2 ≠ [] := by rw [← hws]; exact hne
    have hwl := wordsF_len a b
    rw [hws] at hcl hwl ⊢
    cases ws with
    | nil =>
      simp (maxSteps:=2000000) only[bitvec_to_nat,seval,↓tcd,Try.f16,wordsM,Int.toNat_natCast,hws]
      exact ⟨h0, h1, h2⟩
    | cons x ws =>
      simp (maxSteps:=2000000) only[bitvec_to_nat,seval,↓tcd,Try.f16,wordsM,Int.toNat_natCast,hws,lv]
      have hx := List.length_pos_iff.2 (hne x (by simp))
      have e35 : decide (((x.2.getD 0 0).toNat : Int) = 35) = (x.2.getD 0 0 == 35) := by
        rw [Bool.eq_iff_iff]
        simp only [beq_iff_eq, decide_eq_true_eq]
        exact ⟨fun e => UInt8.toNat_inj.1 (by have : (35 : UInt8).toNat = 35 := rfl; omega), fun e => by rw [e]; rfl⟩
      exact ⟨⟨fun v hv => hcl v (by simp [hv]), h0, h1, h2⟩, awpIf_intro (fun h => by simp at h; omega) fun _ => ⟨by omega, by omega, e35⟩⟩
  · cases hm
def allP : PM := fun args L T K => ∃ b t, args = [.bytes b t] ∧ b.length ≤ 1099511627776 ∧ K (.fn (.func 23) [] [.box L.length 0]) (L ++ [[.bytes b none]]) T
def G6 : Fns := { fn := fun f => if f = 16 then some bareM else G5.fn f, mu := fun d => .no, hp := fun f => G5.hp f, ord := fun i => none, it := fun f => G5.it f }
theorem G6_fn (f : FuncId) : G6.fn f = (if f = 16 then some bareM else G5.fn f) := rfl
theorem G6_mu (d : Tmp) : G6.mu d = (.no) := rfl
theorem G6_hp (f : FuncId) : G6.hp f = (G5.hp f) := rfl
theorem G6_ord (i : Nat) : G6.ord i = (none) := rfl
theorem G6_it (f : FuncId) : G6.it f = (G5.it f) := rfl
theorem G6_hy (b : Nat) : G6.hy b = none := rfl
theorem G6ok : FnsOk Try.prog G6 := FnsOk.same (FnsOk.cons G5ok _ _ bare_ok Try.func16 (by decide) (fun h => by cases h)) rfl rfl
attribute [bitvec_to_nat] G6_fn G6_mu G6_hp G6_ord G6_it G6_hy
theorem all_ok : PSound Try.prog 18 allP := by
  refine psound tysOk G6ok mix Try.func18 rfl ?_
  intro args L T K hm
  obtain ⟨b, t, rfl, hb, hK⟩ := hm
  simp (maxSteps:=2000000) only[bitvec_to_nat,seval,↓tcd,Try.f18,cloneM]
  exact ⟨by omega, ret_of ((Step.refl noV noV L T).app _) hK⟩
def yargs (k : Nat) (x : Ln) : List V := [.int .i64 (k : Int), lv x]
def yall (l : List Ln) : List (List V) := (List.range l.length).map fun k => yargs k (l.getD k (0, []))
theorem yall_drop {l : List Ln} {k : Nat} {x : Ln} {r : List Ln} (h : l.drop k = x :: r) : (yall l).drop k = yargs k x :: (yall l).drop (k + 1) := by
  have hk : k < l.length := by
    rcases Nat.lt_or_ge k l.length with h1 | h1
    · exact h1
    · rw [List.drop_of_length_le h1] at h; cases h
  have hx : l[k] = x := by
    rw [List.drop_eq_getElem_cons hk] at h
    exact (List.cons.inj h).1
  rw [List.drop_eq_getElem_cons (by simpa [yall] using hk)]
  simp [yall, List.getD_eq_getElem?_getD, List.getElem?_eq_getElem hk, hx]
theorem yall_end {l : List Ln} {k : Nat} (h : l.drop k = []) : (yall l).drop k = [] := by
  have hk : l.length ≤ k := by simpa using h
  exact List.drop_of_length_le (by simpa [yall] using hk)
theorem yall_len (l : List Ln) : (yall l).length = l.length := by simp [yall]
theorem yall_at {l : List Ln} {k : Nat} (h : k < (yall l).length) : (yall l)[k] = yargs k (l.getD k (0, [])) := by simp [yall]
def allI : IM := fun yb Y args L T K => ∃ (b : List UInt8) (o : Nat), args = [.fn (.yield yb) [] [], .box o 0] ∧ b.length ≤ 1099511627776 ∧
  runY (fun L' T' => (L.length ≤ L'.length ∧ T.length ≤ T'.length) ∧ L'[o]? = some [.bytes b none]) Y (fun L' T' => (L.length ≤ L'.length ∧ T.length ≤ T'.length) ∧ K (.tuple []) L' T') (yall (linesF 0 b)) L T
theorem allI_ok : ISound Try.prog 23 allI := by
  refine isound tysOk G6ok mix Try.func23 rfl ?_
  intro yb Y args L T K hY hm
  obtain ⟨b, o, rfl, hb, hrun⟩ := hm
  simp (maxSteps:=2000000) only[bitvec_to_nat,seval,↓tcd,Try.f23]
  obtain ⟨l, hl⟩ : ∃ l, l = linesF 0 b := ⟨_, rfl⟩
  rw [← hl] at hrun
  obtain ⟨S, hS⟩ : ∃ S : LL → TT → Prop, S = fun L' T' => (L.length ≤ L'.length ∧ T.length ≤ T'.length) ∧ L'[o]? = some [.bytes b none] := ⟨_, rfl⟩
  rw [← hS] at hrun
  have hSl : ∀ {xs : List (List V)} {L1 : LL} {T1 : TT} {K0 : LL → TT → Prop}, runY S Y K0 xs L1 T1 → (L.length ≤ L1.length ∧ T.length ≤ T1.length) ∧ L1[o]? = some [.bytes b none] := by
    intro xs L1 T1 K0 h
    have h' : S L1 T1 := by cases xs <;> exact h.1
    rw [hS] at h'
    exact h'
  refine awpLoop_intro (α := {q : (Nat × Nat) × LL × TT // (q.1.1 ≤ l.length ∧ q.1.2 ≤ b.length ∧ linesF q.1.2 (b.drop q.1.2) = l.drop q.1.1) ∧ runY S Y (fun L' T' => (L.length ≤ L'.length ∧ T.length ≤ T'.length) ∧ K (.tuple []) L' T') ((yall l).drop q.1.1) q.2.1 q.2.2})
    (fun q => ⟨[.fn (.yield yb) [] [], .box o 0, .any, .int .i64 (q.1.1.1 : Int), .int .i64 (q.1.1.2 : Int), .any, .any, .any, .any, .any, .any, .any, .any, .any, .any, .any, .any, .any, .any, .any, .any, .any, .any, .any, .any, .any, .any, .any, .any, .any, .any], q.1.2.1, q.1.2.2⟩) (fun q => b.length - q.1.1.2)
    ⟨((0, 0), L, T), ⟨by simp, by simp, by simp [hl]⟩, hrun⟩ ?_ ?_ (fun q => (hSl q.2.2).1)
  · simp (maxSteps:=2000000) only[bitvec_to_nat,seval,↓tcd,leLL_refl]
    all_goals simp
  · rintro ⟨⟨⟨k, at'⟩, L1, T1⟩, ⟨hk, hat, heq⟩, hrun1⟩
    simp only at hk hat heq hrun1
    obtain ⟨⟨hl1, ht1⟩, hb1⟩ := hSl hrun1
    by_cases hlt : at' < b.length
    · have hd : decide ((at' : Int) < (b.length : Int)) = true := decide_eq_true (by omega)
      have hne : b.drop at' ≠ [] := by intro e; have := congrArg List.length e; simp at this; omega
      have hdl : (b.drop at').length = b.length - at' := List.length_drop
      have hfl := firstF_le (b.drop at')
      have hfp := firstF_pos hne
      have hfl2 := firstF_len (b.drop at')
      rw [linesF_first hne] at heq
      rw [yall_drop heq.symm] at hrun1
      have hkl : k < l.length := by
        have := congrArg List.length heq
        simp at this
        omega
      simp (maxSteps:=2000000) only[bitvec_to_nat,seval,↓tcd,hb1,hd,firstM,cloneM,Int.toNat_natCast]
      have hdr : l.drop (k + 1) = linesF (at' + (firstF (b.drop at')).2) (b.drop (at' + (firstF (b.drop at')).2)) := by
        have h1 := congrArg (List.drop 1) heq
        rw [List.drop_drop, List.drop_drop] at h1
        rw [← h1]
        rfl
      refine ⟨⟨by omega, by omega⟩, by omega, by omega, ⟨hl1, ht1⟩, ?_⟩
      generalize (firstF (b.drop at')).2 = size at *
      generalize (firstF (b.drop at')).1 = ln at *
      have hw1 : IntKind.i64.wrap ((at' : Int) + (size : Int)) = ((at' + size : Nat) : Int) := by rw [i64w (by omega) (by omega)]; omega
      have hw2 : IntKind.i64.wrap ((k : Int) + 1) = ((k + 1 : Nat) : Int) := by
        have h3 := linesF_len 0 b
        rw [← hl] at h3
        rw [i64w (by omega) (by omega)]; omega
      refine hY _ _ _ _ _ (fun v L2 T2 hv => ?_) hrun1.2
      split at hv
      · obtain ⟨⟨hl2, ht2⟩, hb12⟩ := hSl hv
        simp (maxSteps:=2000000) only[bitvec_to_nat,seval,↓tcd,hb12,hw1,hw2]
        refine ⟨⟨((k + 1, at' + size), L2, T2), ⟨by simp only; omega, by simp only; omega, hdr.symm⟩, by simpa using hv⟩, ?_, by simp only; omega⟩
        simp (maxSteps:=2000000) only[bitvec_to_nat,seval,↓tcd,leLL_refl]
      · simp (maxSteps:=2000000) only[bitvec_to_nat,seval,↓tcd]
        exact ⟨_, _, L2, T2, rfl, hv.1, St.le_self _, hv.2⟩
      · exact hv.elim
    · have hd : decide ((at' : Int) < (b.length : Int)) = false := decide_eq_false (by omega)
      have e : at' = b.length := by omega
      rw [e, List.drop_length, linesF_nil] at heq
      rw [yall_end heq.symm] at hrun1
      simp (maxSteps:=2000000) only[bitvec_to_nat,seval,↓tcd,hb1,hd]
      exact ⟨_, _, L1, T1, rfl, ⟨hl1, ht1⟩, St.le_self _, hrun1.2.2⟩
end Go.Proofs.Ythlmfalfnpjndaa.Line
