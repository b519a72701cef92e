/-
  TWO DISKS, and what is told of both.
-/
import Derived.Test.YtieeojipodefoaaAwX
import Derived.Test.YtieeojipodefoaaDiskN
namespace Go.Proofs.Ytieeojipodefoaa.DiskL
open Go Go.Proofs Go.Proofs.Ytieeojipodefoaa.Aw Go.Proofs.Ytieeojipodefoaa.Num Go.Proofs.Ytieeojipodefoaa.DiskM Go.Proofs.Ytieeojipodefoaa.DiskA Go.Proofs.Ytieeojipodefoaa.DiskK Go.Proofs.Ytieeojipodefoaa.DiskC Go.Proofs.Ytieeojipodefoaa.Disk
set_option linter.unusedSimpArgs false
set_option linter.unusedVariables false

/-- two disks, of which no variable is both's -/
structure Two (L : LL) (T : TT) (M1 : MD) (w1 : Own) (M2 : MD) (w2 : Own) : Prop where
  d1 : dAt L T M1 w1
  d2 : dAt L T M2 w2
  sep : ∀ i, w1.S i → ¬ w2.S i
  rsep : ∀ k, w1.R k → ¬ w2.R k
theorem Two.symm {L : LL} {T : TT} {M1 M2 : MD} {w1 w2 : Own} (h : Two L T M1 w1 M2 w2) : Two L T M2 w2 M1 w1 := ⟨h.d2, h.d1, fun i h1 h2 => h.sep i h2 h1, fun k h1 h2 => h.rsep k h2 h1⟩
theorem Two.left {L L' : LL} {T T' : TT} {M1 M1' M2 : MD} {w1 w1' w2 : Own} (h : Two L T M1 w1 M2 w2) (hd : dAt L' T' M1' w1') (g : Step w1.S w1.R L T w1'.S w1'.R L' T') : Two L' T' M1' w1' M2 w2 := by
  refine ⟨hd, h.d2.frame g (fun i h2 h1 => h.sep i h1 h2) (fun k h2 h1 => h.rsep k h1 h2), fun i h1 h2 => ?_, fun k h1 h2 => ?_⟩
  · rcases g.own i h1 with h3 | h3
    · exact h.sep i h3 h2
    · have := h.d2.lt i h2; omega
  · rcases g.town k h1 with h3 | h3
    · exact h.rsep k h3 h2
    · have := h.d2.tlt k h2; omega
theorem Two.right {L L' : LL} {T T' : TT} {M1 M2 M2' : MD} {w1 w2 w2' : Own} (h : Two L T M1 w1 M2 w2) (hd : dAt L' T' M2' w2') (g : Step w2.S w2.R L T w2'.S w2'.R L' T') : Two L' T' M1 w1 M2' w2' := (h.symm.left hd g).symm
theorem Two.other {L L' : LL} {T T' : TT} {M1 M2 : MD} {w1 w2 : Own} (h : Two L T M1 w1 M2 w2) (g : Step noS noS L T noS noS L' T') : Two L' T' M1 w1 M2 w2 :=
  ⟨h.d1.frame g (fun _ _ h => h) (fun _ _ h => h), h.d2.frame g (fun _ _ h => h) (fun _ _ h => h), h.sep, h.rsep⟩
/-- both's variables -/
def bS (w1 w2 : Own) (i : Nat) : Prop := w1.S i ∨ w2.S i
def bR (w1 w2 : Own) (k : Nat) : Prop := w1.R k ∨ w2.R k
theorem Step.two {L L' : LL} {T T' : TT} {w1 w1' w2 : Own} (g : Step w1.S w1.R L T w1'.S w1'.R L' T') : Step (bS w1 w2) (bR w1 w2) L T (bS w1' w2) (bR w1' w2) L' T' :=
  ⟨g.len, fun i hi hs => g.keep i hi (fun h => hs (.inl h)), fun i h => h.elim (fun h => (g.own i h).imp .inl id) (fun h => .inl (.inr h)), g.tlen, fun k hk hr => g.tkeep k hk (fun h => hr (.inl h)), fun k h => h.elim (fun h => (g.town k h).imp .inl id) (fun h => .inl (.inr h))⟩
theorem Step.two' {L L' : LL} {T T' : TT} {w1 w2 w2' : Own} (g : Step w2.S w2.R L T w2'.S w2'.R L' T') : Step (bS w1 w2) (bR w1 w2) L T (bS w1 w2') (bR w1 w2') L' T' :=
  ⟨g.len, fun i hi hs => g.keep i hi (fun h => hs (.inr h)), fun i h => h.elim (fun h => .inl (.inl h)) (fun h => (g.own i h).imp .inr id), g.tlen, fun k hk hr => g.tkeep k hk (fun h => hr (.inr h)), fun k h => h.elim (fun h => .inl (.inl h)) (fun h => (g.town k h).imp .inr id)⟩

def textsN : FM
  | [.list 1 a none, .list 1 b none] => some (∃ x y : List Name, a = x.map .str ∧ b = y.map .str ∧ x.length ≤ 9223372036854775807 ∧ x = y, .bool true, [])
  | _ => none
theorem texts_ok : FSound Try.prog 33 textsN := by
  refine fsound tysOk H0ok mix Try.func33 rfl ?_
  intro args p r fr hm hp
  unfold textsN at hm
  split at hm
  · rename_i a b
    cases hm
    obtain ⟨x, y, rfl, rfl, hl, rfl⟩ := hp
    simp (config := { maxSteps := 2000000 }) only [bitvec_to_nat, ↓r_ifTrue, ↓r_ifFalse, Nat.reduceAdd, Nat.reduceSub, Nat.reduceMul, Nat.reduceLT, Nat.reduceLeDiff, Nat.reduceEqDiff, Nat.reduceBEq, Nat.reduceBNe, Int.reduceToNat, Int.reduceLE, Int.reduceLT, Int.reduceEq, Int.reduceNe, Int.reduceNeg, Nat.reducePow, Int.reducePow, reduceIte, reduceCtorEq, ↓tc25, ↓td25, ↓tc34, ↓td34, ↓tc76, ↓td76, ↓tc95, ↓td95, ↓tc103, ↓td103, Try.f33, List.length_map]
    refine awpLoop_intro (α := {i : Nat // i ≤ x.length}) (fun i => ⟨[.list 1 (x.map .str) none, .list 1 (x.map .str) none, .any, .any, .any, .any, .any, .any, .any, .any, .any, .any, .int .i64 (x.length : Int), .int .i64 (i.1 : Int), .any, .any, .any, .any, .any, .any, .any, .any, .any, .any, .any, .any], [], []⟩) (fun i => x.length - i.1) ⟨0, by omega⟩ ?_ ?_
    · simp (config := { maxSteps := 2000000 }) only [bitvec_to_nat, ↓r_ifTrue, ↓r_ifFalse, Nat.reduceAdd, Nat.reduceSub, Nat.reduceMul, Nat.reduceLT, Nat.reduceLeDiff, Nat.reduceEqDiff, Nat.reduceBEq, Nat.reduceBNe, Int.reduceToNat, Int.reduceLE, Int.reduceLT, Int.reduceEq, Int.reduceNe, Int.reduceNeg, Nat.reducePow, Int.reducePow, reduceIte, reduceCtorEq, ↓tc25, ↓td25, ↓tc34, ↓td34, ↓tc76, ↓td76, ↓tc95, ↓td95, ↓tc103, ↓td103]
      simp
    · rintro ⟨i, hi⟩
      by_cases hlt : i < x.length
      · have hdc : decide ((i : Int) < (x.length : Int)) = true := decide_eq_true (by omega)
        have hgd : (x.map V.str).getD i .any = .str x[i] := by
          rw [List.getD_eq_getElem?_getD, List.getElem?_map, List.getElem?_eq_getElem hlt]; rfl
        have hi1 : IntKind.i64.wrap ((i : Int) + 1) = ((i + 1 : Nat) : Int) := by rw [i64w (by omega) (by omega)]; omega
        simp (config := { maxSteps := 2000000 }) only [bitvec_to_nat, ↓r_ifTrue, ↓r_ifFalse, Nat.reduceAdd, Nat.reduceSub, Nat.reduceMul, Nat.reduceLT, Nat.reduceLeDiff, Nat.reduceEqDiff, Nat.reduceBEq, Nat.reduceBNe, Int.reduceToNat, Int.reduceLE, Int.reduceLT, Int.reduceEq, Int.reduceNe, Int.reduceNeg, Nat.reducePow, Int.reducePow, reduceIte, reduceCtorEq, ↓tc25, ↓td25, ↓tc34, ↓td34, ↓tc76, ↓td76, ↓tc95, ↓td95, ↓tc103, ↓td103, hdc, hgd, Int.toNat_natCast, List.length_map, hi1]
        exact ⟨by kernel_rfl, ⟨by omega, by omega⟩, ⟨by omega, by omega⟩, ⟨i + 1, by omega⟩, rfl, by simp only; omega⟩
      · have hdc : decide ((i : Int) < (x.length : Int)) = false := decide_eq_false (by omega)
        simp (config := { maxSteps := 2000000 }) only [bitvec_to_nat, ↓r_ifTrue, ↓r_ifFalse, Nat.reduceAdd, Nat.reduceSub, Nat.reduceMul, Nat.reduceLT, Nat.reduceLeDiff, Nat.reduceEqDiff, Nat.reduceBEq, Nat.reduceBNe, Int.reduceToNat, Int.reduceLE, Int.reduceLT, Int.reduceEq, Int.reduceNe, Int.reduceNeg, Nat.reducePow, Int.reducePow, reduceIte, reduceCtorEq, ↓tc25, ↓td25, ↓tc34, ↓td34, ↓tc76, ↓td76, ↓tc95, ↓td95, ↓tc103, ↓td103, hdc]
  · cases hm
def H6 : Fns := { fn := fun f => if f = 33 then some textsN else H0.fn f, mu := fun d => .no, hp := fun f => if f = 34 then some readP else if f = 28 then some namesP else H0.hp f, ord := fun i => none }
theorem H6_fn (f : FuncId) : H6.fn f = (if f = 33 then some textsN else H0.fn f) := rfl
theorem H6_mu (d : Tmp) : H6.mu d = (.no) := rfl
theorem H6_hp (f : FuncId) : H6.hp f = (if f = 34 then some readP else if f = 28 then some namesP else H0.hp f) := rfl
theorem H6_ord (i : Nat) : H6.ord i = (none) := rfl
theorem H6ok : FnsOk Try.prog H6 := FnsOk.same (FnsOk.consP (FnsOk.consP (FnsOk.cons H0ok _ _ texts_ok Try.func33 (by decide) (fun h => by cases h)) _ _ names_ok Try.func28 (by decide) (fun h => by cases h)) _ _ read_ok Try.func34 (by decide) (fun h => by cases h)) rfl rfl
attribute [bitvec_to_nat] H6_fn H6_mu H6_hp H6_ord

/-- both tell the same -/
def SameView (M1 M2 : MD) : Prop := M1.now.map (·.1) = M2.now.map (·.1) ∧ ∀ n, M1.readB n = M2.readB n
def alikeP : PM := fun args L T K => ∃ (M1 M2 : MD) (w1 w2 : Own), args = [.box w1.o 0, .box w2.o 0] ∧ Two L T M1 w1 M2 w2 ∧ Small M1 ∧ Small M2 ∧ Live M1 ∧ Live M2 ∧ SameView M1 M2 ∧
  ∀ L' T' w1' w2', w1'.o = w1.o → w2'.o = w2.o → Two L' T' M1 w1' M2 w2' → Step (bS w1 w2) (bR w1 w2) L T (bS w1' w2') (bR w1' w2') L' T' → K (.bool true) L' T'
set_option maxHeartbeats 2000000 in
theorem alike_ok : PSound Try.prog 31 alikeP := by
  refine psound tysOk H6ok mix Try.func31 rfl ?_
  intro args L T K hm
  obtain ⟨M1, M2, w1, w2, rfl, ht, hs1, hs2, hl1, hl2, ⟨hv1, hv2⟩, hK⟩ := hm
  obtain ⟨o1, ho1⟩ : ∃ o, w1.o = o := ⟨_, rfl⟩
  obtain ⟨o2, ho2⟩ : ∃ o, w2.o = o := ⟨_, rfl⟩
  rw [ho1, ho2] at hK ⊢
  obtain ⟨n1, n2⟩ := names_live hl1
  obtain ⟨k1, k2⟩ := names_live hl2
  obtain ⟨ns, hns⟩ : ∃ ns, M2.now.map (·.1) = ns := ⟨_, rfl⟩
  rw [hns] at hv1 k2
  rw [hv1] at n2
  have hnl : ns.length ≤ 1099511627776 := by
    have q1 := now_len ht.d2.ok
    have q2 := hs2.nf
    rw [← hns, List.length_map]; omega
  simp (config := { maxSteps := 2000000 }) only [bitvec_to_nat, ↓r_ifTrue, ↓r_ifFalse, Nat.reduceAdd, Nat.reduceSub, Nat.reduceMul, Nat.reduceLT, Nat.reduceLeDiff, Nat.reduceEqDiff, Nat.reduceBEq, Nat.reduceBNe, Int.reduceToNat, Int.reduceLE, Int.reduceLT, Int.reduceEq, Int.reduceNe, Int.reduceNeg, Nat.reducePow, Int.reducePow, reduceIte, reduceCtorEq, ↓tc25, ↓td25, ↓tc34, ↓td34, ↓tc76, ↓td76, ↓tc95, ↓td95, ↓tc103, ↓td103, Try.f31]
  refine op_o ho1 rfl ht.d1 hs1 fun L3 T3 w3 ho3 hd3 hst3 => ?_
  simp only [n1, n2, code_V, Int.natCast_zero] at hd3 ⊢
  have ht3 := ht.left hd3 hst3
  have hst3' := Step.two (w2 := w2) hst3
  simp (config := { maxSteps := 2000000 }) only [bitvec_to_nat, ↓r_ifTrue, ↓r_ifFalse, Nat.reduceAdd, Nat.reduceSub, Nat.reduceMul, Nat.reduceLT, Nat.reduceLeDiff, Nat.reduceEqDiff, Nat.reduceBEq, Nat.reduceBNe, Int.reduceToNat, Int.reduceLE, Int.reduceLT, Int.reduceEq, Int.reduceNe, Int.reduceNeg, Nat.reducePow, Int.reducePow, reduceIte, reduceCtorEq, ↓tc25, ↓td25, ↓tc34, ↓td34, ↓tc76, ↓td76, ↓tc95, ↓td95, ↓tc103, ↓td103]
  refine op_o ho2 rfl ht3.d2 hs2 fun L4 T4 w4 ho4 hd4 hst4 => ?_
  simp only [k1, k2, code_V, Int.natCast_zero] at hd4 ⊢
  have ht4 := ht3.right hd4 hst4
  have hst4' := hst3'.trans (Step.two' (w1 := w3) hst4)
  simp (config := { maxSteps := 2000000 }) only [bitvec_to_nat, ↓r_ifTrue, ↓r_ifFalse, Nat.reduceAdd, Nat.reduceSub, Nat.reduceMul, Nat.reduceLT, Nat.reduceLeDiff, Nat.reduceEqDiff, Nat.reduceBEq, Nat.reduceBNe, Int.reduceToNat, Int.reduceLE, Int.reduceLT, Int.reduceEq, Int.reduceNe, Int.reduceNeg, Nat.reducePow, Int.reducePow, reduceIte, reduceCtorEq, ↓tc25, ↓td25, ↓tc34, ↓td34, ↓tc76, ↓td76, ↓tc95, ↓td95, ↓tc103, ↓td103, textsN, List.length_map]
  have hcl : ∀ v ∈ ns.map V.str, v.clean := fun v hv => (by obtain ⟨y, _, rfl⟩ := List.mem_map.1 hv; simp [V.clean])
  refine ⟨⟨hcl, ns, ns, rfl, rfl, by omega, rfl⟩, ?_⟩
  refine awpLoop_intro (α := {q : Nat × LL × TT × Own × Own // q.1 ≤ ns.length ∧ q.2.2.2.1.o = o1 ∧ q.2.2.2.2.o = o2 ∧ Two q.2.1 q.2.2.1 M1 q.2.2.2.1 M2 q.2.2.2.2 ∧ Step (bS w1 w2) (bR w1 w2) L T (bS q.2.2.2.1 q.2.2.2.2) (bR q.2.2.2.1 q.2.2.2.2) q.2.1 q.2.2.1})
    (fun q => ⟨[.box o1 0, .box o2 0, .any, .any, .bool false, .any, .any, .any, .any, .any, .any, .any, .any, .any, .any, .any, .any, .any, .any, .any, .any, .any, .any, .any, .any, .any, .any, .any, .any, .any, .any, .any, .any, .any, .list 1 (ns.map .str) none, .int .i64 (ns.length : Int), .int .i64 (q.1.1 : Int), .any, .any, .any, .any, .any, .any, .any, .any, .any, .any, .any, .any, .any, .any, .any, .any, .any, .any, .any, .any, .any, .any, .any, .any, .any, .any], q.1.2.1, q.1.2.2.1⟩) (fun q => ns.length - q.1.1)
    ⟨(0, L4, T4, w3, w4), Nat.zero_le _, ho3, ho4, ht4, hst4'⟩ ?_ ?_ (fun q => ⟨q.2.2.2.2.2.len, q.2.2.2.2.2.tlen⟩)
  · simp (config := { maxSteps := 2000000 }) only [bitvec_to_nat, ↓r_ifTrue, ↓r_ifFalse, Nat.reduceAdd, Nat.reduceSub, Nat.reduceMul, Nat.reduceLT, Nat.reduceLeDiff, Nat.reduceEqDiff, Nat.reduceBEq, Nat.reduceBNe, Int.reduceToNat, Int.reduceLE, Int.reduceLT, Int.reduceEq, Int.reduceNe, Int.reduceNeg, Nat.reducePow, Int.reducePow, reduceIte, reduceCtorEq, ↓tc25, ↓td25, ↓tc34, ↓td34, ↓tc76, ↓td76, ↓tc95, ↓td95, ↓tc103, ↓td103, leLL_self]
    simp
  · rintro ⟨⟨j, L5, T5, w5, w6⟩, hj, ho5, ho6, ht5, hst5⟩
    simp only at hj ho5 ho6 ht5 hst5
    by_cases hjm : j < ns.length
    · have hdc : decide ((j : Int) < (ns.length : Int)) = true := decide_eq_true (by omega)
      have hgd : (ns.map V.str).getD j .any = .str ns[j] := by
        rw [List.getD_eq_getElem?_getD, List.getElem?_map, List.getElem?_eq_getElem hjm]; rfl
      have hj1 : IntKind.i64.wrap ((j : Int) + 1) = ((j + 1 : Nat) : Int) := by rw [i64w (by omega) (by omega)]; omega
      have hf1 : (nfind M1.now ns[j]).isSome = true := (find_iff _).2 (by rw [hv1]; exact List.getElem_mem hjm)
      have hf2 : (nfind M2.now ns[j]).isSome = true := (find_iff _).2 (by rw [hns]; exact List.getElem_mem hjm)
      simp (config := { maxSteps := 2000000 }) only [bitvec_to_nat, ↓r_ifTrue, ↓r_ifFalse, Nat.reduceAdd, Nat.reduceSub, Nat.reduceMul, Nat.reduceLT, Nat.reduceLeDiff, Nat.reduceEqDiff, Nat.reduceBEq, Nat.reduceBNe, Int.reduceToNat, Int.reduceLE, Int.reduceLT, Int.reduceEq, Int.reduceNe, Int.reduceNeg, Nat.reducePow, Int.reducePow, reduceIte, reduceCtorEq, ↓tc25, ↓td25, ↓tc34, ↓td34, ↓tc76, ↓td76, ↓tc95, ↓td95, ↓tc103, ↓td103, hdc, hgd, Int.toNat_natCast, List.length_map, hj1]
      refine ⟨⟨by omega, by omega⟩, ?_⟩
      refine op_o ho5 rfl ht5.d1 hs1 fun L7 T7 w7 ho7 hd7 hst7 => ?_
      simp only [read_live hl1, hf1, if_true, code_V, Int.natCast_zero] at hd7 ⊢
      have ht7 := ht5.left hd7 hst7
      have hst7' := hst5.trans (Step.two (w2 := w6) hst7)
      simp (config := { maxSteps := 2000000 }) only [bitvec_to_nat, ↓r_ifTrue, ↓r_ifFalse, Nat.reduceAdd, Nat.reduceSub, Nat.reduceMul, Nat.reduceLT, Nat.reduceLeDiff, Nat.reduceEqDiff, Nat.reduceBEq, Nat.reduceBNe, Int.reduceToNat, Int.reduceLE, Int.reduceLT, Int.reduceEq, Int.reduceNe, Int.reduceNeg, Nat.reducePow, Int.reducePow, reduceIte, reduceCtorEq, ↓tc25, ↓td25, ↓tc34, ↓td34, ↓tc76, ↓td76, ↓tc95, ↓td95, ↓tc103, ↓td103]
      refine op_o ho6 rfl ht7.d2 hs2 fun L8 T8 w8 ho8 hd8 hst8 => ?_
      simp only [read_live hl2, hf2, if_true, code_V, Int.natCast_zero] at hd8 ⊢
      have ht8 := ht7.right hd8 hst8
      have hst8' := hst7'.trans (Step.two' (w1 := w7) hst8)
      simp (config := { maxSteps := 2000000 }) only [bitvec_to_nat, ↓r_ifTrue, ↓r_ifFalse, Nat.reduceAdd, Nat.reduceSub, Nat.reduceMul, Nat.reduceLT, Nat.reduceLeDiff, Nat.reduceEqDiff, Nat.reduceBEq, Nat.reduceBNe, Int.reduceToNat, Int.reduceLE, Int.reduceLT, Int.reduceEq, Int.reduceNe, Int.reduceNeg, Nat.reducePow, Int.reducePow, reduceIte, reduceCtorEq, ↓tc25, ↓td25, ↓tc34, ↓td34, ↓tc76, ↓td76, ↓tc95, ↓td95, ↓tc103, ↓td103, hv2, hj1]
      refine ⟨⟨(j + 1, L8, T8, w7, w8), by omega, ho7, ho8, ht8, hst8'⟩, ?_, by simp only; omega⟩
      simp (config := { maxSteps := 2000000 }) only [bitvec_to_nat, ↓r_ifTrue, ↓r_ifFalse, Nat.reduceAdd, Nat.reduceSub, Nat.reduceMul, Nat.reduceLT, Nat.reduceLeDiff, Nat.reduceEqDiff, Nat.reduceBEq, Nat.reduceBNe, Int.reduceToNat, Int.reduceLE, Int.reduceLT, Int.reduceEq, Int.reduceNe, Int.reduceNeg, Nat.reducePow, Int.reducePow, reduceIte, reduceCtorEq, ↓tc25, ↓td25, ↓tc34, ↓td34, ↓tc76, ↓td76, ↓tc95, ↓td95, ↓tc103, ↓td103, leLL_self]
    · have hdc : decide ((j : Int) < (ns.length : Int)) = false := decide_eq_false (by omega)
      simp (config := { maxSteps := 2000000 }) only [bitvec_to_nat, ↓r_ifTrue, ↓r_ifFalse, Nat.reduceAdd, Nat.reduceSub, Nat.reduceMul, Nat.reduceLT, Nat.reduceLeDiff, Nat.reduceEqDiff, Nat.reduceBEq, Nat.reduceBNe, Int.reduceToNat, Int.reduceLE, Int.reduceLT, Int.reduceEq, Int.reduceNe, Int.reduceNeg, Nat.reducePow, Int.reducePow, reduceIte, reduceCtorEq, ↓tc25, ↓td25, ↓tc34, ↓td34, ↓tc76, ↓td76, ↓tc95, ↓td95, ↓tc103, ↓td103, hdc]
      exact ret_of hst5 (hK _ _ w5 w6 ho5 ho6 ht5 hst5)
end Go.Proofs.Ytieeojipodefoaa.DiskL
