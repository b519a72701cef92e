/-
  THE LAW DiskCrash.
-/
import Derived.Test.YtieeojipodefoaaAwX
import Derived.Test.YtieeojipodefoaaDiskL3
namespace Go.Proofs.Ytieeojipodefoaa.DiskL
open Go Go.Proofs Go.Proofs.Ytieeojipodefoaa.Aw Go.Proofs.Ytieeojipodefoaa.Num Go.Proofs.Ytieeojipodefoaa.DiskM Go.Proofs.Ytieeojipodefoaa.DiskA Go.Proofs.Ytieeojipodefoaa.DiskK Go.Proofs.Ytieeojipodefoaa.DiskC Go.Proofs.Ytieeojipodefoaa.Disk Go.Proofs.Ytieeojipodefoaa.DiskH
set_option linter.unusedSimpArgs false
set_option linter.unusedVariables false

/-- disks, of which no variable is two's -/
structure Many (L1 : LL) (T1 : TT) (L : LL) (T : TT) (ds : List (MD × Own)) : Prop where
  lie : ∀ p ∈ ds, dAt L T p.1 p.2
  sep : ds.Pairwise fun p q => (∀ i, p.2.S i → ¬ q.2.S i) ∧ ∀ k, p.2.R k → ¬ q.2.R k
  st : Step noS noS L1 T1 (fun i => ∃ p ∈ ds, p.2.S i) (fun k => ∃ p ∈ ds, p.2.R k) L T
section
variable {L1 L L' : LL} {T1 T T' : TT} {M M' : MD} {w w' : Own} {ds pre post : List (MD × Own)}
theorem Many.one (h : Many L1 T1 L T (pre ++ (M, w) :: post)) : dAt L T M w := h.lie (M, w) (by simp)
theorem Many.other (h : Many L1 T1 L T ds) (g : Step noS noS L T noS noS L' T') : Many L1 T1 L' T' ds :=
  ⟨fun p hp => (h.lie p hp).frame g (fun _ _ h => h) (fun _ _ h => h), h.sep, h.st.via g (fun _ h => h.elim) (fun _ h => h.elim)⟩
theorem Many.op (h : Many L1 T1 L T (pre ++ (M, w) :: post)) (hd : dAt L' T' M' w') (g : Step w.S w.R L T w'.S w'.R L' T') : Many L1 T1 L' T' (pre ++ (M', w') :: post) := by
  obtain ⟨h1, h2, h3⟩ := h
  rw [List.pairwise_append, List.pairwise_cons] at h2
  obtain ⟨p1, ⟨p2, p3⟩, p4⟩ := h2
  have hw : ∀ q ∈ pre ++ post, (∀ i, q.2.S i → ¬ w.S i) ∧ ∀ k, q.2.R k → ¬ w.R k := fun q hq => by
    rcases List.mem_append.1 hq with hq | hq
    · exact p4 q hq (M, w) (by simp)
    · exact ⟨fun i a b => (p2 q hq).1 i b a, fun k a b => (p2 q hq).2 k b a⟩
  have hq0 : ∀ q ∈ pre ++ post, q ∈ pre ++ (M, w) :: post := fun q hq => by
    rcases List.mem_append.1 hq with hq | hq
    · exact List.mem_append_left _ hq
    · exact List.mem_append_right _ (List.mem_cons_of_mem _ hq)
  have hw' : ∀ q ∈ pre ++ post, (∀ i, q.2.S i → ¬ w'.S i) ∧ ∀ k, q.2.R k → ¬ w'.R k := fun q hq => by
    have hd := h1 q (hq0 q hq)
    exact ⟨fun i a b => (g.own i b).elim (fun b => (hw q hq).1 i a b) (fun b => by have := hd.lt i a; omega), fun k a b => (g.town k b).elim (fun b => (hw q hq).2 k a b) (fun b => by have := hd.tlt k a; omega)⟩
  have split : ∀ (X : MD × Own) (p : MD × Own), p ∈ pre ++ X :: post → p = X ∨ p ∈ pre ++ post := fun X p hp => by
    rcases List.mem_append.1 hp with hp | hp
    · exact .inr (List.mem_append_left _ hp)
    · rcases List.mem_cons.1 hp with hp | hp
      · exact .inl hp
      · exact .inr (List.mem_append_right _ hp)
  refine ⟨fun p hp => ?_, ?_, ?_⟩
  · rcases split _ p hp with rfl | hp
    · exact hd
    · exact (h1 p (hq0 p hp)).frame g (hw p hp).1 (hw p hp).2
  · rw [List.pairwise_append, List.pairwise_cons]
    refine ⟨p1, ⟨fun q hq => ?_, p3⟩, fun q hq x hx => ?_⟩
    · have := hw' q (List.mem_append_right _ hq)
      exact ⟨fun i a b => this.1 i b a, fun k a b => this.2 k b a⟩
    · rcases List.mem_cons.1 hx with rfl | hx
      · exact hw' q (List.mem_append_left _ hq)
      · exact p4 q hq x (List.mem_cons_of_mem _ hx)
  · refine ⟨Nat.le_trans h3.len g.len, fun i hi _ => ?_, fun i hs => ?_, Nat.le_trans h3.tlen g.tlen, fun k hk _ => ?_, fun k hs => ?_⟩
    · have hi2 : ¬ w.S i := fun hs => (h3.own i ⟨(M, w), by simp, hs⟩).elim (fun h => h) (fun h => by omega)
      rw [g.keep i (Nat.lt_of_lt_of_le hi h3.len) hi2, h3.keep i hi (fun h => h)]
    · obtain ⟨p, hp, hs⟩ := hs
      rcases split _ p hp with rfl | hp
      · rcases g.own i hs with hs | hs
        · exact h3.own i ⟨(M, w), by simp, hs⟩
        · exact .inr (Nat.le_trans h3.len hs)
      · exact h3.own i ⟨p, hq0 p hp, hs⟩
    · have hk2 : ¬ w.R k := fun hs => (h3.town k ⟨(M, w), by simp, hs⟩).elim (fun h => h) (fun h => by omega)
      rw [g.tkeep k (Nat.lt_of_lt_of_le hk h3.tlen) hk2, h3.tkeep k hk (fun h => h)]
    · obtain ⟨p, hp, hs⟩ := hs
      rcases split _ p hp with rfl | hp
      · rcases g.town k hs with hs | hs
        · exact h3.town k ⟨(M, w), by simp, hs⟩
        · exact .inr (Nat.le_trans h3.tlen hs)
      · exact h3.town k ⟨p, hq0 p hp, hs⟩
theorem Many.add (h : Many L1 T1 L T ds) (hd : dAt L' T' M w) (g : Step noS noS L T w.S w.R L' T') : Many L1 T1 L' T' ((M, w) :: ds) := by
  have g0 : Step noS noS L T noS noS L' T' := g.less (fun _ h => h.elim) (fun _ h => h.elim)
  have h' := h.other g0
  refine ⟨fun p hp => ?_, ?_, ?_⟩
  · rcases List.mem_cons.1 hp with rfl | hp
    · exact hd
    · exact h'.lie p hp
  · rw [List.pairwise_cons]
    refine ⟨fun q hq => ⟨fun i a b => (g.own i a).elim (fun h => h) (fun c => by have := (h.lie q hq).lt i b; omega), fun k a b => (g.town k a).elim (fun h => h) (fun c => by have := (h.lie q hq).tlt k b; omega)⟩, h.sep⟩
  · refine ⟨h'.st.len, h'.st.keep, fun i hs => ?_, h'.st.tlen, h'.st.tkeep, fun k hs => ?_⟩
    · obtain ⟨p, hp, hs⟩ := hs
      rcases List.mem_cons.1 hp with rfl | hp
      · exact (g.own i hs).elim (fun h => h.elim) (fun c => .inr (Nat.le_trans h.st.len c))
      · exact h'.st.own i ⟨p, hp, hs⟩
    · obtain ⟨p, hp, hs⟩ := hs
      rcases List.mem_cons.1 hp with rfl | hp
      · exact (g.town k hs).elim (fun h => h.elim) (fun c => .inr (Nat.le_trans h.st.tlen c))
      · exact h'.st.town k ⟨p, hp, hs⟩
theorem Many.drop (h : Many L1 T1 L T (pre ++ (M, w) :: post)) : Many L1 T1 L T (pre ++ post) := by
  have hm : ∀ p ∈ pre ++ post, p ∈ pre ++ (M, w) :: post := fun q hq => by
    rcases List.mem_append.1 hq with hq | hq
    · exact List.mem_append_left _ hq
    · exact List.mem_append_right _ (List.mem_cons_of_mem _ hq)
  exact ⟨fun p hp => h.lie p (hm p hp), h.sep.sublist (List.Sublist.append (List.Sublist.refl _) (List.sublist_cons_self _ _)), h.st.less (fun i ⟨p, hp, hs⟩ => .inl ⟨p, hm p hp, hs⟩) (fun k ⟨p, hp, hs⟩ => .inl ⟨p, hm p hp, hs⟩)⟩
theorem Many.two {M2 : MD} {w2 : Own} (h : Many L1 T1 L T ((M, w) :: ds)) (h2 : (M2, w2) ∈ ds) : Two L T M w M2 w2 :=
  have hs := (List.pairwise_cons.1 h.sep).1 (M2, w2) h2
  ⟨h.lie (M, w) (by simp), h.lie (M2, w2) (List.mem_cons_of_mem _ h2), hs.1, hs.2⟩
end
theorem crash3 {n : Int} {bs : List Int} {j : Nat} {x : List UInt8 × Nat} (hc : x.2 ≤ x.1.length) (hl : x.1.length ≤ 1099511627776) :
    ∃ t, t ≤ x.1.length - x.2 ∧ (crashF ⟨n, bs⟩ j x).1 = x.1.take (x.2 + t) ∧ (crashF ⟨n, []⟩ j x).1 = x.1.take x.2 ∧ (crashF ⟨n, [1099511627776]⟩ j x).1 = x.1 := by
  refine ⟨wleft ⟨n, bs⟩ j (x.1.length - x.2), wleft_le _ _ _, rfl, rfl, ?_⟩
  unfold crashF
  have : wleft ⟨n, [1099511627776]⟩ j (x.1.length - x.2) = x.1.length - x.2 := by
    unfold wleft within
    simp [Nat.mod_one]
    omega
  rw [this]
  exact List.take_of_length_le (by omega)
def crashLP : PM := fun args L T K => ∃ (room : Int) (l : List Act) (wr vr : Wreck), args = [.int .i64 room, .list 7 (l.map actV) none, .agg [.int .i64 wr.names, wbV wr.bytes], .agg [.int .i64 vr.names, wbV vr.bytes]] ∧ l.length ≤ 9223372036854775807 ∧ (∀ a ∈ l, a.n ≤ 9223372036854775807) ∧ wr.bytes.length ≤ 9223372036854775807 ∧ vr.bytes.length ≤ 9223372036854775807 ∧ ∀ L' T', K (.bool true) L' T'
set_option maxRecDepth 4000 in
set_option maxHeartbeats 8000000 in
theorem crashL_ok : PSound Try.prog 7 crashLP := by
  refine psound tysOk H8ok mix Try.func7 rfl ?_
  intro args L T K hm
  obtain ⟨room, l, wr, vr, rfl, hlen, hn, hwb, hvb, hK⟩ := hm
  unfold wbV
  simp (config := { maxSteps := 2000000 }) only [bitvec_to_nat, ↓r_ifTrue, ↓r_ifFalse, Nat.reduceAdd, Nat.reduceSub, Nat.reduceMul, Nat.reduceLT, Nat.reduceLeDiff, Nat.reduceEqDiff, Nat.reduceBEq, Nat.reduceBNe, Int.reduceToNat, Int.reduceLE, Int.reduceLT, Int.reduceEq, Int.reduceNe, Int.reduceNeg, Nat.reducePow, Int.reducePow, reduceIte, reduceCtorEq, ↓tc25, ↓td25, ↓tc34, ↓td34, ↓tc76, ↓td76, ↓tc95, ↓td95, ↓tc103, ↓td103, Try.f7]
  refine ⟨rfl, fun L1 T1 hst1 => ?_⟩
  simp (config := { maxSteps := 2000000 }) only [bitvec_to_nat, ↓r_ifTrue, ↓r_ifFalse, Nat.reduceAdd, Nat.reduceSub, Nat.reduceMul, Nat.reduceLT, Nat.reduceLeDiff, Nat.reduceEqDiff, Nat.reduceBEq, Nat.reduceBNe, Int.reduceToNat, Int.reduceLE, Int.reduceLT, Int.reduceEq, Int.reduceNe, Int.reduceNeg, Nat.reducePow, Int.reducePow, reduceIte, reduceCtorEq, ↓tc25, ↓td25, ↓tc34, ↓td34, ↓tc76, ↓td76, ↓tc95, ↓td95, ↓tc103, ↓td103]
  refine ⟨room, rfl, fun L2 w2 ho2 hd2 hst2 => ?_⟩
  simp (config := { maxSteps := 2000000 }) only [bitvec_to_nat, ↓r_ifTrue, ↓r_ifFalse, Nat.reduceAdd, Nat.reduceSub, Nat.reduceMul, Nat.reduceLT, Nat.reduceLeDiff, Nat.reduceEqDiff, Nat.reduceBEq, Nat.reduceBNe, Int.reduceToNat, Int.reduceLE, Int.reduceLT, Int.reduceEq, Int.reduceNe, Int.reduceNeg, Nat.reducePow, Int.reducePow, reduceIte, reduceCtorEq, ↓tc25, ↓td25, ↓tc34, ↓td34, ↓tc76, ↓td76, ↓tc95, ↓td95, ↓tc103, ↓td103]
  have hwr1 : L1[L.length]? = some [.int .i64 wr.names, .list 1 (wr.bytes.map fun n => .int .i64 n) none] := by rw [hst1.keep L.length (by simp) (fun h => h), at_app (by simp), at_new rfl]
  have hvr1 : L1[L.length + 1]? = some [.int .i64 vr.names, .list 1 (vr.bytes.map fun n => .int .i64 n) none] := by rw [hst1.keep (L.length + 1) (by simp) (fun h => h), at_new (by simp)]
  have hlw := lt_at hwr1
  have hlvv := lt_at hvr1
  obtain ⟨od, hod⟩ : ∃ o, w2.o = o := ⟨_, rfl⟩
  rw [hod]
  refine ⟨l, rfl, hlen, fun L5 T5 hst5 => ?_⟩
  simp (config := { maxSteps := 2000000 }) only [bitvec_to_nat, ↓r_ifTrue, ↓r_ifFalse, Nat.reduceAdd, Nat.reduceSub, Nat.reduceMul, Nat.reduceLT, Nat.reduceLeDiff, Nat.reduceEqDiff, Nat.reduceBEq, Nat.reduceBNe, Int.reduceToNat, Int.reduceLE, Int.reduceLT, Int.reduceEq, Int.reduceNe, Int.reduceNeg, Nat.reducePow, Int.reducePow, reduceIte, reduceCtorEq, ↓tc25, ↓td25, ↓tc34, ↓td34, ↓tc76, ↓td76, ↓tc95, ↓td95, ↓tc103, ↓td103, List.length_map]
  have hd5 := hd2.frame hst5 (fun _ _ h => h) (fun _ _ h => h)
  have hg5 : Step noS noS L1 T1 w2.S w2.R L5 T5 := hst2.via hst5 (fun _ h => h.elim) (fun _ h => h.elim)
  have hF := few_len l
  have hT0 : T.length ≤ T1.length := hst1.tlen
  have hL0 : L.length ≤ L1.length := by omega
  have hc1 : ∀ X : List V, (L ++ [X]).length = L.length + 1 := fun X => by simp
  refine awpLoop_intro (α := {q : Nat × LL × TT × MD × Own // q.1 ≤ (few l).length ∧ q.2.2.2.2.o = od ∧ dAt q.2.1 q.2.2.1 q.2.2.2.1 q.2.2.2.2 ∧ Step noS noS L1 T1 q.2.2.2.2.S q.2.2.2.2.R q.2.1 q.2.2.1 ∧ Sz q.1 q.2.2.2.1})
    (fun q => ⟨[.any, .any, .any, .any, .any, .any, .box L.length 0, .box (L.length + 1) 0, .bool false, .bool true, .box od 0, .any, .any, .any, .any, .any, .any, .any, .any, .any, .any, .any, .any, .any, .any, .any, .any, .any, .any, .any, .any, .any, .any, .any, .any, .any, .any, .list 7 ((few l).map actV) none, .int .i64 ((few l).length : Int), .int .i64 (q.1.1 : Int), .any, .any, .any, .any, .any, .any, .any, .any, .any, .any, .any, .any, .any, .any, .any, .any, .any, .any, .any, .any, .any, .any, .any, .any, .any, .any, .any, .any, .any, .any, .any, .any, .any, .any, .any, .any, .any, .any, .any, .any, .any, .any, .any, .any, .any, .any, .any, .any, .any, .any, .any, .any, .any, .any, .any, .any, .any, .any, .any, .any, .any, .any, .any, .any, .any, .any, .any, .any, .any, .any, .any, .any, .any, .any, .any, .any, .any, .any, .any, .any, .any, .any, .any, .any, .any, .any, .any, .any, .any, .any, .any, .any, .any, .any, .any, .any, .any, .any, .any, .any, .any, .any, .any, .any, .any, .any, .any, .any, .any, .any, .any, .any, .any, .any, .any, .any, .any, .any, .any, .any, .any, .any, .any, .any, .any, .any, .any, .any, .any, .any, .any, .any], q.1.2.1, q.1.2.2.1⟩) (fun q => (few l).length - q.1.1)
    ⟨(0, L5, T5, DiskM.new room, w2), Nat.zero_le _, hod, hd5, hg5, sz_new room⟩ ?_ ?_ (fun q => ⟨Nat.le_trans hL0 q.2.2.2.2.1.len, Nat.le_trans hT0 q.2.2.2.2.1.tlen⟩)
  · simp (config := { maxSteps := 2000000 }) only [bitvec_to_nat, ↓r_ifTrue, ↓r_ifFalse, Nat.reduceAdd, Nat.reduceSub, Nat.reduceMul, Nat.reduceLT, Nat.reduceLeDiff, Nat.reduceEqDiff, Nat.reduceBEq, Nat.reduceBNe, Int.reduceToNat, Int.reduceLE, Int.reduceLT, Int.reduceEq, Int.reduceNe, Int.reduceNeg, Nat.reducePow, Int.reducePow, reduceIte, reduceCtorEq, ↓tc25, ↓td25, ↓tc34, ↓td34, ↓tc76, ↓td76, ↓tc95, ↓td95, ↓tc103, ↓td103, leLL_self, hc1]
    simp
  · rintro ⟨⟨i, L6, T6, M, wd⟩, hi, hwd, hd, hg, hsz⟩
    simp only at hi hwd hd hg hsz
    have hsmM : Small M := hsz.small (by omega)
    by_cases him : i < (few l).length
    · have hdc : decide ((i : Int) < ((few l).length : Int)) = true := decide_eq_true (by omega)
      obtain ⟨a, ha⟩ : ∃ a, (few l)[i]? = some a := ⟨_, List.getElem?_eq_getElem him⟩
      obtain ⟨ham, hal⟩ := few_mem (List.mem_of_getElem? ha)
      have hgd : ((few l).map actV).getD i .any = .agg [.int .u8 a.kind.toNat, .str a.name, .str a.to, .bytes a.b none, .int .i64 a.n, .int .i64 a.w.names, wbV a.w.bytes] := by
        rw [List.getD_eq_getElem?_getD, List.getElem?_map, ha]; rfl
      have hi1 : IntKind.i64.wrap ((i : Int) + 1) = ((i + 1 : Nat) : Int) := by rw [i64w (by omega) (by omega)]; omega
      unfold wbV at hgd
      have hd7 : dAt (L6 ++ [[.int .u8 a.kind.toNat, .str a.name, .str a.to, .bytes a.b none, .int .i64 a.n, .int .i64 a.w.names, .list 1 (a.w.bytes.map fun n => .int .i64 n) none]]) T6 M wd := hd.frame ((Step.refl noS noS L6 T6).app _) (fun _ _ h => h) (fun _ _ h => h)
      simp (config := { maxSteps := 2000000 }) only [bitvec_to_nat, ↓r_ifTrue, ↓r_ifFalse, Nat.reduceAdd, Nat.reduceSub, Nat.reduceMul, Nat.reduceLT, Nat.reduceLeDiff, Nat.reduceEqDiff, Nat.reduceBEq, Nat.reduceBNe, Int.reduceToNat, Int.reduceLE, Int.reduceLT, Int.reduceEq, Int.reduceNe, Int.reduceNeg, Nat.reducePow, Int.reducePow, reduceIte, reduceCtorEq, ↓tc25, ↓td25, ↓tc34, ↓td34, ↓tc76, ↓td76, ↓tc95, ↓td95, ↓tc103, ↓td103, hdc, hgd, Int.toNat_natCast, List.length_map]
      refine ⟨⟨by omega, by omega⟩, ?_⟩
      refine ⟨M, wd, a, by rw [hwd]; rfl, small_ok ham (hn a hal), hd7, hsmM, fun L8 T8 w8 ho8 hd8 hst8 => ?_⟩
      rw [hwd] at ho8
      simp (config := { maxSteps := 2000000 }) only [bitvec_to_nat, ↓r_ifTrue, ↓r_ifFalse, Nat.reduceAdd, Nat.reduceSub, Nat.reduceMul, Nat.reduceLT, Nat.reduceLeDiff, Nat.reduceEqDiff, Nat.reduceBEq, Nat.reduceBNe, Int.reduceToNat, Int.reduceLE, Int.reduceLT, Int.reduceEq, Int.reduceNe, Int.reduceNeg, Nat.reducePow, Int.reducePow, reduceIte, reduceCtorEq, ↓tc25, ↓td25, ↓tc34, ↓td34, ↓tc76, ↓td76, ↓tc95, ↓td95, ↓tc103, ↓td103, code_V, hi1]
      refine ⟨⟨(i + 1, L8, T8, (act M a).1, w8), him, ho8, hd8, (hg.app _).trans hst8, act_sz hsz hd.ok ham⟩, ?_, by simp only; omega⟩
      simp (config := { maxSteps := 2000000 }) only [bitvec_to_nat, ↓r_ifTrue, ↓r_ifFalse, Nat.reduceAdd, Nat.reduceSub, Nat.reduceMul, Nat.reduceLT, Nat.reduceLeDiff, Nat.reduceEqDiff, Nat.reduceBEq, Nat.reduceBNe, Int.reduceToNat, Int.reduceLE, Int.reduceLT, Int.reduceEq, Int.reduceNe, Int.reduceNeg, Nat.reducePow, Int.reducePow, reduceIte, reduceCtorEq, ↓tc25, ↓td25, ↓tc34, ↓td34, ↓tc76, ↓td76, ↓tc95, ↓td95, ↓tc103, ↓td103, leLL_self, hi1]
    · have hdc : decide ((i : Int) < ((few l).length : Int)) = false := decide_eq_false (by omega)
      simp (config := { maxSteps := 2000000 }) only [bitvec_to_nat, ↓r_ifTrue, ↓r_ifFalse, Nat.reduceAdd, Nat.reduceSub, Nat.reduceMul, Nat.reduceLT, Nat.reduceLeDiff, Nat.reduceEqDiff, Nat.reduceBEq, Nat.reduceBNe, Int.reduceToNat, Int.reduceLE, Int.reduceLT, Int.reduceEq, Int.reduceNe, Int.reduceNeg, Nat.reducePow, Int.reducePow, reduceIte, reduceCtorEq, ↓tc25, ↓td25, ↓tc34, ↓td34, ↓tc76, ↓td76, ↓tc95, ↓td95, ↓tc103, ↓td103, hdc]
      have hm0 : Many L1 T1 L6 T6 [(M, wd)] := ⟨fun p hp => by rw [List.mem_singleton.1 hp]; exact hd, by simp, hg.less (fun i ⟨p, hp, hs⟩ => .inl (by rw [List.mem_singleton.1 hp] at hs; exact hs)) (fun k ⟨p, hp, hs⟩ => .inl (by rw [List.mem_singleton.1 hp] at hs; exact hs))⟩
      refine clone_o hwd hd hsmM fun L7 T7 wx hdx hstx => ?_
      have hm1 := hm0.add hdx hstx
      simp (config := { maxSteps := 2000000 }) only [bitvec_to_nat, ↓r_ifTrue, ↓r_ifFalse, Nat.reduceAdd, Nat.reduceSub, Nat.reduceMul, Nat.reduceLT, Nat.reduceLeDiff, Nat.reduceEqDiff, Nat.reduceBEq, Nat.reduceBNe, Int.reduceToNat, Int.reduceLE, Int.reduceLT, Int.reduceEq, Int.reduceNe, Int.reduceNeg, Nat.reducePow, Int.reducePow, reduceIte, reduceCtorEq, ↓tc25, ↓td25, ↓tc34, ↓td34, ↓tc76, ↓td76, ↓tc95, ↓td95, ↓tc103, ↓td103]
      refine clone_o hwd (hm1.one (pre := [(M, wx)])) hsmM fun L8 T8 wy hdy hsty => ?_
      have hm2 := hm1.add hdy hsty
      simp (config := { maxSteps := 2000000 }) only [bitvec_to_nat, ↓r_ifTrue, ↓r_ifFalse, Nat.reduceAdd, Nat.reduceSub, Nat.reduceMul, Nat.reduceLT, Nat.reduceLeDiff, Nat.reduceEqDiff, Nat.reduceBEq, Nat.reduceBNe, Int.reduceToNat, Int.reduceLE, Int.reduceLT, Int.reduceEq, Int.reduceNe, Int.reduceNeg, Nat.reducePow, Int.reducePow, reduceIte, reduceCtorEq, ↓tc25, ↓td25, ↓tc34, ↓td34, ↓tc76, ↓td76, ↓tc95, ↓td95, ↓tc103, ↓td103]
      refine clone_o hwd (hm2.one (pre := [(M, wy), (M, wx)])) hsmM fun L9 T9 wz hdz hstz => ?_
      have hm3 := hm2.add hdz hstz
      have hm4 := hm3.drop (pre := [(M, wz), (M, wy), (M, wx)])
      simp only [List.cons_append, List.nil_append] at hm4
      obtain ⟨ox, hox⟩ : ∃ o, wx.o = o := ⟨_, rfl⟩
      obtain ⟨oy, hoy⟩ : ∃ o, wy.o = o := ⟨_, rfl⟩
      obtain ⟨oz, hoz⟩ : ∃ o, wz.o = o := ⟨_, rfl⟩
      rw [hox, hoy, hoz]
      have hwr9 : L9[L.length]? = some [.int .i64 wr.names, .list 1 (wr.bytes.map fun n => .int .i64 n) none] := by rw [hm4.st.keep L.length hlw (fun h => h)]; exact hwr1
      have hlw9 := lt_at hwr9
      simp (config := { maxSteps := 2000000 }) only [bitvec_to_nat, ↓r_ifTrue, ↓r_ifFalse, Nat.reduceAdd, Nat.reduceSub, Nat.reduceMul, Nat.reduceLT, Nat.reduceLeDiff, Nat.reduceEqDiff, Nat.reduceBEq, Nat.reduceBNe, Int.reduceToNat, Int.reduceLE, Int.reduceLT, Int.reduceEq, Int.reduceNe, Int.reduceNeg, Nat.reducePow, Int.reducePow, reduceIte, reduceCtorEq, ↓tc25, ↓td25, ↓tc34, ↓td34, ↓tc76, ↓td76, ↓tc95, ↓td95, ↓tc103, ↓td103, hwr9, hlw9]
      refine crash_o hox wr.bytes (.inr ⟨none, rfl⟩) hwb (hm4.one (pre := [(M, wz), (M, wy)])) hsmM fun L10 T10 w10 ho10 hd10 hst10 => ?_
      have hm5 := hm4.op (pre := [(M, wz), (M, wy)]) hd10 hst10
      have hwr10 : L10[L.length]? = some [.int .i64 wr.names, .list 1 (wr.bytes.map fun n => .int .i64 n) none] := by rw [hm5.st.keep L.length hlw (fun h => h)]; exact hwr1
      have hlw10 := lt_at hwr10
      simp (config := { maxSteps := 2000000 }) only [bitvec_to_nat, ↓r_ifTrue, ↓r_ifFalse, Nat.reduceAdd, Nat.reduceSub, Nat.reduceMul, Nat.reduceLT, Nat.reduceLeDiff, Nat.reduceEqDiff, Nat.reduceBEq, Nat.reduceBNe, Int.reduceToNat, Int.reduceLE, Int.reduceLT, Int.reduceEq, Int.reduceNe, Int.reduceNeg, Nat.reducePow, Int.reducePow, reduceIte, reduceCtorEq, ↓tc25, ↓td25, ↓tc34, ↓td34, ↓tc76, ↓td76, ↓tc95, ↓td95, ↓tc103, ↓td103, hwr10, hlw10]
      refine crash_o hoy [] (.inl ⟨rfl, rfl⟩) (by decide) (hm5.one (pre := [(M, wz)])) hsmM fun L11 T11 w11 ho11 hd11 hst11 => ?_
      have hm6 := hm5.op (pre := [(M, wz)]) hd11 hst11
      have hwr11 : L11[L.length]? = some [.int .i64 wr.names, .list 1 (wr.bytes.map fun n => .int .i64 n) none] := by rw [hm6.st.keep L.length hlw (fun h => h)]; exact hwr1
      have hlw11 := lt_at hwr11
      simp (config := { maxSteps := 2000000 }) only [bitvec_to_nat, ↓r_ifTrue, ↓r_ifFalse, Nat.reduceAdd, Nat.reduceSub, Nat.reduceMul, Nat.reduceLT, Nat.reduceLeDiff, Nat.reduceEqDiff, Nat.reduceBEq, Nat.reduceBNe, Int.reduceToNat, Int.reduceLE, Int.reduceLT, Int.reduceEq, Int.reduceNe, Int.reduceNeg, Nat.reducePow, Int.reducePow, reduceIte, reduceCtorEq, ↓tc25, ↓td25, ↓tc34, ↓td34, ↓tc76, ↓td76, ↓tc95, ↓td95, ↓tc103, ↓td103, hwr11, hlw11]
      have hm7 := hm6.other ((Step.refl noS noS L11 T11).tapp [(1, 3)])
      refine crash_o hoz [1099511627776] (.inr ⟨_, rfl⟩) (by decide) (hm7.one (pre := [])) hsmM fun L12 T12 w12 ho12 hd12 hst12 => ?_
      have hm8 := hm7.op (pre := []) hd12 hst12
      simp only [List.nil_append, List.cons_append] at hm8
      have hsm : ∀ w, Small (M.crash w) := fun w => small_crash hsmM hd.ok w
      have hlv : ∀ w, Live (M.crash w) := fun w => crash_live M w
      obtain ⟨ns, hns⟩ : ∃ ns, (M.at ⟨wr.names, wr.bytes⟩).map (·.1) = ns := ⟨_, rfl⟩
      have hnn : ∀ bs, (M.crash ⟨wr.names, bs⟩).now.map (·.1) = ns := fun bs => by rw [crash_names, ← hns]; rfl
      have hnl : ns.length ≤ 1099511627776 := by
        rw [← hnn wr.bytes, List.length_map]
        have := now_len (crash_ok hd.ok ⟨wr.names, wr.bytes⟩)
        have := (hsm ⟨wr.names, wr.bytes⟩).nf
        omega
      obtain ⟨Mx, hMx⟩ : ∃ x, M.crash ⟨wr.names, wr.bytes⟩ = x := ⟨_, rfl⟩
      obtain ⟨My, hMy⟩ : ∃ x, M.crash ⟨wr.names, []⟩ = x := ⟨_, rfl⟩
      obtain ⟨Mz, hMz⟩ : ∃ x, M.crash ⟨wr.names, [1099511627776]⟩ = x := ⟨_, rfl⟩
      rw [hMx, hMy, hMz] at hm8
      have hlx : Live Mx := hMx ▸ hlv _
      have hly : Live My := hMy ▸ hlv _
      have hlz : Live Mz := hMz ▸ hlv _
      have hsx : Small Mx := hMx ▸ hsm _
      have hsy : Small My := hMy ▸ hsm _
      have hsz' : Small Mz := hMz ▸ hsm _
      have hnx := hnn wr.bytes
      have hny := hnn []
      have hnz := hnn [1099511627776]
      rw [hMx] at hnx
      rw [hMy] at hny
      rw [hMz] at hnz
      have hread : ∀ (j : Nat) (hj : j < ns.length), ∃ (x : List UInt8 × Nat) (t : Nat), x.2 ≤ x.1.length ∧ x.1.length ≤ 1099511627776 ∧ t ≤ x.1.length - x.2 ∧ Mx.readB ns[j] = x.1.take (x.2 + t) ∧ My.readB ns[j] = x.1.take x.2 ∧ Mz.readB ns[j] = x.1 := fun j hj => by
        have hl0 : j < (M.at ⟨wr.names, wr.bytes⟩).length := by rw [← hns, List.length_map] at hj; exact hj
        obtain ⟨e, he⟩ : ∃ e, (M.at ⟨wr.names, wr.bytes⟩)[j]? = some e := ⟨_, List.getElem?_eq_getElem hl0⟩
        have hen : ns[j] = e.1 := by
          have h1 : ns[j]? = some e.1 := by rw [← hns, List.getElem?_map, he]; rfl
          have h2 : ns[j]? = some ns[j] := List.getElem?_eq_getElem hj
          rw [h2] at h1
          exact Option.some.inj h1
        obtain ⟨t, t1, t2, t3, t4⟩ := crash3 (n := wr.names) (bs := wr.bytes) (j := j) (file_cut hd.ok e.2) (file_small hsmM e.2)
        refine ⟨M.file e.2, t, file_cut hd.ok e.2, file_small hsmM e.2, t1, ?_, ?_, ?_⟩
        · rw [hen, ← hMx, crash_read hd.ok he, t2]
        · rw [hen, ← hMy, crash_read hd.ok (w := ⟨wr.names, []⟩) he, t3]
        · rw [hen, ← hMz, crash_read hd.ok (w := ⟨wr.names, [1099511627776]⟩) he, t4]
      obtain ⟨x1, x2⟩ := names_live hlx
      obtain ⟨y1, y2⟩ := names_live hly
      obtain ⟨z1, z2⟩ := names_live hlz
      refine op_o ho10 rfl (hm8.one (pre := [(Mz, w12), (My, w11)])) hsx fun L13 T13 w13 ho13 hd13 hst13 => ?_
      simp only [x1, x2, hnx, code_V, Int.natCast_zero] at hd13 ⊢
      have hm9 := hm8.op (pre := [(Mz, w12), (My, w11)]) hd13 hst13
      simp (config := { maxSteps := 2000000 }) only [bitvec_to_nat, ↓r_ifTrue, ↓r_ifFalse, Nat.reduceAdd, Nat.reduceSub, Nat.reduceMul, Nat.reduceLT, Nat.reduceLeDiff, Nat.reduceEqDiff, Nat.reduceBEq, Nat.reduceBNe, Int.reduceToNat, Int.reduceLE, Int.reduceLT, Int.reduceEq, Int.reduceNe, Int.reduceNeg, Nat.reducePow, Int.reducePow, reduceIte, reduceCtorEq, ↓tc25, ↓td25, ↓tc34, ↓td34, ↓tc76, ↓td76, ↓tc95, ↓td95, ↓tc103, ↓td103]
      refine op_o ho11 rfl (hm9.one (pre := [(Mz, w12)])) hsy fun L14 T14 w14 ho14 hd14 hst14 => ?_
      simp only [y1, y2, hny, code_V, Int.natCast_zero] at hd14 ⊢
      have hm10 := hm9.op (pre := [(Mz, w12)]) hd14 hst14
      simp (config := { maxSteps := 2000000 }) only [bitvec_to_nat, ↓r_ifTrue, ↓r_ifFalse, Nat.reduceAdd, Nat.reduceSub, Nat.reduceMul, Nat.reduceLT, Nat.reduceLeDiff, Nat.reduceEqDiff, Nat.reduceBEq, Nat.reduceBNe, Int.reduceToNat, Int.reduceLE, Int.reduceLT, Int.reduceEq, Int.reduceNe, Int.reduceNeg, Nat.reducePow, Int.reducePow, reduceIte, reduceCtorEq, ↓tc25, ↓td25, ↓tc34, ↓td34, ↓tc76, ↓td76, ↓tc95, ↓td95, ↓tc103, ↓td103]
      refine op_o ho12 rfl (hm10.one (pre := [])) hsz' fun L15 T15 w15 ho15 hd15 hst15 => ?_
      simp only [z1, z2, hnz, code_V, Int.natCast_zero] at hd15 ⊢
      have hm11 := hm10.op (pre := []) hd15 hst15
      simp only [List.nil_append, List.cons_append] at hm11
      have hcl : ∀ v ∈ ns.map V.str, v.clean := fun v hv => (by obtain ⟨y, _, rfl⟩ := List.mem_map.1 hv; simp [V.clean])
      simp (config := { maxSteps := 2000000 }) only [bitvec_to_nat, ↓r_ifTrue, ↓r_ifFalse, Nat.reduceAdd, Nat.reduceSub, Nat.reduceMul, Nat.reduceLT, Nat.reduceLeDiff, Nat.reduceEqDiff, Nat.reduceBEq, Nat.reduceBNe, Int.reduceToNat, Int.reduceLE, Int.reduceLT, Int.reduceEq, Int.reduceNe, Int.reduceNeg, Nat.reducePow, Int.reducePow, reduceIte, reduceCtorEq, ↓tc25, ↓td25, ↓tc34, ↓td34, ↓tc76, ↓td76, ↓tc95, ↓td95, ↓tc103, ↓td103, textsN, List.length_map]
      refine ⟨⟨hcl, ns, ns, rfl, rfl, by omega, rfl⟩, ⟨hcl, ns, ns, rfl, rfl, by omega, rfl⟩, ?_⟩
      refine awpLoop_intro (α := {q : Nat × LL × TT × Own × Own × Own // q.1 ≤ ns.length ∧ q.2.2.2.1.o = ox ∧ q.2.2.2.2.1.o = oy ∧ q.2.2.2.2.2.o = oz ∧ Many L1 T1 q.2.1 q.2.2.1 [(Mz, q.2.2.2.2.2), (My, q.2.2.2.2.1), (Mx, q.2.2.2.1)]})
        (fun q => ⟨[.any, .any, .any, .any, .any, .any, .any, .box (L.length + 1) 0, .bool false, .bool true, .any, .any, .any, .box ox 0, .box oy 0, .box oz 0, .any, .any, .any, .any, .any, .any, .any, .any, .any, .any, .any, .any, .any, .any, .any, .any, .any, .any, .any, .any, .any, .any, .any, .any, .any, .any, .any, .any, .any, .any, .any, .any, .any, .any, .any, .any, .any, .any, .any, .any, .any, .any, .any, .any, .any, .any, .any, .any, .any, .any, .any, .any, .any, .any, .any, .any, .any, .any, .any, .any, .any, .any, .any, .any, .any, .any, .any, .any, .any, .any, .any, .any, .any, .any, .any, .any, .any, .any, .any, .any, .any, .any, .any, .any, .any, .any, .list 1 (ns.map .str) none, .int .i64 (ns.length : Int), .int .i64 (q.1.1 : Int), .any, .any, .any, .any, .any, .any, .any, .any, .any, .any, .any, .any, .any, .any, .any, .any, .any, .any, .any, .any, .any, .any, .any, .any, .any, .any, .any, .any, .any, .any, .any, .any, .any, .any, .any, .any, .any, .any, .any, .any, .any, .any, .any, .any, .any, .any, .any, .any, .any, .any, .any, .any, .any, .any, .any, .any, .any, .any, .any, .any, .any, .any, .any, .any, .any, .any, .any], q.1.2.1, q.1.2.2.1⟩) (fun q => ns.length - q.1.1)
        ⟨(0, L15, T15, w13, w14, w15), Nat.zero_le _, ho13, ho14, ho15, hm11⟩ ?_ ?_ (fun q => ⟨Nat.le_trans hL0 q.2.2.2.2.2.st.len, Nat.le_trans hT0 q.2.2.2.2.2.st.tlen⟩)
      · simp (config := { maxSteps := 2000000 }) only [bitvec_to_nat, ↓r_ifTrue, ↓r_ifFalse, Nat.reduceAdd, Nat.reduceSub, Nat.reduceMul, Nat.reduceLT, Nat.reduceLeDiff, Nat.reduceEqDiff, Nat.reduceBEq, Nat.reduceBNe, Int.reduceToNat, Int.reduceLE, Int.reduceLT, Int.reduceEq, Int.reduceNe, Int.reduceNeg, Nat.reducePow, Int.reducePow, reduceIte, reduceCtorEq, ↓tc25, ↓td25, ↓tc34, ↓td34, ↓tc76, ↓td76, ↓tc95, ↓td95, ↓tc103, ↓td103, leLL_self]
        simp
      · rintro ⟨⟨j, L16, T16, wx, wy, wz⟩, hj, hox, hoy, hoz, hm12⟩
        simp only at hj hox hoy hoz hm12
        by_cases hjm : j < ns.length
        · have hdc : decide ((j : Int) < (ns.length : Int)) = true := decide_eq_true (by omega)
          have hgd : (ns.map V.str).getD j .any = .str ns[j] := by
            rw [List.getD_eq_getElem?_getD, List.getElem?_map, List.getElem?_eq_getElem hjm]; rfl
          have hj1 : IntKind.i64.wrap ((j : Int) + 1) = ((j + 1 : Nat) : Int) := by rw [i64w (by omega) (by omega)]; omega
          have hfx : (nfind Mx.now ns[j]).isSome = true := (find_iff _).2 (by rw [hnx]; exact List.getElem_mem hjm)
          have hfy : (nfind My.now ns[j]).isSome = true := (find_iff _).2 (by rw [hny]; exact List.getElem_mem hjm)
          have hfz : (nfind Mz.now ns[j]).isSome = true := (find_iff _).2 (by rw [hnz]; exact List.getElem_mem hjm)
          obtain ⟨x, t, r1, r2, r3, r4, r5, r6⟩ := hread j hjm
          simp (config := { maxSteps := 2000000 }) only [bitvec_to_nat, ↓r_ifTrue, ↓r_ifFalse, Nat.reduceAdd, Nat.reduceSub, Nat.reduceMul, Nat.reduceLT, Nat.reduceLeDiff, Nat.reduceEqDiff, Nat.reduceBEq, Nat.reduceBNe, Int.reduceToNat, Int.reduceLE, Int.reduceLT, Int.reduceEq, Int.reduceNe, Int.reduceNeg, Nat.reducePow, Int.reducePow, reduceIte, reduceCtorEq, ↓tc25, ↓td25, ↓tc34, ↓td34, ↓tc76, ↓td76, ↓tc95, ↓td95, ↓tc103, ↓td103, hdc, hgd, Int.toNat_natCast, List.length_map]
          refine ⟨⟨by omega, by omega⟩, ?_⟩
          refine op_o hox rfl (hm12.one (pre := [(Mz, wz), (My, wy)])) hsx fun L17 T17 w17 ho17 hd17 hst17 => ?_
          simp only [read_live hlx, hfx, if_true, code_V, Int.natCast_zero] at hd17 ⊢
          have hm13 := hm12.op (pre := [(Mz, wz), (My, wy)]) hd17 hst17
          simp (config := { maxSteps := 2000000 }) only [bitvec_to_nat, ↓r_ifTrue, ↓r_ifFalse, Nat.reduceAdd, Nat.reduceSub, Nat.reduceMul, Nat.reduceLT, Nat.reduceLeDiff, Nat.reduceEqDiff, Nat.reduceBEq, Nat.reduceBNe, Int.reduceToNat, Int.reduceLE, Int.reduceLT, Int.reduceEq, Int.reduceNe, Int.reduceNeg, Nat.reducePow, Int.reducePow, reduceIte, reduceCtorEq, ↓tc25, ↓td25, ↓tc34, ↓td34, ↓tc76, ↓td76, ↓tc95, ↓td95, ↓tc103, ↓td103]
          refine op_o hoy rfl (hm13.one (pre := [(Mz, wz)])) hsy fun L18 T18 w18 ho18 hd18 hst18 => ?_
          simp only [read_live hly, hfy, if_true, code_V, Int.natCast_zero] at hd18 ⊢
          have hm14 := hm13.op (pre := [(Mz, wz)]) hd18 hst18
          simp (config := { maxSteps := 2000000 }) only [bitvec_to_nat, ↓r_ifTrue, ↓r_ifFalse, Nat.reduceAdd, Nat.reduceSub, Nat.reduceMul, Nat.reduceLT, Nat.reduceLeDiff, Nat.reduceEqDiff, Nat.reduceBEq, Nat.reduceBNe, Int.reduceToNat, Int.reduceLE, Int.reduceLT, Int.reduceEq, Int.reduceNe, Int.reduceNeg, Nat.reducePow, Int.reducePow, reduceIte, reduceCtorEq, ↓tc25, ↓td25, ↓tc34, ↓td34, ↓tc76, ↓td76, ↓tc95, ↓td95, ↓tc103, ↓td103]
          refine op_o hoz rfl (hm14.one (pre := [])) hsz' fun L19 T19 w19 ho19 hd19 hst19 => ?_
          simp only [read_live hlz, hfz, if_true, code_V, Int.natCast_zero] at hd19 ⊢
          have hm15 := hm14.op (pre := []) hd19 hst19
          simp only [List.nil_append, List.cons_append] at hm15
          rw [r4, r5, r6]
          have hb : (x.1.take (x.2 + t)).length = x.2 + t := by rw [List.length_take]; omega
          have hlo : (x.1.take x.2).length = x.2 := by rw [List.length_take]; omega
          simp (config := { maxSteps := 2000000 }) only [bitvec_to_nat, ↓r_ifTrue, ↓r_ifFalse, Nat.reduceAdd, Nat.reduceSub, Nat.reduceMul, Nat.reduceLT, Nat.reduceLeDiff, Nat.reduceEqDiff, Nat.reduceBEq, Nat.reduceBNe, Int.reduceToNat, Int.reduceLE, Int.reduceLT, Int.reduceEq, Int.reduceNe, Int.reduceNeg, Nat.reducePow, Int.reducePow, reduceIte, reduceCtorEq, ↓tc25, ↓td25, ↓tc34, ↓td34, ↓tc76, ↓td76, ↓tc95, ↓td95, ↓tc103, ↓td103, hj1]
          refine ⟨by kernel_rfl, awpIf_intro (fun h => ?_) (fun _ => awpIf_intro (fun h => ?_) (fun _ => ⟨⟨by omega, by omega⟩, awpIf_intro (fun _ => ⟨⟨by omega, by omega⟩, awpIf_intro (fun _ => ?_) (fun h => ?_)⟩) (fun h => ?_)⟩))⟩
          · rw [decide_eq_true_eq, hb, hlo] at h; omega
          · rw [decide_eq_true_eq, hb] at h; omega
          · refine ⟨⟨(j + 1, L19, T19, w17, w18, w19), by omega, ho17, ho18, ho19, hm15⟩, ?_, by simp only; omega⟩
            simp (config := { maxSteps := 2000000 }) only [bitvec_to_nat, ↓r_ifTrue, ↓r_ifFalse, Nat.reduceAdd, Nat.reduceSub, Nat.reduceMul, Nat.reduceLT, Nat.reduceLeDiff, Nat.reduceEqDiff, Nat.reduceBEq, Nat.reduceBNe, Int.reduceToNat, Int.reduceLE, Int.reduceLT, Int.reduceEq, Int.reduceNe, Int.reduceNeg, Nat.reducePow, Int.reducePow, reduceIte, reduceCtorEq, ↓tc25, ↓td25, ↓tc34, ↓td34, ↓tc76, ↓td76, ↓tc95, ↓td95, ↓tc103, ↓td103, leLL_self, hj1]
          · rw [decide_eq_false_iff_not] at h
            refine absurd ?_ h
            rw [hlo, Int.toNat_natCast, List.take_take]
            congr 1
            omega
          · rw [decide_eq_false_iff_not] at h
            refine absurd ?_ h
            rw [hb, Int.toNat_natCast]
        · have hdc : decide ((j : Int) < (ns.length : Int)) = false := decide_eq_false (by omega)
          simp (config := { maxSteps := 2000000 }) only [bitvec_to_nat, ↓r_ifTrue, ↓r_ifFalse, Nat.reduceAdd, Nat.reduceSub, Nat.reduceMul, Nat.reduceLT, Nat.reduceLeDiff, Nat.reduceEqDiff, Nat.reduceBEq, Nat.reduceBNe, Int.reduceToNat, Int.reduceLE, Int.reduceLT, Int.reduceEq, Int.reduceNe, Int.reduceNeg, Nat.reducePow, Int.reducePow, reduceIte, reduceCtorEq, ↓tc25, ↓td25, ↓tc34, ↓td34, ↓tc76, ↓td76, ↓tc95, ↓td95, ↓tc103, ↓td103, hdc]
          refine clone_o hox (hm12.one (pre := [(Mz, wz), (My, wy)])) hsx fun L17 T17 wa hda hsta => ?_
          have hm13 := hm12.add hda hsta
          have hvr17 : L17[L.length + 1]? = some [.int .i64 vr.names, .list 1 (vr.bytes.map fun n => .int .i64 n) none] := by rw [hm13.st.keep (L.length + 1) hlvv (fun h => h)]; exact hvr1
          have hlv17 := lt_at hvr17
          obtain ⟨oa, hoa⟩ : ∃ o, wa.o = o := ⟨_, rfl⟩
          rw [hoa]
          simp (config := { maxSteps := 2000000 }) only [bitvec_to_nat, ↓r_ifTrue, ↓r_ifFalse, Nat.reduceAdd, Nat.reduceSub, Nat.reduceMul, Nat.reduceLT, Nat.reduceLeDiff, Nat.reduceEqDiff, Nat.reduceBEq, Nat.reduceBNe, Int.reduceToNat, Int.reduceLE, Int.reduceLT, Int.reduceEq, Int.reduceNe, Int.reduceNeg, Nat.reducePow, Int.reducePow, reduceIte, reduceCtorEq, ↓tc25, ↓td25, ↓tc34, ↓td34, ↓tc76, ↓td76, ↓tc95, ↓td95, ↓tc103, ↓td103, hvr17, hlv17]
          refine crash_o hoa vr.bytes (.inr ⟨none, rfl⟩) hvb (hm13.one (pre := [])) hsx fun L18 T18 w18 ho18 hd18 hst18 => ?_
          have hm14 := hm13.op (pre := []) hd18 hst18
          simp only [List.nil_append, List.cons_append] at hm14
          have okx : Mx.Ok := (hm12.one (pre := [(Mz, wz), (My, wy)])).ok
          have hkx : Kept Mx := hMx ▸ crash_kept hd.ok _
          refine ⟨_, _, w18, wx, by rw [ho18, hox], hm14.two (by simp), small_crash hsx okx _, hsx, crash_live _ _, hlx, ⟨(kept_names hkx _).symm, fun n => (kept_read okx hkx (begin_live hlx) _ n).symm⟩, fun L19 T19 w19 w20 ho19 ho20 ht19 hst19 => ?_⟩
          simp (config := { maxSteps := 2000000 }) only [bitvec_to_nat, ↓r_ifTrue, ↓r_ifFalse, Nat.reduceAdd, Nat.reduceSub, Nat.reduceMul, Nat.reduceLT, Nat.reduceLeDiff, Nat.reduceEqDiff, Nat.reduceBEq, Nat.reduceBNe, Int.reduceToNat, Int.reduceLE, Int.reduceLT, Int.reduceEq, Int.reduceNe, Int.reduceNeg, Nat.reducePow, Int.reducePow, reduceIte, reduceCtorEq, ↓tc25, ↓td25, ↓tc34, ↓td34, ↓tc76, ↓td76, ↓tc95, ↓td95, ↓tc103, ↓td103]
          exact ret_of (⟨Nat.le_trans hL0 (Nat.le_trans hm14.st.len hst19.len), fun _ _ h => absurd trivial h, fun _ h => h.elim, Nat.le_trans hT0 (Nat.le_trans hm14.st.tlen hst19.tlen), fun _ _ h => absurd trivial h, fun _ h => h.elim⟩ : Step (fun _ => True) (fun _ => True) L T noS noS L19 T19) (hK _ _)
end Go.Proofs.Ytieeojipodefoaa.DiskL
