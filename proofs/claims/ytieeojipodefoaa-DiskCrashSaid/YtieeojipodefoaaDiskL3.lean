/-
  THE LAW DiskKept.
-/
import Derived.Test.YtieeojipodefoaaAwX
import Derived.Test.YtieeojipodefoaaDiskL5
import Derived.Test.YtieeojipodefoaaDiskH
namespace Go.Proofs.Ytieeojipodefoaa.DiskL
open Go Go.Proofs Go.Proofs.Ytieeojipodefoaa.Aw Go.Proofs.Ytieeojipodefoaa.Num Go.Proofs.Ytieeojipodefoaa.DiskM Go.Proofs.Ytieeojipodefoaa.DiskA Go.Proofs.Ytieeojipodefoaa.DiskK Go.Proofs.Ytieeojipodefoaa.DiskC Go.Proofs.Ytieeojipodefoaa.Disk Go.Proofs.Ytieeojipodefoaa.DiskH
set_option linter.unusedSimpArgs false
set_option linter.unusedVariables false

theorem sync_kept {M : MD} (hl : Live M) (h : Kept M) {n : Name} (hn : (nfind M.now n).isSome = true) : M.sync n = (M, 0) := by
  obtain ⟨f, hf⟩ := Option.isSome_iff_exists.1 hn
  unfold MD.sync
  rw [onFile_some (by rw [begin_live hl]) hf, begin_live hl]
  have hk := h.all n f (by rw [← kept_now h]; exact hf)
  have e : M.setFile f ((M.file f).1, (M.file f).1.length) = M := by
    unfold MD.setFile
    have : M.files.set f ((M.file f).1, (M.file f).1.length) = M.files := by
      rw [← hk]
      show M.files.set f (M.file f) = M.files
      unfold MD.file
      by_cases hlt : f < M.files.length
      · rw [List.getD_eq_getElem?_getD, List.getElem?_eq_getElem hlt]
        exact List.set_getElem_self hlt
      · exact List.set_eq_of_length_le (by omega)
    rw [this]
  rw [e]
theorem syncNames_kept {M : MD} (hl : Live M) (h : Kept M) : M.syncNames = (M, 0) := by
  unfold MD.syncNames
  rw [begin_live hl, kept_now h]
  have hc := h.chs
  obtain ⟨a, b, c, d, e, f, g⟩ := M
  simp only at hc
  subst hc
  rfl
def keptLP : PM := fun args L T K => ∃ (room : Int) (l : List Act) (wr : Wreck), args = [.int .i64 room, .list 7 (l.map actV) none, .agg [.int .i64 wr.names, wbV wr.bytes]] ∧ l.length ≤ 9223372036854775807 ∧ (∀ a ∈ l, a.n ≤ 9223372036854775807) ∧ wr.bytes.length ≤ 9223372036854775807 ∧ ∀ L' T', K (.bool true) L' T'
set_option maxHeartbeats 4000000 in
theorem keptL_ok : PSound Try.prog 4 keptLP := by
  refine psound tysOk H8ok mix Try.func4 rfl ?_
  intro args L T K hm
  obtain ⟨room, l, wr, rfl, hlen, hn, hwb, hK⟩ := hm
  unfold wbV
  simp (config := { maxSteps := 2000000 }) only [bitvec_to_nat, ↓r_ifTrue, ↓r_ifFalse, Nat.reduceAdd, Nat.reduceSub, Nat.reduceMul, Nat.reduceLT, Nat.reduceLeDiff, Nat.reduceEqDiff, Nat.reduceBEq, Nat.reduceBNe, Int.reduceToNat, Int.reduceLE, Int.reduceLT, Int.reduceEq, Int.reduceNe, Int.reduceNeg, Nat.reducePow, Int.reducePow, reduceIte, reduceCtorEq, ↓tc25, ↓td25, ↓tc34, ↓td34, ↓tc76, ↓td76, ↓tc95, ↓td95, ↓tc103, ↓td103, Try.f4]
  refine ⟨rfl, fun L1 T1 hst1 => ?_⟩
  simp (config := { maxSteps := 2000000 }) only [bitvec_to_nat, ↓r_ifTrue, ↓r_ifFalse, Nat.reduceAdd, Nat.reduceSub, Nat.reduceMul, Nat.reduceLT, Nat.reduceLeDiff, Nat.reduceEqDiff, Nat.reduceBEq, Nat.reduceBNe, Int.reduceToNat, Int.reduceLE, Int.reduceLT, Int.reduceEq, Int.reduceNe, Int.reduceNeg, Nat.reducePow, Int.reducePow, reduceIte, reduceCtorEq, ↓tc25, ↓td25, ↓tc34, ↓td34, ↓tc76, ↓td76, ↓tc95, ↓td95, ↓tc103, ↓td103]
  refine ⟨room, rfl, fun L2 w2 ho2 hd2 hst2 => ?_⟩
  simp (config := { maxSteps := 2000000 }) only [bitvec_to_nat, ↓r_ifTrue, ↓r_ifFalse, Nat.reduceAdd, Nat.reduceSub, Nat.reduceMul, Nat.reduceLT, Nat.reduceLeDiff, Nat.reduceEqDiff, Nat.reduceBEq, Nat.reduceBNe, Int.reduceToNat, Int.reduceLE, Int.reduceLT, Int.reduceEq, Int.reduceNe, Int.reduceNeg, Nat.reducePow, Int.reducePow, reduceIte, reduceCtorEq, ↓tc25, ↓td25, ↓tc34, ↓td34, ↓tc76, ↓td76, ↓tc95, ↓td95, ↓tc103, ↓td103]
  have hwr1 : L1[L.length]? = some [.int .i64 wr.names, .list 1 (wr.bytes.map fun n => .int .i64 n) none] := by rw [hst1.keep L.length (by simp) (fun h => h), at_new rfl]
  have hlw := lt_at hwr1
  obtain ⟨od, hod⟩ : ∃ o, w2.o = o := ⟨_, rfl⟩
  rw [hod]
  refine ⟨l, rfl, hlen, fun L5 T5 hst5 => ?_⟩
  simp (config := { maxSteps := 2000000 }) only [bitvec_to_nat, ↓r_ifTrue, ↓r_ifFalse, Nat.reduceAdd, Nat.reduceSub, Nat.reduceMul, Nat.reduceLT, Nat.reduceLeDiff, Nat.reduceEqDiff, Nat.reduceBEq, Nat.reduceBNe, Int.reduceToNat, Int.reduceLE, Int.reduceLT, Int.reduceEq, Int.reduceNe, Int.reduceNeg, Nat.reducePow, Int.reducePow, reduceIte, reduceCtorEq, ↓tc25, ↓td25, ↓tc34, ↓td34, ↓tc76, ↓td76, ↓tc95, ↓td95, ↓tc103, ↓td103, List.length_map]
  have hd5 := hd2.frame hst5 (fun _ _ h => h) (fun _ _ h => h)
  have hg5 : Step noS noS L1 T1 w2.S w2.R L5 T5 := hst2.via hst5 (fun _ h => h.elim) (fun _ h => h.elim)
  have hF := few_len l
  have hT0 : T.length ≤ T1.length := hst1.tlen
  have hL0 : L.length ≤ L1.length := by omega
  refine awpLoop_intro (α := {q : Nat × LL × TT × MD × Own // q.1 ≤ (few l).length ∧ q.2.2.2.2.o = od ∧ dAt q.2.1 q.2.2.1 q.2.2.2.1 q.2.2.2.2 ∧ Step noS noS L1 T1 q.2.2.2.2.S q.2.2.2.2.R q.2.1 q.2.2.1 ∧ Sz q.1 q.2.2.2.1})
    (fun q => ⟨[.any, .any, .any, .any, .any, .box L.length 0, .bool false, .bool true, .box od 0, .any, .any, .any, .any, .any, .any, .any, .any, .any, .any, .any, .any, .any, .list 7 ((few l).map actV) none, .int .i64 ((few l).length : Int), .int .i64 (q.1.1 : Int), .any, .any, .any, .any, .any, .any, .any, .any, .any, .any, .any, .any, .any, .any, .any, .any, .any, .any, .any, .any, .any, .any, .any, .any, .any, .any, .any, .any, .any, .any, .any, .any, .any, .any, .any, .any, .any, .any, .any, .any, .any, .any, .any, .any, .any, .any, .any, .any, .any, .any, .any, .any, .any, .any], q.1.2.1, q.1.2.2.1⟩) (fun q => (few l).length - q.1.1)
    ⟨(0, L5, T5, DiskM.new room, w2), Nat.zero_le _, hod, hd5, hg5, sz_new room⟩ ?_ ?_ (fun q => ⟨Nat.le_trans hL0 q.2.2.2.2.1.len, Nat.le_trans hT0 q.2.2.2.2.1.tlen⟩)
  · simp (config := { maxSteps := 2000000 }) only [bitvec_to_nat, ↓r_ifTrue, ↓r_ifFalse, Nat.reduceAdd, Nat.reduceSub, Nat.reduceMul, Nat.reduceLT, Nat.reduceLeDiff, Nat.reduceEqDiff, Nat.reduceBEq, Nat.reduceBNe, Int.reduceToNat, Int.reduceLE, Int.reduceLT, Int.reduceEq, Int.reduceNe, Int.reduceNeg, Nat.reducePow, Int.reducePow, reduceIte, reduceCtorEq, ↓tc25, ↓td25, ↓tc34, ↓td34, ↓tc76, ↓td76, ↓tc95, ↓td95, ↓tc103, ↓td103, leLL_self]
    simp
  · rintro ⟨⟨i, L6, T6, M, wd⟩, hi, hwd, hd, hg, hsz⟩
    simp only at hi hwd hd hg hsz
    have hsmM : Small M := hsz.small (by omega)
    by_cases him : i < (few l).length
    · have hdc : decide ((i : Int) < ((few l).length : Int)) = true := decide_eq_true (by omega)
      obtain ⟨a, ha⟩ : ∃ a, (few l)[i]? = some a := ⟨_, List.getElem?_eq_getElem him⟩
      obtain ⟨ham, hal⟩ := few_mem (List.mem_of_getElem? ha)
      have hgd : ((few l).map actV).getD i .any = .agg [.int .u8 a.kind.toNat, .str a.name, .str a.to, .bytes a.b none, .int .i64 a.n, .int .i64 a.w.names, wbV a.w.bytes] := by
        rw [List.getD_eq_getElem?_getD, List.getElem?_map, ha]; rfl
      have hi1 : IntKind.i64.wrap ((i : Int) + 1) = ((i + 1 : Nat) : Int) := by rw [i64w (by omega) (by omega)]; omega
      unfold wbV at hgd
      have hd7 : dAt (L6 ++ [[.int .u8 a.kind.toNat, .str a.name, .str a.to, .bytes a.b none, .int .i64 a.n, .int .i64 a.w.names, .list 1 (a.w.bytes.map fun n => .int .i64 n) none]]) T6 M wd := hd.frame ((Step.refl noS noS L6 T6).app _) (fun _ _ h => h) (fun _ _ h => h)
      simp (config := { maxSteps := 2000000 }) only [bitvec_to_nat, ↓r_ifTrue, ↓r_ifFalse, Nat.reduceAdd, Nat.reduceSub, Nat.reduceMul, Nat.reduceLT, Nat.reduceLeDiff, Nat.reduceEqDiff, Nat.reduceBEq, Nat.reduceBNe, Int.reduceToNat, Int.reduceLE, Int.reduceLT, Int.reduceEq, Int.reduceNe, Int.reduceNeg, Nat.reducePow, Int.reducePow, reduceIte, reduceCtorEq, ↓tc25, ↓td25, ↓tc34, ↓td34, ↓tc76, ↓td76, ↓tc95, ↓td95, ↓tc103, ↓td103, hdc, hgd, Int.toNat_natCast, List.length_map]
      refine ⟨⟨by omega, by omega⟩, ?_⟩
      refine ⟨M, wd, a, by rw [hwd]; rfl, small_ok ham (hn a hal), hd7, hsmM, fun L8 T8 w8 ho8 hd8 hst8 => ?_⟩
      rw [hwd] at ho8
      simp (config := { maxSteps := 2000000 }) only [bitvec_to_nat, ↓r_ifTrue, ↓r_ifFalse, Nat.reduceAdd, Nat.reduceSub, Nat.reduceMul, Nat.reduceLT, Nat.reduceLeDiff, Nat.reduceEqDiff, Nat.reduceBEq, Nat.reduceBNe, Int.reduceToNat, Int.reduceLE, Int.reduceLT, Int.reduceEq, Int.reduceNe, Int.reduceNeg, Nat.reducePow, Int.reducePow, reduceIte, reduceCtorEq, ↓tc25, ↓td25, ↓tc34, ↓td34, ↓tc76, ↓td76, ↓tc95, ↓td95, ↓tc103, ↓td103, code_V, hi1]
      refine ⟨⟨(i + 1, L8, T8, (act M a).1, w8), him, ho8, hd8, (hg.app _).trans hst8, act_sz hsz hd.ok ham⟩, ?_, by simp only; omega⟩
      simp (config := { maxSteps := 2000000 }) only [bitvec_to_nat, ↓r_ifTrue, ↓r_ifFalse, Nat.reduceAdd, Nat.reduceSub, Nat.reduceMul, Nat.reduceLT, Nat.reduceLeDiff, Nat.reduceEqDiff, Nat.reduceBEq, Nat.reduceBNe, Int.reduceToNat, Int.reduceLE, Int.reduceLT, Int.reduceEq, Int.reduceNe, Int.reduceNeg, Nat.reducePow, Int.reducePow, reduceIte, reduceCtorEq, ↓tc25, ↓td25, ↓tc34, ↓td34, ↓tc76, ↓td76, ↓tc95, ↓td95, ↓tc103, ↓td103, leLL_self, hi1]
    · have hdc : decide ((i : Int) < ((few l).length : Int)) = false := decide_eq_false (by omega)
      simp (config := { maxSteps := 2000000 }) only [bitvec_to_nat, ↓r_ifTrue, ↓r_ifFalse, Nat.reduceAdd, Nat.reduceSub, Nat.reduceMul, Nat.reduceLT, Nat.reduceLeDiff, Nat.reduceEqDiff, Nat.reduceBEq, Nat.reduceBNe, Int.reduceToNat, Int.reduceLE, Int.reduceLT, Int.reduceEq, Int.reduceNe, Int.reduceNeg, Nat.reducePow, Int.reducePow, reduceIte, reduceCtorEq, ↓tc25, ↓td25, ↓tc34, ↓td34, ↓tc76, ↓td76, ↓tc95, ↓td95, ↓tc103, ↓td103, hdc]
      refine crash_o hwd [] (.inl ⟨rfl, rfl⟩) (by decide) hd hsmM fun L7 T7 w7 ho7 hd7 hst7 => ?_
      have hg7 := hg.trans hst7
      obtain ⟨M1, hM1⟩ : ∃ x, M.crash ⟨0, []⟩ = x := ⟨_, rfl⟩
      have hlv : Live M1 := hM1 ▸ crash_live M _
      have hkp : Kept M1 := hM1 ▸ crash_kept hd.ok _
      have hs1 : Small M1 := hM1 ▸ small_crash hsmM hd.ok _
      rw [hM1] at hd7
      obtain ⟨n1, n2⟩ := names_live hlv
      simp (config := { maxSteps := 2000000 }) only [bitvec_to_nat, ↓r_ifTrue, ↓r_ifFalse, Nat.reduceAdd, Nat.reduceSub, Nat.reduceMul, Nat.reduceLT, Nat.reduceLeDiff, Nat.reduceEqDiff, Nat.reduceBEq, Nat.reduceBNe, Int.reduceToNat, Int.reduceLE, Int.reduceLT, Int.reduceEq, Int.reduceNe, Int.reduceNeg, Nat.reducePow, Int.reducePow, reduceIte, reduceCtorEq, ↓tc25, ↓td25, ↓tc34, ↓td34, ↓tc76, ↓td76, ↓tc95, ↓td95, ↓tc103, ↓td103, code_V]
      refine op_o ho7 rfl hd7 hs1 fun L8 T8 w8 ho8 hd8 hst8 => ?_
      simp only [n1, n2, code_V, Int.natCast_zero] at hd8 ⊢
      have hg8 := hg7.trans hst8
      obtain ⟨ns, hns⟩ : ∃ ns, M1.now.map (·.1) = ns := ⟨_, rfl⟩
      rw [hns]
      have hnl : ns.length ≤ 1099511627776 := by
        have q1 := now_len hd7.ok
        have q2 := hs1.nf
        rw [← hns, List.length_map]; omega
      simp (config := { maxSteps := 2000000 }) only [bitvec_to_nat, ↓r_ifTrue, ↓r_ifFalse, Nat.reduceAdd, Nat.reduceSub, Nat.reduceMul, Nat.reduceLT, Nat.reduceLeDiff, Nat.reduceEqDiff, Nat.reduceBEq, Nat.reduceBNe, Int.reduceToNat, Int.reduceLE, Int.reduceLT, Int.reduceEq, Int.reduceNe, Int.reduceNeg, Nat.reducePow, Int.reducePow, reduceIte, reduceCtorEq, ↓tc25, ↓td25, ↓tc34, ↓td34, ↓tc76, ↓td76, ↓tc95, ↓td95, ↓tc103, ↓td103, List.length_map]
      refine awpLoop_intro (α := {q : Nat × LL × TT × Own // q.1 ≤ ns.length ∧ q.2.2.2.o = od ∧ dAt q.2.1 q.2.2.1 M1 q.2.2.2 ∧ Step noS noS L1 T1 q.2.2.2.S q.2.2.2.R q.2.1 q.2.2.1})
        (fun q => ⟨[.any, .any, .any, .any, .any, .box L.length 0, .bool false, .bool true, .box od 0, .any, .any, .any, .any, .any, .any, .any, .any, .any, .any, .any, .any, .any, .any, .any, .any, .any, .any, .any, .any, .any, .any, .any, .any, .any, .any, .any, .any, .any, .any, .any, .any, .any, .list 1 (ns.map .str) none, .int .i64 (ns.length : Int), .int .i64 (q.1.1 : Int), .any, .any, .any, .any, .any, .any, .any, .any, .any, .any, .any, .any, .any, .any, .any, .any, .any, .any, .any, .any, .any, .any, .any, .any, .any, .any, .any, .any, .any, .any, .any, .any, .any, .any], q.1.2.1, q.1.2.2.1⟩) (fun q => ns.length - q.1.1)
        ⟨(0, L8, T8, w8), Nat.zero_le _, ho8, hd8, hg8⟩ ?_ ?_ (fun q => ⟨Nat.le_trans hL0 q.2.2.2.2.len, Nat.le_trans hT0 q.2.2.2.2.tlen⟩)
      · simp (config := { maxSteps := 2000000 }) only [bitvec_to_nat, ↓r_ifTrue, ↓r_ifFalse, Nat.reduceAdd, Nat.reduceSub, Nat.reduceMul, Nat.reduceLT, Nat.reduceLeDiff, Nat.reduceEqDiff, Nat.reduceBEq, Nat.reduceBNe, Int.reduceToNat, Int.reduceLE, Int.reduceLT, Int.reduceEq, Int.reduceNe, Int.reduceNeg, Nat.reducePow, Int.reducePow, reduceIte, reduceCtorEq, ↓tc25, ↓td25, ↓tc34, ↓td34, ↓tc76, ↓td76, ↓tc95, ↓td95, ↓tc103, ↓td103, leLL_self]
        simp
      · rintro ⟨⟨j, L9, T9, w9⟩, hj, ho9, hd9, hg9⟩
        simp only at hj ho9 hd9 hg9
        by_cases hjm : j < ns.length
        · have hdc : decide ((j : Int) < (ns.length : Int)) = true := decide_eq_true (by omega)
          have hgd : (ns.map V.str).getD j .any = .str ns[j] := by
            rw [List.getD_eq_getElem?_getD, List.getElem?_map, List.getElem?_eq_getElem hjm]; rfl
          have hj1 : IntKind.i64.wrap ((j : Int) + 1) = ((j + 1 : Nat) : Int) := by rw [i64w (by omega) (by omega)]; omega
          have hfnd : (nfind M1.now ns[j]).isSome = true := (find_iff _).2 (by rw [hns]; exact List.getElem_mem hjm)
          simp (config := { maxSteps := 2000000 }) only [bitvec_to_nat, ↓r_ifTrue, ↓r_ifFalse, Nat.reduceAdd, Nat.reduceSub, Nat.reduceMul, Nat.reduceLT, Nat.reduceLeDiff, Nat.reduceEqDiff, Nat.reduceBEq, Nat.reduceBNe, Int.reduceToNat, Int.reduceLE, Int.reduceLT, Int.reduceEq, Int.reduceNe, Int.reduceNeg, Nat.reducePow, Int.reducePow, reduceIte, reduceCtorEq, ↓tc25, ↓td25, ↓tc34, ↓td34, ↓tc76, ↓td76, ↓tc95, ↓td95, ↓tc103, ↓td103, hdc, hgd, Int.toNat_natCast, List.length_map]
          refine ⟨⟨by omega, by omega⟩, ?_⟩
          refine op_o ho9 rfl hd9 hs1 fun L10 T10 w10 ho10 hd10 hst10 => ?_
          simp only [sync_kept hlv hkp hfnd, code_V, Int.natCast_zero] at hd10 ⊢
          simp (config := { maxSteps := 2000000 }) only [bitvec_to_nat, ↓r_ifTrue, ↓r_ifFalse, Nat.reduceAdd, Nat.reduceSub, Nat.reduceMul, Nat.reduceLT, Nat.reduceLeDiff, Nat.reduceEqDiff, Nat.reduceBEq, Nat.reduceBNe, Int.reduceToNat, Int.reduceLE, Int.reduceLT, Int.reduceEq, Int.reduceNe, Int.reduceNeg, Nat.reducePow, Int.reducePow, reduceIte, reduceCtorEq, ↓tc25, ↓td25, ↓tc34, ↓td34, ↓tc76, ↓td76, ↓tc95, ↓td95, ↓tc103, ↓td103, hj1]
          refine ⟨⟨(j + 1, L10, T10, w10), by omega, ho10, hd10, hg9.trans hst10⟩, ?_, by simp only; omega⟩
          simp (config := { maxSteps := 2000000 }) only [bitvec_to_nat, ↓r_ifTrue, ↓r_ifFalse, Nat.reduceAdd, Nat.reduceSub, Nat.reduceMul, Nat.reduceLT, Nat.reduceLeDiff, Nat.reduceEqDiff, Nat.reduceBEq, Nat.reduceBNe, Int.reduceToNat, Int.reduceLE, Int.reduceLT, Int.reduceEq, Int.reduceNe, Int.reduceNeg, Nat.reducePow, Int.reducePow, reduceIte, reduceCtorEq, ↓tc25, ↓td25, ↓tc34, ↓td34, ↓tc76, ↓td76, ↓tc95, ↓td95, ↓tc103, ↓td103, leLL_self]
        · have hdc : decide ((j : Int) < (ns.length : Int)) = false := decide_eq_false (by omega)
          simp (config := { maxSteps := 2000000 }) only [bitvec_to_nat, ↓r_ifTrue, ↓r_ifFalse, Nat.reduceAdd, Nat.reduceSub, Nat.reduceMul, Nat.reduceLT, Nat.reduceLeDiff, Nat.reduceEqDiff, Nat.reduceBEq, Nat.reduceBNe, Int.reduceToNat, Int.reduceLE, Int.reduceLT, Int.reduceEq, Int.reduceNe, Int.reduceNeg, Nat.reducePow, Int.reducePow, reduceIte, reduceCtorEq, ↓tc25, ↓td25, ↓tc34, ↓td34, ↓tc76, ↓td76, ↓tc95, ↓td95, ↓tc103, ↓td103, hdc]
          refine op_o ho9 rfl hd9 hs1 fun L10 T10 w10 ho10 hd10 hst10 => ?_
          simp only [syncNames_kept hlv hkp, code_V, Int.natCast_zero] at hd10 ⊢
          have hg10 := hg9.trans hst10
          simp (config := { maxSteps := 2000000 }) only [bitvec_to_nat, ↓r_ifTrue, ↓r_ifFalse, Nat.reduceAdd, Nat.reduceSub, Nat.reduceMul, Nat.reduceLT, Nat.reduceLeDiff, Nat.reduceEqDiff, Nat.reduceBEq, Nat.reduceBNe, Int.reduceToNat, Int.reduceLE, Int.reduceLT, Int.reduceEq, Int.reduceNe, Int.reduceNeg, Nat.reducePow, Int.reducePow, reduceIte, reduceCtorEq, ↓tc25, ↓td25, ↓tc34, ↓td34, ↓tc76, ↓td76, ↓tc95, ↓td95, ↓tc103, ↓td103]
          refine clone_o ho10 hd10 hs1 fun L11 T11 wx hdx hstx => ?_
          have ht11 : Two L11 T11 M1 w10 M1 wx :=
            ⟨hd10.frame hstx (fun _ _ h => h) (fun _ _ h => h), hdx, fun i h1 h2 => (by rcases hstx.own i h2 with h | h; exact h; have := hd10.lt i h1; omega), fun k h1 h2 => (by rcases hstx.town k h2 with h | h; exact h; have := hd10.tlt k h1; omega)⟩
          have hg11 : Step noS noS L1 T1 (bS w10 wx) (bR w10 wx) L11 T11 := by
            have hx : Step noS noS L1 T1 w10.S w10.R L11 T11 := hg10.via hstx (fun _ h => h.elim) (fun _ h => h.elim)
            exact ⟨hx.len, hx.keep, fun i h => h.elim (hx.own i) (fun h => (hstx.own i h).elim (fun h => h.elim) (fun h => .inr (Nat.le_trans hg10.len h))), hx.tlen, hx.tkeep, fun k h => h.elim (hx.town k) (fun h => (hstx.town k h).elim (fun h => h.elim) (fun h => .inr (Nat.le_trans hg10.tlen h)))⟩
          have hwr11 : L11[L.length]? = some [.int .i64 wr.names, .list 1 (wr.bytes.map fun n => .int .i64 n) none] := by rw [hg11.keep L.length hlw (fun h => h)]; exact hwr1
          have hlw11 := lt_at hwr11
          obtain ⟨ox, hox⟩ : ∃ o, wx.o = o := ⟨_, rfl⟩
          rw [hox]
          simp (config := { maxSteps := 2000000 }) only [bitvec_to_nat, ↓r_ifTrue, ↓r_ifFalse, Nat.reduceAdd, Nat.reduceSub, Nat.reduceMul, Nat.reduceLT, Nat.reduceLeDiff, Nat.reduceEqDiff, Nat.reduceBEq, Nat.reduceBNe, Int.reduceToNat, Int.reduceLE, Int.reduceLT, Int.reduceEq, Int.reduceNe, Int.reduceNeg, Nat.reducePow, Int.reducePow, reduceIte, reduceCtorEq, ↓tc25, ↓td25, ↓tc34, ↓td34, ↓tc76, ↓td76, ↓tc95, ↓td95, ↓tc103, ↓td103, hwr11, hlw11]
          refine crash_o hox wr.bytes (.inr ⟨none, rfl⟩) hwb ht11.d2 hs1 fun L12 T12 w12 ho12 hd12 hst12 => ?_
          have ht12 := ht11.right hd12 hst12
          have hg12 := hg11.trans (Step.two' (w1 := w10) hst12)
          simp (config := { maxSteps := 2000000 }) only [bitvec_to_nat, ↓r_ifTrue, ↓r_ifFalse, Nat.reduceAdd, Nat.reduceSub, Nat.reduceMul, Nat.reduceLT, Nat.reduceLeDiff, Nat.reduceEqDiff, Nat.reduceBEq, Nat.reduceBNe, Int.reduceToNat, Int.reduceLE, Int.reduceLT, Int.reduceEq, Int.reduceNe, Int.reduceNeg, Nat.reducePow, Int.reducePow, reduceIte, reduceCtorEq, ↓tc25, ↓td25, ↓tc34, ↓td34, ↓tc76, ↓td76, ↓tc95, ↓td95, ↓tc103, ↓td103, code_V, Int.natCast_zero]
          refine ⟨_, _, w10, w12, by rw [ho10, ho12], ht12, hs1, small_crash hs1 hd7.ok _, hlv, crash_live _ _, ⟨kept_names hkp _, kept_read hd7.ok hkp (begin_live hlv) _⟩, fun L13 T13 w13 w14 ho13 ho14 ht13 hst13 => ?_⟩
          have hg13 := hg12.trans hst13
          simp (config := { maxSteps := 2000000 }) only [bitvec_to_nat, ↓r_ifTrue, ↓r_ifFalse, Nat.reduceAdd, Nat.reduceSub, Nat.reduceMul, Nat.reduceLT, Nat.reduceLeDiff, Nat.reduceEqDiff, Nat.reduceBEq, Nat.reduceBNe, Int.reduceToNat, Int.reduceLE, Int.reduceLT, Int.reduceEq, Int.reduceNe, Int.reduceNeg, Nat.reducePow, Int.reducePow, reduceIte, reduceCtorEq, ↓tc25, ↓td25, ↓tc34, ↓td34, ↓tc76, ↓td76, ↓tc95, ↓td95, ↓tc103, ↓td103]
          refine ⟨_, w13, by rw [ho13, ho10], ht13.d1, ?_⟩
          simp (config := { maxSteps := 2000000 }) only [bitvec_to_nat, ↓r_ifTrue, ↓r_ifFalse, Nat.reduceAdd, Nat.reduceSub, Nat.reduceMul, Nat.reduceLT, Nat.reduceLeDiff, Nat.reduceEqDiff, Nat.reduceBEq, Nat.reduceBNe, Int.reduceToNat, Int.reduceLE, Int.reduceLT, Int.reduceEq, Int.reduceNe, Int.reduceNeg, Nat.reducePow, Int.reducePow, reduceIte, reduceCtorEq, ↓tc25, ↓td25, ↓tc34, ↓td34, ↓tc76, ↓td76, ↓tc95, ↓td95, ↓tc103, ↓td103]
          refine ⟨_, w14, by rw [ho14, ho12], ht13.d2, ?_⟩
          simp (config := { maxSteps := 2000000 }) only [bitvec_to_nat, ↓r_ifTrue, ↓r_ifFalse, Nat.reduceAdd, Nat.reduceSub, Nat.reduceMul, Nat.reduceLT, Nat.reduceLeDiff, Nat.reduceEqDiff, Nat.reduceBEq, Nat.reduceBNe, Int.reduceToNat, Int.reduceLE, Int.reduceLT, Int.reduceEq, Int.reduceNe, Int.reduceNeg, Nat.reducePow, Int.reducePow, reduceIte, reduceCtorEq, ↓tc25, ↓td25, ↓tc34, ↓td34, ↓tc76, ↓td76, ↓tc95, ↓td95, ↓tc103, ↓td103, kept_used, hd7.ok, hkp]
          exact ret_of (⟨Nat.le_trans hL0 hg13.len, fun _ _ h => absurd trivial h, fun _ h => h.elim, Nat.le_trans hT0 hg13.tlen, fun _ _ h => absurd trivial h, fun _ h => h.elim⟩ : Step (fun _ => True) (fun _ => True) L T noS noS L13 T13) (hK _ _)
end Go.Proofs.Ytieeojipodefoaa.DiskL
