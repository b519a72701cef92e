/-
  THE LAW DiskClone.
-/
import Derived.Test.YtieeojipodefoaaAwX
import Derived.Test.YtieeojipodefoaaDiskL2
import Derived.Test.YtieeojipodefoaaDiskE
namespace Go.Proofs.Ytieeojipodefoaa.DiskL
open Go Go.Proofs Go.Proofs.Ytieeojipodefoaa.Aw Go.Proofs.Ytieeojipodefoaa.Num Go.Proofs.Ytieeojipodefoaa.DiskM Go.Proofs.Ytieeojipodefoaa.DiskA Go.Proofs.Ytieeojipodefoaa.DiskK Go.Proofs.Ytieeojipodefoaa.DiskC Go.Proofs.Ytieeojipodefoaa.Disk
set_option linter.unusedSimpArgs false
set_option linter.unusedVariables false

def H8 : Fns := { fn := fun f => if f = 33 then some textsN else H0.fn f, mu := fun d => .no, hp := fun f => if f = 16 then some newP else if f = 19 then some doesP else if f = 18 then some fewP else if f = 15 then some shownP else if f = 31 then some alikeP else if f = 26 then some crashP else if f = 21 then some usedP else if f = 23 then some cloneDP else if f = 28 then some namesP else if f = 34 then some readP else if f = 29 then some syncP else if f = 30 then some syncNamesP else H0.hp f, ord := fun i => none }
theorem H8_fn (f : FuncId) : H8.fn f = (if f = 33 then some textsN else H0.fn f) := rfl
theorem H8_mu (d : Tmp) : H8.mu d = (.no) := rfl
theorem H8_hp (f : FuncId) : H8.hp f = (if f = 16 then some newP else if f = 19 then some doesP else if f = 18 then some fewP else if f = 15 then some shownP else if f = 31 then some alikeP else if f = 26 then some crashP else if f = 21 then some usedP else if f = 23 then some cloneDP else if f = 28 then some namesP else if f = 34 then some readP else if f = 29 then some syncP else if f = 30 then some syncNamesP else H0.hp f) := rfl
theorem H8_ord (i : Nat) : H8.ord i = (none) := rfl
theorem H8ok : FnsOk Try.prog H8 := FnsOk.same (FnsOk.consP (FnsOk.consP (FnsOk.consP (FnsOk.consP (FnsOk.consP (FnsOk.consP (FnsOk.consP (FnsOk.consP (FnsOk.consP (FnsOk.consP (FnsOk.consP (FnsOk.consP (FnsOk.cons H0ok _ _ texts_ok Try.func33 (by decide) (fun h => by cases h)) _ _ syncNames_ok Try.func30 (by decide) (fun h => by cases h)) _ _ sync_ok Try.func29 (by decide) (fun h => by cases h)) _ _ read_ok Try.func34 (by decide) (fun h => by cases h)) _ _ names_ok Try.func28 (by decide) (fun h => by cases h)) _ _ cloneD_ok Try.func23 (by decide) (fun h => by cases h)) _ _ used_ok Try.func21 (by decide) (fun h => by cases h)) _ _ crash_sound Try.func26 (by decide) (fun h => by cases h)) _ _ alike_ok Try.func31 (by decide) (fun h => by cases h)) _ _ shown_ok Try.func15 (by decide) (fun h => by cases h)) _ _ few_ok Try.func18 (by decide) (fun h => by cases h)) _ _ does_ok Try.func19 (by decide) (fun h => by cases h)) _ _ new_ok Try.func16 (by decide) (fun h => by cases h)) rfl rfl
attribute [bitvec_to_nat] H8_fn H8_mu H8_hp H8_ord

theorem clone_o {L : LL} {T : TT} {M : MD} {w : Own} {o : Nat} (ho : w.o = o) {K : V → LL → TT → Prop} (hd : dAt L T M w) (hs : Small M)
    (hK : ∀ L' T' w', dAt L' T' M w' → Step noS noS L T w'.S w'.R L' T' → K (.box w'.o 0) L' T') : cloneDP [.box o 0] L T K := by
  subst ho
  exact ⟨M, w, rfl, hd, hs, hK⟩
theorem small_new (room : Int) : Small (DiskM.new room) := ⟨by simp [DiskM.new], by show (0 : Nat) ≤ _; omega, by simp [DiskM.new], by simp [DiskM.new]⟩
theorem sz_new (room : Int) : Sz 0 (DiskM.new room) := ⟨by simp [DiskM.new], by simp [DiskM.new], Nat.le_refl 0, by simp [DiskM.new]⟩
def lclP : PM := fun args L T K => ∃ (room : Int) (l m : List Act) (wr : Wreck), args = [.int .i64 room, .list 7 (l.map actV) none, .list 7 (m.map actV) none, .agg [.int .i64 wr.names, wbV wr.bytes]] ∧ l.length ≤ 9223372036854775807 ∧ (∀ a ∈ l, a.n ≤ 9223372036854775807) ∧ m.length ≤ 9223372036854775807 ∧ (∀ a ∈ m, a.n ≤ 9223372036854775807) ∧ wr.bytes.length ≤ 9223372036854775807 ∧ ∀ L' T', K (.bool true) L' T'
set_option maxHeartbeats 4000000 in
theorem lclone_ok : PSound Try.prog 8 lclP := by
  refine psound tysOk H8ok mix Try.func8 rfl ?_
  intro args L T K hm
  obtain ⟨room, l, m, wr, rfl, hlen, hn, hmlen, hmn, hwb, hK⟩ := hm
  unfold wbV
  simp (config := { maxSteps := 2000000 }) only [bitvec_to_nat, ↓r_ifTrue, ↓r_ifFalse, Nat.reduceAdd, Nat.reduceSub, Nat.reduceMul, Nat.reduceLT, Nat.reduceLeDiff, Nat.reduceEqDiff, Nat.reduceBEq, Nat.reduceBNe, Int.reduceToNat, Int.reduceLE, Int.reduceLT, Int.reduceEq, Int.reduceNe, Int.reduceNeg, Nat.reducePow, Int.reducePow, reduceIte, reduceCtorEq, ↓tc25, ↓td25, ↓tc34, ↓td34, ↓tc76, ↓td76, ↓tc95, ↓td95, ↓tc103, ↓td103, Try.f8]
  refine ⟨rfl, fun L1 T1 hst1 => ?_⟩
  simp (config := { maxSteps := 2000000 }) only [bitvec_to_nat, ↓r_ifTrue, ↓r_ifFalse, Nat.reduceAdd, Nat.reduceSub, Nat.reduceMul, Nat.reduceLT, Nat.reduceLeDiff, Nat.reduceEqDiff, Nat.reduceBEq, Nat.reduceBNe, Int.reduceToNat, Int.reduceLE, Int.reduceLT, Int.reduceEq, Int.reduceNe, Int.reduceNeg, Nat.reducePow, Int.reducePow, reduceIte, reduceCtorEq, ↓tc25, ↓td25, ↓tc34, ↓td34, ↓tc76, ↓td76, ↓tc95, ↓td95, ↓tc103, ↓td103]
  refine ⟨room, rfl, fun L2 w2 ho2 hd2 hst2 => ?_⟩
  simp (config := { maxSteps := 2000000 }) only [bitvec_to_nat, ↓r_ifTrue, ↓r_ifFalse, Nat.reduceAdd, Nat.reduceSub, Nat.reduceMul, Nat.reduceLT, Nat.reduceLeDiff, Nat.reduceEqDiff, Nat.reduceBEq, Nat.reduceBNe, Int.reduceToNat, Int.reduceLE, Int.reduceLT, Int.reduceEq, Int.reduceNe, Int.reduceNeg, Nat.reducePow, Int.reducePow, reduceIte, reduceCtorEq, ↓tc25, ↓td25, ↓tc34, ↓td34, ↓tc76, ↓td76, ↓tc95, ↓td95, ↓tc103, ↓td103]
  refine ⟨room, rfl, fun L3 w3 ho3 hd3 hst3 => ?_⟩
  simp (config := { maxSteps := 2000000 }) only [bitvec_to_nat, ↓r_ifTrue, ↓r_ifFalse, Nat.reduceAdd, Nat.reduceSub, Nat.reduceMul, Nat.reduceLT, Nat.reduceLeDiff, Nat.reduceEqDiff, Nat.reduceBEq, Nat.reduceBNe, Int.reduceToNat, Int.reduceLE, Int.reduceLT, Int.reduceEq, Int.reduceNe, Int.reduceNeg, Nat.reducePow, Int.reducePow, reduceIte, reduceCtorEq, ↓tc25, ↓td25, ↓tc34, ↓td34, ↓tc76, ↓td76, ↓tc95, ↓td95, ↓tc103, ↓td103]
  have hwr1 : L1[L.length]? = some [.int .i64 wr.names, .list 1 (wr.bytes.map fun n => .int .i64 n) none] := by rw [hst1.keep L.length (by simp) (fun h => h), at_new rfl]
  have hlw := lt_at hwr1
  obtain ⟨od, hod⟩ : ∃ o, w2.o = o := ⟨_, rfl⟩
  obtain ⟨ox, hox⟩ : ∃ o, w3.o = o := ⟨_, rfl⟩
  rw [hod, hox]
  have ht3 : Two L3 T1 (DiskM.new room) w2 (DiskM.new room) w3 :=
    ⟨hd2.frame hst3 (fun _ _ h => h) (fun _ _ h => h), hd3, fun i h1 h2 => (by rcases hst3.own i h2 with h | h; exact h; have := hd2.lt i h1; omega), fun k h1 h2 => (by rcases hst3.town k h2 with h | h; exact h; have := hd2.tlt k h1; omega)⟩
  have hg2 : Step noS noS L1 T1 w2.S w2.R L3 T1 := hst2.via hst3 (fun _ h => h.elim) (fun _ h => h.elim)
  have hg3 : Step noS noS L1 T1 (bS w2 w3) (bR w2 w3) L3 T1 := ⟨hg2.len, hg2.keep, fun i h => h.elim (hg2.own i) (fun h => (hst3.own i h).elim (fun h => h.elim) (fun h => .inr (Nat.le_trans hst2.len h))), hg2.tlen, hg2.tkeep, fun k h => h.elim (hg2.town k) (fun h => (hst3.town k h).elim (fun h => h.elim) (fun h => .inr (Nat.le_trans hst2.tlen h)))⟩
  refine ⟨l, rfl, hlen, fun L5 T5 hst5 => ?_⟩
  simp (config := { maxSteps := 2000000 }) only [bitvec_to_nat, ↓r_ifTrue, ↓r_ifFalse, Nat.reduceAdd, Nat.reduceSub, Nat.reduceMul, Nat.reduceLT, Nat.reduceLeDiff, Nat.reduceEqDiff, Nat.reduceBEq, Nat.reduceBNe, Int.reduceToNat, Int.reduceLE, Int.reduceLT, Int.reduceEq, Int.reduceNe, Int.reduceNeg, Nat.reducePow, Int.reducePow, reduceIte, reduceCtorEq, ↓tc25, ↓td25, ↓tc34, ↓td34, ↓tc76, ↓td76, ↓tc95, ↓td95, ↓tc103, ↓td103, List.length_map]
  have ht5 := ht3.other hst5
  have hg5 : Step noS noS L1 T1 (bS w2 w3) (bR w2 w3) L5 T5 := hg3.via hst5 (fun _ h => h.elim) (fun _ h => h.elim)
  have hF := few_len l
  have hG := few_len m
  have hT0 : T.length ≤ T1.length := hst1.tlen
  have hL0 : L.length ≤ L1.length := by omega
  refine awpLoop_intro (α := {q : Nat × LL × TT × MD × Own × Own // q.1 ≤ (few l).length ∧ q.2.2.2.2.1.o = od ∧ q.2.2.2.2.2.o = ox ∧ Two q.2.1 q.2.2.1 q.2.2.2.1 q.2.2.2.2.1 q.2.2.2.1 q.2.2.2.2.2 ∧
      Step noS noS L1 T1 (bS q.2.2.2.2.1 q.2.2.2.2.2) (bR q.2.2.2.2.1 q.2.2.2.2.2) q.2.1 q.2.2.1 ∧ Sz q.1 q.2.2.2.1})
    (fun q => ⟨[.any, .any, .list 7 (m.map actV) none, .any, .any, .any, .any, .box L.length 0, .bool false, .bool true, .box od 0, .box ox 0, .any, .any, .any, .any, .any, .any, .any, .any, .any, .any, .any, .any, .any, .any, .any, .any, .any, .list 7 ((few l).map actV) none, .int .i64 ((few l).length : Int), .int .i64 (q.1.1 : Int), .any, .any, .any, .any, .any, .any, .any, .any, .any, .any, .any, .any, .any, .any, .any, .any, .any, .any, .any, .any, .any, .any, .any, .any, .any, .any, .any, .any, .any, .any, .any, .any, .any, .any, .any, .any, .any, .any, .any, .any, .any, .any, .any, .any], q.1.2.1, q.1.2.2.1⟩) (fun q => (few l).length - q.1.1)
    ⟨(0, L5, T5, DiskM.new room, w2, w3), Nat.zero_le _, hod, hox, ht5, hg5, sz_new room⟩ ?_ ?_ (fun q => ⟨Nat.le_trans hL0 q.2.2.2.2.2.1.len, Nat.le_trans hT0 q.2.2.2.2.2.1.tlen⟩)
  · simp (config := { maxSteps := 2000000 }) only [bitvec_to_nat, ↓r_ifTrue, ↓r_ifFalse, Nat.reduceAdd, Nat.reduceSub, Nat.reduceMul, Nat.reduceLT, Nat.reduceLeDiff, Nat.reduceEqDiff, Nat.reduceBEq, Nat.reduceBNe, Int.reduceToNat, Int.reduceLE, Int.reduceLT, Int.reduceEq, Int.reduceNe, Int.reduceNeg, Nat.reducePow, Int.reducePow, reduceIte, reduceCtorEq, ↓tc25, ↓td25, ↓tc34, ↓td34, ↓tc76, ↓td76, ↓tc95, ↓td95, ↓tc103, ↓td103, leLL_self]
    simp
  · rintro ⟨⟨i, L6, T6, M, wd, wx⟩, hi, hwd, hwx, ht, hg, hsz⟩
    simp only at hi hwd hwx ht hg hsz
    have hsmM : Small M := hsz.small (by omega)
    by_cases him : i < (few l).length
    · have hdc : decide ((i : Int) < ((few l).length : Int)) = true := decide_eq_true (by omega)
      obtain ⟨a, ha⟩ : ∃ a, (few l)[i]? = some a := ⟨_, List.getElem?_eq_getElem him⟩
      obtain ⟨ham, hal⟩ := few_mem (List.mem_of_getElem? ha)
      have hgd : ((few l).map actV).getD i .any = .agg [.int .u8 a.kind.toNat, .str a.name, .str a.to, .bytes a.b none, .int .i64 a.n, .int .i64 a.w.names, wbV a.w.bytes] := by
        rw [List.getD_eq_getElem?_getD, List.getElem?_map, ha]; rfl
      have hi1 : IntKind.i64.wrap ((i : Int) + 1) = ((i + 1 : Nat) : Int) := by rw [i64w (by omega) (by omega)]; omega
      unfold wbV at hgd
      have ht7 := ht.other ((Step.refl noS noS L6 T6).app [[.int .u8 a.kind.toNat, .str a.name, .str a.to, .bytes a.b none, .int .i64 a.n, .int .i64 a.w.names, .list 1 (a.w.bytes.map fun n => .int .i64 n) none]])
      have hat : (L6 ++ [[.int .u8 a.kind.toNat, .str a.name, .str a.to, .bytes a.b none, .int .i64 a.n, .int .i64 a.w.names, .list 1 (a.w.bytes.map fun n => .int .i64 n) none]])[L6.length]? = some [.int .u8 a.kind.toNat, .str a.name, .str a.to, .bytes a.b none, .int .i64 a.n, .int .i64 a.w.names, .list 1 (a.w.bytes.map fun n => .int .i64 n) none] := at_new rfl _
      simp (config := { maxSteps := 2000000 }) only [bitvec_to_nat, ↓r_ifTrue, ↓r_ifFalse, Nat.reduceAdd, Nat.reduceSub, Nat.reduceMul, Nat.reduceLT, Nat.reduceLeDiff, Nat.reduceEqDiff, Nat.reduceBEq, Nat.reduceBNe, Int.reduceToNat, Int.reduceLE, Int.reduceLT, Int.reduceEq, Int.reduceNe, Int.reduceNeg, Nat.reducePow, Int.reducePow, reduceIte, reduceCtorEq, ↓tc25, ↓td25, ↓tc34, ↓td34, ↓tc76, ↓td76, ↓tc95, ↓td95, ↓tc103, ↓td103, hdc, hgd, Int.toNat_natCast, List.length_map]
      refine ⟨⟨by omega, by omega⟩, ?_⟩
      refine ⟨M, wd, a, by rw [hwd]; rfl, small_ok ham (hn a hal), ht7.d1, hsmM, fun L8 T8 w8 ho8 hd8 hst8 => ?_⟩
      rw [hwd] at ho8
      have ht8 := ht7.left hd8 hst8
      have hg8 := (hg.app [[.int .u8 a.kind.toNat, .str a.name, .str a.to, .bytes a.b none, .int .i64 a.n, .int .i64 a.w.names, .list 1 (a.w.bytes.map fun n => .int .i64 n) none]]).trans (Step.two (w2 := wx) hst8)
      have hat8 : L8[L6.length]? = some [.int .u8 a.kind.toNat, .str a.name, .str a.to, .bytes a.b none, .int .i64 a.n, .int .i64 a.w.names, .list 1 (a.w.bytes.map fun n => .int .i64 n) none] := by
        rw [hst8.keep L6.length (by simp) (fun h => by have := ht.d1.lt _ h; omega)]; exact hat
      simp (config := { maxSteps := 2000000 }) only [bitvec_to_nat, ↓r_ifTrue, ↓r_ifFalse, Nat.reduceAdd, Nat.reduceSub, Nat.reduceMul, Nat.reduceLT, Nat.reduceLeDiff, Nat.reduceEqDiff, Nat.reduceBEq, Nat.reduceBNe, Int.reduceToNat, Int.reduceLE, Int.reduceLT, Int.reduceEq, Int.reduceNe, Int.reduceNeg, Nat.reducePow, Int.reducePow, reduceIte, reduceCtorEq, ↓tc25, ↓td25, ↓tc34, ↓td34, ↓tc76, ↓td76, ↓tc95, ↓td95, ↓tc103, ↓td103, code_V, hat8]
      refine ⟨M, wx, a, by rw [hwx]; rfl, small_ok ham (hn a hal), ht8.d2, hsmM, fun L9 T9 w9 ho9 hd9 hst9 => ?_⟩
      rw [hwx] at ho9
      have ht9 := ht8.right hd9 hst9
      have hg9 := hg8.trans (Step.two' (w1 := w8) hst9)
      simp (config := { maxSteps := 2000000 }) only [bitvec_to_nat, ↓r_ifTrue, ↓r_ifFalse, Nat.reduceAdd, Nat.reduceSub, Nat.reduceMul, Nat.reduceLT, Nat.reduceLeDiff, Nat.reduceEqDiff, Nat.reduceBEq, Nat.reduceBNe, Int.reduceToNat, Int.reduceLE, Int.reduceLT, Int.reduceEq, Int.reduceNe, Int.reduceNeg, Nat.reducePow, Int.reducePow, reduceIte, reduceCtorEq, ↓tc25, ↓td25, ↓tc34, ↓td34, ↓tc76, ↓td76, ↓tc95, ↓td95, ↓tc103, ↓td103, code_V, hi1]
      refine ⟨⟨(i + 1, L9, T9, (act M a).1, w8, w9), him, ho8, ho9, ht9, hg9, act_sz hsz ht.d1.ok ham⟩, ?_, by simp only; omega⟩
      simp (config := { maxSteps := 2000000 }) only [bitvec_to_nat, ↓r_ifTrue, ↓r_ifFalse, Nat.reduceAdd, Nat.reduceSub, Nat.reduceMul, Nat.reduceLT, Nat.reduceLeDiff, Nat.reduceEqDiff, Nat.reduceBEq, Nat.reduceBNe, Int.reduceToNat, Int.reduceLE, Int.reduceLT, Int.reduceEq, Int.reduceNe, Int.reduceNeg, Nat.reducePow, Int.reducePow, reduceIte, reduceCtorEq, ↓tc25, ↓td25, ↓tc34, ↓td34, ↓tc76, ↓td76, ↓tc95, ↓td95, ↓tc103, ↓td103, leLL_self, hi1]
    · have hdc : decide ((i : Int) < ((few l).length : Int)) = false := decide_eq_false (by omega)
      simp (config := { maxSteps := 2000000 }) only [bitvec_to_nat, ↓r_ifTrue, ↓r_ifFalse, Nat.reduceAdd, Nat.reduceSub, Nat.reduceMul, Nat.reduceLT, Nat.reduceLeDiff, Nat.reduceEqDiff, Nat.reduceBEq, Nat.reduceBNe, Int.reduceToNat, Int.reduceLE, Int.reduceLT, Int.reduceEq, Int.reduceNe, Int.reduceNeg, Nat.reducePow, Int.reducePow, reduceIte, reduceCtorEq, ↓tc25, ↓td25, ↓tc34, ↓td34, ↓tc76, ↓td76, ↓tc95, ↓td95, ↓tc103, ↓td103, hdc]
      refine clone_o hwd ht.d1 hsmM fun L7 T7 wy hdy hsty => ?_
      refine ⟨m, rfl, hmlen, fun L8 T8 hst8 => ?_⟩
      simp (config := { maxSteps := 2000000 }) only [bitvec_to_nat, ↓r_ifTrue, ↓r_ifFalse, Nat.reduceAdd, Nat.reduceSub, Nat.reduceMul, Nat.reduceLT, Nat.reduceLeDiff, Nat.reduceEqDiff, Nat.reduceBEq, Nat.reduceBNe, Int.reduceToNat, Int.reduceLE, Int.reduceLT, Int.reduceEq, Int.reduceNe, Int.reduceNeg, Nat.reducePow, Int.reducePow, reduceIte, reduceCtorEq, ↓tc25, ↓td25, ↓tc34, ↓td34, ↓tc76, ↓td76, ↓tc95, ↓td95, ↓tc103, ↓td103, List.length_map]
      obtain ⟨oy, hoy⟩ : ∃ o, wy.o = o := ⟨_, rfl⟩
      rw [hoy]
      have hdy8 := hdy.frame hst8 (fun _ _ h => h) (fun _ _ h => h)
      have hgy8 : Step noS noS L6 T6 wy.S wy.R L8 T8 := hsty.via hst8 (fun _ h => h.elim) (fun _ h => h.elim)
      have hLl6 := Nat.le_trans hL0 hg.len
      have hTt6 := Nat.le_trans hT0 hg.tlen
      refine awpLoop_intro (α := {q : Nat × LL × TT × MD × Own // q.1 ≤ (few m).length ∧ q.2.2.2.2.o = oy ∧ dAt q.2.1 q.2.2.1 q.2.2.2.1 q.2.2.2.2 ∧ Step noS noS L6 T6 q.2.2.2.2.S q.2.2.2.2.R q.2.1 q.2.2.1 ∧ Sz ((few l).length + q.1) q.2.2.2.1})
        (fun q => ⟨[.any, .any, .any, .any, .any, .any, .any, .box L.length 0, .bool false, .bool true, .box od 0, .box ox 0, .any, .any, .box oy 0, .any, .any, .any, .any, .any, .any, .any, .any, .any, .any, .any, .any, .any, .any, .any, .any, .any, .any, .any, .any, .any, .any, .any, .any, .any, .any, .any, .any, .any, .any, .list 7 ((few m).map actV) none, .int .i64 ((few m).length : Int), .int .i64 (q.1.1 : Int), .any, .any, .any, .any, .any, .any, .any, .any, .any, .any, .any, .any, .any, .any, .any, .any, .any, .any, .any, .any, .any, .any, .any, .any, .any, .any, .any, .any], q.1.2.1, q.1.2.2.1⟩) (fun q => (few m).length - q.1.1)
        ⟨(0, L8, T8, M, wy), Nat.zero_le _, hoy, hdy8, hgy8, hsz.mono (by simp only; omega)⟩ ?_ ?_ (fun q => ⟨Nat.le_trans hLl6 q.2.2.2.2.1.len, Nat.le_trans hTt6 q.2.2.2.2.1.tlen⟩)
      · simp (config := { maxSteps := 2000000 }) only [bitvec_to_nat, ↓r_ifTrue, ↓r_ifFalse, Nat.reduceAdd, Nat.reduceSub, Nat.reduceMul, Nat.reduceLT, Nat.reduceLeDiff, Nat.reduceEqDiff, Nat.reduceBEq, Nat.reduceBNe, Int.reduceToNat, Int.reduceLE, Int.reduceLT, Int.reduceEq, Int.reduceNe, Int.reduceNeg, Nat.reducePow, Int.reducePow, reduceIte, reduceCtorEq, ↓tc25, ↓td25, ↓tc34, ↓td34, ↓tc76, ↓td76, ↓tc95, ↓td95, ↓tc103, ↓td103, leLL_self]
        simp
      · rintro ⟨⟨j, L9, T9, My, w9⟩, hj, how, hd9, hg9, hsz9⟩
        simp only at hj how hd9 hg9 hsz9
        by_cases hjm : j < (few m).length
        · have hdc : decide ((j : Int) < ((few m).length : Int)) = true := decide_eq_true (by omega)
          obtain ⟨a, ha⟩ : ∃ a, (few m)[j]? = some a := ⟨_, List.getElem?_eq_getElem hjm⟩
          obtain ⟨ham, hal⟩ := few_mem (List.mem_of_getElem? ha)
          have hgd : ((few m).map actV).getD j .any = .agg [.int .u8 a.kind.toNat, .str a.name, .str a.to, .bytes a.b none, .int .i64 a.n, .int .i64 a.w.names, wbV a.w.bytes] := by
            rw [List.getD_eq_getElem?_getD, List.getElem?_map, ha]; rfl
          have hj1 : IntKind.i64.wrap ((j : Int) + 1) = ((j + 1 : Nat) : Int) := by rw [i64w (by omega) (by omega)]; omega
          unfold wbV at hgd
          have hd10 : dAt (L9 ++ [[.int .u8 a.kind.toNat, .str a.name, .str a.to, .bytes a.b none, .int .i64 a.n, .int .i64 a.w.names, .list 1 (a.w.bytes.map fun n => .int .i64 n) none]]) T9 My w9 := hd9.frame ((Step.refl noS noS L9 T9).app _) (fun _ _ h => h) (fun _ _ h => h)
          simp (config := { maxSteps := 2000000 }) only [bitvec_to_nat, ↓r_ifTrue, ↓r_ifFalse, Nat.reduceAdd, Nat.reduceSub, Nat.reduceMul, Nat.reduceLT, Nat.reduceLeDiff, Nat.reduceEqDiff, Nat.reduceBEq, Nat.reduceBNe, Int.reduceToNat, Int.reduceLE, Int.reduceLT, Int.reduceEq, Int.reduceNe, Int.reduceNeg, Nat.reducePow, Int.reducePow, reduceIte, reduceCtorEq, ↓tc25, ↓td25, ↓tc34, ↓td34, ↓tc76, ↓td76, ↓tc95, ↓td95, ↓tc103, ↓td103, hdc, hgd, Int.toNat_natCast, List.length_map]
          refine ⟨⟨by omega, by omega⟩, ?_⟩
          refine ⟨My, w9, a, by rw [how]; rfl, small_ok ham (hmn a hal), hd10, hsz9.small (by omega), fun L11 T11 w11 ho11 hd11 hst11 => ?_⟩
          rw [how] at ho11
          simp (config := { maxSteps := 2000000 }) only [bitvec_to_nat, ↓r_ifTrue, ↓r_ifFalse, Nat.reduceAdd, Nat.reduceSub, Nat.reduceMul, Nat.reduceLT, Nat.reduceLeDiff, Nat.reduceEqDiff, Nat.reduceBEq, Nat.reduceBNe, Int.reduceToNat, Int.reduceLE, Int.reduceLT, Int.reduceEq, Int.reduceNe, Int.reduceNeg, Nat.reducePow, Int.reducePow, reduceIte, reduceCtorEq, ↓tc25, ↓td25, ↓tc34, ↓td34, ↓tc76, ↓td76, ↓tc95, ↓td95, ↓tc103, ↓td103, code_V, hj1]
          refine ⟨⟨(j + 1, L11, T11, (act My a).1, w11), hjm, ho11, hd11, (hg9.app _).trans hst11, (act_sz hsz9 hd9.ok ham).mono (by simp only; omega)⟩, ?_, by simp only; omega⟩
          simp (config := { maxSteps := 2000000 }) only [bitvec_to_nat, ↓r_ifTrue, ↓r_ifFalse, Nat.reduceAdd, Nat.reduceSub, Nat.reduceMul, Nat.reduceLT, Nat.reduceLeDiff, Nat.reduceEqDiff, Nat.reduceBEq, Nat.reduceBNe, Int.reduceToNat, Int.reduceLE, Int.reduceLT, Int.reduceEq, Int.reduceNe, Int.reduceNeg, Nat.reducePow, Int.reducePow, reduceIte, reduceCtorEq, ↓tc25, ↓td25, ↓tc34, ↓td34, ↓tc76, ↓td76, ↓tc95, ↓td95, ↓tc103, ↓td103, leLL_self, hj1]
        · have hdc : decide ((j : Int) < ((few m).length : Int)) = false := decide_eq_false (by omega)
          have hgn : Step noS noS L6 T6 noS noS L9 T9 := hg9.less (fun _ h => h.elim) (fun _ h => h.elim)
          have ht9 := ht.other hgn
          have hg10 : Step noS noS L1 T1 (bS wd wx) (bR wd wx) L9 T9 := hg.via hgn (fun _ h => h.elim) (fun _ h => h.elim)
          have hwr9 : L9[L.length]? = some [.int .i64 wr.names, .list 1 (wr.bytes.map fun n => .int .i64 n) none] := by rw [hg10.keep L.length hlw (fun h => h)]; exact hwr1
          have hlw9 := lt_at hwr9
          simp (config := { maxSteps := 2000000 }) only [bitvec_to_nat, ↓r_ifTrue, ↓r_ifFalse, Nat.reduceAdd, Nat.reduceSub, Nat.reduceMul, Nat.reduceLT, Nat.reduceLeDiff, Nat.reduceEqDiff, Nat.reduceBEq, Nat.reduceBNe, Int.reduceToNat, Int.reduceLE, Int.reduceLT, Int.reduceEq, Int.reduceNe, Int.reduceNeg, Nat.reducePow, Int.reducePow, reduceIte, reduceCtorEq, ↓tc25, ↓td25, ↓tc34, ↓td34, ↓tc76, ↓td76, ↓tc95, ↓td95, ↓tc103, ↓td103, hdc]
          refine ⟨M, wd, by rw [hwd], ht9.d1, ?_⟩
          simp (config := { maxSteps := 2000000 }) only [bitvec_to_nat, ↓r_ifTrue, ↓r_ifFalse, Nat.reduceAdd, Nat.reduceSub, Nat.reduceMul, Nat.reduceLT, Nat.reduceLeDiff, Nat.reduceEqDiff, Nat.reduceBEq, Nat.reduceBNe, Int.reduceToNat, Int.reduceLE, Int.reduceLT, Int.reduceEq, Int.reduceNe, Int.reduceNeg, Nat.reducePow, Int.reducePow, reduceIte, reduceCtorEq, ↓tc25, ↓td25, ↓tc34, ↓td34, ↓tc76, ↓td76, ↓tc95, ↓td95, ↓tc103, ↓td103]
          refine ⟨M, wx, by rw [hwx], ht9.d2, ?_⟩
          simp (config := { maxSteps := 2000000 }) only [bitvec_to_nat, ↓r_ifTrue, ↓r_ifFalse, Nat.reduceAdd, Nat.reduceSub, Nat.reduceMul, Nat.reduceLT, Nat.reduceLeDiff, Nat.reduceEqDiff, Nat.reduceBEq, Nat.reduceBNe, Int.reduceToNat, Int.reduceLE, Int.reduceLT, Int.reduceEq, Int.reduceNe, Int.reduceNeg, Nat.reducePow, Int.reducePow, reduceIte, reduceCtorEq, ↓tc25, ↓td25, ↓tc34, ↓td34, ↓tc76, ↓td76, ↓tc95, ↓td95, ↓tc103, ↓td103, hwr9, hlw9]
          refine crash_o hwd wr.bytes (.inr ⟨none, rfl⟩) hwb ht9.d1 hsmM fun L10 T10 w10 ho10 hd10 hst10 => ?_
          have ht10 := ht9.left hd10 hst10
          have hg11 := hg10.trans (Step.two (w2 := wx) hst10)
          have hwr10 : L10[L.length]? = some [.int .i64 wr.names, .list 1 (wr.bytes.map fun n => .int .i64 n) none] := by rw [hg11.keep L.length hlw (fun h => h)]; exact hwr1
          have hlw10 := lt_at hwr10
          simp (config := { maxSteps := 2000000 }) only [bitvec_to_nat, ↓r_ifTrue, ↓r_ifFalse, Nat.reduceAdd, Nat.reduceSub, Nat.reduceMul, Nat.reduceLT, Nat.reduceLeDiff, Nat.reduceEqDiff, Nat.reduceBEq, Nat.reduceBNe, Int.reduceToNat, Int.reduceLE, Int.reduceLT, Int.reduceEq, Int.reduceNe, Int.reduceNeg, Nat.reducePow, Int.reducePow, reduceIte, reduceCtorEq, ↓tc25, ↓td25, ↓tc34, ↓td34, ↓tc76, ↓td76, ↓tc95, ↓td95, ↓tc103, ↓td103, hwr10, hlw10]
          refine crash_o hwx wr.bytes (.inr ⟨none, rfl⟩) hwb ht10.d2 hsmM fun L11 T11 w11 ho11 hd11 hst11 => ?_
          have ht11 := ht10.right hd11 hst11
          have hg12 := hg11.trans (Step.two' (w1 := w10) hst11)
          have hsc := small_crash hsmM ht.d2.ok ⟨wr.names, wr.bytes⟩
          refine ⟨_, _, w10, w11, by rw [ho10, ho11], ht11, hsc, hsc, crash_live _ _, crash_live _ _, ⟨rfl, fun _ => rfl⟩, fun L12 T12 w12 w13 ho12 ho13 ht12 hst12 => ?_⟩
          simp (config := { maxSteps := 2000000 }) only [bitvec_to_nat, ↓r_ifTrue, ↓r_ifFalse, Nat.reduceAdd, Nat.reduceSub, Nat.reduceMul, Nat.reduceLT, Nat.reduceLeDiff, Nat.reduceEqDiff, Nat.reduceBEq, Nat.reduceBNe, Int.reduceToNat, Int.reduceLE, Int.reduceLT, Int.reduceEq, Int.reduceNe, Int.reduceNeg, Nat.reducePow, Int.reducePow, reduceIte, reduceCtorEq, ↓tc25, ↓td25, ↓tc34, ↓td34, ↓tc76, ↓td76, ↓tc95, ↓td95, ↓tc103, ↓td103]
          have hg13 := hg12.trans hst12
          exact ret_of (⟨Nat.le_trans hL0 hg13.len, fun _ _ h => absurd trivial h, fun _ h => h.elim, Nat.le_trans hT0 hg13.tlen, fun _ _ h => absurd trivial h, fun _ h => h.elim⟩ : Step (fun _ => True) (fun _ => True) L T noS noS L12 T12) (hK _ _)
end Go.Proofs.Ytieeojipodefoaa.DiskL
