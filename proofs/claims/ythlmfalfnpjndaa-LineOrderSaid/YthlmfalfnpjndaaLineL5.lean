import Derived.Test.YthlmfalfnpjndaaAwX
import Derived.Test.YthlmfalfnpjndaaLine5
namespace Go.Proofs.Ythlmfalfnpjndaa.Line
open Go Go.Proofs Go.Proofs.Ythlmfalfnpjndaa.Aw Go.Proofs.Ythlmfalfnpjndaa.LineM Go.Proofs.Ythlmfalfnpjndaa.Num Go.Proofs.Ythlmfalfnpjndaa.LibB
set_option linter.unusedSimpArgs false
set_option linter.unusedVariables false
def wordsT : FM
  | [.agg [.int .i64 a, .bytes b none]] => some (0 ≤ a ∧ a ≤ 4611686018427387904 ∧ b.length ≤ 1099511627776, .list 2 ((wordsF a.toNat b).map lv) (some 0), [(((wordsF a.toNat b).map lv).length, 31)])
  | _ => none
theorem wordsT_ok : FSound Try.prog 14 wordsT := by
  refine fsound tysOk G4wok mix Try.func14 rfl ?_
  intro args p r fr hm hp
  unfold wordsT at hm
  split at hm
  · rename_i a b
    cases hm
    obtain ⟨h0, h1, h2⟩ := hp
    obtain ⟨a, rfl⟩ := Int.eq_ofNat_of_zero_le h0
    simp (maxSteps:=2000000) only[bitvec_to_nat,seval,↓tcd,Try.f14,unbrokenM,cloneM]
    refine awpLoop_intro (α := {q : Nat × List Ln // q.1 ≤ b.length ∧ q.2.length ≤ q.1 ∧ q.2 ++ wordsF (a + q.1) (b.drop q.1) = wordsF a b})
      (fun q => ⟨[.any, .box 0 0, .any, .list 2 (q.1.2.map lv) (some 0), .int .i64 (q.1.1 : Int), .any, .any, .any, .any, .any, .any, .any, .any, .any, .any, .any, .any, .any, .any, .any, .any, .any, .any, .any, .any, .any, .any, .any, .any, .any, .any, .any, .any, .any, .any, .any, .any, .any, .any, .any], [[.int .i64 (a : Int), .bytes b none]], [((q.1.2.map lv).length, 31)]⟩) (fun q => b.length - q.1.1)
      ⟨(0, []), by simp, by simp, by simp⟩ ?_ ?_
    · simp (maxSteps:=2000000) only[bitvec_to_nat,seval,↓tcd]
      all_goals simp
    · rintro ⟨⟨i, ws⟩, hi, hw, heq⟩
      simp only at hi hw heq
      simp (maxSteps:=2000000) only[bitvec_to_nat,seval,↓tcd,Try.f14,unbrokenM,cloneM,Int.toNat_natCast]
      refine awpIf_intro (fun h => ?_) (fun h => ?_) <;> simp only [decide_eq_true_eq, decide_eq_false_iff_not] at h
      · have hlt : i < b.length := by omega
        have hdl : (b.drop i).length = b.length - i := List.length_drop
        have hwn := wordN_le (b.drop i)
        refine ⟨⟨by omega, by omega⟩, by omega, awpIf_intro (fun h0 => ?_) (fun h0 => ?_)⟩ <;> simp only [decide_eq_true_eq, decide_eq_false_iff_not] at h0
        · rw [i64w (by omega) (by omega)]
          refine ⟨⟨(i + 1, ws), by simp only; omega, by simp only; omega, ?_⟩, ⟨⟨rfl, by simp⟩, rfl⟩, by simp only; omega⟩
          simp only
          rw [← heq]
          congr 1
          have hc : b.drop i = b[i] :: b.drop (i + 1) := (List.getElem_cons_drop hlt).symm
          rw [hc] at h0 ⊢
          rw [wordsF_blank _ (wordN_zero (r := b.drop (i + 1)) (by omega))]
          rfl
        · have hw0 : 0 < wordN (b.drop i) := by omega
          rw [i64w (n := (i : Int) + ((wordN (b.drop i) : Nat) : Int)) (by omega) (by omega), i64w (by omega) (by omega)]
          have e1 : ((i : Int) + ((wordN (b.drop i) : Nat) : Int)).toNat = i + wordN (b.drop i) := by omega
          have e2 : (b.take (i + wordN (b.drop i))).drop i = (b.drop i).take (wordN (b.drop i)) := by rw [List.drop_take]; congr 1; omega
          rw [e1, e2]
          have e3 : List.map lv ws ++ [V.agg [V.int IntKind.i64 ((a : Int) + (i : Int)), V.bytes ((b.drop i).take (wordN (b.drop i))) none]] = (ws ++ [(a + i, (b.drop i).take (wordN (b.drop i)))]).map lv := by
            rw [List.map_append]; rfl
          rw [e3]
          refine ⟨⟨by kernel_rfl, by kernel_rfl⟩, ⟨by omega, by omega, by omega⟩, by rw [List.length_take]; omega, mb _ (by rw [List.length_map]; omega), ⟨(i + wordN (b.drop i), ws ++ [(a + i, (b.drop i).take (wordN (b.drop i)))]), by simp only; omega, by simp only [List.length_append, List.length_cons, List.length_nil]; omega, ?_⟩, ⟨⟨rfl, by simp⟩, rfl⟩, by simp only; omega⟩
          simp only
          rw [← heq, wordsF_word _ hw0, List.drop_drop]
          simp only [List.append_assoc, List.cons_append, List.nil_append, Nat.add_assoc]
      · have e : i = b.length := by omega
        rw [e, List.drop_length] at heq
        have : ws = wordsF a b := by rw [← heq]; simp [wordsF, goW]
        rw [← this]
        exact ⟨this ▸ lv_clean ws, 0, by rw [this]; rfl, by rw [this], rfl⟩
  · cases hm
theorem out_some' {l : List Ln} (h : l ≠ []) : outT l = .list 2 (l.map lv) (some 0) ∧ outR l = [(l.length, 31)] := by
  cases l with
  | nil => exact absurd rfl h
  | cons y ys => exact ⟨rfl, rfl⟩
theorem leLL_snoc : ∀ (L : List (List V)) {x y : List V}, V.le.leL x y → leLL (L ++ [x]) (L ++ [y])
  | [], _, _, h => ⟨h, trivial⟩
  | z :: L, x, y, h => ⟨by rw [leL_self]; trivial, leLL_snoc L h⟩
theorem sent_get {ls : List Ln} {e : Nat} : ∀ i, i < (ls ++ [(e, [])]).length → ∃ (p : Nat) (w : List UInt8), (ls ++ [(e, [])])[i]? = some (p, w) ∧ ((ls.map lv ++ [V.agg [V.int .i64 (e : Int), V.nils]]).getD i .any = .agg [.int .i64 (p : Int), .bytes w none] ∨ (w = [] ∧ (ls.map lv ++ [V.agg [V.int .i64 (e : Int), V.nils]]).getD i .any = .agg [.int .i64 (p : Int), .nils])) := by
  intro i hi
  by_cases hlt : i < ls.length
  · refine ⟨ls[i].1, ls[i].2, by rw [List.getElem?_append_left hlt, List.getElem?_eq_getElem hlt], .inl ?_⟩
    rw [List.getD_eq_getElem?_getD, List.getElem?_append_left (by simpa using hlt)]
    simp [List.getElem?_eq_getElem hlt, lv]
  · have he : i = ls.length := by simp at hi; omega
    refine ⟨e, [], by rw [he]; simp, .inr ⟨rfl, ?_⟩⟩
    rw [he, List.getD_eq_getElem?_getD, List.getElem?_append_right (by simp)]
    simp
theorem ten13 {c : UInt8} (h : lineEnd c = true) : (c.toNat : Int) = 10 ∨ (c.toNat : Int) = 13 := by
  unfold lineEnd at h
  simp only [Bool.or_eq_true, beq_iff_eq] at h
  rcases h with rfl | rfl
  · exact .inl rfl
  · exact .inr rfl
theorem bl32 {c : UInt8} (h : isBl c = true) : (c.toNat : Int) = 32 ∨ (c.toNat : Int) = 9 := by
  unfold isBl at h
  simp only [Bool.or_eq_true, beq_iff_eq] at h
  rcases h with rfl | rfl
  · exact .inl rfl
  · exact .inr rfl
def G15 : Fns := { fn := fun f => if f = 10 then some lawListT else if f = 14 then some wordsT else G12.fn f, mu := fun d => bif d == 92 then .seq else bif d == 101 then .seq else .no, hp := fun f => G12.hp f, ord := fun i => if i = 18 then some [(0, 3), (2, 0), (3, 3), (4, 0), (5, 3), (6, 0), (7, 0), (8, 0), (9, 0), (12, 0), (1, 1), (10, 4), (11, 0)] else none, it := fun f => G12.it f }
theorem G15_fn (f : FuncId) : G15.fn f = (if f = 10 then some lawListT else if f = 14 then some wordsT else G12.fn f) := rfl
theorem G15_mu (d : Tmp) : G15.mu d = (bif d == 92 then .seq else bif d == 101 then .seq else .no) := rfl
theorem G15_hp (f : FuncId) : G15.hp f = (G12.hp f) := rfl
theorem G15_ord (i : Nat) : G15.ord i = (if i = 18 then some [(0, 3), (2, 0), (3, 3), (4, 0), (5, 3), (6, 0), (7, 0), (8, 0), (9, 0), (12, 0), (1, 1), (10, 4), (11, 0)] else none) := rfl
theorem G15_it (f : FuncId) : G15.it f = (G12.it f) := rfl
theorem G15_hy (b : Nat) : G15.hy b = none := rfl
theorem G15ok : FnsOk Try.prog G15 := FnsOk.same (FnsOk.cons (FnsOk.cons G12ok _ _ wordsT_ok Try.func14 (by decide) (fun h => by cases h)) _ _ lawListT_ok Try.func10 (by decide) (fun h => by cases h)) rfl rfl
attribute [bitvec_to_nat] G15_fn G15_mu G15_hp G15_ord G15_it G15_hy
def orderM : FM
  | [.bytes b _] => some (True, .bool true, [])
  | _ => none
set_option maxHeartbeats 16000000 in
set_option maxRecDepth 100000 in
theorem order_ok : FSound Try.prog 5 orderM := by
  refine fsound tysOk G15ok mix Try.func5 rfl ?_
  intro args p r fr hm hp
  unfold orderM at hm
  split at hm
  · rename_i b t
    cases hm
    obtain ⟨x, hx⟩ : ∃ x, x = b.take 1000 := ⟨_, rfl⟩
    have hxl : x.length ≤ 1000 := by rw [hx, List.length_take]; omega
    obtain ⟨ls, hls⟩ : ∃ ls, ls = linesF 0 x := ⟨_, rfl⟩
    have hlen := linesF_len 0 x
    have hlaid := lines_laid x
    have hcl := lv_clean (linesF 0 x)
    rw [← hls] at hlen hlaid hcl
    obtain ⟨M, hM⟩ : ∃ M : List V, M = ls.map lv ++ [V.agg [V.int .i64 (x.length : Int), V.nils]] := ⟨_, rfl⟩
    obtain ⟨N, hN⟩ : ∃ N : List Ln, N = ls ++ [(x.length, [])] := ⟨_, rfl⟩
    have hNl : N.length = ls.length + 1 := by rw [hN]; simp
    have hMl : M.length = N.length := by rw [hM, hN]; simp
    rw [← hN] at hlaid
    have hget : ∀ i, i < N.length → ∃ p w, N[i]? = some (p, w) ∧ (M.getD i .any = .agg [.int .i64 (p : Int), .bytes w none] ∨ (w = [] ∧ M.getD i .any = .agg [.int .i64 (p : Int), .nils])) := by
      intro i hi
      by_cases hlt : i < ls.length
      · refine ⟨ls[i].1, ls[i].2, by rw [hN, List.getElem?_append_left hlt, List.getElem?_eq_getElem hlt], .inl ?_⟩
        rw [hM, List.getD_eq_getElem?_getD, List.getElem?_append_left (by simpa using hlt)]
        simp [List.getElem?_eq_getElem hlt, lv]
      · have e : i = ls.length := by omega
        refine ⟨x.length, [], by rw [hN, e]; simp, .inr ⟨rfl, ?_⟩⟩
        rw [hM, e, List.getD_eq_getElem?_getD, List.getElem?_append_right (by simp)]
        simp
    have main : True := trivial
    by_cases hn : ls = []
    · have o1 : outT ls = .nils := by rw [hn]; rfl
      have o2 : outR ls = [] := by rw [hn]; rfl
      have hM1 : [V.agg [V.int .i64 (x.length : Int), V.nils]] = M := by rw [hM, hn]; rfl
      simp (maxSteps:=2000000) only[bitvec_to_nat,seval,↓tcd,Try.f5,shownM,fewM,lawListT,← hx,← hls,o1,o2]
      rw [hM1]
      have hn1 : N.length = 1 := by rw [hNl, hn]; rfl
      refine ⟨by omega, mb _ (by omega), ?_⟩
      obtain ⟨T0, hT0⟩ : ∃ T0 : TT, T0 = [(1, 31), (1, 31)] := ⟨_, rfl⟩
      have hn2 : V.int IntKind.i64 1 = V.int IntKind.i64 (N.length : Int) := by rw [hn1]; rfl
      rw [← hT0, hn2]
      refine awpLoop_intro (α := {q : (Nat × Nat) × LL × TT // (q.1.1 ≤ N.length ∧ q.1.2 ≤ x.length) ∧ Laid lineEnd x x.length q.1.2 (N.drop q.1.1)}) (fun q => ⟨[.any, .any, .any, .bool true, .bytes x none, .any, .any, .int .i64 (q.1.1.2 : Int), .any, .any, .any, .any, .any, .any, .any, .any, .any, .any, .any, .any, .any, .any, .any, .any, .any, .any, .any, .any, .list 2 M none, .int .i64 (N.length : Int), .int .i64 (q.1.1.1 : Int), .any, .any, .any, .any, .any, .any, .any, .any, .any, .any, .any, .any, .any, .any, .any, .any, .any, .any, .any, .any, .any, .any, .any, .any, .any, .any, .any, .any, .any, .any, .any, .any, .any, .any, .any, .any, .any, .any, .any, .any, .any, .any, .any, .any, .any, .any, .any, .any, .any, .any, .any, .any, .any, .any, .any, .any, .any, .any, .any, .any, .any, .any, .any, .any, .any, .any, .any, .any, .any, .any, .any, .any, .any, .any, .any, .any, .any, .any, .any, .any, .any, .any, .any, .any, .any, .any, .any, .any, .any, .any, .any, .any, .any, .any, .any, .any, .any, .any, .any, .any, .any, .any, .any, .any, .any, .any, .any, .any, .any, .any, .any, .any, .any, .any, .any, .any, .any, .any, .any, .any, .any, .any, .any, .any, .any, .any, .any, .any, .any, .any, .any, .any, .any, .any, .any, .any, .any, .any, .any, .any, .any, .any, .any, .any], q.1.2.1, q.1.2.2⟩) (fun q => N.length - q.1.1.1)
        ⟨((0, 0), [], T0), ⟨by simp, by simp⟩, by simpa using hlaid⟩ ?_ ?_ (fun q => ⟨Nat.zero_le _, Nat.zero_le _⟩)
      · simp (maxSteps:=2000000) only[bitvec_to_nat,seval,↓tcd,leLL_refl]
        all_goals simp
      · rintro ⟨⟨⟨i, at'⟩, L1, T1⟩, ⟨hi, hat⟩, hla⟩
        simp only at hi hat hla
        by_cases hlt : i < N.length
        · have hd : decide ((i : Int) < (N.length : Int)) = true := decide_eq_true (by omega)
          obtain ⟨p, w, hp, hg⟩ := hget i hlt
          have hdr : N.drop i = (p, w) :: N.drop (i + 1) := by
            rw [List.drop_eq_getElem_cons hlt]
            rw [List.getElem?_eq_getElem hlt] at hp
            rw [Option.some.inj hp]
          rw [hdr] at hla
          obtain ⟨hl1, hl2, hl3, hl4, hl5⟩ := hla
          simp only at hl1 hl2 hl3 hl4 hl5
          have hB1 : ∀ z : V, (L1 ++ [[V.int .i64 (p : Int), z]])[L1.length]? = some [V.int .i64 (p : Int), z] := fun z => by simp
          have c1 : decide ((p : Int) < (at' : Int)) = false := decide_eq_false (by omega)
          have wp : ∀ n : Nat, n ≤ 1000 → IntKind.i64.wrap ((p : Int) + (n : Int)) = ((p + n : Nat) : Int) := fun n hn => by rw [i64w (by omega) (by omega)]; omega
          have wp1 := wp w.length (by omega)
          have wp0 : IntKind.i64.wrap ((p : Int) + 0) = (p : Int) := by rw [Int.add_zero, i64w (by omega) (by omega)]
          have c2 : decide ((x.length : Int) < ((p + w.length : Nat) : Int)) = false := decide_eq_false (by omega)
          have c20 : decide ((x.length : Int) < (p : Int)) = false := decide_eq_false (by omega)
          have c30 : (x.take p).drop p = [] := List.drop_of_length_le (by rw [List.length_take]; omega)
          rcases hg with hg | ⟨hw0, hg⟩
          · simp (maxSteps:=2000000) only[bitvec_to_nat,seval,↓tcd,Try.f5,hd,hg,hB1,c1,wp1,c2,Int.toNat_natCast,hl3]
            refine ⟨⟨by omega, by omega⟩, by kernel_rfl, ⟨by omega, by omega, by omega⟩, ?_⟩
            refine awpLoop_intro (α := {q : Nat // at' ≤ q ∧ q ≤ p}) (fun q => ⟨[.any, .any, .any, .bool true, .bytes x none, .any, .any, .int .i64 (q.1 : Int), .any, .box L1.length 0, .any, .any, .any, .any, .any, .any, .any, .any, .any, .any, .any, .any, .any, .any, .any, .any, .any, .any, .list 2 M none, .int .i64 (N.length : Int), .int .i64 (i : Int), .any, .any, .any, .any, .any, .any, .any, .any, .any, .any, .any, .any, .any, .any, .any, .any, .any, .any, .any, .any, .any, .any, .any, .any, .any, .any, .any, .any, .any, .any, .any, .any, .any, .any, .any, .any, .any, .any, .any, .any, .any, .any, .any, .any, .any, .any, .any, .any, .any, .any, .any, .any, .any, .any, .any, .any, .any, .any, .any, .any, .any, .any, .any, .any, .any, .any, .any, .any, .any, .any, .any, .any, .any, .any, .any, .any, .any, .any, .any, .any, .any, .any, .any, .any, .any, .any, .any, .any, .any, .any, .any, .any, .any, .any, .any, .any, .any, .any, .any, .any, .any, .any, .any, .any, .any, .any, .any, .any, .any, .any, .any, .any, .any, .any, .any, .any, .any, .any, .any, .any, .any, .any, .any, .any, .any, .any, .any, .any, .any, .any, .any, .any, .any, .any, .any, .any, .any, .any, .any, .any, .any, .any, .any, .any], L1 ++ [[V.int .i64 (p : Int), V.bytes w none]], T1⟩) (fun q => p - q.1) ⟨at', Nat.le_refl _, hl1⟩ ?_ ?_ (fun q => ⟨Nat.zero_le _, Nat.zero_le _⟩)
            · simp (maxSteps:=2000000) only[bitvec_to_nat,seval,↓tcd,leLL_refl]
              all_goals simp
            · rintro ⟨j, hj1, hj2⟩
              by_cases hjp : j < p
              · have dj : decide ((j : Int) < (p : Int)) = true := decide_eq_true (by omega)
                have hok := ten13 (hl4 j hj1 hjp)
                simp (maxSteps:=2000000) only[bitvec_to_nat,seval,↓tcd,Try.f5,hB1,dj,Int.toNat_natCast,leLL_refl]
                rw [i64w (by omega) (by omega)]
                have nx : ∃ a' : {q : Nat // at' ≤ q ∧ q ≤ p}, (j : Int) + 1 = (a'.1 : Int) ∧ p - a'.1 < p - j := ⟨⟨j + 1, by omega, by omega⟩, by simp, by simp only; omega⟩
                refine ⟨⟨by omega, by omega⟩, awpIf_intro (fun h => nx) (fun h => ⟨⟨by omega, by omega⟩, awpIf_intro (fun h2 => nx) (fun h2 => ?_)⟩)⟩
                simp only [decide_eq_false_iff_not] at h h2
                omega
              · have dj : decide ((j : Int) < (p : Int)) = false := decide_eq_false (by omega)
                have ej : p = j := by omega
                subst ej
                have wcl := lv_clean (wordsF p w)
                have wll := wordsF_len p w
                have wml : ((wordsF p w).map lv).length = (wordsF p w).length := List.length_map _
                have wlaid := words_laid hl2 hl3
                simp (maxSteps:=2000000) only[bitvec_to_nat,seval,↓tcd,Try.f5,hB1,dj,Int.toNat_natCast,wp1,wordsT]
                refine ⟨by kernel_rfl, ⟨wcl, by omega, by omega, by omega⟩, mb _ (by omega), ?_⟩
                have hget2 := sent_get (ls := wordsF p w) (e := p + w.length)
                obtain ⟨M2, hM2⟩ : ∃ M2, M2 = (wordsF p w).map lv ++ [V.agg [V.int .i64 ((p + w.length : Nat) : Int), V.nils]] := ⟨_, rfl⟩
                obtain ⟨N2, hN2⟩ : ∃ N2, N2 = wordsF p w ++ [(p + w.length, [])] := ⟨_, rfl⟩
                have hN2l : N2.length = (wordsF p w).length + 1 := by rw [hN2]; simp
                have hM2l : M2.length = N2.length := by rw [hM2, hN2]; simp
                rw [← hM2, ← hN2] at hget2
                rw [← hN2] at wlaid
                rw [← hM2, hM2l]
                refine awpLoop_intro (α := {q : (Nat × Nat) × LL × TT // (q.1.1 ≤ N2.length ∧ q.1.2 ≤ p + w.length) ∧ Laid isBl x (p + w.length) q.1.2 (N2.drop q.1.1) ∧ q.2.1[L1.length]? = some [V.int .i64 (p : Int), V.bytes w none]}) (fun q => ⟨[.any, .any, .any, .bool true, .bytes x none, .any, .any, .int .i64 ((p + w.length : Nat) : Int), .any, .box L1.length 0, .int .i64 (q.1.1.2 : Int), .any, .any, .any, .any, .any, .any, .any, .any, .any, .any, .any, .any, .any, .any, .any, .any, .any, .list 2 M none, .int .i64 (N.length : Int), .int .i64 (i : Int), .any, .any, .any, .any, .any, .any, .any, .any, .any, .any, .any, .any, .any, .any, .any, .any, .any, .any, .any, .any, .any, .any, .any, .any, .any, .any, .any, .any, .any, .any, .any, .any, .any, .any, .any, .any, .any, .any, .any, .any, .any, .any, .any, .any, .any, .any, .any, .any, .any, .any, .any, .any, .any, .any, .any, .any, .any, .any, .any, .any, .any, .any, .any, .any, .any, .any, .any, .any, .any, .any, .list 2 M2 none, .int .i64 (N2.length : Int), .int .i64 (q.1.1.1 : Int), .any, .any, .any, .any, .any, .any, .any, .any, .any, .any, .any, .any, .any, .any, .any, .any, .any, .any, .any, .any, .any, .any, .any, .any, .any, .any, .any, .any, .any, .any, .any, .any, .any, .any, .any, .any, .any, .any, .any, .any, .any, .any, .any, .any, .any, .any, .any, .any, .any, .any, .any, .any, .any, .any, .any, .any, .any, .any, .any, .any, .any, .any, .any, .any, .any, .any, .any, .any, .any, .any, .any], q.1.2.1, q.1.2.2⟩) (fun q => N2.length - q.1.1.1)
                  ⟨((0, p), L1 ++ [[V.int .i64 (p : Int), V.bytes w none]], (T1 ++ [(((wordsF p w).map lv).length, 31)]).set T1.length (N2.length, 31)), ⟨by simp, by simp⟩, by simpa using wlaid, hB1 _⟩ ?_ ?_ (fun q => ⟨Nat.zero_le _, Nat.zero_le _⟩)
                · simp (maxSteps:=2000000) only[bitvec_to_nat,seval,↓tcd,leLL_refl]
                  all_goals simp
                · rintro ⟨⟨⟨i2, k2⟩, L2, T2⟩, ⟨hi2, hk2⟩, hla2, hLo⟩
                  simp only at hi2 hk2 hla2 hLo
                  have hLl := (List.getElem?_eq_some_iff.1 hLo).1
                  by_cases hlt2 : i2 < N2.length
                  · have hd2 : decide ((i2 : Int) < (N2.length : Int)) = true := decide_eq_true (by omega)
                    obtain ⟨q, v, hq, hg2⟩ := hget2 i2 hlt2
                    have hdr2 : N2.drop i2 = (q, v) :: N2.drop (i2 + 1) := by
                      rw [List.drop_eq_getElem_cons hlt2]
                      rw [List.getElem?_eq_getElem hlt2] at hq
                      rw [Option.some.inj hq]
                    rw [hdr2] at hla2
                    obtain ⟨gl1, gl2, gl3, gl4, gl5⟩ := hla2
                    simp only at gl1 gl2 gl3 gl4 gl5
                    have hB2 : ∀ z : V, (L2 ++ [[V.int .i64 (q : Int), z]])[L2.length]? = some [V.int .i64 (q : Int), z] := fun z => by simp
                    have hBo : ∀ z : V, (L2 ++ [[V.int .i64 (q : Int), z]])[L1.length]? = some [V.int .i64 (p : Int), V.bytes w none] := fun z => by rw [List.getElem?_append_left hLl]; exact hLo
                    have d1 : decide ((q : Int) < (k2 : Int)) = false := decide_eq_false (by omega)
                    have wq1 : IntKind.i64.wrap ((q : Int) + (v.length : Int)) = ((q + v.length : Nat) : Int) := by rw [i64w (by omega) (by omega)]; omega
                    have wq0 : IntKind.i64.wrap ((q : Int) + 0) = (q : Int) := by rw [Int.add_zero, i64w (by omega) (by omega)]
                    have d2 : decide (((p + w.length : Nat) : Int) < ((q + v.length : Nat) : Int)) = false := decide_eq_false (by omega)
                    have d20 : decide (((p + w.length : Nat) : Int) < (q : Int)) = false := decide_eq_false (by omega)
                    have d30 : (x.take q).drop q = [] := List.drop_of_length_le (by rw [List.length_take]; omega)
                    rcases hg2 with hg2 | ⟨hv0, hg2⟩
                    · simp (maxSteps:=2000000) only[bitvec_to_nat,seval,↓tcd,Try.f5,hd2,hg2,hB2,hBo,d1,wq1,wp1,d2,Int.toNat_natCast,gl3]
                      refine ⟨⟨by omega, by omega⟩, by kernel_rfl, ⟨by omega, by omega, by omega⟩, ?_⟩
                      refine awpLoop_intro (α := {g : Nat // k2 ≤ g ∧ g ≤ q}) (fun g => ⟨[.any, .any, .any, .bool true, .bytes x none, .any, .any, .int .i64 ((p + w.length : Nat) : Int), .any, .box L1.length 0, .int .i64 (g.1 : Int), .any, .box L2.length 0, .any, .any, .any, .any, .any, .any, .any, .any, .any, .any, .any, .any, .any, .any, .any, .list 2 M none, .int .i64 (N.length : Int), .int .i64 (i : Int), .any, .any, .any, .any, .any, .any, .any, .any, .any, .any, .any, .any, .any, .any, .any, .any, .any, .any, .any, .any, .any, .any, .any, .any, .any, .any, .any, .any, .any, .any, .any, .any, .any, .any, .any, .any, .any, .any, .any, .any, .any, .any, .any, .any, .any, .any, .any, .any, .any, .any, .any, .any, .any, .any, .any, .any, .any, .any, .any, .any, .any, .any, .any, .any, .any, .any, .any, .any, .any, .any, .list 2 M2 none, .int .i64 (N2.length : Int), .int .i64 (i2 : Int), .any, .any, .any, .any, .any, .any, .any, .any, .any, .any, .any, .any, .any, .any, .any, .any, .any, .any, .any, .any, .any, .any, .any, .any, .any, .any, .any, .any, .any, .any, .any, .any, .any, .any, .any, .any, .any, .any, .any, .any, .any, .any, .any, .any, .any, .any, .any, .any, .any, .any, .any, .any, .any, .any, .any, .any, .any, .any, .any, .any, .any, .any, .any, .any, .any, .any, .any, .any, .any, .any, .any], L2 ++ [[V.int .i64 (q : Int), V.bytes v none]], T2⟩) (fun g => q - g.1) ⟨k2, Nat.le_refl _, gl1⟩ ?_ ?_ (fun q => ⟨Nat.zero_le _, Nat.zero_le _⟩)
                      · simp (maxSteps:=2000000) only[bitvec_to_nat,seval,↓tcd,leLL_refl]
                      · rintro ⟨g, hg1, hg2⟩
                        by_cases hgq : g < q
                        · have dg : decide ((g : Int) < (q : Int)) = true := decide_eq_true (by omega)
                          have hok2 := bl32 (gl4 g hg1 hgq)
                          simp (maxSteps:=2000000) only[bitvec_to_nat,seval,↓tcd,Try.f5,hB2,dg,Int.toNat_natCast,leLL_refl]
                          rw [i64w (by omega) (by omega)]
                          have nx : ∃ a' : {g : Nat // k2 ≤ g ∧ g ≤ q}, (g : Int) + 1 = (a'.1 : Int) ∧ q - a'.1 < q - g := ⟨⟨g + 1, by omega, by omega⟩, by simp, by simp only; omega⟩
                          refine ⟨⟨by omega, by omega⟩, awpIf_intro (fun h => nx) (fun h => ⟨⟨by omega, by omega⟩, awpIf_intro (fun h2 => nx) (fun h2 => ?_)⟩)⟩
                          simp only [decide_eq_false_iff_not] at h h2
                          omega
                        · have dg : decide ((g : Int) < (q : Int)) = false := decide_eq_false (by omega)
                          have eg : q = g := by omega
                          subst eg
                          have wq : IntKind.i64.wrap ((q : Int) + (v.length : Int)) = ((q + v.length : Nat) : Int) := by rw [i64w (by omega) (by omega)]; omega
                          have wi2 : IntKind.i64.wrap ((i2 : Int) + 1) = ((i2 + 1 : Nat) : Int) := by rw [i64w (by omega) (by omega)]; omega
                          simp (maxSteps:=2000000) only[bitvec_to_nat,seval,↓tcd,Try.f5,hB2,dg,Int.toNat_natCast,wq,wi2]
                          refine ⟨⟨((i2 + 1, q + v.length), L2 ++ [[V.int .i64 (q : Int), V.bytes v none]], T2), ⟨by simp only; omega, by simp only; omega⟩, gl5, hBo _⟩, ?_, by simp only; omega⟩
                          simp (maxSteps:=2000000) only[bitvec_to_nat,seval,↓tcd,leLL_refl]
                          all_goals simp
                    · simp (maxSteps:=2000000) only[bitvec_to_nat,seval,↓tcd,Try.f5,hd2,hg2,hB2,hBo,d1,wq0,wp1,d20,Int.toNat_natCast,d30]
                      refine ⟨⟨by omega, by omega⟩, by kernel_rfl, ⟨by omega, by omega, by omega⟩, ?_⟩
                      refine awpLoop_intro (α := {g : Nat // k2 ≤ g ∧ g ≤ q}) (fun g => ⟨[.any, .any, .any, .bool true, .bytes x none, .any, .any, .int .i64 ((p + w.length : Nat) : Int), .any, .box L1.length 0, .int .i64 (g.1 : Int), .any, .box L2.length 0, .any, .any, .any, .any, .any, .any, .any, .any, .any, .any, .any, .any, .any, .any, .any, .list 2 M none, .int .i64 (N.length : Int), .int .i64 (i : Int), .any, .any, .any, .any, .any, .any, .any, .any, .any, .any, .any, .any, .any, .any, .any, .any, .any, .any, .any, .any, .any, .any, .any, .any, .any, .any, .any, .any, .any, .any, .any, .any, .any, .any, .any, .any, .any, .any, .any, .any, .any, .any, .any, .any, .any, .any, .any, .any, .any, .any, .any, .any, .any, .any, .any, .any, .any, .any, .any, .any, .any, .any, .any, .any, .any, .any, .any, .any, .any, .any, .list 2 M2 none, .int .i64 (N2.length : Int), .int .i64 (i2 : Int), .any, .any, .any, .any, .any, .any, .any, .any, .any, .any, .any, .any, .any, .any, .any, .any, .any, .any, .any, .any, .any, .any, .any, .any, .any, .any, .any, .any, .any, .any, .any, .any, .any, .any, .any, .any, .any, .any, .any, .any, .any, .any, .any, .any, .any, .any, .any, .any, .any, .any, .any, .any, .any, .any, .any, .any, .any, .any, .any, .any, .any, .any, .any, .any, .any, .any, .any, .any, .any, .any, .any], L2 ++ [[V.int .i64 (q : Int), V.bytes v none]], T2⟩) (fun g => q - g.1) ⟨k2, Nat.le_refl _, gl1⟩ ?_ ?_ (fun q => ⟨Nat.zero_le _, Nat.zero_le _⟩)
                      · have hle2 : leLL (L2 ++ [[V.int .i64 (q : Int), V.nils]]) (L2 ++ [[V.int .i64 (q : Int), V.bytes v none]]) := leLL_snoc L2 ⟨rfl, ⟨hv0, rfl⟩, trivial⟩
                        have hle2' := eq_true hle2
                        have hll2 : (L2 ++ [[V.int .i64 (q : Int), V.nils]]).length = (L2 ++ [[V.int .i64 (q : Int), V.bytes v none]]).length := by simp
                        simp (maxSteps:=2000000) only[bitvec_to_nat,seval,↓tcd,hle2',hll2]
                      · rintro ⟨g, hg1, hg2⟩
                        by_cases hgq : g < q
                        · have dg : decide ((g : Int) < (q : Int)) = true := decide_eq_true (by omega)
                          have hok2 := bl32 (gl4 g hg1 hgq)
                          simp (maxSteps:=2000000) only[bitvec_to_nat,seval,↓tcd,Try.f5,hB2,dg,Int.toNat_natCast,leLL_refl]
                          rw [i64w (by omega) (by omega)]
                          have nx : ∃ a' : {g : Nat // k2 ≤ g ∧ g ≤ q}, (g : Int) + 1 = (a'.1 : Int) ∧ q - a'.1 < q - g := ⟨⟨g + 1, by omega, by omega⟩, by simp, by simp only; omega⟩
                          refine ⟨⟨by omega, by omega⟩, awpIf_intro (fun h => nx) (fun h => ⟨⟨by omega, by omega⟩, awpIf_intro (fun h2 => nx) (fun h2 => ?_)⟩)⟩
                          simp only [decide_eq_false_iff_not] at h h2
                          omega
                        · have dg : decide ((g : Int) < (q : Int)) = false := decide_eq_false (by omega)
                          have eg : q = g := by omega
                          subst eg
                          have wq : IntKind.i64.wrap ((q : Int) + (v.length : Int)) = ((q + v.length : Nat) : Int) := by rw [i64w (by omega) (by omega)]; omega
                          have wi2 : IntKind.i64.wrap ((i2 : Int) + 1) = ((i2 + 1 : Nat) : Int) := by rw [i64w (by omega) (by omega)]; omega
                          simp (maxSteps:=2000000) only[bitvec_to_nat,seval,↓tcd,Try.f5,hB2,dg,Int.toNat_natCast,wq,wi2]
                          refine ⟨⟨((i2 + 1, q + v.length), L2 ++ [[V.int .i64 (q : Int), V.bytes v none]], T2), ⟨by simp only; omega, by simp only; omega⟩, gl5, hBo _⟩, ?_, by simp only; omega⟩
                          simp (maxSteps:=2000000) only[bitvec_to_nat,seval,↓tcd,leLL_refl]
                          all_goals simp
                  · have hd2 : decide ((i2 : Int) < (N2.length : Int)) = false := decide_eq_false (by omega)
                    have wi : IntKind.i64.wrap ((i : Int) + 1) = ((i + 1 : Nat) : Int) := by rw [i64w (by omega) (by omega)]; omega
                    simp (maxSteps:=2000000) only[bitvec_to_nat,seval,↓tcd,Try.f5,hd2,wi]
                    refine ⟨⟨((i + 1, p + w.length), L2, T2), ⟨by simp only; omega, by simp only; omega⟩, hl5⟩, ?_, by simp only; omega⟩
                    simp (maxSteps:=2000000) only[bitvec_to_nat,seval,↓tcd,leLL_refl]
                    all_goals simp
          · simp (maxSteps:=2000000) only[bitvec_to_nat,seval,↓tcd,Try.f5,hd,hg,hB1,c1,wp0,c20,Int.toNat_natCast,c30]
            refine ⟨⟨by omega, by omega⟩, by kernel_rfl, ⟨by omega, by omega, by omega⟩, ?_⟩
            refine awpLoop_intro (α := {q : Nat // at' ≤ q ∧ q ≤ p}) (fun q => ⟨[.any, .any, .any, .bool true, .bytes x none, .any, .any, .int .i64 (q.1 : Int), .any, .box L1.length 0, .any, .any, .any, .any, .any, .any, .any, .any, .any, .any, .any, .any, .any, .any, .any, .any, .any, .any, .list 2 M none, .int .i64 (N.length : Int), .int .i64 (i : Int), .any, .any, .any, .any, .any, .any, .any, .any, .any, .any, .any, .any, .any, .any, .any, .any, .any, .any, .any, .any, .any, .any, .any, .any, .any, .any, .any, .any, .any, .any, .any, .any, .any, .any, .any, .any, .any, .any, .any, .any, .any, .any, .any, .any, .any, .any, .any, .any, .any, .any, .any, .any, .any, .any, .any, .any, .any, .any, .any, .any, .any, .any, .any, .any, .any, .any, .any, .any, .any, .any, .any, .any, .any, .any, .any, .any, .any, .any, .any, .any, .any, .any, .any, .any, .any, .any, .any, .any, .any, .any, .any, .any, .any, .any, .any, .any, .any, .any, .any, .any, .any, .any, .any, .any, .any, .any, .any, .any, .any, .any, .any, .any, .any, .any, .any, .any, .any, .any, .any, .any, .any, .any, .any, .any, .any, .any, .any, .any, .any, .any, .any, .any, .any, .any, .any, .any, .any, .any, .any, .any, .any, .any, .any, .any], L1 ++ [[V.int .i64 (p : Int), V.bytes w none]], T1⟩) (fun q => p - q.1) ⟨at', Nat.le_refl _, hl1⟩ ?_ ?_ (fun q => ⟨Nat.zero_le _, Nat.zero_le _⟩)
            · have hle : leLL (L1 ++ [[V.int .i64 (p : Int), V.nils]]) (L1 ++ [[V.int .i64 (p : Int), V.bytes w none]]) := leLL_snoc L1 ⟨rfl, ⟨hw0, rfl⟩, trivial⟩
              have hle' := eq_true hle
              have hll : (L1 ++ [[V.int .i64 (p : Int), V.nils]]).length = (L1 ++ [[V.int .i64 (p : Int), V.bytes w none]]).length := by simp
              simp (maxSteps:=2000000) only[bitvec_to_nat,seval,↓tcd,hle',hll]
            · rintro ⟨j, hj1, hj2⟩
              by_cases hjp : j < p
              · have dj : decide ((j : Int) < (p : Int)) = true := decide_eq_true (by omega)
                have hok := ten13 (hl4 j hj1 hjp)
                simp (maxSteps:=2000000) only[bitvec_to_nat,seval,↓tcd,Try.f5,hB1,dj,Int.toNat_natCast,leLL_refl]
                rw [i64w (by omega) (by omega)]
                have nx : ∃ a' : {q : Nat // at' ≤ q ∧ q ≤ p}, (j : Int) + 1 = (a'.1 : Int) ∧ p - a'.1 < p - j := ⟨⟨j + 1, by omega, by omega⟩, by simp, by simp only; omega⟩
                refine ⟨⟨by omega, by omega⟩, awpIf_intro (fun h => nx) (fun h => ⟨⟨by omega, by omega⟩, awpIf_intro (fun h2 => nx) (fun h2 => ?_)⟩)⟩
                simp only [decide_eq_false_iff_not] at h h2
                omega
              · have dj : decide ((j : Int) < (p : Int)) = false := decide_eq_false (by omega)
                have ej : p = j := by omega
                subst ej
                have wcl := lv_clean (wordsF p w)
                have wll := wordsF_len p w
                have wml : ((wordsF p w).map lv).length = (wordsF p w).length := List.length_map _
                have wlaid := words_laid hl2 hl3
                simp (maxSteps:=2000000) only[bitvec_to_nat,seval,↓tcd,Try.f5,hB1,dj,Int.toNat_natCast,wp1,wordsT]
                refine ⟨by kernel_rfl, ⟨wcl, by omega, by omega, by omega⟩, mb _ (by omega), ?_⟩
                have hget2 := sent_get (ls := wordsF p w) (e := p + w.length)
                obtain ⟨M2, hM2⟩ : ∃ M2, M2 = (wordsF p w).map lv ++ [V.agg [V.int .i64 ((p + w.length : Nat) : Int), V.nils]] := ⟨_, rfl⟩
                obtain ⟨N2, hN2⟩ : ∃ N2, N2 = wordsF p w ++ [(p + w.length, [])] := ⟨_, rfl⟩
                have hN2l : N2.length = (wordsF p w).length + 1 := by rw [hN2]; simp
                have hM2l : M2.length = N2.length := by rw [hM2, hN2]; simp
                rw [← hM2, ← hN2] at hget2
                rw [← hN2] at wlaid
                rw [← hM2, hM2l]
                refine awpLoop_intro (α := {q : (Nat × Nat) × LL × TT // (q.1.1 ≤ N2.length ∧ q.1.2 ≤ p + w.length) ∧ Laid isBl x (p + w.length) q.1.2 (N2.drop q.1.1) ∧ q.2.1[L1.length]? = some [V.int .i64 (p : Int), V.bytes w none]}) (fun q => ⟨[.any, .any, .any, .bool true, .bytes x none, .any, .any, .int .i64 ((p + w.length : Nat) : Int), .any, .box L1.length 0, .int .i64 (q.1.1.2 : Int), .any, .any, .any, .any, .any, .any, .any, .any, .any, .any, .any, .any, .any, .any, .any, .any, .any, .list 2 M none, .int .i64 (N.length : Int), .int .i64 (i : Int), .any, .any, .any, .any, .any, .any, .any, .any, .any, .any, .any, .any, .any, .any, .any, .any, .any, .any, .any, .any, .any, .any, .any, .any, .any, .any, .any, .any, .any, .any, .any, .any, .any, .any, .any, .any, .any, .any, .any, .any, .any, .any, .any, .any, .any, .any, .any, .any, .any, .any, .any, .any, .any, .any, .any, .any, .any, .any, .any, .any, .any, .any, .any, .any, .any, .any, .any, .any, .any, .any, .list 2 M2 none, .int .i64 (N2.length : Int), .int .i64 (q.1.1.1 : Int), .any, .any, .any, .any, .any, .any, .any, .any, .any, .any, .any, .any, .any, .any, .any, .any, .any, .any, .any, .any, .any, .any, .any, .any, .any, .any, .any, .any, .any, .any, .any, .any, .any, .any, .any, .any, .any, .any, .any, .any, .any, .any, .any, .any, .any, .any, .any, .any, .any, .any, .any, .any, .any, .any, .any, .any, .any, .any, .any, .any, .any, .any, .any, .any, .any, .any, .any, .any, .any, .any, .any], q.1.2.1, q.1.2.2⟩) (fun q => N2.length - q.1.1.1)
                  ⟨((0, p), L1 ++ [[V.int .i64 (p : Int), V.bytes w none]], (T1 ++ [(((wordsF p w).map lv).length, 31)]).set T1.length (N2.length, 31)), ⟨by simp, by simp⟩, by simpa using wlaid, hB1 _⟩ ?_ ?_ (fun q => ⟨Nat.zero_le _, Nat.zero_le _⟩)
                · simp (maxSteps:=2000000) only[bitvec_to_nat,seval,↓tcd,leLL_refl]
                  all_goals simp
                · rintro ⟨⟨⟨i2, k2⟩, L2, T2⟩, ⟨hi2, hk2⟩, hla2, hLo⟩
                  simp only at hi2 hk2 hla2 hLo
                  have hLl := (List.getElem?_eq_some_iff.1 hLo).1
                  by_cases hlt2 : i2 < N2.length
                  · have hd2 : decide ((i2 : Int) < (N2.length : Int)) = true := decide_eq_true (by omega)
                    obtain ⟨q, v, hq, hg2⟩ := hget2 i2 hlt2
                    have hdr2 : N2.drop i2 = (q, v) :: N2.drop (i2 + 1) := by
                      rw [List.drop_eq_getElem_cons hlt2]
                      rw [List.getElem?_eq_getElem hlt2] at hq
                      rw [Option.some.inj hq]
                    rw [hdr2] at hla2
                    obtain ⟨gl1, gl2, gl3, gl4, gl5⟩ := hla2
                    simp only at gl1 gl2 gl3 gl4 gl5
                    have hB2 : ∀ z : V, (L2 ++ [[V.int .i64 (q : Int), z]])[L2.length]? = some [V.int .i64 (q : Int), z] := fun z => by simp
                    have hBo : ∀ z : V, (L2 ++ [[V.int .i64 (q : Int), z]])[L1.length]? = some [V.int .i64 (p : Int), V.bytes w none] := fun z => by rw [List.getElem?_append_left hLl]; exact hLo
                    have d1 : decide ((q : Int) < (k2 : Int)) = false := decide_eq_false (by omega)
                    have wq1 : IntKind.i64.wrap ((q : Int) + (v.length : Int)) = ((q + v.length : Nat) : Int) := by rw [i64w (by omega) (by omega)]; omega
                    have wq0 : IntKind.i64.wrap ((q : Int) + 0) = (q : Int) := by rw [Int.add_zero, i64w (by omega) (by omega)]
                    have d2 : decide (((p + w.length : Nat) : Int) < ((q + v.length : Nat) : Int)) = false := decide_eq_false (by omega)
                    have d20 : decide (((p + w.length : Nat) : Int) < (q : Int)) = false := decide_eq_false (by omega)
                    have d30 : (x.take q).drop q = [] := List.drop_of_length_le (by rw [List.length_take]; omega)
                    rcases hg2 with hg2 | ⟨hv0, hg2⟩
                    · simp (maxSteps:=2000000) only[bitvec_to_nat,seval,↓tcd,Try.f5,hd2,hg2,hB2,hBo,d1,wq1,wp1,d2,Int.toNat_natCast,gl3]
                      refine ⟨⟨by omega, by omega⟩, by kernel_rfl, ⟨by omega, by omega, by omega⟩, ?_⟩
                      refine awpLoop_intro (α := {g : Nat // k2 ≤ g ∧ g ≤ q}) (fun g => ⟨[.any, .any, .any, .bool true, .bytes x none, .any, .any, .int .i64 ((p + w.length : Nat) : Int), .any, .box L1.length 0, .int .i64 (g.1 : Int), .any, .box L2.length 0, .any, .any, .any, .any, .any, .any, .any, .any, .any, .any, .any, .any, .any, .any, .any, .list 2 M none, .int .i64 (N.length : Int), .int .i64 (i : Int), .any, .any, .any, .any, .any, .any, .any, .any, .any, .any, .any, .any, .any, .any, .any, .any, .any, .any, .any, .any, .any, .any, .any, .any, .any, .any, .any, .any, .any, .any, .any, .any, .any, .any, .any, .any, .any, .any, .any, .any, .any, .any, .any, .any, .any, .any, .any, .any, .any, .any, .any, .any, .any, .any, .any, .any, .any, .any, .any, .any, .any, .any, .any, .any, .any, .any, .any, .any, .any, .any, .list 2 M2 none, .int .i64 (N2.length : Int), .int .i64 (i2 : Int), .any, .any, .any, .any, .any, .any, .any, .any, .any, .any, .any, .any, .any, .any, .any, .any, .any, .any, .any, .any, .any, .any, .any, .any, .any, .any, .any, .any, .any, .any, .any, .any, .any, .any, .any, .any, .any, .any, .any, .any, .any, .any, .any, .any, .any, .any, .any, .any, .any, .any, .any, .any, .any, .any, .any, .any, .any, .any, .any, .any, .any, .any, .any, .any, .any, .any, .any, .any, .any, .any, .any], L2 ++ [[V.int .i64 (q : Int), V.bytes v none]], T2⟩) (fun g => q - g.1) ⟨k2, Nat.le_refl _, gl1⟩ ?_ ?_ (fun q => ⟨Nat.zero_le _, Nat.zero_le _⟩)
                      · simp (maxSteps:=2000000) only[bitvec_to_nat,seval,↓tcd,leLL_refl]
                      · rintro ⟨g, hg1, hg2⟩
                        by_cases hgq : g < q
                        · have dg : decide ((g : Int) < (q : Int)) = true := decide_eq_true (by omega)
                          have hok2 := bl32 (gl4 g hg1 hgq)
                          simp (maxSteps:=2000000) only[bitvec_to_nat,seval,↓tcd,Try.f5,hB2,dg,Int.toNat_natCast,leLL_refl]
                          rw [i64w (by omega) (by omega)]
                          have nx : ∃ a' : {g : Nat // k2 ≤ g ∧ g ≤ q}, (g : Int) + 1 = (a'.1 : Int) ∧ q - a'.1 < q - g := ⟨⟨g + 1, by omega, by omega⟩, by simp, by simp only; omega⟩
                          refine ⟨⟨by omega, by omega⟩, awpIf_intro (fun h => nx) (fun h => ⟨⟨by omega, by omega⟩, awpIf_intro (fun h2 => nx) (fun h2 => ?_)⟩)⟩
                          simp only [decide_eq_false_iff_not] at h h2
                          omega
                        · have dg : decide ((g : Int) < (q : Int)) = false := decide_eq_false (by omega)
                          have eg : q = g := by omega
                          subst eg
                          have wq : IntKind.i64.wrap ((q : Int) + (v.length : Int)) = ((q + v.length : Nat) : Int) := by rw [i64w (by omega) (by omega)]; omega
                          have wi2 : IntKind.i64.wrap ((i2 : Int) + 1) = ((i2 + 1 : Nat) : Int) := by rw [i64w (by omega) (by omega)]; omega
                          simp (maxSteps:=2000000) only[bitvec_to_nat,seval,↓tcd,Try.f5,hB2,dg,Int.toNat_natCast,wq,wi2]
                          refine ⟨⟨((i2 + 1, q + v.length), L2 ++ [[V.int .i64 (q : Int), V.bytes v none]], T2), ⟨by simp only; omega, by simp only; omega⟩, gl5, hBo _⟩, ?_, by simp only; omega⟩
                          simp (maxSteps:=2000000) only[bitvec_to_nat,seval,↓tcd,leLL_refl]
                          all_goals simp
                    · simp (maxSteps:=2000000) only[bitvec_to_nat,seval,↓tcd,Try.f5,hd2,hg2,hB2,hBo,d1,wq0,wp1,d20,Int.toNat_natCast,d30]
                      refine ⟨⟨by omega, by omega⟩, by kernel_rfl, ⟨by omega, by omega, by omega⟩, ?_⟩
                      refine awpLoop_intro (α := {g : Nat // k2 ≤ g ∧ g ≤ q}) (fun g => ⟨[.any, .any, .any, .bool true, .bytes x none, .any, .any, .int .i64 ((p + w.length : Nat) : Int), .any, .box L1.length 0, .int .i64 (g.1 : Int), .any, .box L2.length 0, .any, .any, .any, .any, .any, .any, .any, .any, .any, .any, .any, .any, .any, .any, .any, .list 2 M none, .int .i64 (N.length : Int), .int .i64 (i : Int), .any, .any, .any, .any, .any, .any, .any, .any, .any, .any, .any, .any, .any, .any, .any, .any, .any, .any, .any, .any, .any, .any, .any, .any, .any, .any, .any, .any, .any, .any, .any, .any, .any, .any, .any, .any, .any, .any, .any, .any, .any, .any, .any, .any, .any, .any, .any, .any, .any, .any, .any, .any, .any, .any, .any, .any, .any, .any, .any, .any, .any, .any, .any, .any, .any, .any, .any, .any, .any, .any, .list 2 M2 none, .int .i64 (N2.length : Int), .int .i64 (i2 : Int), .any, .any, .any, .any, .any, .any, .any, .any, .any, .any, .any, .any, .any, .any, .any, .any, .any, .any, .any, .any, .any, .any, .any, .any, .any, .any, .any, .any, .any, .any, .any, .any, .any, .any, .any, .any, .any, .any, .any, .any, .any, .any, .any, .any, .any, .any, .any, .any, .any, .any, .any, .any, .any, .any, .any, .any, .any, .any, .any, .any, .any, .any, .any, .any, .any, .any, .any, .any, .any, .any, .any], L2 ++ [[V.int .i64 (q : Int), V.bytes v none]], T2⟩) (fun g => q - g.1) ⟨k2, Nat.le_refl _, gl1⟩ ?_ ?_ (fun q => ⟨Nat.zero_le _, Nat.zero_le _⟩)
                      · have hle2 : leLL (L2 ++ [[V.int .i64 (q : Int), V.nils]]) (L2 ++ [[V.int .i64 (q : Int), V.bytes v none]]) := leLL_snoc L2 ⟨rfl, ⟨hv0, rfl⟩, trivial⟩
                        have hle2' := eq_true hle2
                        have hll2 : (L2 ++ [[V.int .i64 (q : Int), V.nils]]).length = (L2 ++ [[V.int .i64 (q : Int), V.bytes v none]]).length := by simp
                        simp (maxSteps:=2000000) only[bitvec_to_nat,seval,↓tcd,hle2',hll2]
                      · rintro ⟨g, hg1, hg2⟩
                        by_cases hgq : g < q
                        · have dg : decide ((g : Int) < (q : Int)) = true := decide_eq_true (by omega)
                          have hok2 := bl32 (gl4 g hg1 hgq)
                          simp (maxSteps:=2000000) only[bitvec_to_nat,seval,↓tcd,Try.f5,hB2,dg,Int.toNat_natCast,leLL_refl]
                          rw [i64w (by omega) (by omega)]
                          have nx : ∃ a' : {g : Nat // k2 ≤ g ∧ g ≤ q}, (g : Int) + 1 = (a'.1 : Int) ∧ q - a'.1 < q - g := ⟨⟨g + 1, by omega, by omega⟩, by simp, by simp only; omega⟩
                          refine ⟨⟨by omega, by omega⟩, awpIf_intro (fun h => nx) (fun h => ⟨⟨by omega, by omega⟩, awpIf_intro (fun h2 => nx) (fun h2 => ?_)⟩)⟩
                          simp only [decide_eq_false_iff_not] at h h2
                          omega
                        · have dg : decide ((g : Int) < (q : Int)) = false := decide_eq_false (by omega)
                          have eg : q = g := by omega
                          subst eg
                          have wq : IntKind.i64.wrap ((q : Int) + (v.length : Int)) = ((q + v.length : Nat) : Int) := by rw [i64w (by omega) (by omega)]; omega
                          have wi2 : IntKind.i64.wrap ((i2 : Int) + 1) = ((i2 + 1 : Nat) : Int) := by rw [i64w (by omega) (by omega)]; omega
                          simp (maxSteps:=2000000) only[bitvec_to_nat,seval,↓tcd,Try.f5,hB2,dg,Int.toNat_natCast,wq,wi2]
                          refine ⟨⟨((i2 + 1, q + v.length), L2 ++ [[V.int .i64 (q : Int), V.bytes v none]], T2), ⟨by simp only; omega, by simp only; omega⟩, gl5, hBo _⟩, ?_, by simp only; omega⟩
                          simp (maxSteps:=2000000) only[bitvec_to_nat,seval,↓tcd,leLL_refl]
                          all_goals simp
                  · have hd2 : decide ((i2 : Int) < (N2.length : Int)) = false := decide_eq_false (by omega)
                    have wi : IntKind.i64.wrap ((i : Int) + 1) = ((i + 1 : Nat) : Int) := by rw [i64w (by omega) (by omega)]; omega
                    simp (maxSteps:=2000000) only[bitvec_to_nat,seval,↓tcd,Try.f5,hd2,wi]
                    refine ⟨⟨((i + 1, p + w.length), L2, T2), ⟨by simp only; omega, by simp only; omega⟩, hl5⟩, ?_, by simp only; omega⟩
                    simp (maxSteps:=2000000) only[bitvec_to_nat,seval,↓tcd,leLL_refl]
                    all_goals simp
        · have hd : decide ((i : Int) < (N.length : Int)) = false := decide_eq_false (by omega)
          have e : i = N.length := by omega
          rw [e, List.drop_length] at hla
          have e2 : at' = x.length := hla
          have hde : decide ((at' : Int) = (x.length : Int)) = true := decide_eq_true (by omega)
          simp (maxSteps:=2000000) only[bitvec_to_nat,seval,↓tcd,Try.f5,hd,hde]
    · obtain ⟨o1, o2⟩ := out_some' hn
      simp (maxSteps:=2000000) only[bitvec_to_nat,seval,↓tcd,Try.f5,shownM,fewM,lawListT,← hx,← hls,o1,o2]
      rw [← hM, hMl]
      have hml : (ls.map lv).length = ls.length := List.length_map _
      refine ⟨⟨hcl, by omega⟩, ⟨by simp, mb _ (by omega)⟩, ?_⟩
      obtain ⟨T0, hT0⟩ : ∃ T0 : TT, T0 = [(N.length, 31), (1, 31)] := ⟨_, rfl⟩
      rw [← hT0]
      refine awpLoop_intro (α := {q : (Nat × Nat) × LL × TT // (q.1.1 ≤ N.length ∧ q.1.2 ≤ x.length) ∧ Laid lineEnd x x.length q.1.2 (N.drop q.1.1)}) (fun q => ⟨[.any, .any, .any, .bool true, .bytes x none, .any, .any, .int .i64 (q.1.1.2 : Int), .any, .any, .any, .any, .any, .any, .any, .any, .any, .any, .any, .any, .any, .any, .any, .any, .any, .any, .any, .any, .list 2 M none, .int .i64 (N.length : Int), .int .i64 (q.1.1.1 : Int), .any, .any, .any, .any, .any, .any, .any, .any, .any, .any, .any, .any, .any, .any, .any, .any, .any, .any, .any, .any, .any, .any, .any, .any, .any, .any, .any, .any, .any, .any, .any, .any, .any, .any, .any, .any, .any, .any, .any, .any, .any, .any, .any, .any, .any, .any, .any, .any, .any, .any, .any, .any, .any, .any, .any, .any, .any, .any, .any, .any, .any, .any, .any, .any, .any, .any, .any, .any, .any, .any, .any, .any, .any, .any, .any, .any, .any, .any, .any, .any, .any, .any, .any, .any, .any, .any, .any, .any, .any, .any, .any, .any, .any, .any, .any, .any, .any, .any, .any, .any, .any, .any, .any, .any, .any, .any, .any, .any, .any, .any, .any, .any, .any, .any, .any, .any, .any, .any, .any, .any, .any, .any, .any, .any, .any, .any, .any, .any, .any, .any, .any, .any, .any, .any, .any, .any, .any, .any, .any, .any, .any, .any, .any, .any], q.1.2.1, q.1.2.2⟩) (fun q => N.length - q.1.1.1)
        ⟨((0, 0), [], T0), ⟨by simp, by simp⟩, by simpa using hlaid⟩ ?_ ?_ (fun q => ⟨Nat.zero_le _, Nat.zero_le _⟩)
      · simp (maxSteps:=2000000) only[bitvec_to_nat,seval,↓tcd,leLL_refl]
        all_goals simp
      · rintro ⟨⟨⟨i, at'⟩, L1, T1⟩, ⟨hi, hat⟩, hla⟩
        simp only at hi hat hla
        by_cases hlt : i < N.length
        · have hd : decide ((i : Int) < (N.length : Int)) = true := decide_eq_true (by omega)
          obtain ⟨p, w, hp, hg⟩ := hget i hlt
          have hdr : N.drop i = (p, w) :: N.drop (i + 1) := by
            rw [List.drop_eq_getElem_cons hlt]
            rw [List.getElem?_eq_getElem hlt] at hp
            rw [Option.some.inj hp]
          rw [hdr] at hla
          obtain ⟨hl1, hl2, hl3, hl4, hl5⟩ := hla
          simp only at hl1 hl2 hl3 hl4 hl5
          have hB1 : ∀ z : V, (L1 ++ [[V.int .i64 (p : Int), z]])[L1.length]? = some [V.int .i64 (p : Int), z] := fun z => by simp
          have c1 : decide ((p : Int) < (at' : Int)) = false := decide_eq_false (by omega)
          have wp : ∀ n : Nat, n ≤ 1000 → IntKind.i64.wrap ((p : Int) + (n : Int)) = ((p + n : Nat) : Int) := fun n hn => by rw [i64w (by omega) (by omega)]; omega
          have wp1 := wp w.length (by omega)
          have wp0 : IntKind.i64.wrap ((p : Int) + 0) = (p : Int) := by rw [Int.add_zero, i64w (by omega) (by omega)]
          have c2 : decide ((x.length : Int) < ((p + w.length : Nat) : Int)) = false := decide_eq_false (by omega)
          have c20 : decide ((x.length : Int) < (p : Int)) = false := decide_eq_false (by omega)
          have c30 : (x.take p).drop p = [] := List.drop_of_length_le (by rw [List.length_take]; omega)
          rcases hg with hg | ⟨hw0, hg⟩
          · simp (maxSteps:=2000000) only[bitvec_to_nat,seval,↓tcd,Try.f5,hd,hg,hB1,c1,wp1,c2,Int.toNat_natCast,hl3]
            refine ⟨⟨by omega, by omega⟩, by kernel_rfl, ⟨by omega, by omega, by omega⟩, ?_⟩
            refine awpLoop_intro (α := {q : Nat // at' ≤ q ∧ q ≤ p}) (fun q => ⟨[.any, .any, .any, .bool true, .bytes x none, .any, .any, .int .i64 (q.1 : Int), .any, .box L1.length 0, .any, .any, .any, .any, .any, .any, .any, .any, .any, .any, .any, .any, .any, .any, .any, .any, .any, .any, .list 2 M none, .int .i64 (N.length : Int), .int .i64 (i : Int), .any, .any, .any, .any, .any, .any, .any, .any, .any, .any, .any, .any, .any, .any, .any, .any, .any, .any, .any, .any, .any, .any, .any, .any, .any, .any, .any, .any, .any, .any, .any, .any, .any, .any, .any, .any, .any, .any, .any, .any, .any, .any, .any, .any, .any, .any, .any, .any, .any, .any, .any, .any, .any, .any, .any, .any, .any, .any, .any, .any, .any, .any, .any, .any, .any, .any, .any, .any, .any, .any, .any, .any, .any, .any, .any, .any, .any, .any, .any, .any, .any, .any, .any, .any, .any, .any, .any, .any, .any, .any, .any, .any, .any, .any, .any, .any, .any, .any, .any, .any, .any, .any, .any, .any, .any, .any, .any, .any, .any, .any, .any, .any, .any, .any, .any, .any, .any, .any, .any, .any, .any, .any, .any, .any, .any, .any, .any, .any, .any, .any, .any, .any, .any, .any, .any, .any, .any, .any, .any, .any, .any, .any, .any, .any], L1 ++ [[V.int .i64 (p : Int), V.bytes w none]], T1⟩) (fun q => p - q.1) ⟨at', Nat.le_refl _, hl1⟩ ?_ ?_ (fun q => ⟨Nat.zero_le _, Nat.zero_le _⟩)
            · simp (maxSteps:=2000000) only[bitvec_to_nat,seval,↓tcd,leLL_refl]
              all_goals simp
            · rintro ⟨j, hj1, hj2⟩
              by_cases hjp : j < p
              · have dj : decide ((j : Int) < (p : Int)) = true := decide_eq_true (by omega)
                have hok := ten13 (hl4 j hj1 hjp)
                simp (maxSteps:=2000000) only[bitvec_to_nat,seval,↓tcd,Try.f5,hB1,dj,Int.toNat_natCast,leLL_refl]
                rw [i64w (by omega) (by omega)]
                have nx : ∃ a' : {q : Nat // at' ≤ q ∧ q ≤ p}, (j : Int) + 1 = (a'.1 : Int) ∧ p - a'.1 < p - j := ⟨⟨j + 1, by omega, by omega⟩, by simp, by simp only; omega⟩
                refine ⟨⟨by omega, by omega⟩, awpIf_intro (fun h => nx) (fun h => ⟨⟨by omega, by omega⟩, awpIf_intro (fun h2 => nx) (fun h2 => ?_)⟩)⟩
                simp only [decide_eq_false_iff_not] at h h2
                omega
              · have dj : decide ((j : Int) < (p : Int)) = false := decide_eq_false (by omega)
                have ej : p = j := by omega
                subst ej
                have wcl := lv_clean (wordsF p w)
                have wll := wordsF_len p w
                have wml : ((wordsF p w).map lv).length = (wordsF p w).length := List.length_map _
                have wlaid := words_laid hl2 hl3
                simp (maxSteps:=2000000) only[bitvec_to_nat,seval,↓tcd,Try.f5,hB1,dj,Int.toNat_natCast,wp1,wordsT]
                refine ⟨by kernel_rfl, ⟨wcl, by omega, by omega, by omega⟩, mb _ (by omega), ?_⟩
                have hget2 := sent_get (ls := wordsF p w) (e := p + w.length)
                obtain ⟨M2, hM2⟩ : ∃ M2, M2 = (wordsF p w).map lv ++ [V.agg [V.int .i64 ((p + w.length : Nat) : Int), V.nils]] := ⟨_, rfl⟩
                obtain ⟨N2, hN2⟩ : ∃ N2, N2 = wordsF p w ++ [(p + w.length, [])] := ⟨_, rfl⟩
                have hN2l : N2.length = (wordsF p w).length + 1 := by rw [hN2]; simp
                have hM2l : M2.length = N2.length := by rw [hM2, hN2]; simp
                rw [← hM2, ← hN2] at hget2
                rw [← hN2] at wlaid
                rw [← hM2, hM2l]
                refine awpLoop_intro (α := {q : (Nat × Nat) × LL × TT // (q.1.1 ≤ N2.length ∧ q.1.2 ≤ p + w.length) ∧ Laid isBl x (p + w.length) q.1.2 (N2.drop q.1.1) ∧ q.2.1[L1.length]? = some [V.int .i64 (p : Int), V.bytes w none]}) (fun q => ⟨[.any, .any, .any, .bool true, .bytes x none, .any, .any, .int .i64 ((p + w.length : Nat) : Int), .any, .box L1.length 0, .int .i64 (q.1.1.2 : Int), .any, .any, .any, .any, .any, .any, .any, .any, .any, .any, .any, .any, .any, .any, .any, .any, .any, .list 2 M none, .int .i64 (N.length : Int), .int .i64 (i : Int), .any, .any, .any, .any, .any, .any, .any, .any, .any, .any, .any, .any, .any, .any, .any, .any, .any, .any, .any, .any, .any, .any, .any, .any, .any, .any, .any, .any, .any, .any, .any, .any, .any, .any, .any, .any, .any, .any, .any, .any, .any, .any, .any, .any, .any, .any, .any, .any, .any, .any, .any, .any, .any, .any, .any, .any, .any, .any, .any, .any, .any, .any, .any, .any, .any, .any, .any, .any, .any, .any, .list 2 M2 none, .int .i64 (N2.length : Int), .int .i64 (q.1.1.1 : Int), .any, .any, .any, .any, .any, .any, .any, .any, .any, .any, .any, .any, .any, .any, .any, .any, .any, .any, .any, .any, .any, .any, .any, .any, .any, .any, .any, .any, .any, .any, .any, .any, .any, .any, .any, .any, .any, .any, .any, .any, .any, .any, .any, .any, .any, .any, .any, .any, .any, .any, .any, .any, .any, .any, .any, .any, .any, .any, .any, .any, .any, .any, .any, .any, .any, .any, .any, .any, .any, .any, .any], q.1.2.1, q.1.2.2⟩) (fun q => N2.length - q.1.1.1)
                  ⟨((0, p), L1 ++ [[V.int .i64 (p : Int), V.bytes w none]], (T1 ++ [(((wordsF p w).map lv).length, 31)]).set T1.length (N2.length, 31)), ⟨by simp, by simp⟩, by simpa using wlaid, hB1 _⟩ ?_ ?_ (fun q => ⟨Nat.zero_le _, Nat.zero_le _⟩)
                · simp (maxSteps:=2000000) only[bitvec_to_nat,seval,↓tcd,leLL_refl]
                  all_goals simp
                · rintro ⟨⟨⟨i2, k2⟩, L2, T2⟩, ⟨hi2, hk2⟩, hla2, hLo⟩
                  simp only at hi2 hk2 hla2 hLo
                  have hLl := (List.getElem?_eq_some_iff.1 hLo).1
                  by_cases hlt2 : i2 < N2.length
                  · have hd2 : decide ((i2 : Int) < (N2.length : Int)) = true := decide_eq_true (by omega)
                    obtain ⟨q, v, hq, hg2⟩ := hget2 i2 hlt2
                    have hdr2 : N2.drop i2 = (q, v) :: N2.drop (i2 + 1) := by
                      rw [List.drop_eq_getElem_cons hlt2]
                      rw [List.getElem?_eq_getElem hlt2] at hq
                      rw [Option.some.inj hq]
                    rw [hdr2] at hla2
                    obtain ⟨gl1, gl2, gl3, gl4, gl5⟩ := hla2
                    simp only at gl1 gl2 gl3 gl4 gl5
                    have hB2 : ∀ z : V, (L2 ++ [[V.int .i64 (q : Int), z]])[L2.length]? = some [V.int .i64 (q : Int), z] := fun z => by simp
                    have hBo : ∀ z : V, (L2 ++ [[V.int .i64 (q : Int), z]])[L1.length]? = some [V.int .i64 (p : Int), V.bytes w none] := fun z => by rw [List.getElem?_append_left hLl]; exact hLo
                    have d1 : decide ((q : Int) < (k2 : Int)) = false := decide_eq_false (by omega)
                    have wq1 : IntKind.i64.wrap ((q : Int) + (v.length : Int)) = ((q + v.length : Nat) : Int) := by rw [i64w (by omega) (by omega)]; omega
                    have wq0 : IntKind.i64.wrap ((q : Int) + 0) = (q : Int) := by rw [Int.add_zero, i64w (by omega) (by omega)]
                    have d2 : decide (((p + w.length : Nat) : Int) < ((q + v.length : Nat) : Int)) = false := decide_eq_false (by omega)
                    have d20 : decide (((p + w.length : Nat) : Int) < (q : Int)) = false := decide_eq_false (by omega)
                    have d30 : (x.take q).drop q = [] := List.drop_of_length_le (by rw [List.length_take]; omega)
                    rcases hg2 with hg2 | ⟨hv0, hg2⟩
                    · simp (maxSteps:=2000000) only[bitvec_to_nat,seval,↓tcd,Try.f5,hd2,hg2,hB2,hBo,d1,wq1,wp1,d2,Int.toNat_natCast,gl3]
                      refine ⟨⟨by omega, by omega⟩, by kernel_rfl, ⟨by omega, by omega, by omega⟩, ?_⟩
                      refine awpLoop_intro (α := {g : Nat // k2 ≤ g ∧ g ≤ q}) (fun g => ⟨[.any, .any, .any, .bool true, .bytes x none, .any, .any, .int .i64 ((p + w.length : Nat) : Int), .any, .box L1.length 0, .int .i64 (g.1 : Int), .any, .box L2.length 0, .any, .any, .any, .any, .any, .any, .any, .any, .any, .any, .any, .any, .any, .any, .any, .list 2 M none, .int .i64 (N.length : Int), .int .i64 (i : Int), .any, .any, .any, .any, .any, .any, .any, .any, .any, .any, .any, .any, .any, .any, .any, .any, .any, .any, .any, .any, .any, .any, .any, .any, .any, .any, .any, .any, .any, .any, .any, .any, .any, .any, .any, .any, .any, .any, .any, .any, .any, .any, .any, .any, .any, .any, .any, .any, .any, .any, .any, .any, .any, .any, .any, .any, .any, .any, .any, .any, .any, .any, .any, .any, .any, .any, .any, .any, .any, .any, .list 2 M2 none, .int .i64 (N2.length : Int), .int .i64 (i2 : Int), .any, .any, .any, .any, .any, .any, .any, .any, .any, .any, .any, .any, .any, .any, .any, .any, .any, .any, .any, .any, .any, .any, .any, .any, .any, .any, .any, .any, .any, .any, .any, .any, .any, .any, .any, .any, .any, .any, .any, .any, .any, .any, .any, .any, .any, .any, .any, .any, .any, .any, .any, .any, .any, .any, .any, .any, .any, .any, .any, .any, .any, .any, .any, .any, .any, .any, .any, .any, .any, .any, .any], L2 ++ [[V.int .i64 (q : Int), V.bytes v none]], T2⟩) (fun g => q - g.1) ⟨k2, Nat.le_refl _, gl1⟩ ?_ ?_ (fun q => ⟨Nat.zero_le _, Nat.zero_le _⟩)
                      · simp (maxSteps:=2000000) only[bitvec_to_nat,seval,↓tcd,leLL_refl]
                      · rintro ⟨g, hg1, hg2⟩
                        by_cases hgq : g < q
                        · have dg : decide ((g : Int) < (q : Int)) = true := decide_eq_true (by omega)
                          have hok2 := bl32 (gl4 g hg1 hgq)
                          simp (maxSteps:=2000000) only[bitvec_to_nat,seval,↓tcd,Try.f5,hB2,dg,Int.toNat_natCast,leLL_refl]
                          rw [i64w (by omega) (by omega)]
                          have nx : ∃ a' : {g : Nat // k2 ≤ g ∧ g ≤ q}, (g : Int) + 1 = (a'.1 : Int) ∧ q - a'.1 < q - g := ⟨⟨g + 1, by omega, by omega⟩, by simp, by simp only; omega⟩
                          refine ⟨⟨by omega, by omega⟩, awpIf_intro (fun h => nx) (fun h => ⟨⟨by omega, by omega⟩, awpIf_intro (fun h2 => nx) (fun h2 => ?_)⟩)⟩
                          simp only [decide_eq_false_iff_not] at h h2
                          omega
                        · have dg : decide ((g : Int) < (q : Int)) = false := decide_eq_false (by omega)
                          have eg : q = g := by omega
                          subst eg
                          have wq : IntKind.i64.wrap ((q : Int) + (v.length : Int)) = ((q + v.length : Nat) : Int) := by rw [i64w (by omega) (by omega)]; omega
                          have wi2 : IntKind.i64.wrap ((i2 : Int) + 1) = ((i2 + 1 : Nat) : Int) := by rw [i64w (by omega) (by omega)]; omega
                          simp (maxSteps:=2000000) only[bitvec_to_nat,seval,↓tcd,Try.f5,hB2,dg,Int.toNat_natCast,wq,wi2]
                          refine ⟨⟨((i2 + 1, q + v.length), L2 ++ [[V.int .i64 (q : Int), V.bytes v none]], T2), ⟨by simp only; omega, by simp only; omega⟩, gl5, hBo _⟩, ?_, by simp only; omega⟩
                          simp (maxSteps:=2000000) only[bitvec_to_nat,seval,↓tcd,leLL_refl]
                          all_goals simp
                    · simp (maxSteps:=2000000) only[bitvec_to_nat,seval,↓tcd,Try.f5,hd2,hg2,hB2,hBo,d1,wq0,wp1,d20,Int.toNat_natCast,d30]
                      refine ⟨⟨by omega, by omega⟩, by kernel_rfl, ⟨by omega, by omega, by omega⟩, ?_⟩
                      refine awpLoop_intro (α := {g : Nat // k2 ≤ g ∧ g ≤ q}) (fun g => ⟨[.any, .any, .any, .bool true, .bytes x none, .any, .any, .int .i64 ((p + w.length : Nat) : Int), .any, .box L1.length 0, .int .i64 (g.1 : Int), .any, .box L2.length 0, .any, .any, .any, .any, .any, .any, .any, .any, .any, .any, .any, .any, .any, .any, .any, .list 2 M none, .int .i64 (N.length : Int), .int .i64 (i : Int), .any, .any, .any, .any, .any, .any, .any, .any, .any, .any, .any, .any, .any, .any, .any, .any, .any, .any, .any, .any, .any, .any, .any, .any, .any, .any, .any, .any, .any, .any, .any, .any, .any, .any, .any, .any, .any, .any, .any, .any, .any, .any, .any, .any, .any, .any, .any, .any, .any, .any, .any, .any, .any, .any, .any, .any, .any, .any, .any, .any, .any, .any, .any, .any, .any, .any, .any, .any, .any, .any, .list 2 M2 none, .int .i64 (N2.length : Int), .int .i64 (i2 : Int), .any, .any, .any, .any, .any, .any, .any, .any, .any, .any, .any, .any, .any, .any, .any, .any, .any, .any, .any, .any, .any, .any, .any, .any, .any, .any, .any, .any, .any, .any, .any, .any, .any, .any, .any, .any, .any, .any, .any, .any, .any, .any, .any, .any, .any, .any, .any, .any, .any, .any, .any, .any, .any, .any, .any, .any, .any, .any, .any, .any, .any, .any, .any, .any, .any, .any, .any, .any, .any, .any, .any], L2 ++ [[V.int .i64 (q : Int), V.bytes v none]], T2⟩) (fun g => q - g.1) ⟨k2, Nat.le_refl _, gl1⟩ ?_ ?_ (fun q => ⟨Nat.zero_le _, Nat.zero_le _⟩)
                      · have hle2 : leLL (L2 ++ [[V.int .i64 (q : Int), V.nils]]) (L2 ++ [[V.int .i64 (q : Int), V.bytes v none]]) := leLL_snoc L2 ⟨rfl, ⟨hv0, rfl⟩, trivial⟩
                        have hle2' := eq_true hle2
                        have hll2 : (L2 ++ [[V.int .i64 (q : Int), V.nils]]).length = (L2 ++ [[V.int .i64 (q : Int), V.bytes v none]]).length := by simp
                        simp (maxSteps:=2000000) only[bitvec_to_nat,seval,↓tcd,hle2',hll2]
                      · rintro ⟨g, hg1, hg2⟩
                        by_cases hgq : g < q
                        · have dg : decide ((g : Int) < (q : Int)) = true := decide_eq_true (by omega)
                          have hok2 := bl32 (gl4 g hg1 hgq)
                          simp (maxSteps:=2000000) only[bitvec_to_nat,seval,↓tcd,Try.f5,hB2,dg,Int.toNat_natCast,leLL_refl]
                          rw [i64w (by omega) (by omega)]
                          have nx : ∃ a' : {g : Nat // k2 ≤ g ∧ g ≤ q}, (g : Int) + 1 = (a'.1 : Int) ∧ q - a'.1 < q - g := ⟨⟨g + 1, by omega, by omega⟩, by simp, by simp only; omega⟩
                          refine ⟨⟨by omega, by omega⟩, awpIf_intro (fun h => nx) (fun h => ⟨⟨by omega, by omega⟩, awpIf_intro (fun h2 => nx) (fun h2 => ?_)⟩)⟩
                          simp only [decide_eq_false_iff_not] at h h2
                          omega
                        · have dg : decide ((g : Int) < (q : Int)) = false := decide_eq_false (by omega)
                          have eg : q = g := by omega
                          subst eg
                          have wq : IntKind.i64.wrap ((q : Int) + (v.length : Int)) = ((q + v.length : Nat) : Int) := by rw [i64w (by omega) (by omega)]; omega
                          have wi2 : IntKind.i64.wrap ((i2 : Int) + 1) = ((i2 + 1 : Nat) : Int) := by rw [i64w (by omega) (by omega)]; omega
                          simp (maxSteps:=2000000) only[bitvec_to_nat,seval,↓tcd,Try.f5,hB2,dg,Int.toNat_natCast,wq,wi2]
                          refine ⟨⟨((i2 + 1, q + v.length), L2 ++ [[V.int .i64 (q : Int), V.bytes v none]], T2), ⟨by simp only; omega, by simp only; omega⟩, gl5, hBo _⟩, ?_, by simp only; omega⟩
                          simp (maxSteps:=2000000) only[bitvec_to_nat,seval,↓tcd,leLL_refl]
                          all_goals simp
                  · have hd2 : decide ((i2 : Int) < (N2.length : Int)) = false := decide_eq_false (by omega)
                    have wi : IntKind.i64.wrap ((i : Int) + 1) = ((i + 1 : Nat) : Int) := by rw [i64w (by omega) (by omega)]; omega
                    simp (maxSteps:=2000000) only[bitvec_to_nat,seval,↓tcd,Try.f5,hd2,wi]
                    refine ⟨⟨((i + 1, p + w.length), L2, T2), ⟨by simp only; omega, by simp only; omega⟩, hl5⟩, ?_, by simp only; omega⟩
                    simp (maxSteps:=2000000) only[bitvec_to_nat,seval,↓tcd,leLL_refl]
                    all_goals simp
          · simp (maxSteps:=2000000) only[bitvec_to_nat,seval,↓tcd,Try.f5,hd,hg,hB1,c1,wp0,c20,Int.toNat_natCast,c30]
            refine ⟨⟨by omega, by omega⟩, by kernel_rfl, ⟨by omega, by omega, by omega⟩, ?_⟩
            refine awpLoop_intro (α := {q : Nat // at' ≤ q ∧ q ≤ p}) (fun q => ⟨[.any, .any, .any, .bool true, .bytes x none, .any, .any, .int .i64 (q.1 : Int), .any, .box L1.length 0, .any, .any, .any, .any, .any, .any, .any, .any, .any, .any, .any, .any, .any, .any, .any, .any, .any, .any, .list 2 M none, .int .i64 (N.length : Int), .int .i64 (i : Int), .any, .any, .any, .any, .any, .any, .any, .any, .any, .any, .any, .any, .any, .any, .any, .any, .any, .any, .any, .any, .any, .any, .any, .any, .any, .any, .any, .any, .any, .any, .any, .any, .any, .any, .any, .any, .any, .any, .any, .any, .any, .any, .any, .any, .any, .any, .any, .any, .any, .any, .any, .any, .any, .any, .any, .any, .any, .any, .any, .any, .any, .any, .any, .any, .any, .any, .any, .any, .any, .any, .any, .any, .any, .any, .any, .any, .any, .any, .any, .any, .any, .any, .any, .any, .any, .any, .any, .any, .any, .any, .any, .any, .any, .any, .any, .any, .any, .any, .any, .any, .any, .any, .any, .any, .any, .any, .any, .any, .any, .any, .any, .any, .any, .any, .any, .any, .any, .any, .any, .any, .any, .any, .any, .any, .any, .any, .any, .any, .any, .any, .any, .any, .any, .any, .any, .any, .any, .any, .any, .any, .any, .any, .any, .any], L1 ++ [[V.int .i64 (p : Int), V.bytes w none]], T1⟩) (fun q => p - q.1) ⟨at', Nat.le_refl _, hl1⟩ ?_ ?_ (fun q => ⟨Nat.zero_le _, Nat.zero_le _⟩)
            · have hle : leLL (L1 ++ [[V.int .i64 (p : Int), V.nils]]) (L1 ++ [[V.int .i64 (p : Int), V.bytes w none]]) := leLL_snoc L1 ⟨rfl, ⟨hw0, rfl⟩, trivial⟩
              have hle' := eq_true hle
              have hll : (L1 ++ [[V.int .i64 (p : Int), V.nils]]).length = (L1 ++ [[V.int .i64 (p : Int), V.bytes w none]]).length := by simp
              simp (maxSteps:=2000000) only[bitvec_to_nat,seval,↓tcd,hle',hll]
            · rintro ⟨j, hj1, hj2⟩
              by_cases hjp : j < p
              · have dj : decide ((j : Int) < (p : Int)) = true := decide_eq_true (by omega)
                have hok := ten13 (hl4 j hj1 hjp)
                simp (maxSteps:=2000000) only[bitvec_to_nat,seval,↓tcd,Try.f5,hB1,dj,Int.toNat_natCast,leLL_refl]
                rw [i64w (by omega) (by omega)]
                have nx : ∃ a' : {q : Nat // at' ≤ q ∧ q ≤ p}, (j : Int) + 1 = (a'.1 : Int) ∧ p - a'.1 < p - j := ⟨⟨j + 1, by omega, by omega⟩, by simp, by simp only; omega⟩
                refine ⟨⟨by omega, by omega⟩, awpIf_intro (fun h => nx) (fun h => ⟨⟨by omega, by omega⟩, awpIf_intro (fun h2 => nx) (fun h2 => ?_)⟩)⟩
                simp only [decide_eq_false_iff_not] at h h2
                omega
              · have dj : decide ((j : Int) < (p : Int)) = false := decide_eq_false (by omega)
                have ej : p = j := by omega
                subst ej
                have wcl := lv_clean (wordsF p w)
                have wll := wordsF_len p w
                have wml : ((wordsF p w).map lv).length = (wordsF p w).length := List.length_map _
                have wlaid := words_laid hl2 hl3
                simp (maxSteps:=2000000) only[bitvec_to_nat,seval,↓tcd,Try.f5,hB1,dj,Int.toNat_natCast,wp1,wordsT]
                refine ⟨by kernel_rfl, ⟨wcl, by omega, by omega, by omega⟩, mb _ (by omega), ?_⟩
                have hget2 := sent_get (ls := wordsF p w) (e := p + w.length)
                obtain ⟨M2, hM2⟩ : ∃ M2, M2 = (wordsF p w).map lv ++ [V.agg [V.int .i64 ((p + w.length : Nat) : Int), V.nils]] := ⟨_, rfl⟩
                obtain ⟨N2, hN2⟩ : ∃ N2, N2 = wordsF p w ++ [(p + w.length, [])] := ⟨_, rfl⟩
                have hN2l : N2.length = (wordsF p w).length + 1 := by rw [hN2]; simp
                have hM2l : M2.length = N2.length := by rw [hM2, hN2]; simp
                rw [← hM2, ← hN2] at hget2
                rw [← hN2] at wlaid
                rw [← hM2, hM2l]
                refine awpLoop_intro (α := {q : (Nat × Nat) × LL × TT // (q.1.1 ≤ N2.length ∧ q.1.2 ≤ p + w.length) ∧ Laid isBl x (p + w.length) q.1.2 (N2.drop q.1.1) ∧ q.2.1[L1.length]? = some [V.int .i64 (p : Int), V.bytes w none]}) (fun q => ⟨[.any, .any, .any, .bool true, .bytes x none, .any, .any, .int .i64 ((p + w.length : Nat) : Int), .any, .box L1.length 0, .int .i64 (q.1.1.2 : Int), .any, .any, .any, .any, .any, .any, .any, .any, .any, .any, .any, .any, .any, .any, .any, .any, .any, .list 2 M none, .int .i64 (N.length : Int), .int .i64 (i : Int), .any, .any, .any, .any, .any, .any, .any, .any, .any, .any, .any, .any, .any, .any, .any, .any, .any, .any, .any, .any, .any, .any, .any, .any, .any, .any, .any, .any, .any, .any, .any, .any, .any, .any, .any, .any, .any, .any, .any, .any, .any, .any, .any, .any, .any, .any, .any, .any, .any, .any, .any, .any, .any, .any, .any, .any, .any, .any, .any, .any, .any, .any, .any, .any, .any, .any, .any, .any, .any, .any, .list 2 M2 none, .int .i64 (N2.length : Int), .int .i64 (q.1.1.1 : Int), .any, .any, .any, .any, .any, .any, .any, .any, .any, .any, .any, .any, .any, .any, .any, .any, .any, .any, .any, .any, .any, .any, .any, .any, .any, .any, .any, .any, .any, .any, .any, .any, .any, .any, .any, .any, .any, .any, .any, .any, .any, .any, .any, .any, .any, .any, .any, .any, .any, .any, .any, .any, .any, .any, .any, .any, .any, .any, .any, .any, .any, .any, .any, .any, .any, .any, .any, .any, .any, .any, .any], q.1.2.1, q.1.2.2⟩) (fun q => N2.length - q.1.1.1)
                  ⟨((0, p), L1 ++ [[V.int .i64 (p : Int), V.bytes w none]], (T1 ++ [(((wordsF p w).map lv).length, 31)]).set T1.length (N2.length, 31)), ⟨by simp, by simp⟩, by simpa using wlaid, hB1 _⟩ ?_ ?_ (fun q => ⟨Nat.zero_le _, Nat.zero_le _⟩)
                · simp (maxSteps:=2000000) only[bitvec_to_nat,seval,↓tcd,leLL_refl]
                  all_goals simp
                · rintro ⟨⟨⟨i2, k2⟩, L2, T2⟩, ⟨hi2, hk2⟩, hla2, hLo⟩
                  simp only at hi2 hk2 hla2 hLo
                  have hLl := (List.getElem?_eq_some_iff.1 hLo).1
                  by_cases hlt2 : i2 < N2.length
                  · have hd2 : decide ((i2 : Int) < (N2.length : Int)) = true := decide_eq_true (by omega)
                    obtain ⟨q, v, hq, hg2⟩ := hget2 i2 hlt2
                    have hdr2 : N2.drop i2 = (q, v) :: N2.drop (i2 + 1) := by
                      rw [List.drop_eq_getElem_cons hlt2]
                      rw [List.getElem?_eq_getElem hlt2] at hq
                      rw [Option.some.inj hq]
                    rw [hdr2] at hla2
                    obtain ⟨gl1, gl2, gl3, gl4, gl5⟩ := hla2
                    simp only at gl1 gl2 gl3 gl4 gl5
                    have hB2 : ∀ z : V, (L2 ++ [[V.int .i64 (q : Int), z]])[L2.length]? = some [V.int .i64 (q : Int), z] := fun z => by simp
                    have hBo : ∀ z : V, (L2 ++ [[V.int .i64 (q : Int), z]])[L1.length]? = some [V.int .i64 (p : Int), V.bytes w none] := fun z => by rw [List.getElem?_append_left hLl]; exact hLo
                    have d1 : decide ((q : Int) < (k2 : Int)) = false := decide_eq_false (by omega)
                    have wq1 : IntKind.i64.wrap ((q : Int) + (v.length : Int)) = ((q + v.length : Nat) : Int) := by rw [i64w (by omega) (by omega)]; omega
                    have wq0 : IntKind.i64.wrap ((q : Int) + 0) = (q : Int) := by rw [Int.add_zero, i64w (by omega) (by omega)]
                    have d2 : decide (((p + w.length : Nat) : Int) < ((q + v.length : Nat) : Int)) = false := decide_eq_false (by omega)
                    have d20 : decide (((p + w.length : Nat) : Int) < (q : Int)) = false := decide_eq_false (by omega)
                    have d30 : (x.take q).drop q = [] := List.drop_of_length_le (by rw [List.length_take]; omega)
                    rcases hg2 with hg2 | ⟨hv0, hg2⟩
                    · simp (maxSteps:=2000000) only[bitvec_to_nat,seval,↓tcd,Try.f5,hd2,hg2,hB2,hBo,d1,wq1,wp1,d2,Int.toNat_natCast,gl3]
                      refine ⟨⟨by omega, by omega⟩, by kernel_rfl, ⟨by omega, by omega, by omega⟩, ?_⟩
                      refine awpLoop_intro (α := {g : Nat // k2 ≤ g ∧ g ≤ q}) (fun g => ⟨[.any, .any, .any, .bool true, .bytes x none, .any, .any, .int .i64 ((p + w.length : Nat) : Int), .any, .box L1.length 0, .int .i64 (g.1 : Int), .any, .box L2.length 0, .any, .any, .any, .any, .any, .any, .any, .any, .any, .any, .any, .any, .any, .any, .any, .list 2 M none, .int .i64 (N.length : Int), .int .i64 (i : Int), .any, .any, .any, .any, .any, .any, .any, .any, .any, .any, .any, .any, .any, .any, .any, .any, .any, .any, .any, .any, .any, .any, .any, .any, .any, .any, .any, .any, .any, .any, .any, .any, .any, .any, .any, .any, .any, .any, .any, .any, .any, .any, .any, .any, .any, .any, .any, .any, .any, .any, .any, .any, .any, .any, .any, .any, .any, .any, .any, .any, .any, .any, .any, .any, .any, .any, .any, .any, .any, .any, .list 2 M2 none, .int .i64 (N2.length : Int), .int .i64 (i2 : Int), .any, .any, .any, .any, .any, .any, .any, .any, .any, .any, .any, .any, .any, .any, .any, .any, .any, .any, .any, .any, .any, .any, .any, .any, .any, .any, .any, .any, .any, .any, .any, .any, .any, .any, .any, .any, .any, .any, .any, .any, .any, .any, .any, .any, .any, .any, .any, .any, .any, .any, .any, .any, .any, .any, .any, .any, .any, .any, .any, .any, .any, .any, .any, .any, .any, .any, .any, .any, .any, .any, .any], L2 ++ [[V.int .i64 (q : Int), V.bytes v none]], T2⟩) (fun g => q - g.1) ⟨k2, Nat.le_refl _, gl1⟩ ?_ ?_ (fun q => ⟨Nat.zero_le _, Nat.zero_le _⟩)
                      · simp (maxSteps:=2000000) only[bitvec_to_nat,seval,↓tcd,leLL_refl]
                      · rintro ⟨g, hg1, hg2⟩
                        by_cases hgq : g < q
                        · have dg : decide ((g : Int) < (q : Int)) = true := decide_eq_true (by omega)
                          have hok2 := bl32 (gl4 g hg1 hgq)
                          simp (maxSteps:=2000000) only[bitvec_to_nat,seval,↓tcd,Try.f5,hB2,dg,Int.toNat_natCast,leLL_refl]
                          rw [i64w (by omega) (by omega)]
                          have nx : ∃ a' : {g : Nat // k2 ≤ g ∧ g ≤ q}, (g : Int) + 1 = (a'.1 : Int) ∧ q - a'.1 < q - g := ⟨⟨g + 1, by omega, by omega⟩, by simp, by simp only; omega⟩
                          refine ⟨⟨by omega, by omega⟩, awpIf_intro (fun h => nx) (fun h => ⟨⟨by omega, by omega⟩, awpIf_intro (fun h2 => nx) (fun h2 => ?_)⟩)⟩
                          simp only [decide_eq_false_iff_not] at h h2
                          omega
                        · have dg : decide ((g : Int) < (q : Int)) = false := decide_eq_false (by omega)
                          have eg : q = g := by omega
                          subst eg
                          have wq : IntKind.i64.wrap ((q : Int) + (v.length : Int)) = ((q + v.length : Nat) : Int) := by rw [i64w (by omega) (by omega)]; omega
                          have wi2 : IntKind.i64.wrap ((i2 : Int) + 1) = ((i2 + 1 : Nat) : Int) := by rw [i64w (by omega) (by omega)]; omega
                          simp (maxSteps:=2000000) only[bitvec_to_nat,seval,↓tcd,Try.f5,hB2,dg,Int.toNat_natCast,wq,wi2]
                          refine ⟨⟨((i2 + 1, q + v.length), L2 ++ [[V.int .i64 (q : Int), V.bytes v none]], T2), ⟨by simp only; omega, by simp only; omega⟩, gl5, hBo _⟩, ?_, by simp only; omega⟩
                          simp (maxSteps:=2000000) only[bitvec_to_nat,seval,↓tcd,leLL_refl]
                          all_goals simp
                    · simp (maxSteps:=2000000) only[bitvec_to_nat,seval,↓tcd,Try.f5,hd2,hg2,hB2,hBo,d1,wq0,wp1,d20,Int.toNat_natCast,d30]
                      refine ⟨⟨by omega, by omega⟩, by kernel_rfl, ⟨by omega, by omega, by omega⟩, ?_⟩
                      refine awpLoop_intro (α := {g : Nat // k2 ≤ g ∧ g ≤ q}) (fun g => ⟨[.any, .any, .any, .bool true, .bytes x none, .any, .any, .int .i64 ((p + w.length : Nat) : Int), .any, .box L1.length 0, .int .i64 (g.1 : Int), .any, .box L2.length 0, .any, .any, .any, .any, .any, .any, .any, .any, .any, .any, .any, .any, .any, .any, .any, .list 2 M none, .int .i64 (N.length : Int), .int .i64 (i : Int), .any, .any, .any, .any, .any, .any, .any, .any, .any, .any, .any, .any, .any, .any, .any, .any, .any, .any, .any, .any, .any, .any, .any, .any, .any, .any, .any, .any, .any, .any, .any, .any, .any, .any, .any, .any, .any, .any, .any, .any, .any, .any, .any, .any, .any, .any, .any, .any, .any, .any, .any, .any, .any, .any, .any, .any, .any, .any, .any, .any, .any, .any, .any, .any, .any, .any, .any, .any, .any, .any, .list 2 M2 none, .int .i64 (N2.length : Int), .int .i64 (i2 : Int), .any, .any, .any, .any, .any, .any, .any, .any, .any, .any, .any, .any, .any, .any, .any, .any, .any, .any, .any, .any, .any, .any, .any, .any, .any, .any, .any, .any, .any, .any, .any, .any, .any, .any, .any, .any, .any, .any, .any, .any, .any, .any, .any, .any, .any, .any, .any, .any, .any, .any, .any, .any, .any, .any, .any, .any, .any, .any, .any, .any, .any, .any, .any, .any, .any, .any, .any, .any, .any, .any, .any], L2 ++ [[V.int .i64 (q : Int), V.bytes v none]], T2⟩) (fun g => q - g.1) ⟨k2, Nat.le_refl _, gl1⟩ ?_ ?_ (fun q => ⟨Nat.zero_le _, Nat.zero_le _⟩)
                      · have hle2 : leLL (L2 ++ [[V.int .i64 (q : Int), V.nils]]) (L2 ++ [[V.int .i64 (q : Int), V.bytes v none]]) := leLL_snoc L2 ⟨rfl, ⟨hv0, rfl⟩, trivial⟩
                        have hle2' := eq_true hle2
                        have hll2 : (L2 ++ [[V.int .i64 (q : Int), V.nils]]).length = (L2 ++ [[V.int .i64 (q : Int), V.bytes v none]]).length := by simp
                        simp (maxSteps:=2000000) only[bitvec_to_nat,seval,↓tcd,hle2',hll2]
                      · rintro ⟨g, hg1, hg2⟩
                        by_cases hgq : g < q
                        · have dg : decide ((g : Int) < (q : Int)) = true := decide_eq_true (by omega)
                          have hok2 := bl32 (gl4 g hg1 hgq)
                          simp (maxSteps:=2000000) only[bitvec_to_nat,seval,↓tcd,Try.f5,hB2,dg,Int.toNat_natCast,leLL_refl]
                          rw [i64w (by omega) (by omega)]
                          have nx : ∃ a' : {g : Nat // k2 ≤ g ∧ g ≤ q}, (g : Int) + 1 = (a'.1 : Int) ∧ q - a'.1 < q - g := ⟨⟨g + 1, by omega, by omega⟩, by simp, by simp only; omega⟩
                          refine ⟨⟨by omega, by omega⟩, awpIf_intro (fun h => nx) (fun h => ⟨⟨by omega, by omega⟩, awpIf_intro (fun h2 => nx) (fun h2 => ?_)⟩)⟩
                          simp only [decide_eq_false_iff_not] at h h2
                          omega
                        · have dg : decide ((g : Int) < (q : Int)) = false := decide_eq_false (by omega)
                          have eg : q = g := by omega
                          subst eg
                          have wq : IntKind.i64.wrap ((q : Int) + (v.length : Int)) = ((q + v.length : Nat) : Int) := by rw [i64w (by omega) (by omega)]; omega
                          have wi2 : IntKind.i64.wrap ((i2 : Int) + 1) = ((i2 + 1 : Nat) : Int) := by rw [i64w (by omega) (by omega)]; omega
                          simp (maxSteps:=2000000) only[bitvec_to_nat,seval,↓tcd,Try.f5,hB2,dg,Int.toNat_natCast,wq,wi2]
                          refine ⟨⟨((i2 + 1, q + v.length), L2 ++ [[V.int .i64 (q : Int), V.bytes v none]], T2), ⟨by simp only; omega, by simp only; omega⟩, gl5, hBo _⟩, ?_, by simp only; omega⟩
                          simp (maxSteps:=2000000) only[bitvec_to_nat,seval,↓tcd,leLL_refl]
                          all_goals simp
                  · have hd2 : decide ((i2 : Int) < (N2.length : Int)) = false := decide_eq_false (by omega)
                    have wi : IntKind.i64.wrap ((i : Int) + 1) = ((i + 1 : Nat) : Int) := by rw [i64w (by omega) (by omega)]; omega
                    simp (maxSteps:=2000000) only[bitvec_to_nat,seval,↓tcd,Try.f5,hd2,wi]
                    refine ⟨⟨((i + 1, p + w.length), L2, T2), ⟨by simp only; omega, by simp only; omega⟩, hl5⟩, ?_, by simp only; omega⟩
                    simp (maxSteps:=2000000) only[bitvec_to_nat,seval,↓tcd,leLL_refl]
                    all_goals simp
        · have hd : decide ((i : Int) < (N.length : Int)) = false := decide_eq_false (by omega)
          have e : i = N.length := by omega
          rw [e, List.drop_length] at hla
          have e2 : at' = x.length := hla
          have hde : decide ((at' : Int) = (x.length : Int)) = true := decide_eq_true (by omega)
          simp (maxSteps:=2000000) only[bitvec_to_nat,seval,↓tcd,Try.f5,hd,hde]
  · cases hm
end Go.Proofs.Ythlmfalfnpjndaa.Line
