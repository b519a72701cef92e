import Derived.Test.YthlmfalfnpjndaaAwX
import Derived.Test.YthlmfalfnpjndaaLine4
namespace Go.Proofs.Ythlmfalfnpjndaa.Line
open Go Go.Proofs Go.Proofs.Ythlmfalfnpjndaa.Aw Go.Proofs.Ythlmfalfnpjndaa.LineM Go.Proofs.Ythlmfalfnpjndaa.Num Go.Proofs.Ythlmfalfnpjndaa.LibB
set_option linter.unusedSimpArgs false
set_option linter.unusedVariables false
def G12 : Fns := { fn := fun f => if f = 10 then some lawListM else if f = 9 then some shownM else G10.fn f, mu := fun d => .no, hp := fun f => G10.hp f, ord := fun i => none, it := fun f => G10.it f }
theorem G12_fn (f : FuncId) : G12.fn f = (if f = 10 then some lawListM else if f = 9 then some shownM else G10.fn f) := rfl
theorem G12_mu (d : Tmp) : G12.mu d = (.no) := rfl
theorem G12_hp (f : FuncId) : G12.hp f = (G10.hp f) := rfl
theorem G12_ord (i : Nat) : G12.ord i = (none) := rfl
theorem G12_it (f : FuncId) : G12.it f = (G10.it f) := rfl
theorem G12_hy (b : Nat) : G12.hy b = none := rfl
theorem G12ok : FnsOk Try.prog G12 := FnsOk.same (FnsOk.cons (FnsOk.cons G10ok _ _ shown_ok Try.func9 (by decide) (fun h => by cases h)) _ _ lawList_ok Try.func10 (by decide) (fun h => by cases h)) rfl rfl
attribute [bitvec_to_nat] G12_fn G12_mu G12_hp G12_ord G12_it G12_hy
theorem same_map (l : List Ln) : (List.map lv l).map unlv = l := unlv_map l
def tellsM : FM
  | [.bytes b _] => some (True, .bool true, [])
  | _ => none
set_option maxHeartbeats 4000000 in
theorem tells_ok : FSound Try.prog 3 tellsM := by
  refine fsound tysOk G12ok mix Try.func3 rfl ?_
  intro args p r fr hm hp
  unfold tellsM at hm
  split at hm
  · rename_i b t
    cases hm
    simp (maxSteps:=2000000) only[bitvec_to_nat,seval,↓tcd,Try.f3,shownM,fewM,lawListM,listM,sameM,unlv_map]
    have hxl : (b.take 1000).length ≤ 1000 := by rw [List.length_take]; omega
    generalize b.take 1000 = x at *
    have hll := linesF_len 0 x
    have hle := lines_le x
    have hcl := lv_clean (linesF 0 x)
    generalize linesF 0 x = ls at *
    have hml : (ls.map lv).length = ls.length := List.length_map _
    refine ⟨⟨hcl, by omega⟩, ⟨hcl, by omega⟩, ⟨hcl, by omega⟩, ?_⟩
    refine awpLoop_intro (α := {q : Nat × LL // q.1 ≤ ls.length}) (fun q => ⟨[.any, .any, .any, .bool true, .any, .any, .any, .any, .any, .any, .any, .any, .any, .any, .any, .any, .any, .any, .any, .any, .any, .any, .any, .any, .any, .any, .any, .list 2 (ls.map lv) none, .int .i64 (ls.length : Int), .int .i64 (q.1.1 : Int), .any, .any, .any, .any, .any, .any, .any, .any, .any, .any, .any, .any, .any, .any, .any, .any, .any, .any], q.1.2, []⟩) (fun q => ls.length - q.1.1) ⟨(0, []), Nat.zero_le _⟩ ?_ ?_ (fun q => ⟨Nat.zero_le _, Nat.zero_le _⟩)
    · simp (maxSteps:=2000000) only[bitvec_to_nat,seval,↓tcd,leLL_refl,hml]
      all_goals simp
    · rintro ⟨⟨i, L1⟩, hi⟩
      simp only at hi
      by_cases hlt : i < ls.length
      · have hd : decide ((i : Int) < (ls.length : Int)) = true := decide_eq_true (by omega)
        have g1 := getD_lv hlt
        have gx : ls.getD i (0, []) = ls[i] := by simp [List.getD_eq_getElem?_getD, List.getElem?_eq_getElem hlt]
        have hyb := hle ls[i] (List.getElem_mem hlt)
        rw [gx] at g1
        obtain ⟨p, w, hy⟩ : ∃ p w, ls[i] = (p, w) := ⟨_, _, rfl⟩
        rw [hy] at hyb
        simp only at hyb
        rw [hy] at g1
        have hL : (L1 ++ [[V.int .i64 (p : Int), V.bytes w none]])[L1.length]? = some [V.int .i64 (p : Int), V.bytes w none] := by simp
        simp (maxSteps:=2000000) only[bitvec_to_nat,seval,↓tcd,Try.f3,hd,g1,lv,hL,Int.toNat_natCast,wordsM,bareM,sameM,unlv_map,hml]
        have hwl := wordsF_len p w
        have hwc := lv_clean (wordsF p w)
        have hwm : ((wordsF p w).map lv).length = (wordsF p w).length := List.length_map _
        rw [i64w (by omega) (by omega)]
        refine ⟨⟨by omega, by omega⟩, by kernel_rfl, ⟨hwc, by omega, by omega, by omega⟩, ⟨hwc, by omega, by omega, by omega⟩, ⟨hwc, by omega⟩, ⟨by omega, by omega, by omega⟩, ⟨by omega, by omega, by omega⟩, ⟨⟨(i + 1, L1 ++ [[V.int .i64 (p : Int), V.bytes w none]]), by simp only; omega⟩, ?_, by simp only; omega⟩⟩
        simp (maxSteps:=2000000) only[bitvec_to_nat,seval,↓tcd,leLL_refl]
        all_goals simp
      · have hd : decide ((i : Int) < (ls.length : Int)) = false := decide_eq_false (by omega)
        simp (maxSteps:=2000000) only[bitvec_to_nat,seval,↓tcd,Try.f3,hd]
  · cases hm
def lineWordsM : FM
  | [.bytes b _, .int .u64 a] => some (0 ≤ a ∧ a ≤ 18446744073709551615, .bool true, [])
  | _ => none
set_option maxHeartbeats 4000000 in
theorem lineWords_ok : FSound Try.prog 4 lineWordsM := by
  refine fsound tysOk G12ok mix Try.func4 rfl ?_
  intro args p r fr hm hp
  unfold lineWordsM at hm
  split at hm
  · rename_i b t a
    cases hm
    obtain ⟨h0, h1⟩ := hp
    obtain ⟨a, rfl⟩ := Int.eq_ofNat_of_zero_le h0
    simp (maxSteps:=2000000) only[bitvec_to_nat,seval,↓tcd,Try.f4,shownM,fewM,wordsM,sameM,bareM,unlv_map]
    have hxl : (b.take 1000).length ≤ 1000 := by rw [List.length_take]; omega
    generalize b.take 1000 = x at *
    have hw : IntKind.i64.wrap ((a : Int).tmod 1099511627776) = ((a % 1099511627776 : Nat) : Int) := by
      rw [Int.tmod_eq_emod_of_nonneg (by omega), i64w (by omega) (by omega)]; omega
    rw [hw, Int.toNat_natCast]
    have hwl := wordsF_len (a % 1099511627776) x
    have hcl := lv_clean (wordsF (a % 1099511627776) x)
    have hml : ((wordsF (a % 1099511627776) x).map lv).length = (wordsF (a % 1099511627776) x).length := List.length_map _
    exact ⟨by kernel_rfl, ⟨hcl, by omega, by omega, by omega⟩, ⟨hcl, by omega, by omega, by omega⟩, ⟨hcl, by omega⟩, by omega, by omega, by omega⟩
  · cases hm
end Go.Proofs.Ythlmfalfnpjndaa.Line
