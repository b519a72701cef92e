import Derived.Test.YthlmfalfnpjndaaAwX
import Derived.Test.YthlmfalfnpjndaaLine5
namespace Go.Proofs.Ythlmfalfnpjndaa.Line
open Go Go.Proofs Go.Proofs.Ythlmfalfnpjndaa.Aw Go.Proofs.Ythlmfalfnpjndaa.LineM Go.Proofs.Ythlmfalfnpjndaa.Num Go.Proofs.Ythlmfalfnpjndaa.LibB
set_option linter.unusedSimpArgs false
set_option linter.unusedVariables false
def G13 : Fns := { fn := fun f => if f = 10 then some lawListT else G12.fn f, mu := fun d => bif d == 23 then .seq else bif d == 25 then .seq else .no, hp := fun f => G12.hp f, ord := fun i => if i = 2 then some [(0, 0), (1, 0), (2, 0), (3, 0), (4, 0), (5, 0), (7, 0), (9, 0), (10, 0), (11, 0), (12, 0), (13, 0), (6, 1), (8, 1), (14, 0), (15, 0)] else none, it := fun f => G12.it f }
theorem G13_fn (f : FuncId) : G13.fn f = (if f = 10 then some lawListT else G12.fn f) := rfl
theorem G13_mu (d : Tmp) : G13.mu d = (bif d == 23 then .seq else bif d == 25 then .seq else .no) := rfl
theorem G13_hp (f : FuncId) : G13.hp f = (G12.hp f) := rfl
theorem G13_ord (i : Nat) : G13.ord i = (if i = 2 then some [(0, 0), (1, 0), (2, 0), (3, 0), (4, 0), (5, 0), (7, 0), (9, 0), (10, 0), (11, 0), (12, 0), (13, 0), (6, 1), (8, 1), (14, 0), (15, 0)] else none) := rfl
theorem G13_it (f : FuncId) : G13.it f = (G12.it f) := rfl
theorem G13_hy (b : Nat) : G13.hy b = none := rfl
theorem G13ok : FnsOk Try.prog G13 := FnsOk.same (FnsOk.cons G12ok _ _ lawListT_ok Try.func10 (by decide) (fun h => by cases h)) rfl rfl
attribute [bitvec_to_nat] G13_fn G13_mu G13_hp G13_ord G13_it G13_hy
theorem min500 (x : List UInt8) : ∃ m : Nat, (if 500 < (x.length : Int) then (500 : Int) else (x.length : Int)) = (m : Int) ∧ m ≤ 500 ∧ m ≤ x.length := by
  split
  · exact ⟨500, rfl, by omega, by omega⟩
  · exact ⟨x.length, rfl, by omega, by omega⟩
theorem out_some {l : List Ln} (h : l ≠ []) : outT l = .list 2 (l.map lv) (some 0) ∧ outR l = [(l.length, 31)] := by
  cases l with
  | nil => exact absurd rfl h
  | cons y ys => exact ⟨rfl, rfl⟩
def partsM : FM
  | [.bytes a _, .bytes b _] => some (True, .bool true, [])
  | _ => none
set_option maxHeartbeats 8000000 in
theorem parts_ok : FSound Try.prog 7 partsM := by
  refine fsound tysOk G13ok mix Try.func7 rfl ?_
  intro args p r fr hm hp
  unfold partsM at hm
  split at hm
  · rename_i a t b t'
    cases hm
    obtain ⟨m, hm, hm1, hm2⟩ := min500 a
    obtain ⟨m', hm', hm1', hm2'⟩ := min500 b
    have e10 : [UInt8.ofNat (Int.toNat 10)] = [(10 : UInt8)] := rfl
    obtain ⟨x, hx⟩ : ∃ x, x = a.take m ++ [10] := ⟨_, rfl⟩
    obtain ⟨y, hy⟩ : ∃ y, y = b.take m' := ⟨_, rfl⟩
    have hxl : x.length ≤ 501 := by rw [hx, List.length_append, List.length_take]; simp; omega
    have hyl : y.length ≤ 500 := by rw [hy, List.length_take]; omega
    have hxn : linesF 0 x ≠ [] := by rw [hx]; exact lines_some _
    have hxy : linesF 0 (x ++ y) = linesF 0 x ++ shiftL x.length (linesF 0 y) := by rw [hx, lines_two]; simp
    have hxyn : linesF 0 (x ++ y) ≠ [] := by rw [hxy]; simp [hxn]
    obtain ⟨ox, oxr⟩ := out_some hxn
    obtain ⟨oz, ozr⟩ := out_some hxyn
    have cx := lv_clean (linesF 0 x)
    have cz := lv_clean (linesF 0 (x ++ y))
    have cy := lv_clean (linesF 0 y)
    by_cases hyn : linesF 0 y = []
    · have oy : outT (linesF 0 y) = .nils := by rw [hyn]; rfl
      have oyr : outR (linesF 0 y) = [] := by rw [hyn]; rfl
      simp (maxSteps:=2000000) only[bitvec_to_nat,seval,↓tcd,Try.f7,shownM,lawListT,hm,hm',Int.toNat_natCast,← hx,← hy,oy,oyr,ox,oxr,oz,ozr]
      have hxa : (x ++ y).length ≤ 1001 := by rw [List.length_append]; omega
      have hlx := linesF_len 0 x
      have hlz := linesF_len 0 (x ++ y)
      have hmz : ((linesF 0 (x ++ y)).map lv).length = (linesF 0 (x ++ y)).length := List.length_map _
      have hmx : ((linesF 0 x).map lv).length = (linesF 0 x).length := List.length_map _
      have htl : (a.take m).length ≤ 500 := by rw [List.length_take]; omega
      rw [hyn] at hxy
      have hxy' : linesF 0 (x ++ y) = linesF 0 x := by rw [hxy]; simp [shiftL]
      refine ⟨by kernel_rfl, ⟨by omega, by omega⟩, ⟨by omega, by omega⟩, mb _ (by omega), mb _ (by omega), ⟨cx, by omega⟩, by omega, mb _ (by omega), mb _ (by omega), ⟨cz, by omega⟩, ?_⟩
      refine awpLoop_intro (α := Unit) (fun _ => ⟨[.any, .any, .any, .any, .any, .bool true, .any, .any, .list 2 ((linesF 0 x).map lv) none, .bool true, .any, .bool true, .list 2 ((linesF 0 (x ++ y)).map lv) none, .bool true, .any, .any, .any, .any, .any, .any, .any, .any, .any, .any, .any, .any, .any, .any, .any, .any, .any, .any, .any, .any, .any, .any, .any, .any, .any, .any, .any, .any, .any, .any, .any, .any, .any, .any, .any, .any, .any, .int .i64 0, .int .i64 0, .any, .any, .any, .any, .any, .any, .any, .any, .any, .any, .any, .any, .any, .any, .any, .any, .any, .any, .any, .any, .any, .any, .any, .any, .any, .any, .any, .any, .any], [], []⟩) (fun _ => 0) () ?_ ?_ (fun q => ⟨Nat.zero_le _, Nat.zero_le _⟩)
      · simp (maxSteps:=2000000) only[bitvec_to_nat,seval,↓tcd]
        exact ⟨lv_under _ _ _, lv_under _ _ _⟩
      · intro _
        simp (maxSteps:=2000000) only[bitvec_to_nat,seval,↓tcd,Try.f7,sameM,unlv_map]
        exact ⟨⟨⟨cz, cx⟩, by omega⟩, decide_eq_true hxy'⟩
    · obtain ⟨oy, oyr⟩ := out_some hyn
      simp (maxSteps:=2000000) only[bitvec_to_nat,seval,↓tcd,Try.f7,shownM,lawListT,hm,hm',Int.toNat_natCast,← hx,← hy,oy,oyr,ox,oxr,oz,ozr]
      have hxa : (x ++ y).length ≤ 1001 := by rw [List.length_append]; omega
      have hlx := linesF_len 0 x
      have hly := linesF_len 0 y
      have hlz := linesF_len 0 (x ++ y)
      have hle := lines_le y
      have hmz : ((linesF 0 (x ++ y)).map lv).length = (linesF 0 (x ++ y)).length := List.length_map _
      have hmy : ((linesF 0 y).map lv).length = (linesF 0 y).length := List.length_map _
      have htl : (a.take m).length ≤ 500 := by rw [List.length_take]; omega
      refine ⟨by kernel_rfl, ⟨by omega, by omega⟩, ⟨by omega, by omega⟩, mb _ (by omega), mb _ (by omega), ⟨cx, by omega⟩, ⟨cy, by omega⟩, mb _ (by omega), mb _ (by omega), ⟨cz, by omega⟩, ?_⟩
      have hsl : (shiftL x.length (linesF 0 y)).length = (linesF 0 y).length := by simp [shiftL]
      refine awpLoop_intro (α := {q : Nat × LL × TT // q.1 ≤ (linesF 0 y).length ∧ q.2.2[1]? = some ((linesF 0 x).length + q.1, 31)}) (fun q => ⟨[.any, .any, .any, .any, .any, .bool true, .bytes x none, .any, .list 2 ((linesF 0 x ++ (shiftL x.length (linesF 0 y)).take q.1.1).map lv) (some 1), .bool true, .any, .bool true, .list 2 ((linesF 0 (x ++ y)).map lv) none, .bool true, .any, .any, .any, .any, .any, .any, .any, .any, .any, .any, .any, .any, .any, .any, .any, .any, .any, .any, .any, .any, .any, .any, .any, .any, .any, .any, .any, .any, .any, .any, .any, .any, .any, .any, .any, .any, .list 2 ((linesF 0 y).map lv) none, .int .i64 ((linesF 0 y).length : Int), .int .i64 (q.1.1 : Int), .any, .any, .any, .any, .any, .any, .any, .any, .any, .any, .any, .any, .any, .any, .any, .any, .any, .any, .any, .any, .any, .any, .any, .any, .any, .any, .any, .any, .any], q.1.2.1, q.1.2.2⟩) (fun q => (linesF 0 y).length - q.1.1)
        ⟨(0, [], [(x.length, 5), ((linesF 0 x).length, 31), ((linesF 0 y).length, 31), ((x ++ y).length, 5), ((linesF 0 (x ++ y)).length, 31)]), by simp, by simp⟩ ?_ ?_ (fun q => ⟨Nat.zero_le _, Nat.zero_le _⟩)
      · simp (maxSteps:=2000000) only[bitvec_to_nat,seval,↓tcd,leLL_refl,hmy]
        all_goals simp
      · rintro ⟨⟨i, L1, T1⟩, hi, hT⟩
        simp only at hi hT
        by_cases hlt : i < (linesF 0 y).length
        · have hd : decide ((i : Int) < ((linesF 0 y).length : Int)) = true := decide_eq_true (by omega)
          have g1 := getD_lv hlt
          have gx : (linesF 0 y).getD i (0, []) = (linesF 0 y)[i] := by simp [List.getD_eq_getElem?_getD, List.getElem?_eq_getElem hlt]
          have hyb := hle (linesF 0 y)[i] (List.getElem_mem hlt)
          rw [gx] at g1
          obtain ⟨p, w, hpw⟩ : ∃ p w, (linesF 0 y)[i] = (p, w) := ⟨_, _, rfl⟩
          rw [hpw] at hyb g1
          simp only at hyb
          have hwp : IntKind.i64.wrap ((p : Int) + (x.length : Int)) = ((p + x.length : Nat) : Int) := by rw [i64w (by omega) (by omega)]; omega
          have hL : ∀ q : Nat, (L1 ++ [[V.int .i64 (q : Int), V.bytes w none]])[L1.length]? = some [V.int .i64 (q : Int), V.bytes w none] := fun q => by simp
          have hLs : ∀ q q' : Nat, (L1 ++ [[V.int .i64 (q : Int), V.bytes w none]]).set L1.length [V.int .i64 (q' : Int), V.bytes w none] = L1 ++ [[V.int .i64 (q' : Int), V.bytes w none]] := fun q q' => by rw [List.set_append_right _ _ (Nat.le_refl _)]; simp
          have hcl : ((linesF 0 x ++ (shiftL x.length (linesF 0 y)).take i).map lv).length = (linesF 0 x).length + i := by rw [List.length_map, List.length_append, List.length_take]; omega
          simp (maxSteps:=2000000) only[bitvec_to_nat,seval,↓tcd,Try.f7,hd,g1,lv,hL,hLs,Int.toNat_natCast,hwp,hcl]
          have htk1 : (shiftL x.length (linesF 0 y)).take (i + 1) = (shiftL x.length (linesF 0 y)).take i ++ [(p + x.length, w)] := by
            rw [List.take_succ_eq_append_getElem (by omega)]
            congr 2
            simp [shiftL, hpw]
          have e3 : List.map lv (linesF 0 x ++ (shiftL x.length (linesF 0 y)).take i) ++ [V.agg [V.int IntKind.i64 ((p + x.length : Nat) : Int), V.bytes w none]] = (linesF 0 x ++ (shiftL x.length (linesF 0 y)).take (i + 1)).map lv := by
            rw [htk1, ← List.append_assoc, List.map_append (l₂ := [(p + x.length, w)])]
            rfl
          have hcl2 : ((linesF 0 x ++ (shiftL x.length (linesF 0 y)).take (i + 1)).map lv).length = (linesF 0 x).length + (i + 1) := by rw [List.length_map, List.length_append, List.length_take]; omega
          have hTl := (List.getElem?_eq_some_iff.1 hT).1
          rw [e3, hcl2, i64w (by omega) (by omega)]
          refine ⟨⟨by omega, by omega⟩, ⟨by rw [List.getElem?_append_left hTl]; exact hT, mb _ (by omega)⟩, ⟨⟨(i + 1, L1 ++ [[V.int .i64 ((p + x.length : Nat) : Int), V.bytes w none]], (T1 ++ [(1, 31)]).set 1 ((linesF 0 x).length + (i + 1), 31)), by simp only; omega, List.getElem?_set_self (by simp; omega)⟩, ?_, by simp only; omega⟩⟩
          simp (maxSteps:=2000000) only[bitvec_to_nat,seval,↓tcd,leLL_refl]
          omega
        · have hd : decide ((i : Int) < ((linesF 0 y).length : Int)) = false := decide_eq_false (by omega)
          have e : i = (linesF 0 y).length := by omega
          have hful : linesF 0 x ++ (shiftL x.length (linesF 0 y)).take i = linesF 0 (x ++ y) := by rw [hxy, e, ← hsl, List.take_length]
          simp (maxSteps:=2000000) only[bitvec_to_nat,seval,↓tcd,Try.f7,hd,sameM,unlv_map,hful]
          exact ⟨cz, by omega⟩
  · cases hm
end Go.Proofs.Ythlmfalfnpjndaa.Line
