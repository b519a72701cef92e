import Derived.Test.YtckmcglkjfkghaaAwX
import Derived.Test.YtckmcglkjfkghaaEdge3
namespace Go.Proofs.Ytckmcglkjfkghaa.Edge
open Go Go.Proofs Go.Proofs.Ytckmcglkjfkghaa.Aw Go.Proofs.Ytckmcglkjfkghaa.Num Go.Proofs.Ytckmcglkjfkghaa.VaryM Go.Proofs.Ytckmcglkjfkghaa.LineM Go.Proofs.Ytckmcglkjfkghaa.EdgeM
open Go.Proofs.Ytckmcglkjfkghaa.Vary (fixM fixF)
open Go.Proofs.Ytckmcglkjfkghaa.Line (cloneM wordsM)
set_option linter.unusedSimpArgs false
set_option linter.unusedVariables false
def G6 : Fns := { fn := fun f => if f = 13 then some wordM else G5.fn f, mu := fun d => .no, hp := fun f => G5.hp f, ord := fun i => none, it := fun f => G5.it f }
theorem G6_fn (f : FuncId) : G6.fn f = (if f = 13 then some wordM else G5.fn f) := rfl
theorem G6_mu (d : Tmp) : G6.mu d = (.no) := rfl
theorem G6_hp (f : FuncId) : G6.hp f = (G5.hp f) := rfl
theorem G6_ord (i : Nat) : G6.ord i = (none) := rfl
theorem G6_it (f : FuncId) : G6.it f = (G5.it f) := rfl
theorem G6_hy (b : Nat) : G6.hy b = none := rfl
theorem G6ok : FnsOk Try.prog G6 := FnsOk.same (FnsOk.cons G5ok _ _ word_ok Try.func13 (by decide) (fun h => by cases h)) rfl rfl
attribute [bitvec_to_nat] G6_fn G6_mu G6_hp G6_ord G6_it G6_hy
def G6w : Fns := { fn := fun f => G6.fn f, mu := fun d => bif d == 23 then .row else .no, hp := fun f => G6.hp f, ord := fun i => none, it := fun f => G6.it f }
theorem G6w_fn (f : FuncId) : G6w.fn f = (G6.fn f) := rfl
theorem G6w_mu (d : Tmp) : G6w.mu d = (bif d == 23 then .row else .no) := rfl
theorem G6w_hp (f : FuncId) : G6w.hp f = (G6.hp f) := rfl
theorem G6w_ord (i : Nat) : G6w.ord i = (none) := rfl
theorem G6w_it (f : FuncId) : G6w.it f = (G6.it f) := rfl
theorem G6w_hy (b : Nat) : G6w.hy b = none := rfl
theorem G6wok : FnsOk Try.prog G6w := FnsOk.same G6ok rfl rfl
attribute [bitvec_to_nat] G6w_fn G6w_mu G6w_hp G6w_ord G6w_it G6w_hy
theorem wordC_no (c : UInt8) : isBl (wordC c) = false := by
  unfold wordC
  split
  · rfl
  · rename_i h
    unfold isBl
    have a : (c == 32) = false := by simp only [beq_eq_false_iff_ne, ne_eq]; exact fun e => h (.inl e)
    have b : (c == 9) = false := by simp only [beq_eq_false_iff_ne, ne_eq]; exact fun e => h (.inr (.inl e))
    rw [a, b]; rfl
theorem wordW_ne (b : List UInt8) : wordW b ≠ [] := by
  unfold wordW
  split
  · simp
  · rename_i h
    intro e
    exact h (List.map_eq_nil_iff.1 e)
theorem wordW_no (b : List UInt8) : ∀ c ∈ wordW b, isBl c = false := by
  unfold wordW
  split
  · intro c hc; rw [List.mem_singleton.1 hc]; rfl
  · intro c hc
    obtain ⟨d, _, rfl⟩ := List.mem_map.1 hc
    exact wordC_no d
theorem wordW_len (b : List UInt8) : (wordW b).length ≤ 32 := by
  unfold wordW
  split
  · simp
  · rw [List.length_map, List.length_take]; omega
def twoM : FM
  | [.bytes a _, .bytes b _, .int .u8 n] => some (0 ≤ n ∧ n ≤ 255, .bool true, [])
  | _ => none
set_option maxHeartbeats 4000000 in
set_option maxRecDepth 100000 in
theorem two_ok : FSound Try.prog 5 twoM := by
  refine fsound tysOk G6wok mix Try.func5 rfl ?_
  intro args p r fr hm hp
  unfold twoM at hm
  split at hm
  · rename_i a ta b tb n
    cases hm
    obtain ⟨h0, h1⟩ := hp
    obtain ⟨n, rfl⟩ := Int.eq_ofNat_of_zero_le h0
    simp (maxSteps:=2000000) only[bitvec_to_nat,seval,↓tcd,Try.f5,shownM,wordM,Int.toNat_natCast]
    have hw1 : IntKind.i64.wrap ((n : Int).tmod 5) = ((n % 5 : Nat) : Int) := by rw [Int.tmod_eq_emod_of_nonneg (by omega), i64w (by omega) (by omega)]; omega
    have hw2 : IntKind.i64.wrap (((n % 5 : Nat) : Int) + 1) = ((n % 5 + 1 : Nat) : Int) := by rw [i64w (by omega) (by omega)]; omega
    rw [hw1, hw2, Int.toNat_natCast]
    obtain ⟨m, hm⟩ : ∃ m, m = n % 5 + 1 := ⟨_, rfl⟩
    rw [← hm]
    have hm1 : 1 ≤ m := by omega
    have hm5 : m ≤ 5 := by omega
    refine ⟨by omega, ?_⟩
    refine awpLoop_intro (α := {q : Nat × List UInt8 // q.1 ≤ m ∧ q.2.length = m ∧ ∀ c ∈ q.2.take q.1, isBl c = true}) (fun q => ⟨[.any, .any, .int .u8 (n : Int), .any, .any, .any, .any, .bool true, .bytes (wordW a) none, .bytes (wordW b) none, .mrow 5 0 0 m, .any, .any, .any, .any, .any, .any, .any, .any, .any, .any, .any, .any, .any, .any, .int .i64 (m : Int), .int .i64 (q.1.1 : Nat), .any, .any, .any, .any, .any, .any, .any, .any, .any, .any, .any, .any, .any, .any, .any, .any, .any, .any, .any, .any, .any, .any, .any, .any, .any, .any, .any, .any, .any, .any, .any, .any, .any, .any, .any, .any, .any, .any, .any, .any, .any, .any, .any, .any, .any, .any, .any, .any, .any, .any, .any, .any, .any, .any, .any, .any, .any, .any, .any, .any, .any], [q.1.2.map byteV], []⟩) (fun q => m - q.1.1) ⟨(0, List.replicate m 0), Nat.zero_le _, by simp, by simp⟩ ?_ ?_
    · simp (maxSteps:=2000000) only[bitvec_to_nat,seval,↓tcd]
      all_goals simp
    · rintro ⟨⟨i, y⟩, hi, hyl, hbl⟩
      simp only at hi hyl hbl
      by_cases hlt : i < m
      · have hd : decide ((i : Int) < (m : Int)) = true := decide_eq_true (by omega)
        simp (maxSteps:=2000000) only[bitvec_to_nat,seval,↓tcd,Try.f5,Int.toNat_natCast,getD_byteV,take_byteV,drop_byteV,unbyte_map,List.length_map,hd]
        have w1 : IntKind.i64.wrap (n : Int) = (n : Int) := i64w (by omega) (by omega)
        have w2 : IntKind.i64.wrap ((n : Int) + (i : Int)) = ((n + i : Nat) : Int) := by rw [i64w (by omega) (by omega)]; omega
        have w3 : (((n + i : Nat) : Int)).tmod 2 = (((n + i) % 2 : Nat) : Int) := by rw [Int.tmod_eq_emod_of_nonneg (by omega)]; omega
        rw [w1, w2, w3, Int.toNat_natCast]
        obtain ⟨c, hc, hcb⟩ : ∃ c : UInt8, [32, 9].getD ((n + i) % 2) 0 = c ∧ isBl c = true := by
          rcases Nat.mod_two_eq_zero_or_one (n + i) with e | e <;> rw [e]
          · exact ⟨32, rfl, rfl⟩
          · exact ⟨9, rfl, rfl⟩
        rw [hc]
        have hset := set_byteV (l := y) (k := i) (z := (c.toNat : Int)) (by omega) (by omega) (by have := c.toNat_lt; omega)
        rw [take_byteV, drop_byteV, Int.toNat_natCast, UInt8.ofNat_toNat] at hset
        rw [hset, i64w (n := (i : Int) + 1) (by omega) (by omega)]
        refine ⟨⟨by omega, by omega⟩, ⟨by omega, by omega⟩, by omega, ⟨(i + 1, y.set i c), by simp only; omega, by simpa using hyl, fun d hd => ?_⟩, ?_, by simp only; omega⟩
        · have hil : i < (y.set i c).length := by rw [List.length_set]; omega
          simp only at hd
          rw [List.take_succ_eq_append_getElem hil, List.mem_append, List.mem_singleton] at hd
          rcases hd with hd | hd
          · rw [List.take_set_of_le (by omega)] at hd
            exact hbl d hd
          · rw [hd]; simp [hcb]
        · refine ⟨?_, by rw [leLL_refl]; trivial, rfl, .inr ⟨?_, ?_⟩⟩
          · simp (maxSteps:=2000000) only[bitvec_to_nat,seval,↓tcd]
            all_goals simp
          · simp (maxSteps:=2000000) only[bitvec_to_nat,seval,↓tcd]
          · intro l hl v hv
            simp only [List.mem_singleton] at hl
            subst hl
            obtain ⟨d, _, rfl⟩ := List.mem_map.1 hv
            show V.under 0 1 (byteV d)
            simp [byteV, V.under]
      · have e : i = m := by omega
        subst e
        have hd : decide ((i : Int) < (i : Int)) = false := decide_eq_false (by omega)
        have hyb : ∀ c ∈ y, isBl c = true := by rw [List.take_of_length_le (by omega)] at hbl; exact hbl
        have hmem : ∀ c ∈ List.take (i - 1) (List.drop 1 y), isBl c = true := fun c hc => hyb c (List.mem_of_mem_drop (List.mem_of_mem_take hc))
        have hP : parseF 7 (List.take (i - 1) (List.drop 1 y) ++ wordW a ++ List.take i y ++ wordW b ++ List.take (i - 1) (List.drop 1 y)) false = ⟨true, wordW a, wordW b, 0, 0⟩ :=
          parse_words false hmem (wordW_ne a) (wordW_no a) (fun c hc => hyb c (List.mem_of_mem_take hc)) (fun e => by have := congrArg List.length e; rw [List.length_take, List.length_nil] at this; omega) (wordW_ne b) (wordW_no b) hmem
            (plain_label (List.length_pos_iff.2 (wordW_ne a)) (wordW_len a)) (plain_label (List.length_pos_iff.2 (wordW_ne b)) (wordW_len b))
        simp (maxSteps:=2000000) only[bitvec_to_nat,seval,↓tcd,Try.f5,Int.toNat_natCast,getD_byteV,take_byteV,drop_byteV,unbyte_map,List.length_map,hd,parseM,hP,itv]
        have la := wordW_len a
        have lb := wordW_len b
        have lg : (List.take (i - 1) (List.drop 1 y)).length ≤ 5 := by rw [List.length_take]; omega
        have ly : (List.take i y).length = i := by rw [List.length_take]; omega
        have lg2 : (List.take (i - 1) (List.drop 1 y)).length = i - 1 := by rw [List.length_take, List.length_drop]; omega
        simp only [List.length_append, lg2, ly]
        exact ⟨by omega, by omega, mb _ (by omega), ⟨trivial, mb _ (by omega)⟩, by omega, mb _ (by omega), ⟨trivial, mb _ (by omega)⟩, by omega, by omega, mb _ (by omega), by omega⟩
  · cases hm
end Go.Proofs.Ytckmcglkjfkghaa.Edge
