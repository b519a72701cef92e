import Derived.Test.YtckmcglkjfkghaaDoorAwX
import Derived.Test.YtckmcglkjfkghaaDoorEdge3
import Derived.Test.YtckmcglkjfkghaaDoorEdgeD
namespace Go.Proofs.YtckmcglkjfkghaaDoor.Edge
open Go Go.Proofs Go.Proofs.YtckmcglkjfkghaaDoor.Aw Go.Proofs.YtckmcglkjfkghaaDoor.Num Go.Proofs.YtckmcglkjfkghaaDoor.VaryM Go.Proofs.YtckmcglkjfkghaaDoor.LineM Go.Proofs.YtckmcglkjfkghaaDoor.EdgeM
open Go.Proofs.YtckmcglkjfkghaaDoor.Vary (fixM fixF)
open Go.Proofs.YtckmcglkjfkghaaDoor.Line (cloneM wordsM)
set_option linter.unusedSimpArgs false
set_option linter.unusedVariables false
def G7 : Fns := { fn := fun f => if f = 9 then some textM else if f = 10 then some textM else G5.fn f, mu := fun d => .no, hp := fun f => G5.hp f, ord := fun i => none, it := fun f => G5.it f }
theorem G7_fn (f : FuncId) : G7.fn f = (if f = 9 then some textM else if f = 10 then some textM else G5.fn f) := rfl
theorem G7_mu (d : Tmp) : G7.mu d = (.no) := rfl
theorem G7_hp (f : FuncId) : G7.hp f = (G5.hp f) := rfl
theorem G7_ord (i : Nat) : G7.ord i = (none) := rfl
theorem G7_it (f : FuncId) : G7.it f = (G5.it f) := rfl
theorem G7_hy (b : Nat) : G7.hy b = none := rfl
theorem G7ok : FnsOk Tryd.prog G7 := FnsOk.same (FnsOk.cons (FnsOk.cons G5ok _ _ rtext_ok Tryd.func10 (by decide) (fun h => by cases h)) _ _ text_ok Tryd.func9 (by decide) (fun h => by cases h)) rfl rfl
attribute [bitvec_to_nat] G7_fn G7_mu G7_hp G7_ord G7_it G7_hy
def labelsM : FM
  | [.bytes b _, .bool num] => some (True, .bool true, [])
  | _ => none
set_option maxHeartbeats 4000000 in
set_option maxRecDepth 100000 in
theorem labels_ok : FSound Tryd.prog 3 labelsM := by
  refine fsound tysOk G7ok mix Tryd.func3 rfl ?_
  intro args p r fr hm hp
  unfold labelsM at hm
  split at hm
  · rename_i b t num
    cases hm
    have hl : (b.take 200).length ≤ 200 := by rw [List.length_take]; omega
    simp (maxSteps:=2000000) only[bitvec_to_nat,seval,↓tcd,Tryd.f3,shownM,fewM,labelM,rlabelM,textM,optV]
    omega
  · cases hm
def G7b : Fns := { fn := fun f => G7.fn f, mu := fun d => .no, hp := fun f => G7.hp f, ord := fun i => if i = 6 then some [(0, 0), (1, 0), (2, 0), (3, 0), (4, 0), (5, 0), (6, 0), (7, 0), (8, 0), (9, 0), (10, 0), (11, 0), (12, 0), (13, 0), (14, 0), (15, 0), (16, 0), (17, 0), (18, 0), (19, 0), (20, 0), (21, 0), (22, 0), (23, 0), (24, 0), (25, 0), (26, 0), (27, 0), (28, 0), (29, 0), (30, 0), (31, 0), (32, 0), (33, 0), (34, 0), (35, 0), (36, 0), (37, 0), (38, 0), (39, 0), (40, 0), (41, 0), (42, 0), (43, 0), (44, 0), (45, 0), (46, 0), (47, 0)] else none, it := fun f => G7.it f }
theorem G7b_fn (f : FuncId) : G7b.fn f = (G7.fn f) := rfl
theorem G7b_mu (d : Tmp) : G7b.mu d = (.no) := rfl
theorem G7b_hp (f : FuncId) : G7b.hp f = (G7.hp f) := rfl
theorem G7b_ord (i : Nat) : G7b.ord i = (if i = 6 then some [(0, 0), (1, 0), (2, 0), (3, 0), (4, 0), (5, 0), (6, 0), (7, 0), (8, 0), (9, 0), (10, 0), (11, 0), (12, 0), (13, 0), (14, 0), (15, 0), (16, 0), (17, 0), (18, 0), (19, 0), (20, 0), (21, 0), (22, 0), (23, 0), (24, 0), (25, 0), (26, 0), (27, 0), (28, 0), (29, 0), (30, 0), (31, 0), (32, 0), (33, 0), (34, 0), (35, 0), (36, 0), (37, 0), (38, 0), (39, 0), (40, 0), (41, 0), (42, 0), (43, 0), (44, 0), (45, 0), (46, 0), (47, 0)] else none) := rfl
theorem G7b_it (f : FuncId) : G7b.it f = (G7.it f) := rfl
theorem G7b_hy (b : Nat) : G7b.hy b = none := rfl
theorem G7bok : FnsOk Tryd.prog G7b := FnsOk.same G7ok rfl rfl
attribute [bitvec_to_nat] G7b_fn G7b_mu G7b_hp G7b_ord G7b_it G7b_hy
set_option maxHeartbeats 4000000 in
set_option maxRecDepth 100000 in
theorem back_ok : FSound Tryd.prog 4 labelsM := by
  refine fsound tysOk G7bok mix Tryd.func4 rfl ?_
  intro args p r fr hm hp
  unfold labelsM at hm
  split at hm
  · rename_i b t num
    cases hm
    have hl : (b.take 200).length ≤ 200 := by rw [List.length_take]; omega
    rcases hL : labelF (b.take 200) num with _ | l <;> rcases hT : textF (b.take 200) num with _ | t
    · simp (maxSteps:=2000000) only[bitvec_to_nat,seval,↓tcd,Tryd.f4,shownM,fewM,labelM,rlabelM,textM,optV,hL,hT,Option.isSome_none]
      exact ⟨by omega, by omega, by kernel_rfl⟩
    · have h1 := label_text hT
      have lt := textF_len hT
      simp (maxSteps:=2000000) only[bitvec_to_nat,seval,↓tcd,Tryd.f4,shownM,fewM,labelM,rlabelM,textM,optV,hL,hT,h1,Option.isSome_none]
      exact ⟨by omega, by omega, by omega, by kernel_rfl⟩
    · have h2 := text_label hL
      have ll := labelF_len hL
      simp (maxSteps:=2000000) only[bitvec_to_nat,seval,↓tcd,Tryd.f4,shownM,fewM,labelM,rlabelM,textM,optV,hL,hT,h2,Option.isSome_none]
      exact ⟨by omega, by omega, by omega, by kernel_rfl⟩
    · have h1 := label_text hT
      have h2 := text_label hL
      have ll := labelF_len hL
      have lt := textF_len hT
      simp (maxSteps:=2000000) only[bitvec_to_nat,seval,↓tcd,Tryd.f4,shownM,fewM,labelM,rlabelM,textM,optV,hL,hT,h1,h2,Option.isSome_none]
      exact ⟨by omega, by omega, by omega, by omega, by kernel_rfl⟩
  · cases hm
def numbersM : FM
  | [.int .u32 a, .int .u32 b] => some ((0 ≤ a ∧ a ≤ 4294967295) ∧ 0 ≤ b ∧ b ≤ 4294967295, .bool true, [])
  | _ => none
def G7n : Fns := { fn := fun f => G7.fn f, mu := fun d => .no, hp := fun f => G7.hp f, ord := fun i => if i = 7 then some [(0, 0), (1, 0), (2, 0), (3, 2), (4, 0), (5, 0), (6, 0), (7, 2), (8, 0), (9, 0), (10, 0), (11, 0), (12, 0), (13, 0), (14, 0), (15, 0), (16, 0), (17, 0), (18, 0), (19, 0), (20, 0), (21, 0), (22, 0), (23, 0), (24, 0), (25, 0), (26, 0), (27, 0), (28, 0), (29, 0), (30, 0), (31, 0), (32, 0), (33, 0), (34, 2), (35, 0), (36, 0), (37, 0), (38, 0), (39, 0), (40, 2), (41, 0), (42, 0), (43, 0), (46, 0), (47, 0), (48, 0), (44, 2), (45, 0), (49, 0), (50, 0), (51, 0)] else none, it := fun f => G7.it f }
theorem G7n_fn (f : FuncId) : G7n.fn f = (G7.fn f) := rfl
theorem G7n_mu (d : Tmp) : G7n.mu d = (.no) := rfl
theorem G7n_hp (f : FuncId) : G7n.hp f = (G7.hp f) := rfl
theorem G7n_ord (i : Nat) : G7n.ord i = (if i = 7 then some [(0, 0), (1, 0), (2, 0), (3, 2), (4, 0), (5, 0), (6, 0), (7, 2), (8, 0), (9, 0), (10, 0), (11, 0), (12, 0), (13, 0), (14, 0), (15, 0), (16, 0), (17, 0), (18, 0), (19, 0), (20, 0), (21, 0), (22, 0), (23, 0), (24, 0), (25, 0), (26, 0), (27, 0), (28, 0), (29, 0), (30, 0), (31, 0), (32, 0), (33, 0), (34, 2), (35, 0), (36, 0), (37, 0), (38, 0), (39, 0), (40, 2), (41, 0), (42, 0), (43, 0), (46, 0), (47, 0), (48, 0), (44, 2), (45, 0), (49, 0), (50, 0), (51, 0)] else none) := rfl
theorem G7n_it (f : FuncId) : G7n.it f = (G7.it f) := rfl
theorem G7n_hy (b : Nat) : G7n.hy b = none := rfl
theorem G7nok : FnsOk Tryd.prog G7n := FnsOk.same G7ok rfl rfl
attribute [bitvec_to_nat] G7n_fn G7n_mu G7n_hp G7n_ord G7n_it G7n_hy
set_option maxHeartbeats 4000000 in
set_option maxRecDepth 100000 in
theorem numbers_ok : FSound Tryd.prog 5 numbersM := by
  refine fsound tysOk G7nok mix Tryd.func5 rfl ?_
  intro args p r fr hm hp
  unfold numbersM at hm
  split at hm
  · rename_i a b
    cases hm
    obtain ⟨⟨h0, h1⟩, h2, h3⟩ := hp
    obtain ⟨a, rfl⟩ := Int.eq_ofNat_of_zero_le h0
    obtain ⟨b, rfl⟩ := Int.eq_ofNat_of_zero_le h2
    have da := decF_len 9 a (by omega)
    have db := decF_len 9 b (by omega)
    have la := label_dec (n := a) (by omega)
    have lb := label_dec (n := b) (by omega)
    have ta := text_label la
    have tb := text_label lb
    have pa := plain_label (decF_pos a) (by omega)
    have pb := plain_label (decF_pos b) (by omega)
    have na : ∀ c ∈ decF a, isBl c = false := fun c hc => dig_word (dec_digits a c hc)
    have nb : ∀ c ∈ decF b, isBl c = false := fun c hc => dig_word (dec_digits b c hc)
    have xa : decF a ≠ [] := List.length_pos_iff.1 (decF_pos a)
    have xb : decF b ≠ [] := List.length_pos_iff.1 (decF_pos b)
    have hbl : ∀ c ∈ [(32 : UInt8)], isBl c = true := fun c hc => by rw [List.mem_singleton.1 hc]; rfl
    have hP1 : parseF 0 (decF a ++ [32] ++ decF b) true = ⟨true, be 4 a, be 4 b, 0, 0⟩ := by
      have := parse_words (p := 0) (g1 := []) (g := [32]) (g2 := []) true (by simp) xa na hbl (by simp) xb nb (by simp) la lb
      rwa [List.nil_append, List.append_nil] at this
    have hP2 : parseF 0 (decF a ++ [32] ++ decF b) false = ⟨true, decF a, decF b, 0, 0⟩ := by
      have := parse_words (p := 0) (g1 := []) (g := [32]) (g2 := []) false (by simp) xa na hbl (by simp) xb nb (by simp) pa pb
      rwa [List.nil_append, List.append_nil] at this
    have l4 := be_length 4 a
    have l4b := be_length 4 b
    simp (maxSteps:=2000000) only[bitvec_to_nat,seval,↓tcd,Tryd.f5,shownM,digAllM,digM,labelM,parseM,textM,optV,Int.toNat_natCast,hP1,hP2,itv,ta,tb,l4,l4b]
    simp only [List.length_append, List.length_cons, List.length_nil]
    exact ⟨⟨by omega, by omega⟩, mb _ (by omega), ⟨by omega, by omega⟩, mb _ (by omega), by omega, by omega, by kernel_rfl, ⟨by omega, by omega⟩, ⟨by omega, by omega⟩, by omega, by omega⟩
  · cases hm
end Go.Proofs.YtckmcglkjfkghaaDoor.Edge
