import Derived.Test.YtckmcglkjfkghaaDoorAwX
import Derived.Test.YtckmcglkjfkghaaDoorEdge
namespace Go.Proofs.YtckmcglkjfkghaaDoor.Edge
open Go Go.Proofs Go.Proofs.YtckmcglkjfkghaaDoor.Aw Go.Proofs.YtckmcglkjfkghaaDoor.Num Go.Proofs.YtckmcglkjfkghaaDoor.VaryM Go.Proofs.YtckmcglkjfkghaaDoor.LineM Go.Proofs.YtckmcglkjfkghaaDoor.EdgeM
open Go.Proofs.YtckmcglkjfkghaaDoor.Vary (fixM fixF)
open Go.Proofs.YtckmcglkjfkghaaDoor.Line (cloneM wordsM)
set_option linter.unusedSimpArgs false
set_option linter.unusedVariables false
def digM (k : Nat) : FM
  | [.int .u32 n] => some (0 ≤ n ∧ n < k, .bytes (decF n.toNat) (some 0), [((decF n.toNat).length, 5)])
  | _ => none
def Gd (k : Nat) : Fns := { fn := fun f => if f = 12 then some (digM k) else G2.fn f, mu := fun d => .no, hp := fun f => G2.hp f, ord := fun i => none, it := fun f => G2.it f }
theorem Gd_fn (k : Nat) (f : FuncId) : (Gd k).fn f = (if f = 12 then some (digM k) else G2.fn f) := rfl
theorem Gd_mu (k : Nat) (d : Tmp) : (Gd k).mu d = .no := rfl
theorem Gd_hp (k : Nat) (f : FuncId) : (Gd k).hp f = G2.hp f := rfl
theorem Gd_ord (k i : Nat) : (Gd k).ord i = none := rfl
theorem Gd_it (k : Nat) (f : FuncId) : (Gd k).it f = G2.it f := rfl
theorem Gd_hy (k b : Nat) : (Gd k).hy b = none := rfl
attribute [bitvec_to_nat] Gd_fn Gd_mu Gd_hp Gd_ord Gd_it Gd_hy
theorem u8of (n : Nat) (h : n < 10) : UInt8.ofNat (IntKind.u8.wrap (48 + (n : Int))).toNat = UInt8.ofNat (48 + n) := by
  rw [u8w (by omega) (by omega)]
  congr 1
theorem dig_step (k : Nat) (hk : k ≤ 4294967295) (h : FSound Tryd.prog 12 (digM k)) : FSound Tryd.prog 12 (digM (k + 1)) := by
  have hG : FnsOk Tryd.prog (Gd k) := FnsOk.same (FnsOk.cons G2ok _ _ h Tryd.func12 (by decide) (fun h => by cases h)) rfl rfl
  refine fsound tysOk hG mix Tryd.func12 rfl ?_
  intro args p r fr hm hp
  unfold digM at hm
  split at hm
  · rename_i n
    cases hm
    obtain ⟨h0, h1⟩ := hp
    obtain ⟨n, rfl⟩ := Int.eq_ofNat_of_zero_le h0
    simp (maxSteps:=2000000) only[bitvec_to_nat,seval,↓tcd,Tryd.f12,digM,Int.toNat_natCast]
    have hq : IntKind.u32.wrap ((n : Int).tdiv 10) = ((n / 10 : Nat) : Int) := by rw [Int.tdiv_eq_ediv_of_nonneg (by omega), u32w (by omega) (by omega)]; omega
    have hr : IntKind.u32.wrap (48 + (n : Int).tmod 10) = 48 + ((n % 10 : Nat) : Int) := by rw [Int.tmod_eq_emod_of_nonneg (by omega), u32w (by omega) (by omega)]; omega
    rw [hq, hr, Int.toNat_natCast, u8of _ (by omega)]
    refine awpIf_intro (fun h => ?_) (fun h => ?_) <;> simp only [decide_eq_true_eq, decide_eq_false_iff_not] at h
    · rw [u32w (by omega) (by omega), u8of _ (by omega), decF_small (by omega)]
      exact ⟨u8wrap_in _, 0, rfl, rfl, rfl⟩
    · have hl := decF_len 9 (n / 10) (by omega)
      rw [decF_big (n := n) (by omega)]
      exact ⟨⟨by omega, by omega⟩, u8wrap_in _, mb _ (by omega), 0, rfl, rfl, rfl⟩
  · cases hm
theorem dig_all : ∀ k, k ≤ 4294967296 → FSound Tryd.prog 12 (digM k)
  | 0, _ => by
    intro w prot args vs p r fr htt hth hm hp hsz hrel
    unfold digM at hm
    split at hm
    · cases hm
      exact absurd hp.2 (by omega)
    · cases hm
  | k + 1, h => dig_step k (by omega) (dig_all k (by omega))
abbrev digAllM : FM := digM 4294967296
theorem dig_ok : FSound Tryd.prog 12 digAllM := dig_all _ (Nat.le_refl _)
def fewM : FM
  | [.bytes b _] => some (True, .bytes (b.take 200) none, [])
  | _ => none
theorem few_ok : FSound Tryd.prog 7 fewM := by
  refine fsound tysOk G2ok mix Tryd.func7 rfl ?_
  intro args p r fr hm hp
  unfold fewM at hm
  split at hm
  · rename_i b t
    cases hm
    simp (maxSteps:=2000000) only[bitvec_to_nat,seval,↓tcd,Tryd.f7]
    have e : (if (200 : Int) < (b.length : Int) then (200 : Int) else (b.length : Int)) = ((min b.length 200 : Nat) : Int) := by split <;> omega
    rw [e, Int.toNat_natCast]
    refine ⟨⟨by omega, by omega⟩, ?_⟩
    by_cases h : b.length ≤ 200
    · rw [Nat.min_eq_left h, List.take_of_length_le (Nat.le_refl _), List.take_of_length_le h]
    · rw [Nat.min_eq_right (by omega)]
  · cases hm
def unit : V → It
  | .agg [.bool t, .bytes a _, .bytes b _, .int .i64 c, .int .i64 p] => ⟨t, a, b, c, p⟩
  | _ => ⟨false, [], [], 0, 0⟩
def sameM : FM
  | [.agg [.bool t, .bytes a _, .bytes b _, .int .i64 c, .int .i64 p], .agg [.bool t', .bytes a' _, .bytes b' _, .int .i64 c', .int .i64 p']] => some (True, .bool (decide ((⟨t, a, b, c, p⟩ : It) = ⟨t', a', b', c', p'⟩)), [])
  | _ => none
theorem retV_it {L : List (List V)} {t : Bool} {a b : List UInt8} {c p : Int} {x : It} (h : x = ⟨t, a, b, c, p⟩) : RetV L (.agg [.bool t, .bytes a none, .bytes b none, .int .i64 c, .int .i64 p]) (itv x) := by
  subst h
  exact retV_self (L := L) (itv_clean ⟨t, a, b, c, p⟩) (fun em sz o n e => by cases e)
theorem retV_it0 {L : List (List V)} {t : Bool} {c p : Int} {x : It} (h : x = ⟨t, [], [], c, p⟩) : RetV L (.agg [.bool t, .nils, .nils, .int .i64 c, .int .i64 p]) (itv x) := by
  subst h
  refine ⟨0, ?_, itv_clean _⟩
  rw [strip0]
  exact ⟨rfl, ⟨rfl, rfl⟩, ⟨rfl, rfl⟩, rfl, rfl, trivial⟩
def parseM : FM
  | [.agg [.int .i64 a, .bytes b none], .bool num] => some (0 ≤ a ∧ a ≤ 4611686018427387904 ∧ b.length ≤ 549755813888, itv (parseF a.toNat b num), [])
  | _ => none
def PL (a : Nat) (b : List UInt8) (x y : Ln) (num : Bool) : Nat → LL → Prop
  | 0, L => L = [[.int .i64 (a : Int), .bytes b none], [.bool false, .nils, .nils, .int .i64 0, .int .i64 0], [.nils, .nils]]
  | 1, L => ∃ s, labelF x.2 num = some s ∧ L = [[.int .i64 (a : Int), .bytes b none], [.bool false, .nils, .nils, .int .i64 0, .int .i64 0], [.bytes s none, .nils], [.int .i64 (x.1 : Int), .bytes x.2 none]]
  | 2, L => ∃ s t, labelF x.2 num = some s ∧ labelF y.2 num = some t ∧ L = [[.int .i64 (a : Int), .bytes b none], [.bool false, .nils, .nils, .int .i64 0, .int .i64 0], [.bytes s none, .bytes t none], [.int .i64 (x.1 : Int), .bytes x.2 none], [.int .i64 (y.1 : Int), .bytes y.2 none]]
  | _, _ => False
def G3 : Fns := { fn := fun f => if f = 6 then some labelM else if f = 22 then some wordsM else if f = 8 then some rlabelM else G2.fn f, mu := fun d => .no, hp := fun f => G2.hp f, ord := fun i => none, it := fun f => G2.it f }
theorem G3_fn (f : FuncId) : G3.fn f = (if f = 6 then some labelM else if f = 22 then some wordsM else if f = 8 then some rlabelM else G2.fn f) := rfl
theorem G3_mu (d : Tmp) : G3.mu d = (.no) := rfl
theorem G3_hp (f : FuncId) : G3.hp f = (G2.hp f) := rfl
theorem G3_ord (i : Nat) : G3.ord i = (none) := rfl
theorem G3_it (f : FuncId) : G3.it f = (G2.it f) := rfl
theorem G3_hy (b : Nat) : G3.hy b = none := rfl
theorem G3ok : FnsOk Tryd.prog G3 := FnsOk.same (FnsOk.cons (FnsOk.cons (FnsOk.cons G2ok _ _ rlabel_ok Tryd.func8 (by decide) (fun h => by cases h)) _ _ Line.words_ok Tryd.func22 (by decide) (fun h => by cases h)) _ _ label_ok Tryd.func6 (by decide) (fun h => by cases h)) rfl rfl
attribute [bitvec_to_nat] G3_fn G3_mu G3_hp G3_ord G3_it G3_hy
theorem parse_ok : FSound Tryd.prog 13 parseM := by
  refine fsoundV tysOk G3ok mix Tryd.func13 rfl ?_
  intro args p r fr hm hp
  unfold parseM at hm
  split at hm
  · rename_i a b num
    cases hm
    refine ⟨rfl, ?_⟩
    obtain ⟨h0, h1, h2⟩ := hp
    obtain ⟨a, rfl⟩ := Int.eq_ofNat_of_zero_le h0
    have hcl := lv_clean (wordsF a b)
    by_cases hw : ∃ x y, wordsF a b = [x, y]
    · obtain ⟨⟨xp, xb⟩, ⟨yp, yb⟩, hw⟩ := hw
      rw [hw] at hcl
      simp (maxSteps:=2000000) only[bitvec_to_nat,seval,↓tcd,Tryd.f13,wordsM,labelM,Int.toNat_natCast,retPostV,hw,lv]
      have hin := words_in a b
      rw [hw] at hin
      have i1 := hin (xp, xb) (by simp)
      have i2 := hin (yp, yb) (by simp)
      simp only at i1 i2
      rw [parse_two hw]
      refine ⟨⟨by omega, by omega, by omega⟩, ?_⟩
      refine awpLoop_intro (α := {q : Nat × LL // PL a b (xp, xb) (yp, yb) num q.1 q.2}) (fun q => ⟨[.any, .bool num, .box 0 0, .any, .box 1 0, .box 2 0, .any, .any, .any, .any, .any, .any, .any, .any, .any, .any, .any, .any, .any, .list 2 [.agg [.int .i64 (xp : Int), .bytes xb none], .agg [.int .i64 (yp : Int), .bytes yb none]] none, .int .i64 2, .int .i64 (q.1.1 : Nat), .any, .any, .any, .any, .any, .any, .any, .any, .any, .any, .any, .any, .any, .any, .any, .any, .any, .any, .any, .any, .any, .any, .any, .any, .any], q.1.2, []⟩) (fun q => 3 - q.1.1) ⟨(0, [[.int .i64 (a : Int), .bytes b none], [.bool false, .nils, .nils, .int .i64 0, .int .i64 0], [.nils, .nils]]), rfl⟩ ?_ ?_
      · simp (maxSteps:=2000000) only[bitvec_to_nat,seval,↓tcd,leLL_refl]
        all_goals simp
      · rintro ⟨⟨k, L⟩, hk⟩
        simp only at hk
        rcases k with _ | _ | _ | k
        · have hk' : L = _ := hk
          subst hk'
          simp (maxSteps:=2000000) only[bitvec_to_nat,seval,↓tcd,Tryd.f13,labelM,optV,Int.toNat_natCast,retPostV]
          have w1 : IntKind.i64.wrap 1 = 1 := rfl
          rw [w1]
          refine ⟨by omega, awpIf_intro (fun h => ?_) (fun h => ?_)⟩
          · obtain ⟨s, hs⟩ := Option.isSome_iff_exists.1 h
            simp only [hs, Option.getD_some]
            refine ⟨⟨(1, [[.int .i64 (a : Int), .bytes b none], [.bool false, .nils, .nils, .int .i64 0, .int .i64 0], [.bytes s none, .nils], [.int .i64 (xp : Int), .bytes xb none]]), (⟨s, hs, rfl⟩ : PL a b (xp, xb) (yp, yb) num 1 _)⟩, ?_, by simp only; omega⟩
            simp (maxSteps:=2000000) only[bitvec_to_nat,seval,↓tcd,leLL_refl]
            all_goals simp
          · have hs : labelF xb num = none := Option.not_isSome_iff_eq_none.1 (by simp [h])
            simp only [hs]
            exact retV_it0 rfl
        · obtain ⟨s, hs, rfl⟩ := hk
          simp (maxSteps:=2000000) only[bitvec_to_nat,seval,↓tcd,Tryd.f13,labelM,optV,Int.toNat_natCast,retPostV]
          have w2 : IntKind.i64.wrap 2 = 2 := rfl
          rw [w2]
          simp only at hs
          refine ⟨by omega, awpIf_intro (fun h => ?_) (fun h => ?_)⟩
          · obtain ⟨t, ht⟩ := Option.isSome_iff_exists.1 h
            simp only [hs, ht, Option.getD_some]
            refine ⟨⟨(2, [[.int .i64 (a : Int), .bytes b none], [.bool false, .nils, .nils, .int .i64 0, .int .i64 0], [.bytes s none, .bytes t none], [.int .i64 (xp : Int), .bytes xb none], [.int .i64 (yp : Int), .bytes yb none]]), (⟨s, t, hs, ht, rfl⟩ : PL a b (xp, xb) (yp, yb) num 2 _)⟩, ?_, by simp only; omega⟩
            simp (maxSteps:=2000000) only[bitvec_to_nat,seval,↓tcd,leLL_refl]
            all_goals simp
          · have ht : labelF yb num = none := Option.not_isSome_iff_eq_none.1 (by simp [h])
            simp only [hs, ht]
            exact retV_it0 rfl
        · obtain ⟨s, t, hs, ht, rfl⟩ := hk
          simp (maxSteps:=2000000) only[bitvec_to_nat,seval,↓tcd,Tryd.f13,labelM,optV,Int.toNat_natCast,retPostV]
          simp only at hs ht
          simp only [hs, ht]
          exact retV_it rfl
        · exact hk.elim
    · have hl : (List.map lv (wordsF a b)).length ≠ 2 := by
        rw [List.length_map]
        intro h
        match hx : wordsF a b, h with
        | [x, y], _ => exact hw ⟨x, y, hx⟩
      have hl' : decide (((List.map lv (wordsF a b)).length : Int) = 2) = false := decide_eq_false (by omega)
      simp (maxSteps:=2000000) only[bitvec_to_nat,seval,↓tcd,Tryd.f13,wordsM,labelM,Int.toNat_natCast,retPostV,hl']
      rw [parse_other hw]
      exact ⟨⟨hcl, by omega, by omega, by omega⟩, retV_it0 rfl⟩
  · cases hm
end Go.Proofs.YtckmcglkjfkghaaDoor.Edge
