import Derived.Test.YtckmcglkjfkghaaDoorAwX
import Derived.Test.YtckmcglkjfkghaaDoorProg
import Derived.Test.YtckmcglkjfkghaaDoorVaryM
import Derived.Test.YtckmcglkjfkghaaDoorNum
import Derived.KernelRfl
namespace Go.Proofs.YtckmcglkjfkghaaDoor.Vary
open Go Go.Proofs Go.Proofs.YtckmcglkjfkghaaDoor.Aw Go.Proofs.YtckmcglkjfkghaaDoor.VaryM Go.Proofs.YtckmcglkjfkghaaDoor.Num
set_option linter.unusedSimpArgs false
set_option linter.unusedVariables false
def tys : Tys := fun t => if t = 2 then some ⟨.int .i64, 1, 8, (.int .i64 0)⟩ else if t = 3 then some ⟨.int .i64, 1, 8, (.int .i64 0)⟩ else if t = 4 then some ⟨.bool, 1, 1, (.bool false)⟩ else if t = 5 then some ⟨.int .u8, 1, 1, (.int .u8 0)⟩ else if t = 9 then some ⟨.str, 1, 16, (.string .empty)⟩ else if t = 22 then some ⟨.slice 5, 1, 24, (.slice none 0 0)⟩ else if t = 30 then some ⟨.int .i64, 1, 8, (.int .i64 0)⟩ else if t = 38 then some ⟨.int .u64, 1, 8, (.int .u64 0)⟩ else if t = 50 then some ⟨.int .u64, 1, 8, (.int .u64 0)⟩ else none
theorem tysOk : TyOk Tryd.prog tys := by
  refine TyOk.cons ?_ 2 _ (by kernel_rfl) (by kernel_rfl)
  refine TyOk.cons ?_ 3 _ (by kernel_rfl) (by kernel_rfl)
  refine TyOk.cons ?_ 4 _ (by kernel_rfl) (by kernel_rfl)
  refine TyOk.cons ?_ 5 _ (by kernel_rfl) (by kernel_rfl)
  refine TyOk.cons ?_ 9 _ (by kernel_rfl) (by kernel_rfl)
  refine TyOk.cons ?_ 22 _ (by kernel_rfl) (by kernel_rfl)
  refine TyOk.cons ?_ 30 _ (by kernel_rfl) (by kernel_rfl)
  refine TyOk.cons ?_ 38 _ (by kernel_rfl) (by kernel_rfl)
  refine TyOk.cons ?_ 50 _ (by kernel_rfl) (by kernel_rfl)
  exact TyOk.nil _
theorem mix : Tryd.prog.follows .mixedOrders = true := by kernel_rfl
theorem ty2 : tys 2 = some ⟨.int .i64, 1, 8, (.int .i64 0)⟩ := rfl
theorem tk2 : kindV tys 2 = some (.int .i64) := rfl
theorem ts2 : sizeV tys 2 = 1 := rfl
theorem ta2 : TyI.isAgg ⟨.int .i64, 1, 8, (.int .i64 0)⟩ = false := rfl
theorem tu2 : isU8 ⟨.int .i64, 1, 8, (.int .i64 0)⟩ = false := rfl
theorem tn2 : notIntK tys 2 = false := rfl
theorem tr2 : isStrK tys 2 = false := rfl
theorem tz2 : zeroOk ⟨.int .i64, 1, 8, (.int .i64 0)⟩ = true := by kernel_rfl
theorem tv2 : zeroU8 ⟨.int .i64, 1, 8, (.int .i64 0)⟩ = false := rfl
theorem td2 : TyI.zeroV ⟨.int .i64, 1, 8, (.int .i64 0)⟩ = V.ofV1 (.int .i64 0) := rfl
theorem ty3 : tys 3 = some ⟨.int .i64, 1, 8, (.int .i64 0)⟩ := rfl
theorem tk3 : kindV tys 3 = some (.int .i64) := rfl
theorem ts3 : sizeV tys 3 = 1 := rfl
theorem ta3 : TyI.isAgg ⟨.int .i64, 1, 8, (.int .i64 0)⟩ = false := rfl
theorem tu3 : isU8 ⟨.int .i64, 1, 8, (.int .i64 0)⟩ = false := rfl
theorem tn3 : notIntK tys 3 = false := rfl
theorem tr3 : isStrK tys 3 = false := rfl
theorem tz3 : zeroOk ⟨.int .i64, 1, 8, (.int .i64 0)⟩ = true := by kernel_rfl
theorem tv3 : zeroU8 ⟨.int .i64, 1, 8, (.int .i64 0)⟩ = false := rfl
theorem td3 : TyI.zeroV ⟨.int .i64, 1, 8, (.int .i64 0)⟩ = V.ofV1 (.int .i64 0) := rfl
theorem ty4 : tys 4 = some ⟨.bool, 1, 1, (.bool false)⟩ := rfl
theorem tk4 : kindV tys 4 = some (.bool) := rfl
theorem ts4 : sizeV tys 4 = 1 := rfl
theorem ta4 : TyI.isAgg ⟨.bool, 1, 1, (.bool false)⟩ = false := rfl
theorem tu4 : isU8 ⟨.bool, 1, 1, (.bool false)⟩ = false := rfl
theorem tn4 : notIntK tys 4 = true := rfl
theorem tr4 : isStrK tys 4 = false := rfl
theorem tz4 : zeroOk ⟨.bool, 1, 1, (.bool false)⟩ = true := by kernel_rfl
theorem tv4 : zeroU8 ⟨.bool, 1, 1, (.bool false)⟩ = false := rfl
theorem td4 : TyI.zeroV ⟨.bool, 1, 1, (.bool false)⟩ = V.ofV1 (.bool false) := rfl
theorem ty5 : tys 5 = some ⟨.int .u8, 1, 1, (.int .u8 0)⟩ := rfl
theorem tk5 : kindV tys 5 = some (.int .u8) := rfl
theorem ts5 : sizeV tys 5 = 1 := rfl
theorem ta5 : TyI.isAgg ⟨.int .u8, 1, 1, (.int .u8 0)⟩ = false := rfl
theorem tu5 : isU8 ⟨.int .u8, 1, 1, (.int .u8 0)⟩ = true := rfl
theorem tn5 : notIntK tys 5 = false := rfl
theorem tr5 : isStrK tys 5 = false := rfl
theorem tz5 : zeroOk ⟨.int .u8, 1, 1, (.int .u8 0)⟩ = true := by kernel_rfl
theorem tv5 : zeroU8 ⟨.int .u8, 1, 1, (.int .u8 0)⟩ = true := rfl
theorem td5 : TyI.zeroV ⟨.int .u8, 1, 1, (.int .u8 0)⟩ = V.ofV1 (.int .u8 0) := rfl
theorem ty9 : tys 9 = some ⟨.str, 1, 16, (.string .empty)⟩ := rfl
theorem tk9 : kindV tys 9 = some (.str) := rfl
theorem ts9 : sizeV tys 9 = 1 := rfl
theorem ta9 : TyI.isAgg ⟨.str, 1, 16, (.string .empty)⟩ = false := rfl
theorem tu9 : isU8 ⟨.str, 1, 16, (.string .empty)⟩ = false := rfl
theorem tn9 : notIntK tys 9 = true := rfl
theorem tr9 : isStrK tys 9 = true := rfl
theorem tz9 : zeroOk ⟨.str, 1, 16, (.string .empty)⟩ = true := by kernel_rfl
theorem tv9 : zeroU8 ⟨.str, 1, 16, (.string .empty)⟩ = false := rfl
theorem td9 : TyI.zeroV ⟨.str, 1, 16, (.string .empty)⟩ = V.ofV1 (.string .empty) := rfl
theorem ty22 : tys 22 = some ⟨.slice 5, 1, 24, (.slice none 0 0)⟩ := rfl
theorem tk22 : kindV tys 22 = some (.slice 5) := rfl
theorem ts22 : sizeV tys 22 = 1 := rfl
theorem ta22 : TyI.isAgg ⟨.slice 5, 1, 24, (.slice none 0 0)⟩ = false := rfl
theorem tb22 : isBytes tys 22 = true := rfl
theorem te22 : elemI tys 22 = some (5, ⟨.int .u8, 1, 1, (.int .u8 0)⟩) := rfl
theorem tu22 : isU8 ⟨.slice 5, 1, 24, (.slice none 0 0)⟩ = false := rfl
theorem tn22 : notIntK tys 22 = true := rfl
theorem tr22 : isStrK tys 22 = false := rfl
theorem tz22 : zeroOk ⟨.slice 5, 1, 24, (.slice none 0 0)⟩ = true := by kernel_rfl
theorem tv22 : zeroU8 ⟨.slice 5, 1, 24, (.slice none 0 0)⟩ = false := rfl
theorem td22 : TyI.zeroV ⟨.slice 5, 1, 24, (.slice none 0 0)⟩ = V.ofV1 (.slice none 0 0) := rfl
theorem ty30 : tys 30 = some ⟨.int .i64, 1, 8, (.int .i64 0)⟩ := rfl
theorem tk30 : kindV tys 30 = some (.int .i64) := rfl
theorem ts30 : sizeV tys 30 = 1 := rfl
theorem ta30 : TyI.isAgg ⟨.int .i64, 1, 8, (.int .i64 0)⟩ = false := rfl
theorem tu30 : isU8 ⟨.int .i64, 1, 8, (.int .i64 0)⟩ = false := rfl
theorem tn30 : notIntK tys 30 = false := rfl
theorem tr30 : isStrK tys 30 = false := rfl
theorem tz30 : zeroOk ⟨.int .i64, 1, 8, (.int .i64 0)⟩ = true := by kernel_rfl
theorem tv30 : zeroU8 ⟨.int .i64, 1, 8, (.int .i64 0)⟩ = false := rfl
theorem td30 : TyI.zeroV ⟨.int .i64, 1, 8, (.int .i64 0)⟩ = V.ofV1 (.int .i64 0) := rfl
theorem ty38 : tys 38 = some ⟨.int .u64, 1, 8, (.int .u64 0)⟩ := rfl
theorem tk38 : kindV tys 38 = some (.int .u64) := rfl
theorem ts38 : sizeV tys 38 = 1 := rfl
theorem ta38 : TyI.isAgg ⟨.int .u64, 1, 8, (.int .u64 0)⟩ = false := rfl
theorem tu38 : isU8 ⟨.int .u64, 1, 8, (.int .u64 0)⟩ = false := rfl
theorem tn38 : notIntK tys 38 = false := rfl
theorem tr38 : isStrK tys 38 = false := rfl
theorem tz38 : zeroOk ⟨.int .u64, 1, 8, (.int .u64 0)⟩ = true := by kernel_rfl
theorem tv38 : zeroU8 ⟨.int .u64, 1, 8, (.int .u64 0)⟩ = false := rfl
theorem td38 : TyI.zeroV ⟨.int .u64, 1, 8, (.int .u64 0)⟩ = V.ofV1 (.int .u64 0) := rfl
theorem ty50 : tys 50 = some ⟨.int .u64, 1, 8, (.int .u64 0)⟩ := rfl
theorem tk50 : kindV tys 50 = some (.int .u64) := rfl
theorem ts50 : sizeV tys 50 = 1 := rfl
theorem ta50 : TyI.isAgg ⟨.int .u64, 1, 8, (.int .u64 0)⟩ = false := rfl
theorem tu50 : isU8 ⟨.int .u64, 1, 8, (.int .u64 0)⟩ = false := rfl
theorem tn50 : notIntK tys 50 = false := rfl
theorem tr50 : isStrK tys 50 = false := rfl
theorem tz50 : zeroOk ⟨.int .u64, 1, 8, (.int .u64 0)⟩ = true := by kernel_rfl
theorem tv50 : zeroU8 ⟨.int .u64, 1, 8, (.int .u64 0)⟩ = false := rfl
theorem td50 : TyI.zeroV ⟨.int .u64, 1, 8, (.int .u64 0)⟩ = V.ofV1 (.int .u64 0) := rfl
set_option linter.defProp false in
def tcd := And.intro @r_ifTrue (@r_ifFalse)
attribute [bitvec_to_nat] ty2 tk2 ts2 ta2 tu2 tn2 tr2 tz2 tv2 td2 ty3 tk3 ts3 ta3 tu3 tn3 tr3 tz3 tv3 td3 ty4 tk4 ts4 ta4 tu4 tn4 tr4 tz4 tv4 td4 ty5 tk5 ts5 ta5 tu5 tn5 tr5 tz5 tv5 td5 ty9 tk9 ts9 ta9 tu9 tn9 tr9 tz9 tv9 td9 ty22 tk22 ts22 ta22 tb22 te22 tu22 tn22 tr22 tz22 tv22 td22 ty30 tk30 ts30 ta30 tu30 tn30 tr30 tz30 tv30 td30 ty38 tk38 ts38 ta38 tu38 tn38 tr38 tz38 tv38 td38 ty50 tk50 ts50 ta50 tu50 tn50 tr50 tz50 tv50 td50
def G0 : Fns := { fn := fun _ => none }
theorem G0_fn (f : FuncId) : G0.fn f = none := rfl
theorem G0_mu (d : Tmp) : G0.mu d = .no := rfl
theorem G0_hp (f : FuncId) : G0.hp f = none := rfl
theorem G0_ord (i : Nat) : G0.ord i = none := rfl
theorem G0_it (f : FuncId) : G0.it f = none := rfl
theorem G0_hy (b : Nat) : G0.hy b = none := rfl
theorem G0ok : FnsOk Tryd.prog G0 := FnsOk.nil _ rfl rfl
attribute [bitvec_to_nat] G0_fn G0_mu G0_hp G0_ord G0_it G0_hy
def roomyM : FM
  | [.bytes b _, .int .i64 r] => some (0 ≤ r ∧ r ≤ 1000 ∧ b.length ≤ 1099511627776, .bytes b (some 0), [(b.length, 5)])
  | _ => none
theorem roomy_ok : FSound Tryd.prog 25 roomyM := by
  refine fsound tysOk G0ok mix Tryd.func25 rfl ?_
  intro args p r fr hm hp
  unfold roomyM at hm
  split at hm
  · rename_i b t r
    cases hm
    obtain ⟨h0, h1, h2⟩ := hp
    simp (maxSteps:=2000000) only[bitvec_to_nat,seval,↓tcd,Tryd.f25]
    rw [i64w (by omega) (by omega)]
    exact ⟨⟨by omega, by omega, by omega⟩, by unfold maxBytes; omega, 0, rfl, rfl⟩
  · cases hm
def sizedB (n : Int) : Bool := decide (1 ≤ n ∧ n ≤ 8)
def sizedM : FM
  | [.int .i64 n] => some (True, .bool (sizedB n), [])
  | _ => none
theorem sized_ok : FSound Tryd.prog 24 sizedM := by
  refine fsound tysOk G0ok mix Tryd.func24 rfl ?_
  intro args p r fr hm hp
  unfold sizedM at hm
  split at hm
  · rename_i n
    cases hm
    simp (maxSteps:=2000000) only[bitvec_to_nat,seval,↓tcd,Tryd.f24]
    refine awpIf_intro (fun h => ?_) (fun h => ?_) <;> simp at h <;> simp [sizedB] <;> omega
  · cases hm
def putM : FM
  | [.bytes b _, .int .u64 n] => some (0 ≤ n ∧ n ≤ 18446744073709551615 ∧ b.length ≤ 549755813888, .bytes (b ++ leb n.toNat) (some 0), [((b ++ leb n.toNat).length, 5)])
  | _ => none
def G1 : Fns := { fn := fun f => if f = 25 then some roomyM else G0.fn f, mu := fun d => .no, hp := fun f => G0.hp f, ord := fun i => none, it := fun f => G0.it f }
theorem G1_fn (f : FuncId) : G1.fn f = (if f = 25 then some roomyM else G0.fn f) := rfl
theorem G1_mu (d : Tmp) : G1.mu d = (.no) := rfl
theorem G1_hp (f : FuncId) : G1.hp f = (G0.hp f) := rfl
theorem G1_ord (i : Nat) : G1.ord i = (none) := rfl
theorem G1_it (f : FuncId) : G1.it f = (G0.it f) := rfl
theorem G1_hy (b : Nat) : G1.hy b = none := rfl
theorem G1ok : FnsOk Tryd.prog G1 := FnsOk.same (FnsOk.cons G0ok _ _ roomy_ok Tryd.func25 (by decide) (fun h => by cases h)) rfl rfl
attribute [bitvec_to_nat] G1_fn G1_mu G1_hp G1_ord G1_it G1_hy
def zigM : FM
  | [.int .i64 n] => some (-9223372036854775808 ≤ n ∧ n ≤ 9223372036854775807, .int .u64 (zigF n), [])
  | _ => none
def zagM : FM
  | [.int .u64 n] => some (0 ≤ n ∧ n ≤ 18446744073709551615, .int .i64 (zagF n), [])
  | _ => none
def fixF (b : List UInt8) (n : Int) (size : Int) : List UInt8 := if 1 ≤ size ∧ size ≤ 8 then b ++ be size.toNat n.toNat else b
def fixM : FM
  | [.bytes b _, .int .u64 n, .int .i64 size] => some (0 ≤ n ∧ n ≤ 18446744073709551615 ∧ b.length ≤ 549755813888, .bytes (fixF b n size) (some 0), [((fixF b n size).length, 5)])
  | _ => none
def G2 : Fns := { fn := fun f => if f = 24 then some sizedM else G1.fn f, mu := fun d => .no, hp := fun f => G1.hp f, ord := fun i => none, it := fun f => G1.it f }
theorem G2_fn (f : FuncId) : G2.fn f = (if f = 24 then some sizedM else G1.fn f) := rfl
theorem G2_mu (d : Tmp) : G2.mu d = (.no) := rfl
theorem G2_hp (f : FuncId) : G2.hp f = (G1.hp f) := rfl
theorem G2_ord (i : Nat) : G2.ord i = (none) := rfl
theorem G2_it (f : FuncId) : G2.it f = (G1.it f) := rfl
theorem G2_hy (b : Nat) : G2.hy b = none := rfl
theorem G2ok : FnsOk Tryd.prog G2 := FnsOk.same (FnsOk.cons G1ok _ _ sized_ok Tryd.func24 (by decide) (fun h => by cases h)) rfl rfl
attribute [bitvec_to_nat] G2_fn G2_mu G2_hp G2_ord G2_it G2_hy
theorem fix_ok : FSound Tryd.prog 16 fixM := by
  refine fsound tysOk G2ok mix Tryd.func16 rfl ?_
  intro args p r fr hm hp
  unfold fixM at hm
  split at hm
  · rename_i b t n size
    cases hm
    obtain ⟨h0, h1, h2⟩ := hp
    obtain ⟨m, rfl⟩ := Int.eq_ofNat_of_zero_le h0
    simp (maxSteps:=2000000) only[bitvec_to_nat,seval,↓tcd,Tryd.f16,roomyM,sizedM]
    refine awpIf_intro (fun h => ?_) (fun h => ?_)
    · have hs : 1 ≤ size ∧ size ≤ 8 := by simpa [sizedB] using h
      refine ⟨⟨by omega, by omega, by omega⟩, ?_⟩
      rw [i64w (by omega) (by omega)]
      refine awpLoop_intro (α := {k : Nat // k ≤ size.toNat})
        (fun k => ⟨[.any, .int .u64 m, .any, .any, .any, .any, .any, .bytes (b ++ (be size.toNat m).take (size.toNat - k.1)) (some 0), .int .i64 ((k.1 : Int) - 1), .any, .any, .any, .any, .any, .any, .any, .any, .any, .any, .any, .any, .any, .any, .any, .any, .any, .any, .any, .any, .any, .any, .any], [], [((b ++ (be size.toNat m).take (size.toNat - k.1)).length, 5)]⟩) (fun k => k.1)
        ⟨size.toNat, by omega⟩ ?_ ?_
      · simp (maxSteps:=2000000) only[bitvec_to_nat,seval,↓tcd]
        simp
        omega
      · rintro ⟨k, hk⟩
        simp (maxSteps:=2000000) only[bitvec_to_nat,seval,↓tcd]
        obtain ⟨s, rfl⟩ := Int.eq_ofNat_of_zero_le (show 0 ≤ size by omega)
        refine awpIf_intro (fun h => ?_) (fun h => ?_)
        · simp only [decide_eq_true_eq] at h
          obtain ⟨k, rfl⟩ : ∃ k', k = k' + 1 := ⟨k - 1, by omega⟩
          have e1 : ((k + 1 : Nat) : Int) - 1 = (k : Int) := by omega
          rw [e1, i64w (n := 8 * (k : Int)) (by omega) (by omega), i64w (n := (k : Int) - 1) (by omega) (by omega), shr8 _ _ (by omega), u8nat]
          have hl : ((be s m).take (s - (k + 1))).length = s - (k + 1) := by rw [List.length_take, be_length]; omega
          simp only [Int.toNat_natCast]
          refine ⟨by omega, by omega, by first | exact mb _ (by simp only [List.length_append, hl]; omega) | exact mb _ (by simp only [hl]; omega) | exact mb _ (by omega), ⟨⟨k, by omega⟩, ?_⟩⟩
          have e2 : s - k = (s - (k + 1)) + 1 := by omega
          have e3 : s - 1 - (s - (k + 1)) = k := by omega
          rw [e2, be_take s m _ (by omega), e3]
          simp
        · simp only [decide_eq_false_iff_not] at h
          have hk0 : k = 0 := by omega
          subst hk0
          have hf : fixF b m s = b ++ be s m := by unfold fixF; rw [if_pos hs]; rfl
          have ht : (be s m).take s = be s m := List.take_of_length_le (by rw [be_length]; omega)
          simp only [Int.toNat_natCast, Nat.sub_zero]
          rw [hf, ht]
          exact ⟨0, rfl, rfl, rfl⟩
    · have hs : ¬ (1 ≤ size ∧ size ≤ 8) := by simpa [sizedB] using h
      have hf : fixF b m size = b := by unfold fixF; rw [if_neg hs]
      rw [hf]
      exact ⟨by omega, 0, rfl, rfl, rfl⟩
  · cases hm
def takeM : FM
  | [.bytes b _] => some (b.length ≤ 549755813888, .tuple [.int .u64 (takeF b).1, .bytes (takeF b).2.1 none, .int .i64 (takeF b).2.2], [])
  | _ => none
theorem p128 (i : Nat) : 2 ^ (7 * i) = 128 ^ i := by rw [Nat.pow_mul]
theorem digit (i acc c : Nat) (hi : i ≤ 8 ∨ (i = 9 ∧ c ≤ 1)) (ha : acc < 128 ^ i) :
    orK .u64 (acc : Int) (shlK .u64 (IntKind.u64.wrap ((c : Int).tmod 128)) (IntKind.i64.wrap (7 * (i : Int)))) = ((acc + c % 128 * 128 ^ i : Nat) : Int) := by
  have hd : (c : Int).tmod 128 = ((c % 128 : Nat) : Int) := by rw [Int.tmod_eq_emod_of_nonneg (by omega)]; omega
  have h7 : (7 * (i : Int)) = ((7 * i : Nat) : Int) := by omega
  have hb : acc + c % 128 * 128 ^ i < 18446744073709551616 := by
    rcases hi with hi | ⟨rfl, hc⟩
    · have h1 : 128 ^ i ≤ 128 ^ 8 := Nat.pow_le_pow_right (by omega) hi
      have h2 : c % 128 * 128 ^ i ≤ 127 * 128 ^ i := Nat.mul_le_mul_right _ (by omega)
      have h3 : (128 : Nat) ^ 8 = 72057594037927936 := by decide
      omega
    · have h3 : (128 : Nat) ^ 9 = 9223372036854775808 := by decide
      have : c = 0 ∨ c = 1 := by omega
      rcases this with rfl | rfl <;> omega
  rw [hd, u64w (by omega) (by omega), i64w (by omega) (by omega), h7, shl64 _ _ (by omega), p128, Nat.mod_eq_of_lt (by omega)]
  rw [← p128] at ha hb ⊢
  exact or64_add ha hb
end Go.Proofs.YtckmcglkjfkghaaDoor.Vary
