import Derived.Test.YtckmcglkjfkghaaDoorAwV
import Derived.Test.YtckmcglkjfkghaaDoorProg
import Derived.Test.YtckmcglkjfkghaaDoorLibB
import Derived.Test.YtckmcglkjfkghaaDoorLineM
import Derived.Test.YtckmcglkjfkghaaDoorNum
import Derived.KernelRfl
namespace Go.Proofs.YtckmcglkjfkghaaDoor.Line
open Go Go.Proofs Go.Proofs.YtckmcglkjfkghaaDoor.Aw Go.Proofs.YtckmcglkjfkghaaDoor.LineM Go.Proofs.YtckmcglkjfkghaaDoor.Num Go.Proofs.YtckmcglkjfkghaaDoor.LibB
set_option linter.unusedSimpArgs false
set_option linter.unusedVariables false
def I35 : TyI := ⟨.struct [(0, 3), (1, 22)], 2, 32, (.agg #[(.int .i64 0), (.slice none 0 0)])⟩
def tys : Tys := fun t => if t = 2 then some ⟨.int .i64, 1, 8, (.int .i64 0)⟩ else if t = 3 then some ⟨.int .i64, 1, 8, (.int .i64 0)⟩ else if t = 4 then some ⟨.bool, 1, 1, (.bool false)⟩ else if t = 5 then some ⟨.int .u8, 1, 1, (.int .u8 0)⟩ else if t = 9 then some ⟨.str, 1, 16, (.string .empty)⟩ else if t = 22 then some ⟨.slice 5, 1, 24, (.slice none 0 0)⟩ else if t = 35 then some I35 else if t = 38 then some ⟨.int .u64, 1, 8, (.int .u64 0)⟩ else if t = 46 then some ⟨.slice 35, 1, 24, (.slice none 0 0)⟩ else none
theorem tysOk : TyOk Tryd.prog tys := by
  refine TyOk.cons ?_ 2 _ (by kernel_rfl) (by kernel_rfl)
  refine TyOk.cons ?_ 3 _ (by kernel_rfl) (by kernel_rfl)
  refine TyOk.cons ?_ 4 _ (by kernel_rfl) (by kernel_rfl)
  refine TyOk.cons ?_ 5 _ (by kernel_rfl) (by kernel_rfl)
  refine TyOk.cons ?_ 9 _ (by kernel_rfl) (by kernel_rfl)
  refine TyOk.cons ?_ 22 _ (by kernel_rfl) (by kernel_rfl)
  refine TyOk.cons ?_ 35 _ (by kernel_rfl) (by kernel_rfl)
  refine TyOk.cons ?_ 38 _ (by kernel_rfl) (by kernel_rfl)
  refine TyOk.cons ?_ 46 _ (by kernel_rfl) (by kernel_rfl)
  exact TyOk.nil _
theorem mix : Tryd.prog.follows .mixedOrders = true := by kernel_rfl
theorem ty2 : tys 2 = some ⟨.int .i64, 1, 8, (.int .i64 0)⟩ := rfl
theorem tk2 : kindV tys 2 = some (.int .i64) := rfl
theorem ts2 : sizeV tys 2 = 1 := rfl
theorem ta2 : TyI.isAgg ⟨.int .i64, 1, 8, (.int .i64 0)⟩ = false := rfl
theorem tu2 : isU8 ⟨.int .i64, 1, 8, (.int .i64 0)⟩ = false := rfl
theorem tn2 : notIntK tys 2 = false := rfl
theorem tr2 : isStrK tys 2 = false := rfl
theorem tz2 : zeroOk ⟨.int .i64, 1, 8, (.int .i64 0)⟩ = true := by kernel_rfl
theorem tv2 : zeroU8 ⟨.int .i64, 1, 8, (.int .i64 0)⟩ = false := rfl
theorem td2 : TyI.zeroV ⟨.int .i64, 1, 8, (.int .i64 0)⟩ = V.ofV1 (.int .i64 0) := rfl
theorem ty3 : tys 3 = some ⟨.int .i64, 1, 8, (.int .i64 0)⟩ := rfl
theorem tk3 : kindV tys 3 = some (.int .i64) := rfl
theorem ts3 : sizeV tys 3 = 1 := rfl
theorem ta3 : TyI.isAgg ⟨.int .i64, 1, 8, (.int .i64 0)⟩ = false := rfl
theorem tu3 : isU8 ⟨.int .i64, 1, 8, (.int .i64 0)⟩ = false := rfl
theorem tn3 : notIntK tys 3 = false := rfl
theorem tr3 : isStrK tys 3 = false := rfl
theorem tz3 : zeroOk ⟨.int .i64, 1, 8, (.int .i64 0)⟩ = true := by kernel_rfl
theorem tv3 : zeroU8 ⟨.int .i64, 1, 8, (.int .i64 0)⟩ = false := rfl
theorem td3 : TyI.zeroV ⟨.int .i64, 1, 8, (.int .i64 0)⟩ = V.ofV1 (.int .i64 0) := rfl
theorem ty4 : tys 4 = some ⟨.bool, 1, 1, (.bool false)⟩ := rfl
theorem tk4 : kindV tys 4 = some (.bool) := rfl
theorem ts4 : sizeV tys 4 = 1 := rfl
theorem ta4 : TyI.isAgg ⟨.bool, 1, 1, (.bool false)⟩ = false := rfl
theorem tu4 : isU8 ⟨.bool, 1, 1, (.bool false)⟩ = false := rfl
theorem tn4 : notIntK tys 4 = true := rfl
theorem tr4 : isStrK tys 4 = false := rfl
theorem tz4 : zeroOk ⟨.bool, 1, 1, (.bool false)⟩ = true := by kernel_rfl
theorem tv4 : zeroU8 ⟨.bool, 1, 1, (.bool false)⟩ = false := rfl
theorem td4 : TyI.zeroV ⟨.bool, 1, 1, (.bool false)⟩ = V.ofV1 (.bool false) := rfl
theorem ty5 : tys 5 = some ⟨.int .u8, 1, 1, (.int .u8 0)⟩ := rfl
theorem tk5 : kindV tys 5 = some (.int .u8) := rfl
theorem ts5 : sizeV tys 5 = 1 := rfl
theorem ta5 : TyI.isAgg ⟨.int .u8, 1, 1, (.int .u8 0)⟩ = false := rfl
theorem tu5 : isU8 ⟨.int .u8, 1, 1, (.int .u8 0)⟩ = true := rfl
theorem tn5 : notIntK tys 5 = false := rfl
theorem tr5 : isStrK tys 5 = false := rfl
theorem tz5 : zeroOk ⟨.int .u8, 1, 1, (.int .u8 0)⟩ = true := by kernel_rfl
theorem tv5 : zeroU8 ⟨.int .u8, 1, 1, (.int .u8 0)⟩ = true := rfl
theorem td5 : TyI.zeroV ⟨.int .u8, 1, 1, (.int .u8 0)⟩ = V.ofV1 (.int .u8 0) := rfl
theorem ty9 : tys 9 = some ⟨.str, 1, 16, (.string .empty)⟩ := rfl
theorem tk9 : kindV tys 9 = some (.str) := rfl
theorem ts9 : sizeV tys 9 = 1 := rfl
theorem ta9 : TyI.isAgg ⟨.str, 1, 16, (.string .empty)⟩ = false := rfl
theorem tu9 : isU8 ⟨.str, 1, 16, (.string .empty)⟩ = false := rfl
theorem tn9 : notIntK tys 9 = true := rfl
theorem tr9 : isStrK tys 9 = true := rfl
theorem tz9 : zeroOk ⟨.str, 1, 16, (.string .empty)⟩ = true := by kernel_rfl
theorem tv9 : zeroU8 ⟨.str, 1, 16, (.string .empty)⟩ = false := rfl
theorem td9 : TyI.zeroV ⟨.str, 1, 16, (.string .empty)⟩ = V.ofV1 (.string .empty) := rfl
theorem ty22 : tys 22 = some ⟨.slice 5, 1, 24, (.slice none 0 0)⟩ := rfl
theorem tk22 : kindV tys 22 = some (.slice 5) := rfl
theorem ts22 : sizeV tys 22 = 1 := rfl
theorem ta22 : TyI.isAgg ⟨.slice 5, 1, 24, (.slice none 0 0)⟩ = false := rfl
theorem tb22 : isBytes tys 22 = true := rfl
theorem te22 : elemI tys 22 = some (5, ⟨.int .u8, 1, 1, (.int .u8 0)⟩) := rfl
theorem tu22 : isU8 ⟨.slice 5, 1, 24, (.slice none 0 0)⟩ = false := rfl
theorem tn22 : notIntK tys 22 = true := rfl
theorem tr22 : isStrK tys 22 = false := rfl
theorem tz22 : zeroOk ⟨.slice 5, 1, 24, (.slice none 0 0)⟩ = true := by kernel_rfl
theorem tv22 : zeroU8 ⟨.slice 5, 1, 24, (.slice none 0 0)⟩ = false := rfl
theorem td22 : TyI.zeroV ⟨.slice 5, 1, 24, (.slice none 0 0)⟩ = V.ofV1 (.slice none 0 0) := rfl
theorem ty35 : tys 35 = some I35 := rfl
theorem tk35 : kindV tys 35 = some (.struct [(0, 3), (1, 22)]) := rfl
theorem ts35 : sizeV tys 35 = 2 := rfl
theorem ta35 : TyI.isAgg I35 = true := rfl
theorem tg35 : I35.size = 2 ∧ I35.kind = .struct [(0, 3), (1, 22)] ∧ I35.bytes = 32 ∧ I35.zero = (.agg #[(.int .i64 0), (.slice none 0 0)]) := ⟨rfl, rfl, rfl, rfl⟩
theorem tu35 : isU8 I35 = false := rfl
theorem tn35 : notIntK tys 35 = true := rfl
theorem tr35 : isStrK tys 35 = false := rfl
theorem tz35 : zeroOk I35 = true := by kernel_rfl
theorem tv35 : zeroU8 I35 = false := rfl
theorem tc35 : V.ofV (.agg #[(.int .i64 0), (.slice none 0 0)]) = .agg [V.ofV1 (.int .i64 0), V.ofV1 (.slice none 0 0)] := by kernel_rfl
theorem tw35 : Value.oneCell' (.agg #[(.int .i64 0), (.slice none 0 0)]) = false := rfl
theorem tx35 : (#[(.int .i64 0), (.slice none 0 0)] : Array Value).all (fun x => x.oneCell') 0 2 = true := by kernel_rfl
theorem td35 : TyI.zeroV I35 = .agg [V.ofV1 (.int .i64 0), V.ofV1 (.slice none 0 0)] := by kernel_rfl
theorem tp35_0 : placeV tys [(0, 3), (1, 22)] 0 = some (0, 1) := rfl
theorem tp35_1 : placeV tys [(0, 3), (1, 22)] 1 = some (1, 1) := rfl
theorem tq35 : ([(0, 3), (1, 22)].all (fun f => (tys f.2).isSome)) = true := rfl
theorem ty38 : tys 38 = some ⟨.int .u64, 1, 8, (.int .u64 0)⟩ := rfl
theorem tk38 : kindV tys 38 = some (.int .u64) := rfl
theorem ts38 : sizeV tys 38 = 1 := rfl
theorem ta38 : TyI.isAgg ⟨.int .u64, 1, 8, (.int .u64 0)⟩ = false := rfl
theorem tu38 : isU8 ⟨.int .u64, 1, 8, (.int .u64 0)⟩ = false := rfl
theorem tn38 : notIntK tys 38 = false := rfl
theorem tr38 : isStrK tys 38 = false := rfl
theorem tz38 : zeroOk ⟨.int .u64, 1, 8, (.int .u64 0)⟩ = true := by kernel_rfl
theorem tv38 : zeroU8 ⟨.int .u64, 1, 8, (.int .u64 0)⟩ = false := rfl
theorem td38 : TyI.zeroV ⟨.int .u64, 1, 8, (.int .u64 0)⟩ = V.ofV1 (.int .u64 0) := rfl
theorem ty46 : tys 46 = some ⟨.slice 35, 1, 24, (.slice none 0 0)⟩ := rfl
theorem tk46 : kindV tys 46 = some (.slice 35) := rfl
theorem ts46 : sizeV tys 46 = 1 := rfl
theorem ta46 : TyI.isAgg ⟨.slice 35, 1, 24, (.slice none 0 0)⟩ = false := rfl
theorem tb46 : isBytes tys 46 = false := rfl
theorem te46 : elemI tys 46 = some (35, I35) := rfl
theorem tu46 : isU8 ⟨.slice 35, 1, 24, (.slice none 0 0)⟩ = false := rfl
theorem tn46 : notIntK tys 46 = true := rfl
theorem tr46 : isStrK tys 46 = false := rfl
theorem tz46 : zeroOk ⟨.slice 35, 1, 24, (.slice none 0 0)⟩ = true := by kernel_rfl
theorem tv46 : zeroU8 ⟨.slice 35, 1, 24, (.slice none 0 0)⟩ = false := rfl
theorem td46 : TyI.zeroV ⟨.slice 35, 1, 24, (.slice none 0 0)⟩ = V.ofV1 (.slice none 0 0) := rfl
set_option linter.defProp false in
def tcd := And.intro @r_ifTrue (And.intro @r_ifFalse (And.intro tc35 (td35)))
attribute [bitvec_to_nat] ty2 tk2 ts2 ta2 tu2 tn2 tr2 tz2 tv2 td2 ty3 tk3 ts3 ta3 tu3 tn3 tr3 tz3 tv3 td3 ty4 tk4 ts4 ta4 tu4 tn4 tr4 tz4 tv4 td4 ty5 tk5 ts5 ta5 tu5 tn5 tr5 tz5 tv5 td5 ty9 tk9 ts9 ta9 tu9 tn9 tr9 tz9 tv9 td9 ty22 tk22 ts22 ta22 tb22 te22 tu22 tn22 tr22 tz22 tv22 td22 ty35 tk35 ts35 ta35 tg35 tu35 tn35 tr35 tz35 tv35 tw35 tx35 tp35_0 tp35_1 tq35 ty38 tk38 ts38 ta38 tu38 tn38 tr38 tz38 tv38 td38 ty46 tk46 ts46 ta46 tb46 te46 tu46 tn46 tr46 tz46 tv46 td46
def G0 : Fns := { fn := fun _ => none }
theorem G0_fn (f : FuncId) : G0.fn f = none := rfl
theorem G0_mu (d : Tmp) : G0.mu d = .no := rfl
theorem G0_hp (f : FuncId) : G0.hp f = none := rfl
theorem G0_ord (i : Nat) : G0.ord i = none := rfl
theorem G0_it (f : FuncId) : G0.it f = none := rfl
theorem G0_hy (b : Nat) : G0.hy b = none := rfl
theorem G0ok : FnsOk Tryd.prog G0 := FnsOk.nil _ rfl rfl
attribute [bitvec_to_nat] G0_fn G0_mu G0_hp G0_ord G0_it G0_hy
def equalM : FM
  | [.bytes a _, .bytes b _] => some (True, .bool (decide (a = b)), [])
  | _ => none
def hasSuf (s x : List UInt8) : Bool := decide (x.length ≤ s.length ∧ s.drop (s.length - x.length) = x)
def hasM : FM
  | [.bytes s _, .bytes x _] => some (s.length ≤ 1099511627776 ∧ x.length ≤ 1099511627776, .bool (hasSuf s x), [])
  | _ => none
def G1 : Fns := { fn := fun f => G0.fn f, mu := fun d => .no, hp := fun f => G0.hp f, ord := fun i => none, it := fun f => G0.it f }
theorem G1_fn (f : FuncId) : G1.fn f = (G0.fn f) := rfl
theorem G1_mu (d : Tmp) : G1.mu d = (.no) := rfl
theorem G1_hp (f : FuncId) : G1.hp f = (G0.hp f) := rfl
theorem G1_ord (i : Nat) : G1.ord i = (none) := rfl
theorem G1_it (f : FuncId) : G1.it f = (G0.it f) := rfl
theorem G1_hy (b : Nat) : G1.hy b = none := rfl
theorem G1ok : FnsOk Tryd.prog G1 := FnsOk.same G0ok rfl rfl
attribute [bitvec_to_nat] G1_fn G1_mu G1_hp G1_ord G1_it G1_hy
def trimSuf (s x : List UInt8) : List UInt8 := if hasSuf s x = true then s.take (s.length - x.length) else s
def trimM : FM
  | [.bytes s _, .bytes x _] => some (s.length ≤ 1099511627776 ∧ x.length ≤ 1099511627776, .bytes (trimSuf s x) none, [])
  | _ => none
def G2 : Fns := { fn := fun f => G1.fn f, mu := fun d => .no, hp := fun f => G1.hp f, ord := fun i => none, it := fun f => G1.it f }
theorem G2_fn (f : FuncId) : G2.fn f = (G1.fn f) := rfl
theorem G2_mu (d : Tmp) : G2.mu d = (.no) := rfl
theorem G2_hp (f : FuncId) : G2.hp f = (G1.hp f) := rfl
theorem G2_ord (i : Nat) : G2.ord i = (none) := rfl
theorem G2_it (f : FuncId) : G2.it f = (G1.it f) := rfl
theorem G2_hy (b : Nat) : G2.hy b = none := rfl
theorem G2ok : FnsOk Tryd.prog G2 := FnsOk.same G1ok rfl rfl
attribute [bitvec_to_nat] G2_fn G2_mu G2_hp G2_ord G2_it G2_hy
theorem trimSuf_13 (l : List UInt8) : trimSuf l [13] = trim l := by
  unfold trimSuf trim hasSuf
  by_cases h : l.getLast? = some 13
  · rw [if_pos h]
    obtain ⟨z, rfl⟩ := List.getLast?_eq_some_iff.1 h
    simp
  · rw [if_neg h, if_neg]
    simp only [List.length_cons, List.length_nil, Nat.zero_add, decide_eq_true_eq, not_and]
    intro h1 h2
    apply h
    have := List.take_append_drop (l.length - 1) l
    rw [h2] at this
    rw [← this]
    simp
def cloneM : FM
  | [.bytes b _] => some (b.length ≤ 140737488355328, .bytes b none, [])
  | _ => none
theorem clone_ok : FSound Tryd.prog 23 cloneM := by
  refine fsound tysOk G0ok mix Tryd.func23 rfl ?_
  intro args p r fr hm hp
  unfold cloneM at hm
  split at hm
  · rename_i b t
    cases hm
    simp (maxSteps:=2000000) only[bitvec_to_nat,seval,↓tcd,Tryd.f23]
    refine awpMay_intro (fun h => ?_) (fun _ => ?_)
    · subst h
      first | rfl | exact ⟨rfl, rfl⟩ | simp
    · exact mb _ hp
  · cases hm
theorem isBl_def (c : UInt8) : isBl c = (decide ((c.toNat : Int) = 32) || decide ((c.toNat : Int) = 9)) := by
  unfold isBl
  have h : ∀ d : UInt8, (c == d) = decide ((c.toNat : Int) = (d.toNat : Int)) := by
    intro d
    rw [Bool.eq_iff_iff]
    simp only [beq_iff_eq, decide_eq_true_eq]
    exact ⟨fun e => by rw [e], fun e => UInt8.toNat_inj.1 (by omega)⟩
  rw [h, h]
  rfl
def unbrokenM : FM
  | [.bytes b _] => some (b.length ≤ 1099511627776, .int .i64 (wordN b : Nat), [])
  | _ => none
theorem wordN_all : ∀ {b : List UInt8}, (∀ c ∈ b, isBl c = false) → wordN b = b.length
  | [], _ => rfl
  | c :: b, h => by
    have := wordN_all (b := b) fun d hd => h d (by simp [hd])
    unfold wordN at *
    rw [List.takeWhile_cons, if_pos (by simp [h c (by simp)])]
    simp [this]
theorem wordN_at {b : List UInt8} {i : Nat} (hi : i < b.length) (h : ∀ c ∈ b.take i, isBl c = false) : (isBl (b.getD i 0) = true → wordN b = i) ∧ (isBl (b.getD i 0) = false → ∀ c ∈ b.take (i + 1), isBl c = false) := by
  have hg : b.getD i 0 = b[i] := by simp [List.getD_eq_getElem?_getD, List.getElem?_eq_getElem hi]
  rw [hg]
  refine ⟨fun hb => ?_, fun hb c hc => ?_⟩
  · have e : b = b.take i ++ b[i] :: b.drop (i + 1) := by rw [List.getElem_cons_drop, List.take_append_drop]
    unfold wordN
    rw [e, List.takeWhile_append_of_pos (by intro c hc; simp [h c hc]), List.takeWhile_cons, if_neg (by simp [hb])]
    simp
    omega
  · rw [List.take_succ_eq_append_getElem hi] at hc
    rcases List.mem_append.1 hc with hc | hc
    · exact h c hc
    · simp only [List.mem_singleton] at hc
      rw [hc]; exact hb
theorem unbroken_ok : FSound Tryd.prog 27 unbrokenM := by
  refine fsound tysOk G0ok mix Tryd.func27 rfl ?_
  intro args p r fr hm hp
  unfold unbrokenM at hm
  split at hm
  · rename_i b t
    cases hm
    simp (maxSteps:=2000000) only[bitvec_to_nat,seval,↓tcd,Tryd.f27]
    refine awpLoop_intro (α := {i : Nat // i ≤ b.length ∧ ∀ c ∈ b.take i, isBl c = false}) (fun i => ⟨[.bytes b none, .any, .any, .any, .any, .bytes b none, .int .i64 (b.length : Int), .int .i64 (i.1 : Int), .any, .any, .any, .any, .any, .any, .any, .any, .any, .any, .any, .any, .any, .any], [], []⟩) (fun i => b.length - i.1) ⟨0, by omega, by simp⟩ ?_ ?_
    · simp (maxSteps:=2000000) only[bitvec_to_nat,seval,↓tcd]
      all_goals simp
    · rintro ⟨i, hi, hn⟩
      simp (maxSteps:=2000000) only[bitvec_to_nat,seval,↓tcd,Tryd.f27,Int.toNat_natCast]
      refine awpIf_intro (fun h => ?_) (fun h => ?_) <;> simp only [decide_eq_true_eq, decide_eq_false_iff_not] at h
      · have hlt : i < b.length := by omega
        obtain ⟨w1, w2⟩ := wordN_at hlt hn
        rw [isBl_def] at w1 w2
        generalize b.getD i 0 = c at *
        rw [i64w (by omega) (by omega)]
        refine ⟨⟨by omega, by omega⟩, ?_⟩
        have more : decide ((c.toNat : Int) = 32) = false → decide ((c.toNat : Int) = 9) = false → ∃ a' : {i : Nat // i ≤ b.length ∧ ∀ c ∈ b.take i, isBl c = false}, ((i : Int) + 1 = (a'.1 : Int)) ∧ b.length - a'.1 < b.length - i :=
          fun e1 e2 => ⟨⟨i + 1, by omega, w2 (by rw [e1, e2]; rfl)⟩, by simp, by simp only; omega⟩
        repeat' refine awpIf_intro (fun h => ?_) (fun h => ?_)
        all_goals first
          | (rw [w1 (by simp [*])]; done)
          | exact (congrArg (fun k : Nat => (k : Int)) (w1 (by simp [*]))).symm
          | exact more ‹_› ‹_›
          | (exfalso; simp_all; done)
          | skip
      · have e : i = b.length := by omega
        rw [e, List.take_length] at hn
        rw [wordN_all hn]
  · cases hm
end Go.Proofs.YtckmcglkjfkghaaDoor.Line
