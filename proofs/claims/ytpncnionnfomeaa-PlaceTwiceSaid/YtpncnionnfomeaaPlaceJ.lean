import Derived.Test.YtpncnionnfomeaaAwX
import Derived.Test.YtpncnionnfomeaaPlaceX
import Derived.Test.YtpncnionnfomeaaDiskV2
namespace Go.Proofs.Ytpncnionnfomeaa.PlaceX
open Go Go.Proofs Go.Proofs.Ytpncnionnfomeaa.Aw Go.Proofs.Ytpncnionnfomeaa.Num Go.Proofs.Ytpncnionnfomeaa.DiskM Go.Proofs.Ytpncnionnfomeaa.DiskA Go.Proofs.Ytpncnionnfomeaa.DiskK Go.Proofs.Ytpncnionnfomeaa.DiskC Go.Proofs.Ytpncnionnfomeaa.Disk Go.Proofs.Ytpncnionnfomeaa.DiskH
open Go.Proofs.Ytpncnionnfomeaa.DiskL (readP syncP syncNamesP namesP doomP wbV len_wbV Sz sz_new crash_o op_o small_crash Live begin_live names_live read_live clone_o Two bS bR two_clone step_clone Step.two Step.two' doomF_some)
open Go.Proofs.Ytpncnionnfomeaa.Place (Do Makes putAll growAll dropD putFP growFP dropFP makes_put makes_grow makes_drop makes_syncNames Core Keep onTheWay growsOk chunks chunks_len Little little_new put_done takes_put crash_of at_nil)
set_option linter.unusedSimpArgs false
set_option linter.unusedVariables false
def XC : Fns := { fn := fun f => X0.fn f, mu := fun d => .no, hp := fun f => if f = 12 then some shownP else if f = 13 then some newP else if f = 24 then some cloneDP else if f = 25 then some doomP else if f = 26 then some putFP else if f = 17 then some crashP else if f = 27 then some readP else if f = 30 then some namesP else X0.hp f, ord := fun i => none, it := fun f => X0.it f }
theorem XC_fn (f : FuncId) : XC.fn f = (X0.fn f) := rfl
theorem XC_mu (d : Tmp) : XC.mu d = (.no) := rfl
theorem XC_hp (f : FuncId) : XC.hp f = (if f = 12 then some shownP else if f = 13 then some newP else if f = 24 then some cloneDP else if f = 25 then some doomP else if f = 26 then some putFP else if f = 17 then some crashP else if f = 27 then some readP else if f = 30 then some namesP else X0.hp f) := rfl
theorem XC_ord (i : Nat) : XC.ord i = (none) := rfl
theorem XC_it (f : FuncId) : XC.it f = (X0.it f) := rfl
theorem XC_hy (b : Nat) : XC.hy b = none := rfl
theorem XCok : FnsOk Try.prog XC := FnsOk.same (FnsOk.consP (FnsOk.consP (FnsOk.consP (FnsOk.consP (FnsOk.consP (FnsOk.consP (FnsOk.consP (FnsOk.consP X0ok _ _ names_ok Try.func30 (by decide) (fun h => by cases h)) _ _ read_ok Try.func27 (by decide) (fun h => by cases h)) _ _ crash_sound Try.func17 (by decide) (fun h => by cases h)) _ _ Place.putF_ok Try.func26 (by decide) (fun h => by cases h)) _ _ doom_ok Try.func25 (by decide) (fun h => by cases h)) _ _ cloneD_ok Try.func24 (by decide) (fun h => by cases h)) _ _ new_ok Try.func13 (by decide) (fun h => by cases h)) _ _ shown_ok Try.func12 (by decide) (fun h => by cases h)) rfl rfl
attribute [bitvec_to_nat] XC_fn XC_mu XC_hp XC_ord XC_it XC_hy
def twiceP : PM := fun args L T K => ∃ (name : Name) (a b : List UInt8) (ta tb : Option Nat), args = [.str name, .bytes a ta, .bytes b tb] ∧ ∀ L' T', K (.bool true) L' T'
set_option maxHeartbeats 4000000 in
set_option maxRecDepth 4000 in
theorem twice_ok : PSound Try.prog 7 twiceP := by
  refine psound tysOk XCok mix Try.func7 rfl ?_
  intro args L T K hm
  obtain ⟨name, a, b, ta, tb, rfl, hK⟩ := hm
  simp (maxSteps:=2000000) only[bitvec_to_nat,seval,↓tcd,Try.f7]
  refine ⟨rfl, fun L1 T1 hst1 => ?_⟩
  have hmn : ∀ b : List UInt8, (if (300 : Int) < (b.length : Int) then 300 else (b.length : Int)) = ((min b.length 300 : Nat) : Int) := fun b => by split <;> omega
  have hml : ∀ b : List UInt8, min b.length 300 ≤ b.length := fun b => Nat.min_le_left _ _
  obtain ⟨x, hx⟩ : ∃ x, a.take (min a.length 300) = x := ⟨_, rfl⟩
  obtain ⟨y, hy⟩ : ∃ y, b.take (min b.length 300) = y := ⟨_, rfl⟩
  have hxl : x.length ≤ 300 := by rw [← hx, List.length_take]; omega
  have hyl : y.length ≤ 300 := by rw [← hy, List.length_take]; omega
  have hma := hml a
  have hmb := hml b
  simp (maxSteps:=2000000) only[bitvec_to_nat,seval,↓tcd,hmn,Int.toNat_natCast,hx,hy]
  refine ⟨by kernel_rfl, ⟨by omega, by omega⟩, ⟨by omega, by omega⟩, ?_⟩
  refine ⟨5000, rfl, fun L2 w2 ho2 hd2 hst2 => ?_⟩
  obtain ⟨od, hod⟩ : ∃ o, w2.o = o := ⟨_, rfl⟩
  rw [hod]
  simp (maxSteps:=2000000) only[bitvec_to_nat,seval,↓tcd]
  have hL := little_new name
  obtain ⟨p1, p2, p3⟩ := makes_put name hxl 0 _ hL.ok hL.sz (by omega)
  refine ⟨_, w2, name, x, none, by rw [hod], by omega, hd2, p1, fun L3 T3 w3 ho3 hd3 hst3 => ?_⟩
  rw [hod] at ho3
  have hg3 := hst2.trans hst3
  have hfin : ∀ {S R L' T'}, Step noS noS L1 T1 S R L' T' → Step (fun _ => True) (fun _ => True) L T noS noS L' T' := fun g => ⟨Nat.le_trans hst1.len g.len, fun _ _ h => absurd trivial h, fun _ h => h.elim, Nat.le_trans hst1.tlen g.tlen, fun _ _ h => absurd trivial h, fun _ h => h.elim⟩
  by_cases hg : growsOk name
  · obtain ⟨q1, q2, q3, f1, q4, q5⟩ := put_done hL hg hxl (by omega)
    obtain ⟨M1, hM1⟩ : ∃ M1, ((putAll name x).f (DiskM.new 5000)).1 = M1 := ⟨_, rfl⟩
    rw [hM1] at hd3 q2 q3 q4 q5
    rw [q1]
    obtain ⟨c, hc⟩ : ∃ c, (chunks y).length = c := ⟨_, rfl⟩
    have hcl := chunks_len y
    rw [hc] at hcl
    have hc8 : c ≤ 8 := by omega
    have w1 : IntKind.i64.wrap ((y.length : Int) + 63) = ((y.length + 63 : Nat) : Int) := by rw [i64w (by omega) (by omega)]; omega
    have w2' : (((y.length + 63 : Nat) : Int)).tdiv 64 = ((c : Nat) : Int) := by rw [hcl]; rfl
    have w3' : IntKind.i64.wrap ((c : Nat) : Int) = ((c : Nat) : Int) := i64w (by omega) (by omega)
    have w4 : IntKind.i64.wrap (5 + ((c : Nat) : Int)) = ((5 + c : Nat) : Int) := by rw [i64w (by omega) (by omega)]; omega
    have w5 : IntKind.i64.wrap (((5 + c : Nat) : Int) - 1) = ((4 + c : Nat) : Int) := by rw [i64w (by omega) (by omega)]; omega
    simp only [code_V, Int.natCast_zero]
    simp (maxSteps:=2000000) only[bitvec_to_nat,seval,↓tcd,w1,w2',w3',w4]
    have hsm1 : Small M1 := q2.sz.small (by omega)
    refine clone_o ho3 hd3 hsm1 fun L6 T6 wx hdx hstx => ?_
    have ht6 := two_clone hd3 hdx hstx
    have hg6 := step_clone hg3 hstx
    obtain ⟨ox, hox⟩ : ∃ o, wx.o = o := ⟨_, rfl⟩
    rw [hox]
    have hdm : ∀ n : Nat, M1.doom ((n : Nat) : Int) = (DiskL.Dm M1 n, 0) := fun n => by
      unfold MD.doom
      rw [if_neg (by omega)]
      rfl
    have hpre : ∀ n : Nat, n ≤ 9223372036854775807 → (putAll name y).pre (DiskL.Dm M1 n) ∧ ((putAll name y).f (DiskL.Dm M1 n)).1.Ok ∧ Sz (16 + 16) ((putAll name y).f (DiskL.Dm M1 n)).1 := fun n hn => makes_put name hyl 16 _ (ok_dm q2.ok hn) (q2.sz.same rfl rfl rfl) (by omega)
    obtain ⟨r1, r2, r3, f2, r4, r5⟩ := put_done (x := y) q2 hg hyl (by omega)
    obtain ⟨tk1, tk2⟩ := takes_put q2.live hg y r1
    rw [hc] at tk1 tk2
    have tk0 := tk1 0
    rw [Nat.zero_add] at tk0
    obtain ⟨M2, hM2⟩ : ∃ M2, ((putAll name y).f M1).1 = M2 := ⟨_, rfl⟩
    rw [hM2] at tk0 r2 r3 r4 r5
    simp (maxSteps:=2000000) only[bitvec_to_nat,seval,↓tcd,w5]
    refine op_o hox (doomF_some (by omega)) ht6.d2 hsm1 fun L7 T7 w7 ho7 hd7 hst7 => ?_
    simp only [hdm, code_V, Int.natCast_zero] at hd7 ⊢
    have ht7 := ht6.right hd7 hst7
    have hg7 := hg6.trans (Step.two' (w1 := w3) hst7)
    simp (maxSteps:=2000000) only[bitvec_to_nat,seval,↓tcd]
    obtain ⟨u1, u2, u3⟩ := hpre (4 + c) (by omega)
    refine ⟨_, w7, name, y, none, by rw [ho7], by omega, ht7.d2, u1, fun L8 T8 w8 ho8 hd8 hst8 => ?_⟩
    have ht8 := ht7.right hd8 hst8
    have hg8 := hg7.trans (Step.two' (w1 := w3) hst8)
    simp only [tk2 (4 + c) (by omega), code_V, Int.cast_ofNat_Int]
    simp (maxSteps:=2000000) only[bitvec_to_nat,seval,↓tcd]
    refine op_o ho3 (doomF_some (by omega)) ht8.d1 hsm1 fun L9 T9 w9 ho9 hd9 hst9 => ?_
    simp only [hdm, code_V, Int.natCast_zero] at hd9 ⊢
    have ht9 := ht8.left hd9 hst9
    have hg9 := hg8.trans (Step.two (w2 := w8) hst9)
    simp (maxSteps:=2000000) only[bitvec_to_nat,seval,↓tcd]
    obtain ⟨z1, z2, z3⟩ := hpre (5 + c) (by omega)
    refine ⟨_, w9, name, y, none, by rw [ho9], by omega, ht9.d1, z1, fun L10 T10 w10 ho10 hd10 hst10 => ?_⟩
    rw [ho9] at ho10
    have ht10 := ht9.left hd10 hst10
    have hg10 := hg9.trans (Step.two (w2 := w8) hst10)
    rw [tk0] at ht10 z2 z3 ⊢
    simp only [code_V, Int.natCast_zero]
    simp (maxSteps:=2000000) only[bitvec_to_nat,seval,↓tcd]
    refine crash_o ho10 [] (.inl ⟨rfl, rfl⟩) (by decide) ht10.d1 (z3.small (by omega)) fun L11 T11 w11 ho11 hd11 hst11 => ?_
    have ht11 := ht10.left hd11 hst11
    have hg11 := hg10.trans (Step.two (w2 := w8) hst11)
    have hat : nfind (M2.at ⟨0, []⟩) name = some f2 := by rw [at_nil r2.chs, r4]; simp [nfind]
    obtain ⟨i5, k1, k2⟩ := (crash_of r2.ok ⟨0, []⟩ name).2 f2 hat
    have hnm : (M2.crash ⟨0, []⟩).now.map (·.1) = [name] := by rw [crash_names, at_nil r2.chs, r4]; rfl
    have hfull : (M2.file f2).2 = (M2.file f2).1.length := r3.all name f2 (by rw [r4]; simp [nfind])
    rw [crashF_kept hfull, r5] at k2
    have hs5 : Small (M2.crash ⟨0, []⟩) := small_crash (r2.sz.small (by omega)) r2.ok _
    have hl5 : Live (M2.crash ⟨0, []⟩) := ⟨rfl, rfl⟩
    have ht11' : dAt L11 T11 (M2.crash ⟨0, []⟩) w11 := ht11.d1
    clear hd11 ht11
    obtain ⟨M5, hM5⟩ : ∃ M5, M2.crash ⟨0, []⟩ = M5 := ⟨_, rfl⟩
    rw [hM5] at hnm k1 k2 hs5 hl5 ht11'
    simp (maxSteps:=2000000) only[bitvec_to_nat,seval,↓tcd,code_V,Int.natCast_zero]
    refine op_o ho11 rfl ht11' hs5 fun L12 T12 w12 ho12 hd12 hst12 => ?_
    simp only [read_live hl5, k1, k2, Option.isSome_some, if_true, code_V, Int.natCast_zero] at hd12 ⊢
    simp (maxSteps:=2000000) only[bitvec_to_nat,seval,↓tcd]
    obtain ⟨n1, n2⟩ := names_live hl5
    refine op_o ho12 rfl hd12 hs5 fun L13 T13 w13 ho13 hd13 hst13 => ?_
    simp only [n1, n2, hnm, code_V, Int.natCast_zero] at hd13 ⊢
    simp (maxSteps:=2000000) only[bitvec_to_nat,seval,↓tcd,eq_self]
    have hl13 := hst13.len
    have hl12 := hst12.len
    have hl11 := hg11.len
    have hl1 := hst1.len
    have ht13' := hst13.tlen
    have ht12' := hst12.tlen
    have ht11'' := hg11.tlen
    have ht1' := hst1.tlen
    exact ret_of (⟨by omega, fun _ _ h => absurd trivial h, fun _ h => h.elim, by omega, fun _ _ h => absurd trivial h, fun _ h => h.elim⟩ : Step (fun _ => True) (fun _ => True) L T noS noS L13 T13) (hK _ _)
  · have hng : name = [116, 109, 112] ∨ name = [] ∨ 32 < name.length := by
      unfold growsOk right onTheWay at hg
      by_cases h1 : name = [116, 109, 112]
      · exact .inl h1
      · by_cases h2 : name = []
        · exact .inr (.inl h2)
        · exact .inr (.inr (Nat.lt_of_not_le fun h3 => hg ⟨⟨h2, h3⟩, h1⟩))
    have hcode : (putAll name x).f (DiskM.new 5000) = (DiskM.new 5000, 1) := if_neg hg
    rw [hcode]
    obtain ⟨v1, e1⟩ : ∃ v, decide (name = [116, 109, 112]) = v := ⟨_, rfl⟩
    obtain ⟨v2, e2⟩ : ∃ v, decide (name = []) = v := ⟨_, rfl⟩
    obtain ⟨v3, e3⟩ : ∃ v, decide ((32 : Int) < (name.length : Int)) = v := ⟨_, rfl⟩
    have hv : (v1 || v2 || v3) = true := by
      rw [← e1, ← e2, ← e3]
      rcases hng with h | h | h
      · simp [h]
      · simp [h]
      · rw [show decide ((32 : Int) < (name.length : Int)) = true from decide_eq_true (by omega)]; simp
    simp only [code_V]
    cases v1 <;> cases v2 <;> cases v3 <;> first | (cases hv; done) | skip
    all_goals simp (maxSteps:=2000000) only[bitvec_to_nat,seval,↓tcd,e1,e2,e3]
    all_goals exact ret_of (hfin hg3) (hK _ _)
end Go.Proofs.Ytpncnionnfomeaa.PlaceX
