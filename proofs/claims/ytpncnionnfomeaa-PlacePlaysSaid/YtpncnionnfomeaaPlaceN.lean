import Derived.Test.YtpncnionnfomeaaAwX
import Derived.Test.YtpncnionnfomeaaPlaceM
import Derived.Test.YtpncnionnfomeaaPlaceS
namespace Go.Proofs.Ytpncnionnfomeaa.PlaceX
open Go Go.Proofs Go.Proofs.Ytpncnionnfomeaa.Aw Go.Proofs.Ytpncnionnfomeaa.Num Go.Proofs.Ytpncnionnfomeaa.DiskM Go.Proofs.Ytpncnionnfomeaa.DiskA Go.Proofs.Ytpncnionnfomeaa.DiskK Go.Proofs.Ytpncnionnfomeaa.DiskC Go.Proofs.Ytpncnionnfomeaa.Disk
open Go.Proofs.Ytpncnionnfomeaa.DiskL (readP syncP syncNamesP namesP doomP wbV len_wbV usedP Sz sz_new crash_o op_o small_crash)
open Go.Proofs.Ytpncnionnfomeaa.Ref (RefAt rS opRP newRP crashRP usedRP)
open Go.Proofs.Ytpncnionnfomeaa.PlaceR (putRFP growRFP dropRFP)
open Go.Proofs.Ytpncnionnfomeaa.Place (Do Makes putAll growAll dropD putFP growFP dropFP makes_put makes_grow makes_drop makes_syncNames)
set_option linter.unusedSimpArgs false
set_option linter.unusedVariables false
def crashD (w : Wreck) : Do := ⟨fun M => (M.crash w, 0), Small⟩
def doomD (n : Int) : Do := ⟨fun M => M.doom n, Small⟩
def act (a : Act) : Do := match a.kind.toNat % 5 with
  | 0 => putAll a.name a.b
  | 1 => growAll a.name a.b
  | 2 => dropD a.names
  | 3 => crashD a.w
  | _ => doomD a.n
def Act.Ok (a : Act) : Prop := a.b.length ≤ 1099511627776 ∧ a.names.length ≤ 1099511627776 ∧ a.n ≤ 9223372036854775807 ∧ a.w.bytes.length ≤ 9223372036854775807
structure Pair (L : LL) (T : TT) (M1 : MD) (w : Own) (M2 : MD) (o fo : Nat) : Prop where
  d1 : dAt L T M1 w
  d2 : RefAt L M2 o fo
  sep : ∀ i, w.S i → ¬ rS o fo i
def pS (w : Own) (o fo : Nat) (i : Nat) : Prop := w.S i ∨ rS o fo i
theorem ref_lt {L : LL} {M : MD} {o fo : Nat} (h : RefAt L M o fo) {i : Nat} (hi : rS o fo i) : i < L.length := by rcases hi with rfl | rfl; exact h.lt.1; exact h.lt.2
theorem Pair.left {L L' : LL} {T T' : TT} {M1 M1' M2 : MD} {w w' : Own} {o fo : Nat} (h : Pair L T M1 w M2 o fo) (hd : dAt L' T' M1' w') (g : Step w.S w.R L T w'.S w'.R L' T') : Pair L' T' M1' w' M2 o fo :=
  ⟨hd, h.d2.frame g fun i hi hs => h.sep i hs hi, fun i hs hi => (g.own i hs).elim (fun hs => h.sep i hs hi) fun hl => by have := ref_lt h.d2 hi; omega⟩
theorem Pair.right {L L' : LL} {T T' : TT} {M1 M2 M2' : MD} {w : Own} {o fo fo' : Nat} (h : Pair L T M1 w M2 o fo) (hd : RefAt L' M2' o fo') (g : Step (rS o fo) noS L T (rS o fo') noS L' T') : Pair L' T' M1 w M2' o fo' :=
  ⟨h.d1.frame g (fun i hs hi => h.sep i hs hi) (fun _ _ h => h), hd, fun i hs hi => (g.own i hi).elim (h.sep i hs) fun hl => by have := h.d1.lt i hs; omega⟩
theorem Pair.other {L L' : LL} {T T' : TT} {M1 M2 : MD} {w : Own} {o fo : Nat} (h : Pair L T M1 w M2 o fo) (g : Step noS noS L T noS noS L' T') : Pair L' T' M1 w M2 o fo :=
  ⟨h.d1.frame g (fun _ _ h => h) (fun _ _ h => h), h.d2.frame g (fun _ _ h => h), h.sep⟩
theorem Step.pl {L L' : LL} {T T' : TT} {w w' : Own} {o fo : Nat} (g : Step w.S w.R L T w'.S w'.R L' T') : Step (pS w o fo) w.R L T (pS w' o fo) w'.R L' T' :=
  ⟨g.len, fun i hi hs => g.keep i hi (fun h => hs (.inl h)), fun i h => h.elim (fun h => (g.own i h).imp .inl id) (fun h => .inl (.inr h)), g.tlen, g.tkeep, g.town⟩
theorem Step.pr {L L' : LL} {T T' : TT} {w : Own} {o fo fo' : Nat} (g : Step (rS o fo) noS L T (rS o fo') noS L' T') : Step (pS w o fo) w.R L T (pS w o fo') w.R L' T' :=
  ⟨g.len, fun i hi hs => g.keep i hi (fun h => hs (.inr h)), fun i h => h.elim (fun h => .inl (.inl h)) (fun h => (g.own i h).imp .inr id), g.tlen, fun k hk hr => g.tkeep k hk (fun h => h), fun k h => .inl h⟩
theorem opr_o {op : List V → Option (MD → MD × V)} {L : LL} {T : TT} {M : MD} {o fo : Nat} {rest : List V} {g : MD → MD × V} {K : V → LL → TT → Prop} (hg : op rest = some g) (hd : RefAt L M o fo) (hs : Small M)
    (hK : ∀ L' T' fo', RefAt L' (g M).1 o fo' → Step (rS o fo) noS L T (rS o fo') noS L' T' → K (g M).2 L' T') : opRP op (.box o 0 :: rest) L T K := ⟨M, o, fo, rest, g, rfl, hg, hd, hs, hK⟩
theorem small_begin {M : MD} (h : Small M) : Small M.begin.1 := ⟨by rw [begin_chs]; exact h.chs, by rw [begin_used]; exact h.used, by rw [begin_files]; exact h.files, by rw [begin_files]; exact h.nf⟩
theorem names_begin (M : MD) : M.names.1 = M.begin.1 := by unfold MD.names; split <;> rfl
theorem read_begin (M : MD) (n : Name) : (M.read n).1 = M.begin.1 := by
  unfold MD.read MD.onFile
  split
  · rfl
  · split <;> rfl
abbrev doomRP : PM := opRP doomF
def X3 : Fns := { fn := fun f => X0.fn f, mu := fun d => .no, hp := fun f => if f = 26 then some putFP else if f = 28 then some growFP else if f = 29 then some dropFP else if f = 40 then some putRFP else if f = 41 then some growRFP else if f = 42 then some dropRFP else if f = 17 then some crashP else if f = 18 then some crashRP else if f = 25 then some doomP else if f = 43 then some doomRP else X0.hp f, ord := fun i => if i = 3 then some [(0, 0), (1, 0), (2, 3), (3, 0), (4, 3), (6, 0), (7, 0), (8, 3), (9, 0), (10, 3), (5, 1), (11, 4), (12, 0), (13, 0)] else if i = 5 then some [(0, 0), (1, 0), (2, 3), (3, 0), (4, 3), (6, 0), (7, 0), (8, 3), (9, 0), (10, 3), (5, 1), (11, 4), (12, 0), (13, 0)] else if i = 7 then some [(0, 0), (1, 0), (2, 3), (4, 0), (5, 0), (6, 3), (3, 1), (7, 4), (8, 0), (9, 0)] else if i = 9 then some [(0, 0), (1, 0), (2, 3), (4, 0), (5, 0), (6, 3), (3, 1), (7, 4), (8, 0), (9, 0)] else if i = 10 then some [(0, 0), (1, 0), (2, 3), (4, 0), (5, 0), (6, 3), (3, 1), (7, 4), (8, 0), (9, 0)] else none, it := fun f => X0.it f }
theorem X3_fn (f : FuncId) : X3.fn f = (X0.fn f) := rfl
theorem X3_mu (d : Tmp) : X3.mu d = (.no) := rfl
theorem X3_hp (f : FuncId) : X3.hp f = (if f = 26 then some putFP else if f = 28 then some growFP else if f = 29 then some dropFP else if f = 40 then some putRFP else if f = 41 then some growRFP else if f = 42 then some dropRFP else if f = 17 then some crashP else if f = 18 then some crashRP else if f = 25 then some doomP else if f = 43 then some doomRP else X0.hp f) := rfl
theorem X3_ord (i : Nat) : X3.ord i = (if i = 3 then some [(0, 0), (1, 0), (2, 3), (3, 0), (4, 3), (6, 0), (7, 0), (8, 3), (9, 0), (10, 3), (5, 1), (11, 4), (12, 0), (13, 0)] else if i = 5 then some [(0, 0), (1, 0), (2, 3), (3, 0), (4, 3), (6, 0), (7, 0), (8, 3), (9, 0), (10, 3), (5, 1), (11, 4), (12, 0), (13, 0)] else if i = 7 then some [(0, 0), (1, 0), (2, 3), (4, 0), (5, 0), (6, 3), (3, 1), (7, 4), (8, 0), (9, 0)] else if i = 9 then some [(0, 0), (1, 0), (2, 3), (4, 0), (5, 0), (6, 3), (3, 1), (7, 4), (8, 0), (9, 0)] else if i = 10 then some [(0, 0), (1, 0), (2, 3), (4, 0), (5, 0), (6, 3), (3, 1), (7, 4), (8, 0), (9, 0)] else none) := rfl
theorem X3_it (f : FuncId) : X3.it f = (X0.it f) := rfl
theorem X3_hy (b : Nat) : X3.hy b = none := rfl
theorem X3ok : FnsOk Try.prog X3 := FnsOk.same (FnsOk.consP (FnsOk.consP (FnsOk.consP (FnsOk.consP (FnsOk.consP (FnsOk.consP (FnsOk.consP (FnsOk.consP (FnsOk.consP (FnsOk.consP X0ok _ _ Ref.doomR_ok Try.func43 (by decide) (fun h => by cases h)) _ _ doom_ok Try.func25 (by decide) (fun h => by cases h)) _ _ Ref.crashR_ok Try.func18 (by decide) (fun h => by cases h)) _ _ crash_sound Try.func17 (by decide) (fun h => by cases h)) _ _ PlaceR.dropRF_ok Try.func42 (by decide) (fun h => by cases h)) _ _ PlaceR.growRF_ok Try.func41 (by decide) (fun h => by cases h)) _ _ PlaceR.putRF_ok Try.func40 (by decide) (fun h => by cases h)) _ _ Place.dropF_ok Try.func29 (by decide) (fun h => by cases h)) _ _ Place.growF_ok Try.func28 (by decide) (fun h => by cases h)) _ _ Place.putF_ok Try.func26 (by decide) (fun h => by cases h)) rfl rfl
attribute [bitvec_to_nat] X3_fn X3_mu X3_hp X3_ord X3_it X3_hy
def doesP : PM := fun args L T K => ∃ (M : MD) (w : Own) (o fo : Nat) (a : Act), args = [.box w.o 0, .box o 0, actV a] ∧ a.Ok ∧ Pair L T M w M o fo ∧ (act a).pre M ∧
  ∀ L' T' w' fo', w'.o = w.o → Pair L' T' ((act a).f M).1 w' ((act a).f M).1 o fo' → Step (pS w o fo) w.R L T (pS w' o fo') w'.R L' T' → K (.bool true) L' T'
set_option maxHeartbeats 4000000 in
theorem does_ok : PSound Try.prog 16 doesP := by
  refine psound tysOk X3ok mix Try.func16 rfl ?_
  intro args L T K hm
  obtain ⟨M, w, o, fo, a, rfl, ⟨ha1, ha2, ha3, ha4⟩, hp, hpre, hK⟩ := hm
  have hst0 : Step (pS w o fo) w.R L T (pS w o fo) w.R (L ++ [[.int .u8 a.kind.toNat, .str a.name, .bytes a.b none, .list 1 (a.names.map .str) none, .int .i64 a.w.names, wbV a.w.bytes, .int .i64 a.n]]) T := (Step.refl _ _ _ _).app _
  have hp0 : Pair (L ++ [[.int .u8 a.kind.toNat, .str a.name, .bytes a.b none, .list 1 (a.names.map .str) none, .int .i64 a.w.names, wbV a.w.bytes, .int .i64 a.n]]) T M w M o fo := hp.other (((Step.refl noS noS L T).app _))
  have hmod : ((a.kind.toNat : Nat) : Int).tmod 5 = ((a.kind.toNat % 5 : Nat) : Int) := rfl
  have h0 : (L ++ [[.int .u8 a.kind.toNat, .str a.name, .bytes a.b none, .list 1 (a.names.map .str) none, .int .i64 a.w.names, wbV a.w.bytes, .int .i64 a.n]])[L.length]? = some [.int .u8 a.kind.toNat, .str a.name, .bytes a.b none, .list 1 (a.names.map .str) none, .int .i64 a.w.names, wbV a.w.bytes, .int .i64 a.n] := by simp
  have hno : ¬ pS w o fo L.length := fun h => h.elim (fun h => by have := hp.d1.lt _ h; omega) (fun h => by have := ref_lt hp.d2 h; omega)
  unfold actV wbV at *
  have hc : a.kind.toNat % 5 = 0 ∨ a.kind.toNat % 5 = 1 ∨ a.kind.toNat % 5 = 2 ∨ a.kind.toNat % 5 = 3 ∨ a.kind.toNat % 5 = 4 := by omega
  rcases hc with hc | hc | hc | hc | hc
  · have e : act a = putAll a.name a.b := by simp only [act, hc]
    rw [e] at hK hpre
    rw [hc] at hmod
    simp (maxSteps:=2000000) only[bitvec_to_nat,seval,↓tcd,Try.f16,hmod,Int.natCast_zero,Int.cast_ofNat_Int]
    refine ⟨by kernel_rfl, ?_⟩
    refine ⟨M, w, a.name, a.b, none, rfl, ha1, hp0.d1, hpre, fun L1 T1 w1 ho1 hd1 hst1 => ?_⟩
    have hp1 := hp0.left hd1 hst1
    have h1 : L1[L.length]? = some [.int .u8 a.kind.toNat, .str a.name, .bytes a.b none, .list 1 (a.names.map .str) none, .int .i64 a.w.names, .list 1 (a.w.bytes.map fun n => .int .i64 n) none, .int .i64 a.n] := by rw [hst1.keep L.length (by simp) (fun h => hno (.inl h))]; exact h0
    have hl1 := lt_at h1
    simp (maxSteps:=2000000) only[bitvec_to_nat,seval,↓tcd,h1,hl1]
    refine ⟨M, o, fo, a.name, a.b, none, rfl, ha1, hp1.d2, hpre, fun L2 T2 fo2 hd2 hst2 => ?_⟩
    have hp2 := hp1.right hd2 hst2
    have hg := (hst0.trans (Step.pl (o := o) (fo := fo) hst1)).trans (Step.pr (w := w1) hst2)
    obtain ⟨c, hcd⟩ : ∃ c, ((putAll a.name a.b).f M).2 = c := ⟨_, rfl⟩
    have hcc : decide ((c : Int) = (c : Int)) = true := decide_eq_true rfl
    simp only [hcd, code_V]
    simp (maxSteps:=2000000) only[bitvec_to_nat,seval,↓tcd,hcc]
    exact ret_of hg (hK L2 T2 w1 fo2 ho1 hp2 hg)
  · have e : act a = growAll a.name a.b := by simp only [act, hc]
    rw [e] at hK hpre
    rw [hc] at hmod
    simp (maxSteps:=2000000) only[bitvec_to_nat,seval,↓tcd,Try.f16,hmod,Int.natCast_zero,Int.cast_ofNat_Int]
    refine ⟨by kernel_rfl, ?_⟩
    refine ⟨M, w, a.name, a.b, none, rfl, ha1, hp0.d1, hpre, fun L1 T1 w1 ho1 hd1 hst1 => ?_⟩
    have hp1 := hp0.left hd1 hst1
    have h1 : L1[L.length]? = some [.int .u8 a.kind.toNat, .str a.name, .bytes a.b none, .list 1 (a.names.map .str) none, .int .i64 a.w.names, .list 1 (a.w.bytes.map fun n => .int .i64 n) none, .int .i64 a.n] := by rw [hst1.keep L.length (by simp) (fun h => hno (.inl h))]; exact h0
    have hl1 := lt_at h1
    simp (maxSteps:=2000000) only[bitvec_to_nat,seval,↓tcd,h1,hl1]
    refine ⟨M, o, fo, a.name, a.b, none, rfl, ha1, hp1.d2, hpre, fun L2 T2 fo2 hd2 hst2 => ?_⟩
    have hp2 := hp1.right hd2 hst2
    have hg := (hst0.trans (Step.pl (o := o) (fo := fo) hst1)).trans (Step.pr (w := w1) hst2)
    obtain ⟨c, hcd⟩ : ∃ c, ((growAll a.name a.b).f M).2 = c := ⟨_, rfl⟩
    have hcc : decide ((c : Int) = (c : Int)) = true := decide_eq_true rfl
    simp only [hcd, code_V]
    simp (maxSteps:=2000000) only[bitvec_to_nat,seval,↓tcd,hcc]
    exact ret_of hg (hK L2 T2 w1 fo2 ho1 hp2 hg)
  · have e : act a = dropD a.names := by simp only [act, hc]
    rw [e] at hK hpre
    rw [hc] at hmod
    simp (maxSteps:=2000000) only[bitvec_to_nat,seval,↓tcd,Try.f16,hmod,Int.natCast_zero,Int.cast_ofNat_Int]
    refine ⟨by kernel_rfl, ?_⟩
    refine ⟨M, w, a.names, rfl, ha2, hp0.d1, hpre, fun L1 T1 w1 ho1 hd1 hst1 => ?_⟩
    have hp1 := hp0.left hd1 hst1
    have h1 : L1[L.length]? = some [.int .u8 a.kind.toNat, .str a.name, .bytes a.b none, .list 1 (a.names.map .str) none, .int .i64 a.w.names, .list 1 (a.w.bytes.map fun n => .int .i64 n) none, .int .i64 a.n] := by rw [hst1.keep L.length (by simp) (fun h => hno (.inl h))]; exact h0
    have hl1 := lt_at h1
    simp (maxSteps:=2000000) only[bitvec_to_nat,seval,↓tcd,h1,hl1]
    refine ⟨M, o, fo, a.names, rfl, ha2, hp1.d2, hpre, fun L2 T2 fo2 hd2 hst2 => ?_⟩
    have hp2 := hp1.right hd2 hst2
    have hg := (hst0.trans (Step.pl (o := o) (fo := fo) hst1)).trans (Step.pr (w := w1) hst2)
    obtain ⟨c, hcd⟩ : ∃ c, (Place.dropF a.names false M).2 = c := ⟨_, rfl⟩
    have hcc : decide ((c : Int) = (c : Int)) = true := decide_eq_true rfl
    simp only [hcd, code_V]
    simp (maxSteps:=2000000) only[bitvec_to_nat,seval,↓tcd,hcc]
    exact ret_of hg (hK L2 T2 w1 fo2 ho1 hp2 hg)
  · have e : act a = crashD a.w := by simp only [act, hc]
    rw [e] at hK hpre
    rw [hc] at hmod
    simp (maxSteps:=2000000) only[bitvec_to_nat,seval,↓tcd,Try.f16,hmod,Int.natCast_zero,Int.cast_ofNat_Int]
    refine ⟨by kernel_rfl, ?_⟩
    refine crash_o rfl a.w.bytes (.inr ⟨none, rfl⟩) ha4 hp0.d1 hpre fun L1 T1 w1 ho1 hd1 hst1 => ?_
    have hp1 := hp0.left hd1 hst1
    have h1 : L1[L.length]? = some [.int .u8 a.kind.toNat, .str a.name, .bytes a.b none, .list 1 (a.names.map .str) none, .int .i64 a.w.names, .list 1 (a.w.bytes.map fun n => .int .i64 n) none, .int .i64 a.n] := by rw [hst1.keep L.length (by simp) (fun h => hno (.inl h))]; exact h0
    have hl1 := lt_at h1
    simp (maxSteps:=2000000) only[bitvec_to_nat,seval,↓tcd,h1,hl1]
    refine ⟨M, o, fo, a.w.names, _, a.w.bytes, rfl, .inr ⟨none, rfl⟩, ha4, hp1.d2, hpre, fun L2 T2 fo2 hd2 hst2 => ?_⟩
    have hp2 := hp1.right hd2 hst2
    have hg := (hst0.trans (Step.pl (o := o) (fo := fo) hst1)).trans (Step.pr (w := w1) hst2)
    have hcc : decide (((0 : Nat) : Int) = ((0 : Nat) : Int)) = true := decide_eq_true rfl
    simp only [code_V]
    simp (maxSteps:=2000000) only[bitvec_to_nat,seval,↓tcd,hcc]
    exact ret_of hg (hK L2 T2 w1 fo2 ho1 hp2 hg)
  · have e : act a = doomD a.n := by simp only [act, hc]
    rw [e] at hK hpre
    rw [hc] at hmod
    simp (maxSteps:=2000000) only[bitvec_to_nat,seval,↓tcd,Try.f16,hmod,Int.natCast_zero,Int.cast_ofNat_Int]
    refine ⟨by kernel_rfl, ?_⟩
    refine op_o rfl (if_pos ha3) hp0.d1 hpre fun L1 T1 w1 ho1 hd1 hst1 => ?_
    have hp1 := hp0.left hd1 hst1
    have h1 : L1[L.length]? = some [.int .u8 a.kind.toNat, .str a.name, .bytes a.b none, .list 1 (a.names.map .str) none, .int .i64 a.w.names, .list 1 (a.w.bytes.map fun n => .int .i64 n) none, .int .i64 a.n] := by rw [hst1.keep L.length (by simp) (fun h => hno (.inl h))]; exact h0
    have hl1 := lt_at h1
    simp (maxSteps:=2000000) only[bitvec_to_nat,seval,↓tcd,h1,hl1]
    refine opr_o (if_pos ha3) hp1.d2 hpre fun L2 T2 fo2 hd2 hst2 => ?_
    have hp2 := hp1.right hd2 hst2
    have hg := (hst0.trans (Step.pl (o := o) (fo := fo) hst1)).trans (Step.pr (w := w1) hst2)
    obtain ⟨c, hcd⟩ : ∃ c, (M.doom a.n).2 = c := ⟨_, rfl⟩
    have hcc : decide ((c : Int) = (c : Int)) = true := decide_eq_true rfl
    simp only [hcd, code_V]
    simp (maxSteps:=2000000) only[bitvec_to_nat,seval,↓tcd,hcc]
    exact ret_of hg (hK L2 T2 w1 fo2 ho1 hp2 hg)
abbrev namesRP : PM := opRP namesF
abbrev readRP : PM := opRP readF
def X4 : Fns := { fn := fun f => X0.fn f, mu := fun d => .no, hp := fun f => if f = 27 then some readP else if f = 30 then some namesP else if f = 52 then some readRP else if f = 51 then some namesRP else X0.hp f, ord := fun i => none, it := fun f => X0.it f }
theorem X4_fn (f : FuncId) : X4.fn f = (X0.fn f) := rfl
theorem X4_mu (d : Tmp) : X4.mu d = (.no) := rfl
theorem X4_hp (f : FuncId) : X4.hp f = (if f = 27 then some readP else if f = 30 then some namesP else if f = 52 then some readRP else if f = 51 then some namesRP else X0.hp f) := rfl
theorem X4_ord (i : Nat) : X4.ord i = (none) := rfl
theorem X4_it (f : FuncId) : X4.it f = (X0.it f) := rfl
theorem X4_hy (b : Nat) : X4.hy b = none := rfl
theorem X4ok : FnsOk Try.prog X4 := FnsOk.same (FnsOk.consP (FnsOk.consP (FnsOk.consP (FnsOk.consP X0ok _ _ Ref.namesR_ok Try.func51 (by decide) (fun h => by cases h)) _ _ Ref.readR_ok Try.func52 (by decide) (fun h => by cases h)) _ _ names_ok Try.func30 (by decide) (fun h => by cases h)) _ _ read_ok Try.func27 (by decide) (fun h => by cases h)) rfl rfl
attribute [bitvec_to_nat] X4_fn X4_mu X4_hp X4_ord X4_it X4_hy
def sameP : PM := fun args L T K => ∃ (M : MD) (w : Own) (o fo : Nat), args = [.box w.o 0, .box o 0] ∧ Pair L T M w M o fo ∧ Small M ∧
  ∀ L' T' w' fo', Step (pS w o fo) w.R L T (pS w' o fo') w'.R L' T' → K (.bool true) L' T'
set_option maxHeartbeats 2000000 in
theorem same_ok : PSound Try.prog 19 sameP := by
  refine psound tysOk X4ok mix Try.func19 rfl ?_
  intro args L T K hm
  obtain ⟨M, w, o, fo, rfl, hp, hsm, hK⟩ := hm
  obtain ⟨o1, ho1⟩ : ∃ x, w.o = x := ⟨_, rfl⟩
  rw [ho1]
  simp (maxSteps:=2000000) only[bitvec_to_nat,seval,↓tcd,Try.f19]
  refine op_o ho1 rfl hp.d1 hsm fun L3 T3 w3 ho3 hd3 hst3 => ?_
  have hp3 := hp.left hd3 hst3
  have hg3 := Step.pl (o := o) (fo := fo) hst3
  obtain ⟨c, hc⟩ : ∃ c, M.names.2 = c := ⟨_, rfl⟩
  obtain ⟨ns, hns⟩ : ∃ ns, M.namesL = ns := ⟨_, rfl⟩
  have hnl : ns.length ≤ 1099511627776 := by
    rw [← hns]
    unfold MD.namesL
    split
    · simp
    · rw [List.length_map]; exact Nat.le_trans (now_len hp.d1.ok) hsm.nf
  simp only [hc, hns, code_V, names_begin] at hp3 ⊢
  simp (maxSteps:=2000000) only[bitvec_to_nat,seval,↓tcd]
  refine opr_o rfl hp3.d2 hsm fun L4 T4 fo4 hd4 hst4 => ?_
  have hp4 := hp3.right hd4 hst4
  have hg4 := hg3.trans (Step.pr (w := w3) hst4)
  simp only [hc, hns, code_V, names_begin] at hp4 ⊢
  simp (maxSteps:=2000000) only[bitvec_to_nat,seval,↓tcd,List.length_map,eq_self]
  refine awpLoop_intro (α := {q : Nat × LL × TT × MD × Own × Nat // q.1 ≤ ns.length ∧ q.2.2.2.2.1.o = o1 ∧ Small q.2.2.2.1 ∧ Pair q.2.1 q.2.2.1 q.2.2.2.1 q.2.2.2.2.1 q.2.2.2.1 o q.2.2.2.2.2 ∧ Step (pS w o fo) w.R L T (pS q.2.2.2.2.1 o q.2.2.2.2.2) q.2.2.2.2.1.R q.2.1 q.2.2.1})
    (fun q => ⟨[.box o1 0, .box o 0, .any, .any, .bool false, .list 1 (ns.map .str) none, .any, .any, .any, .any, .any, .any, .any, .any, .any, .any, .any, .any, .any, .any, .any, .any, .any, .any, .any, .any, .any, .any, .any, .any, .any, .any, .any, .any, .any, .list 1 (ns.map .str) none, .int .i64 (ns.length : Int), .int .i64 (q.1.1 : Int), .any, .any, .any, .any, .any, .any, .any, .any, .any, .any, .any, .any, .any, .any, .any, .any, .any, .any, .any, .any, .any, .any, .any, .any, .any, .any, .any, .any, .any, .any, .any, .any, .any, .any, .any], q.1.2.1, q.1.2.2.1⟩) (fun q => ns.length - q.1.1)
    ⟨(0, L4, T4, M.begin.1, w3, fo4), Nat.zero_le _, ho3, small_begin hsm, hp4, hg4⟩ ?_ ?_ (fun q => ⟨q.2.2.2.2.2.len, q.2.2.2.2.2.tlen⟩)
  · simp (maxSteps:=2000000) only[bitvec_to_nat,seval,↓tcd,leLL_self]
    all_goals simp
  · rintro ⟨⟨j, L6, T6, M6, w6, fo6⟩, hj, ho6, hs6, hp6, hg6⟩
    simp only at hj ho6 hs6 hp6 hg6
    by_cases hjm : j < ns.length
    · have hdc : decide ((j : Int) < (ns.length : Int)) = true := decide_eq_true (by omega)
      have hgd : (ns.map V.str).getD j .any = .str ns[j] := by
        rw [List.getD_eq_getElem?_getD, List.getElem?_map, List.getElem?_eq_getElem hjm]; rfl
      have hj1 : IntKind.i64.wrap ((j : Int) + 1) = ((j + 1 : Nat) : Int) := by rw [i64w (by omega) (by omega)]; omega
      simp (maxSteps:=2000000) only[bitvec_to_nat,seval,↓tcd,hdc,hgd,Int.toNat_natCast,List.length_map,hj1]
      refine ⟨⟨by omega, by omega⟩, ?_⟩
      refine op_o ho6 rfl hp6.d1 hs6 fun L7 T7 w7 ho7 hd7 hst7 => ?_
      have hp7 := hp6.left hd7 hst7
      have hg7 := hg6.trans (Step.pl (o := o) (fo := fo6) hst7)
      simp (maxSteps:=2000000) only[bitvec_to_nat,seval,↓tcd]
      refine opr_o rfl hp7.d2 hs6 fun L8 T8 fo8 hd8 hst8 => ?_
      have hp8 := hp7.right hd8 hst8
      have hg8 := hg7.trans (Step.pr (w := w7) hst8)
      obtain ⟨c1, hc1⟩ : ∃ x, (M6.read ns[j]).2 = x := ⟨_, rfl⟩
      have hs8 : Small (M6.read ns[j]).1 := by rw [read_begin]; exact small_begin hs6
      simp only [hc1, code_V] at hp8 ⊢
      simp (maxSteps:=2000000) only[bitvec_to_nat,seval,↓tcd,eq_self,hj1,hgd,Int.toNat_natCast,List.length_map]
      refine ⟨⟨by omega, by omega⟩, ⟨(j + 1, L8, T8, (M6.read ns[j]).1, w7, fo8), by omega, ho7, hs8, hp8, hg8⟩, ?_, by simp only; omega⟩
      simp (maxSteps:=2000000) only[bitvec_to_nat,seval,↓tcd,leLL_self]
    · have hdc : decide ((j : Int) < (ns.length : Int)) = false := decide_eq_false (by omega)
      simp (maxSteps:=2000000) only[bitvec_to_nat,seval,↓tcd,hdc]
      exact ret_of hg6 (hK _ _ w6 fo6 hg6)
theorem makes_crash {w : Wreck} (hw : w.bytes.length ≤ 50) : Makes 16 (crashD w) := by
  intro k M ok hs hk
  refine ⟨hs.small (by omega), crash_ok ok w, ?_⟩
  have := DiskL.act_sz hs ok (a := ⟨11, [], [], [], 0, w⟩) ⟨by simp, by simp, by simp, hw⟩
  exact this.mono (by omega)
theorem doom_ok' {M : MD} (ok : M.Ok) {n : Int} (h : n ≤ 9223372036854775807) : (M.doom n).1.Ok := by
  unfold MD.doom
  split
  · exact ok
  · exact ⟨ok.rise, ok.can, ok.once, ok.lt, ok.right, ok.cut, ok.room, by simp only; omega⟩
theorem makes_doom {n : Int} (hn : n ≤ 9223372036854775807) : Makes 16 (doomD n) := by
  intro k M ok hs hk
  refine ⟨hs.small (by omega), doom_ok' ok hn, ?_⟩
  have h : Sz k (M.doom n).1 := by
    unfold MD.doom
    split
    · exact hs
    · exact hs.same rfl rfl rfl
  exact h.mono (by omega)
theorem makes_act {a : Act} (h : a.small) (hn : a.n ≤ 9223372036854775807) : Makes 16 (act a) := by
  unfold act
  split
  · exact makes_put _ h.1
  · exact makes_grow _ h.1
  · exact makes_drop h.2.2.1
  · exact makes_crash h.2.2.2
  · exact makes_doom hn
theorem act_Ok {a : Act} (h : a.small) (hn : a.n ≤ 9223372036854775807) : a.Ok := ⟨by have := h.1; omega, by have := h.2.2.1; omega, hn, by have := h.2.2.2; omega⟩
def X6 : Fns := { fn := fun f => X0.fn f, mu := fun d => .no, hp := fun f => if f = 13 then some newP else if f = 14 then some newRP else if f = 16 then some doesP else if f = 15 then some fewP else if f = 12 then some shownP else if f = 19 then some sameP else if f = 17 then some crashP else if f = 18 then some crashRP else X0.hp f, ord := fun i => none, it := fun f => X0.it f }
theorem X6_fn (f : FuncId) : X6.fn f = (X0.fn f) := rfl
theorem X6_mu (d : Tmp) : X6.mu d = (.no) := rfl
theorem X6_hp (f : FuncId) : X6.hp f = (if f = 13 then some newP else if f = 14 then some newRP else if f = 16 then some doesP else if f = 15 then some fewP else if f = 12 then some shownP else if f = 19 then some sameP else if f = 17 then some crashP else if f = 18 then some crashRP else X0.hp f) := rfl
theorem X6_ord (i : Nat) : X6.ord i = (none) := rfl
theorem X6_it (f : FuncId) : X6.it f = (X0.it f) := rfl
theorem X6_hy (b : Nat) : X6.hy b = none := rfl
theorem X6ok : FnsOk Try.prog X6 := FnsOk.same (FnsOk.consP (FnsOk.consP (FnsOk.consP (FnsOk.consP (FnsOk.consP (FnsOk.consP (FnsOk.consP (FnsOk.consP X0ok _ _ Ref.crashR_ok Try.func18 (by decide) (fun h => by cases h)) _ _ crash_sound Try.func17 (by decide) (fun h => by cases h)) _ _ same_ok Try.func19 (by decide) (fun h => by cases h)) _ _ shown_ok Try.func12 (by decide) (fun h => by cases h)) _ _ few_ok Try.func15 (by decide) (fun h => by cases h)) _ _ does_ok Try.func16 (by decide) (fun h => by cases h)) _ _ Ref.newR_ok Try.func14 (by decide) (fun h => by cases h)) _ _ new_ok Try.func13 (by decide) (fun h => by cases h)) rfl rfl
attribute [bitvec_to_nat] X6_fn X6_mu X6_hp X6_ord X6_it X6_hy
def playsP : PM := fun args L T K => ∃ (room : Int) (l : List Act) (wr : Wreck), args = [.int .i64 room, .list 7 (l.map actV) none, .agg [.int .i64 wr.names, wbV wr.bytes]] ∧ l.length ≤ 9223372036854775807 ∧ (∀ a ∈ l, a.n ≤ 9223372036854775807) ∧ wr.bytes.length ≤ 9223372036854775807 ∧ ∀ L' T', K (.bool true) L' T'
set_option maxHeartbeats 4000000 in
theorem plays_ok : PSound Try.prog 3 playsP := by
  refine psound tysOk X6ok mix Try.func3 rfl ?_
  intro args L T K hm
  obtain ⟨room, l, wr, rfl, hlen, hn, hwb, hK⟩ := hm
  unfold wbV
  simp (maxSteps:=2000000) only[bitvec_to_nat,seval,↓tcd,Try.f3]
  refine ⟨rfl, fun L1 T1 hst1 => ?_⟩
  simp (maxSteps:=2000000) only[bitvec_to_nat,seval,↓tcd]
  refine ⟨room, rfl, fun L2 w2 ho2 hd2 hst2 => ?_⟩
  simp (maxSteps:=2000000) only[bitvec_to_nat,seval,↓tcd]
  have hwr1 : L1[L.length]? = some [.int .i64 wr.names, .list 1 (wr.bytes.map fun n => .int .i64 n) none] := by rw [hst1.keep L.length (by simp) (fun h => h), at_new rfl]
  have hlw := lt_at hwr1
  obtain ⟨od, hod⟩ : ∃ o, w2.o = o := ⟨_, rfl⟩
  rw [hod]
  refine ⟨room, rfl, fun L3 fo3 hr3 hst3 => ?_⟩
  simp (maxSteps:=2000000) only[bitvec_to_nat,seval,↓tcd]
  refine ⟨l, rfl, hlen, fun L5 T5 hst5 => ?_⟩
  simp (maxSteps:=2000000) only[bitvec_to_nat,seval,↓tcd,List.length_map]
  obtain ⟨oR, hoR⟩ : ∃ x, L2.length = x := ⟨_, rfl⟩
  rw [hoR] at hr3 hst3 ⊢
  have hp5 : Pair L5 T5 (DiskM.new room) w2 (DiskM.new room) oR fo3 := by
    refine Pair.other ⟨hd2.frame hst3 (fun _ _ h => h) (fun _ _ h => h), hr3, fun i h1 h2 => ?_⟩ hst5
    rcases hst3.own i h2 with h | h
    · exact h
    · have := hd2.lt i h1; omega
  have hg5 : Step noS noS L1 T1 (pS w2 oR fo3) w2.R L5 T5 := by
    have hx : Step noS noS L1 T1 w2.S w2.R L3 T1 := hst2.via hst3 (fun _ h => h.elim) (fun _ h => h.elim)
    have hy : Step noS noS L1 T1 (pS w2 oR fo3) w2.R L3 T1 := ⟨hx.len, hx.keep, fun i h => h.elim (hx.own i) (fun h => (hst3.own i h).elim (fun h => h.elim) (fun h => .inr (by have := hst2.len; omega))), hx.tlen, hx.tkeep, hx.town⟩
    exact hy.via hst5 (fun _ h => h.elim) (fun _ h => h.elim)
  have hF := few_len l
  have hT0 : T.length ≤ T1.length := hst1.tlen
  have hL0 : L.length ≤ L1.length := by omega
  refine awpLoop_intro (α := {q : Nat × LL × TT × MD × Own × Nat // q.1 ≤ (few l).length ∧ q.2.2.2.2.1.o = od ∧ Pair q.2.1 q.2.2.1 q.2.2.2.1 q.2.2.2.2.1 q.2.2.2.1 oR q.2.2.2.2.2 ∧ Step noS noS L1 T1 (pS q.2.2.2.2.1 oR q.2.2.2.2.2) q.2.2.2.2.1.R q.2.1 q.2.2.1 ∧ Sz (16 * q.1) q.2.2.2.1})
    (fun q => ⟨[.any, .any, .any, .any, .any, .box L.length 0, .bool false, .bool true, .box od 0, .box oR 0, .any, .any, .any, .any, .any, .any, .any, .any, .any, .any, .list 7 ((few l).map actV) none, .int .i64 ((few l).length : Int), .int .i64 (q.1.1 : Int), .any, .any, .any, .any, .any, .any, .any, .any, .any, .any, .any, .any, .any, .any, .any, .any, .any, .any, .any, .any, .any], q.1.2.1, q.1.2.2.1⟩) (fun q => (few l).length - q.1.1)
    ⟨(0, L5, T5, DiskM.new room, w2, fo3), Nat.zero_le _, hod, hp5, hg5, sz_new room⟩ ?_ ?_ (fun q => ⟨Nat.le_trans hL0 q.2.2.2.2.1.len, Nat.le_trans hT0 q.2.2.2.2.1.tlen⟩)
  · simp (maxSteps:=2000000) only[bitvec_to_nat,seval,↓tcd,leLL_self]
    all_goals simp
  · rintro ⟨⟨i, L6, T6, M, wd, fo6⟩, hi, hwd, hp, hg, hsz⟩
    simp only at hi hwd hp hg hsz
    have hsmM : Small M := hsz.small (by omega)
    by_cases him : i < (few l).length
    · have hdc : decide ((i : Int) < ((few l).length : Int)) = true := decide_eq_true (by omega)
      obtain ⟨a, ha⟩ : ∃ a, (few l)[i]? = some a := ⟨_, List.getElem?_eq_getElem him⟩
      obtain ⟨ham, hal⟩ := few_mem (List.mem_of_getElem? ha)
      have hgd : ((few l).map actV).getD i .any = .agg [.int .u8 a.kind.toNat, .str a.name, .bytes a.b none, .list 1 (a.names.map .str) none, .int .i64 a.w.names, wbV a.w.bytes, .int .i64 a.n] := by
        rw [List.getD_eq_getElem?_getD, List.getElem?_map, ha]; rfl
      have hi1 : IntKind.i64.wrap ((i : Int) + 1) = ((i + 1 : Nat) : Int) := by rw [i64w (by omega) (by omega)]; omega
      unfold wbV at hgd
      simp (maxSteps:=2000000) only[bitvec_to_nat,seval,↓tcd,hdc,hgd,Int.toNat_natCast,List.length_map]
      refine ⟨⟨by omega, by omega⟩, ?_⟩
      obtain ⟨A, hA⟩ : ∃ x, ([.int .u8 a.kind.toNat, .str a.name, .bytes a.b none, .list 1 (a.names.map .str) none, .int .i64 a.w.names, .list 1 (a.w.bytes.map fun n => .int .i64 n) none, .int .i64 a.n] : List V) = x := ⟨_, rfl⟩
      have hp7 : Pair (L6 ++ [A]) T6 M wd M oR fo6 := hp.other ((Step.refl noS noS L6 T6).app _)
      have hAa : V.agg A = actV a := by rw [← hA]; unfold actV wbV; rfl
      rw [hA, hAa]
      obtain ⟨m1, m2, m3⟩ := makes_act ham (hn a hal) (16 * i) M hp.d1.ok hsz (by omega)
      refine ⟨M, wd, oR, fo6, a, by rw [hwd], act_Ok ham (hn a hal), hp7, m1, fun L8 T8 w8 fo8 ho8 hp8 hst8 => ?_⟩
      rw [hwd] at ho8
      have hg8 := (hg.app [A]).trans hst8
      simp (maxSteps:=2000000) only[bitvec_to_nat,seval,↓tcd,hi1]
      refine ⟨⟨(i + 1, L8, T8, ((act a).f M).1, w8, fo8), him, ho8, hp8, hg8, m3.mono (by omega)⟩, ?_, by simp only; omega⟩
      simp (maxSteps:=2000000) only[bitvec_to_nat,seval,↓tcd,leLL_self,hi1]
    · have hdc : decide ((i : Int) < ((few l).length : Int)) = false := decide_eq_false (by omega)
      have hw6 : L6[L.length]? = some [.int .i64 wr.names, .list 1 (wr.bytes.map fun n => .int .i64 n) none] := by rw [hg.keep L.length hlw (fun h => h)]; exact hwr1
      have hlw6 := lt_at hw6
      have hL16 := hg.len
      have hno6 : ¬ pS wd oR fo6 L.length := fun h => (hg.own _ h).elim (fun h => h) (fun h => by omega)
      simp (maxSteps:=2000000) only[bitvec_to_nat,seval,↓tcd,hdc,hw6,hlw6]
      refine crash_o hwd wr.bytes (.inr ⟨none, rfl⟩) hwb hp.d1 hsmM fun L7 T7 w7 ho7 hd7 hst7 => ?_
      have hp7 := hp.left hd7 hst7
      have hw7 : L7[L.length]? = some [.int .i64 wr.names, .list 1 (wr.bytes.map fun n => .int .i64 n) none] := by rw [hst7.keep L.length hlw6 (fun h => hno6 (.inl h))]; exact hw6
      have hlw7 := lt_at hw7
      simp (maxSteps:=2000000) only[bitvec_to_nat,seval,↓tcd,hw7,hlw7]
      refine ⟨M, oR, fo6, wr.names, _, wr.bytes, rfl, .inr ⟨none, rfl⟩, hwb, hp7.d2, hsmM, fun L8 T8 fo8 hr8 hst8 => ?_⟩
      have hp8 := hp7.right hr8 hst8
      simp (maxSteps:=2000000) only[bitvec_to_nat,seval,↓tcd]
      refine ⟨_, w7, oR, fo8, by rw [ho7], hp8, small_crash hsmM hp.d1.ok _, fun L9 T9 w9 fo9 hst9 => ?_⟩
      have hg9 := ((hg.trans (Step.pl (o := oR) (fo := fo6) hst7)).trans (Step.pr (w := w7) hst8)).trans hst9
      have hl9 := hg9.len
      have ht9 := hg9.tlen
      simp (maxSteps:=2000000) only[bitvec_to_nat,seval,↓tcd]
      exact ret_of (⟨by omega, fun _ _ h => absurd trivial h, fun _ h => h.elim, by omega, fun _ _ h => absurd trivial h, fun _ h => h.elim⟩ : Step (fun _ => True) (fun _ => True) L T noS noS L9 T9) (hK _ _)
end Go.Proofs.Ytpncnionnfomeaa.PlaceX
