import Derived.Test.YtpncnionnfomeaaAwX
import Derived.Test.YtpncnionnfomeaaDiskL
namespace Go.Proofs.Ytpncnionnfomeaa.DiskL
open Go Go.Proofs Go.Proofs.Ytpncnionnfomeaa.Aw Go.Proofs.Ytpncnionnfomeaa.Num Go.Proofs.Ytpncnionnfomeaa.DiskM Go.Proofs.Ytpncnionnfomeaa.DiskA Go.Proofs.Ytpncnionnfomeaa.DiskK Go.Proofs.Ytpncnionnfomeaa.DiskC Go.Proofs.Ytpncnionnfomeaa.Disk
set_option linter.unusedSimpArgs false
set_option linter.unusedVariables false
def H3 : Fns := { fn := fun f => H0.fn f, mu := fun d => .no, hp := fun f => if f = 13 then some newP else if f = 38 then some createP else if f = 27 then some readP else if f = 21 then some syncNamesP else if f = 30 then some namesP else if f = 17 then some crashP else if f = 37 then some appendP else H0.hp f, ord := fun i => none, it := fun f => H0.it f }
theorem H3_fn (f : FuncId) : H3.fn f = (H0.fn f) := rfl
theorem H3_mu (d : Tmp) : H3.mu d = (.no) := rfl
theorem H3_hp (f : FuncId) : H3.hp f = (if f = 13 then some newP else if f = 38 then some createP else if f = 27 then some readP else if f = 21 then some syncNamesP else if f = 30 then some namesP else if f = 17 then some crashP else if f = 37 then some appendP else H0.hp f) := rfl
theorem H3_ord (i : Nat) : H3.ord i = (none) := rfl
theorem H3_it (f : FuncId) : H3.it f = (H0.it f) := rfl
theorem H3_hy (b : Nat) : H3.hy b = none := rfl
theorem H3ok : FnsOk Try.prog H3 := FnsOk.same (FnsOk.consP (FnsOk.consP (FnsOk.consP (FnsOk.consP (FnsOk.consP (FnsOk.consP (FnsOk.consP H0ok _ _ append_ok Try.func37 (by decide) (fun h => by cases h)) _ _ crash_sound Try.func17 (by decide) (fun h => by cases h)) _ _ names_ok Try.func30 (by decide) (fun h => by cases h)) _ _ syncNames_ok Try.func21 (by decide) (fun h => by cases h)) _ _ read_ok Try.func27 (by decide) (fun h => by cases h)) _ _ create_ok Try.func38 (by decide) (fun h => by cases h)) _ _ new_ok Try.func13 (by decide) (fun h => by cases h)) rfl rfl
attribute [bitvec_to_nat] H3_fn H3_mu H3_hp H3_ord H3_it H3_hy
def A1 : MD := ⟨[([], 0)], [], [⟨[], [97], 0⟩], 9, false, false, 0⟩
def A2 : MD := ⟨[([0, 0, 0, 0, 0], 0)], [], [⟨[], [97], 0⟩], 9, false, false, 0⟩
def A3 : MD := ⟨[], [], [], 9, false, false, 0⟩
def A4 : MD := ⟨[([], 0)], [([97], 0)], [], 9, false, false, 0⟩
def A5 : MD := ⟨[([0, 0, 0, 0, 0], 0)], [([97], 0)], [], 9, false, false, 0⟩
def A6 : MD := ⟨[([0, 0], 2)], [([97], 0)], [], 9, false, false, 0⟩
theorem s1 : (DiskM.new 9).create [97] = (A1, 0) := by kernel_rfl
theorem s2 : A1.append [97] [0, 0, 0, 0, 0] = (A2, 0) := by kernel_rfl
theorem s3 : A2.crash ⟨0, []⟩ = A3 := by kernel_rfl
theorem s4 : A3.names = (A3, 0) := by kernel_rfl
theorem s4b : A3.namesL = [] := by kernel_rfl
theorem s5 : A3.create [97] = (A1, 0) := by kernel_rfl
theorem s6 : A1.syncNames = (A4, 0) := by kernel_rfl
theorem s7 : A4.append [97] [0, 0, 0, 0, 0] = (A5, 0) := by kernel_rfl
theorem s8 : A5.crash ⟨0, [2]⟩ = A6 := by kernel_rfl
theorem s9 : A6.read [97] = (A6, 0) := by kernel_rfl
theorem s9b : A6.readB [97] = [0, 0] := by kernel_rfl
theorem s10 : A6.append [97] [0, 0, 0, 0, 0, 0, 0, 0] = (A6, 41) := by kernel_rfl
theorem small_of {M : MD} (h1 : M.chs.length ≤ 10) (h2 : M.used ≤ 10) (h3 : ∀ x ∈ M.files, x.1.length ≤ 10) (h4 : M.files.length ≤ 10) : Small M := ⟨by omega, by omega, fun x hx => by have := h3 x hx; omega, by omega⟩
theorem sm0 : Small (DiskM.new 9) := small_of (by decide) (by decide) (by decide) (by decide)
theorem sm1 : Small A1 := small_of (by decide) (by decide) (by decide) (by decide)
theorem sm2 : Small A2 := small_of (by decide) (by decide) (by decide) (by decide)
theorem sm3 : Small A3 := small_of (by decide) (by decide) (by decide) (by decide)
theorem sm4 : Small A4 := small_of (by decide) (by decide) (by decide) (by decide)
theorem sm5 : Small A5 := small_of (by decide) (by decide) (by decide) (by decide)
theorem sm6 : Small A6 := small_of (by decide) (by decide) (by decide) (by decide)
theorem appendF_some {n : Name} {b : List UInt8} {t : Option Nat} (h : b.length ≤ 1099511627776) : appendF [.str n, .bytes b t] = some fun M => ((M.append n b).1, codeV (M.append n b).2) := if_pos h
theorem op_o {op : List V → Option (MD → MD × V)} {L : LL} {T : TT} {M : MD} {w : Own} {o : Nat} (ho : w.o = o) {rest : List V} {g : MD → MD × V} {K : V → LL → TT → Prop} (hg : op rest = some g) (hd : dAt L T M w) (hs : Small M)
    (hK : ∀ L' T' w', w'.o = o → dAt L' T' (g M).1 w' → Step w.S w.R L T w'.S w'.R L' T' → K (g M).2 L' T') : opP op (.box o 0 :: rest) L T K := by
  subst ho
  exact ⟨M, w, rest, g, rfl, hg, hd, hs, hK⟩
theorem crash_o {L : LL} {T : TT} {M : MD} {w : Own} {o : Nat} (ho : w.o = o) {n : Int} {X : V} (bs : List Int) {K : V → LL → TT → Prop} (hX : wreckX X bs) (hb : bs.length ≤ 9223372036854775807) (hd : dAt L T M w) (hs : Small M)
    (hK : ∀ L' T' w', w'.o = o → dAt L' T' (M.crash ⟨n, bs⟩) w' → Step w.S w.R L T w'.S w'.R L' T' → K (codeV 0) L' T') : crashP [.box o 0, .agg [.int .i64 n, X]] L T K := by
  subst ho
  exact ⟨M, w, n, X, bs, rfl, hX, hb, hd, hs, hK⟩
def shownP : PM := fun args L T K => args = [] ∧ ∀ L' T', Step noS noS L T noS noS L' T' → K (.bool true) L' T'
end Go.Proofs.Ytpncnionnfomeaa.DiskL
