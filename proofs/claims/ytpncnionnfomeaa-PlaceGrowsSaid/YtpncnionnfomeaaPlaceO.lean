import Derived.Test.YtpncnionnfomeaaDiskO
import Derived.Test.YtpncnionnfomeaaPlaceM
namespace Go.Proofs.Ytpncnionnfomeaa.PlaceO
open Go Go.Proofs Go.ChangeShapes Go.RowKit Go.Proofs.Ytpncnionnfomeaa.Aw Go.Proofs.Ytpncnionnfomeaa.DiskM Go.Proofs.Ytpncnionnfomeaa.DiskO
open Go.Proofs.Ytpncnionnfomeaa.DiskL (wbV)
open Go.Proofs.Ytpncnionnfomeaa.PlaceX (actV)
set_option linter.unusedVariables false
set_option linter.unusedSimpArgs false
section
variable {H : Type} {enc : TypeId × Value → H} {w : World} {base : Nat} {held : Bool}
theorem css : Try.prog.cellsOf 33 = 1 := by kernel_rfl
theorem cact : Try.prog.cellsOf 35 = 7 := by kernel_rfl
theorem strs_open {n : Nat} {cs : List Value} {x : DataW H × List MemPlace} (h : DataW.trod enc Try.prog w base (fun _ => true) held n 33 cs = some x) :
    ∃ (a : Option Addr) (len cap : Nat) (l : List Name), cs = [.slice a len cap] ∧ l.length = len ∧ len ≤ maxLen ∧ (∀ g ∈ l, True) ∧ Rel (K0 w) (.list 1 (l.map V.str) none) (.slice a len cap) :=
  slices_open Try.underlying33 cstr (by omega) (fun s => V.str s) (fun _ => True) (fun g => rfl) (fun n cs x hx => by
    obtain ⟨s, rfl, _, _⟩ := DataW.trod_string Try.underlying9 hx
    refine ⟨s.data.toList, trivial, rfl, fun j h1 h2 => ?_⟩
    have : j = 0 := by simpa using h1
    subst this
    exact ⟨str_rel s, rfl⟩) h
theorem act_open {n : Nat} {cs : List Value} {x : DataW H × List MemPlace} (h : DataW.trod enc Try.prog w base (fun _ => true) held n 35 cs = some x) :
    ∃ a : PlaceX.Act, (Lit.int .i64 a.n).wf = true ∧ CellsAre w (actV a) cs := by
  obtain ⟨xs, m, _, _, hl, hxs, hall⟩ := DataW.trod_struct Try.underlying35 h
  rw [cact] at hl
  obtain ⟨c0, c1, c2, c3, c4, c5, c6, rfl⟩ := len7 hl
  have hn : xs.length = 6 := hxs
  obtain ⟨y0, e0⟩ := some_of (hall 0 _ rfl) (by omega)
  obtain ⟨y1, e1⟩ := some_of (hall 1 _ rfl) (by omega)
  obtain ⟨y2, e2⟩ := some_of (hall 2 _ rfl) (by omega)
  obtain ⟨y3, e3⟩ := some_of (hall 3 _ rfl) (by omega)
  obtain ⟨y4, e4⟩ := some_of (hall 4 _ rfl) (by omega)
  obtain ⟨y5, e5⟩ := some_of (hall 5 _ rfl) (by omega)
  simp only [List.getElem_toArray, List.getElem_cons_zero, List.getElem_cons_succ, cu8, cstr, cint, cbs, css, cwr, List.drop_zero, List.drop_succ_cons, List.take_succ_cons, List.take_zero] at e0 e1 e2 e3 e4 e5
  obtain ⟨k0, h0, _, w0⟩ := DataW.trod_int Try.underlying5 e0
  obtain ⟨s1, h1, _, _⟩ := DataW.trod_string Try.underlying9 e1
  obtain ⟨A2, len2, cap2, l2, h2, _, r2⟩ := bytes_open Try.underlying32 Try.underlying5 cu8 e2
  obtain ⟨A3, len3, cap3, l3, h3, _, _, _, r3⟩ := strs_open e3
  obtain ⟨k4, A4, len4, cap4, l4, h4, _, _, r4⟩ := wreck_open e4
  obtain ⟨k5, h5, _, w5⟩ := DataW.trod_int Try.underlying3 e5
  simp only [List.cons.injEq, and_true] at h0 h1 h2 h3 h4 h5
  obtain ⟨h4, h6⟩ := h4
  subst h0 h1 h2 h3 h4 h5 h6
  have hk0 : ((UInt8.ofNat k0.toNat).toNat : Int) = k0 := by
    simp [Lit.wf, IntKind.min, IntKind.max, IntKind.signed, IntKind.bits] at w0
    simp only [UInt8.toNat_ofNat']
    omega
  refine ⟨⟨UInt8.ofNat k0.toNat, s1.data.toList, l2, l3, ⟨k4, l4⟩, k5⟩, w5, rfl, fun j hj hj' => ?_⟩
  have hj7 : j < 7 := hj
  match j, hj7 with
  | 0, _ => exact ⟨by show Rel _ (.int .u8 ((UInt8.ofNat k0.toNat).toNat : Int)) _; rw [hk0]; exact .int _ _, rfl⟩
  | 1, _ => exact ⟨str_rel s1, rfl⟩
  | 2, _ => exact ⟨r2, rfl⟩
  | 3, _ => exact ⟨r3, rfl⟩
  | 4, _ => exact ⟨.int _ _, rfl⟩
  | 5, _ => exact ⟨r4, rfl⟩
  | 6, _ => exact ⟨.int _ _, rfl⟩
theorem acts_open {n : Nat} {cs : List Value} {x : DataW H × List MemPlace} (h : DataW.trod enc Try.prog w base (fun _ => true) held n 22 cs = some x) :
    ∃ (a : Option Addr) (len cap : Nat) (l : List PlaceX.Act), cs = [.slice a len cap] ∧ l.length = len ∧ len ≤ maxLen ∧ (∀ g ∈ l, (Lit.int .i64 g.n).wf = true) ∧ Rel (K0 w) (.list 7 (l.map actV) none) (.slice a len cap) :=
  slices_open Try.underlying22 cact (by omega) actV (fun g => (Lit.int .i64 g.n).wf = true) (fun g => rfl) (fun n cs x hx => act_open hx) h
end
end Go.Proofs.Ytpncnionnfomeaa.PlaceO
