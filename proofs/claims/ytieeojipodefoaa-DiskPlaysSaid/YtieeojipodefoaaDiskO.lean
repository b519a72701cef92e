/-
  ACTS THAT COME IN.
-/
import Derived.Test.YtieeojipodefoaaDiskL
import Derived.Test.YtieeojipodefoaaAwU
namespace Go.Proofs.Ytieeojipodefoaa.DiskO
open Go Go.Proofs Go.ChangeShapes Go.RowKit Go.Proofs.Ytieeojipodefoaa.Aw Go.Proofs.Ytieeojipodefoaa.DiskM Go.Proofs.Ytieeojipodefoaa.DiskL
set_option linter.unusedVariables false
set_option linter.unusedSimpArgs false
theorem len2 : ∀ {l : List Value}, l.length = 2 → ∃ a b, l = [a, b]
  | [a, b], _ => ⟨a, b, rfl⟩
theorem len7 : ∀ {l : List Value}, l.length = 7 → ∃ a b c d e f g, l = [a, b, c, d, e, f, g]
  | [a, b, c, d, e, f, g], _ => ⟨a, b, c, d, e, f, g, rfl⟩
section
variable {H : Type} {enc : TypeId × Value → H} {w : World} {base : Nat} {held : Bool}
theorem cu8 : Try.prog.cellsOf 5 = 1 := by kernel_rfl
theorem cstr : Try.prog.cellsOf 9 = 1 := by kernel_rfl
theorem cint : Try.prog.cellsOf 3 = 1 := by kernel_rfl
theorem cbs : Try.prog.cellsOf 32 = 1 := by kernel_rfl
theorem cis : Try.prog.cellsOf 23 = 1 := by kernel_rfl
theorem cwr : Try.prog.cellsOf 25 = 2 := by kernel_rfl
theorem cact : Try.prog.cellsOf 34 = 7 := by kernel_rfl
theorem str_rel {K : Kw} (s : ByteArray) : Rel K (.str s.data.toList) (.string s) := Rel.str s.data.toList
theorem some_of {α : Type} {x : Option α} {l : List α} {i : Nat} (h : x = l[i]?) (hi : i < l.length) : ∃ y, x = some y := ⟨l[i], by rw [h, List.getElem?_eq_getElem hi]⟩
/-- a wreck that comes in -/
theorem wreck_open {n : Nat} {cs : List Value} {x : DataW H × List MemPlace} (h : DataW.trod enc Try.prog w base (fun _ => true) held n 25 cs = some x) :
    ∃ (k : Int) (A : Option Addr) (len cap : Nat) (l : List Int), cs = [.int .i64 k, .slice A len cap] ∧ l.length = len ∧ len ≤ maxLen ∧ Rel (K0 w) (wbV l) (.slice A len cap) := by
  obtain ⟨xs, m, _, _, hl, hxs, hall⟩ := DataW.trod_struct Try.underlying25 h
  rw [cwr] at hl
  obtain ⟨c0, c1, rfl⟩ := len2 hl
  have hn : xs.length = 2 := hxs
  obtain ⟨y0, e0⟩ := some_of (hall 0 _ rfl) (by omega)
  obtain ⟨y1, e1⟩ := some_of (hall 1 _ rfl) (by omega)
  simp only [List.getElem_toArray, List.getElem_cons_zero, List.getElem_cons_succ, cint, cis, List.drop_zero, List.drop_succ_cons, List.take_succ_cons, List.take_zero] at e0 e1
  obtain ⟨k, hk, _, _⟩ := DataW.trod_int Try.underlying3 e0
  obtain ⟨A, len, cap, l, hc, h1, h2, _, h3⟩ := ints_open Try.underlying23 Try.underlying3 cint e1
  simp only [List.cons.injEq, and_true] at hk hc
  subst hk hc
  exact ⟨k, A, len, cap, l, rfl, h1, h2, h3⟩
theorem act_open {n : Nat} {cs : List Value} {x : DataW H × List MemPlace} (h : DataW.trod enc Try.prog w base (fun _ => true) held n 34 cs = some x) :
    ∃ a : DiskL.Act, (Lit.int .i64 a.n).wf = true ∧ CellsAre w (actV a) cs := by
  obtain ⟨xs, m, _, _, hl, hxs, hall⟩ := DataW.trod_struct Try.underlying34 h
  rw [cact] at hl
  obtain ⟨c0, c1, c2, c3, c4, c5, c6, rfl⟩ := len7 hl
  have hn : xs.length = 6 := hxs
  obtain ⟨y0, e0⟩ := some_of (hall 0 _ rfl) (by omega)
  obtain ⟨y1, e1⟩ := some_of (hall 1 _ rfl) (by omega)
  obtain ⟨y2, e2⟩ := some_of (hall 2 _ rfl) (by omega)
  obtain ⟨y3, e3⟩ := some_of (hall 3 _ rfl) (by omega)
  obtain ⟨y4, e4⟩ := some_of (hall 4 _ rfl) (by omega)
  obtain ⟨y5, e5⟩ := some_of (hall 5 _ rfl) (by omega)
  simp only [List.getElem_toArray, List.getElem_cons_zero, List.getElem_cons_succ, cu8, cstr, cint, cbs, cwr, List.drop_zero, List.drop_succ_cons, List.take_succ_cons, List.take_zero] at e0 e1 e2 e3 e4 e5
  obtain ⟨k0, h0, _, w0⟩ := DataW.trod_int Try.underlying5 e0
  obtain ⟨s1, h1, _, _⟩ := DataW.trod_string Try.underlying9 e1
  obtain ⟨s2, h2, _, _⟩ := DataW.trod_string Try.underlying9 e2
  obtain ⟨A3, len3, cap3, l3, h3, _, r3⟩ := bytes_open Try.underlying32 Try.underlying5 cu8 e3
  obtain ⟨k4, h4, _, w4⟩ := DataW.trod_int Try.underlying3 e4
  obtain ⟨k5, A5, len5, cap5, l5, h5, _, _, r5⟩ := wreck_open e5
  simp only [List.cons.injEq, and_true] at h0 h1 h2 h3 h4 h5
  obtain ⟨h5, h6⟩ := h5
  subst h0 h1 h2 h3 h4 h5 h6
  have hk0 : ((UInt8.ofNat k0.toNat).toNat : Int) = k0 := by
    simp [Lit.wf, IntKind.min, IntKind.max, IntKind.signed, IntKind.bits] at w0
    simp only [UInt8.toNat_ofNat']
    omega
  refine ⟨⟨UInt8.ofNat k0.toNat, s1.data.toList, s2.data.toList, l3, k4, ⟨k5, l5⟩⟩, w4, rfl, fun j hj hj' => ?_⟩
  have hj7 : j < 7 := hj
  match j, hj7 with
  | 0, _ => exact ⟨by show Rel _ (.int .u8 ((UInt8.ofNat k0.toNat).toNat : Int)) _; rw [hk0]; exact .int _ _, rfl⟩
  | 1, _ => exact ⟨str_rel s1, rfl⟩
  | 2, _ => exact ⟨str_rel s2, rfl⟩
  | 3, _ => exact ⟨r3, rfl⟩
  | 4, _ => exact ⟨.int _ _, rfl⟩
  | 5, _ => exact ⟨.int _ _, rfl⟩
  | 6, _ => exact ⟨r5, rfl⟩
theorem acts_open {n : Nat} {cs : List Value} {x : DataW H × List MemPlace} (h : DataW.trod enc Try.prog w base (fun _ => true) held n 22 cs = some x) :
    ∃ (a : Option Addr) (len cap : Nat) (l : List DiskL.Act), cs = [.slice a len cap] ∧ l.length = len ∧ len ≤ maxLen ∧ (∀ g ∈ l, (Lit.int .i64 g.n).wf = true) ∧ Rel (K0 w) (.list 7 (l.map actV) none) (.slice a len cap) :=
  slices_open Try.underlying22 cact (by omega) actV (fun g => (Lit.int .i64 g.n).wf = true) (fun g => rfl) (fun n cs x hx => act_open hx) h
end
end Go.Proofs.Ytieeojipodefoaa.DiskO
