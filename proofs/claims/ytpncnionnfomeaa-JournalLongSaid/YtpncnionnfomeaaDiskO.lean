import Derived.Test.YtpncnionnfomeaaDiskL
import Derived.Test.YtpncnionnfomeaaAwU
namespace Go.Proofs.Ytpncnionnfomeaa.DiskO
open Go Go.Proofs Go.ChangeShapes Go.RowKit Go.Proofs.Ytpncnionnfomeaa.Aw Go.Proofs.Ytpncnionnfomeaa.DiskM Go.Proofs.Ytpncnionnfomeaa.DiskL
set_option linter.unusedVariables false
set_option linter.unusedSimpArgs false
theorem len2 : ∀ {l : List Value}, l.length = 2 → ∃ a b, l = [a, b]
  | [a, b], _ => ⟨a, b, rfl⟩
theorem len7 : ∀ {l : List Value}, l.length = 7 → ∃ a b c d e f g, l = [a, b, c, d, e, f, g]
  | [a, b, c, d, e, f, g], _ => ⟨a, b, c, d, e, f, g, rfl⟩
section
variable {H : Type} {enc : TypeId × Value → H} {w : World} {base : Nat} {held : Bool}
theorem cu8 : Try.prog.cellsOf 5 = 1 := by kernel_rfl
theorem cstr : Try.prog.cellsOf 9 = 1 := by kernel_rfl
theorem cint : Try.prog.cellsOf 3 = 1 := by kernel_rfl
theorem cbs : Try.prog.cellsOf 32 = 1 := by kernel_rfl
theorem cis : Try.prog.cellsOf 23 = 1 := by kernel_rfl
theorem cwr : Try.prog.cellsOf 25 = 2 := by kernel_rfl
theorem str_rel {K : Kw} (s : ByteArray) : Rel K (.str s.data.toList) (.string s) := Rel.str s.data.toList
theorem some_of {α : Type} {x : Option α} {l : List α} {i : Nat} (h : x = l[i]?) (hi : i < l.length) : ∃ y, x = some y := ⟨l[i], by rw [h, List.getElem?_eq_getElem hi]⟩
theorem wreck_open {n : Nat} {cs : List Value} {x : DataW H × List MemPlace} (h : DataW.trod enc Try.prog w base (fun _ => true) held n 25 cs = some x) :
    ∃ (k : Int) (A : Option Addr) (len cap : Nat) (l : List Int), cs = [.int .i64 k, .slice A len cap] ∧ l.length = len ∧ len ≤ maxLen ∧ Rel (K0 w) (wbV l) (.slice A len cap) := by
  obtain ⟨xs, m, _, _, hl, hxs, hall⟩ := DataW.trod_struct Try.underlying25 h
  rw [cwr] at hl
  obtain ⟨c0, c1, rfl⟩ := len2 hl
  have hn : xs.length = 2 := hxs
  obtain ⟨y0, e0⟩ := some_of (hall 0 _ rfl) (by omega)
  obtain ⟨y1, e1⟩ := some_of (hall 1 _ rfl) (by omega)
  simp only [List.getElem_toArray, List.getElem_cons_zero, List.getElem_cons_succ, cint, cis, List.drop_zero, List.drop_succ_cons, List.take_succ_cons, List.take_zero] at e0 e1
  obtain ⟨k, hk, _, _⟩ := DataW.trod_int Try.underlying3 e0
  obtain ⟨A, len, cap, l, hc, h1, h2, _, h3⟩ := ints_open Try.underlying23 Try.underlying3 cint e1
  simp only [List.cons.injEq, and_true] at hk hc
  subst hk hc
  exact ⟨k, A, len, cap, l, rfl, h1, h2, h3⟩
end
end Go.Proofs.Ytpncnionnfomeaa.DiskO
