import Derived.Below
import GoSem.Claims
import Derived.KernelRfl
namespace Go.Proofs.Ytckmcglkjfkghaa.Aw
open Go Go.RowKit
set_option linter.unusedVariables false
set_option linter.unusedSimpArgs false
def tabs : List (String × IntKind × List Int) := []
def Tabs (P : Program) (w : World) : Prop := ∀ x ∈ tabs, w.var? P x.1 = some (x.2.2.map fun z => Value.int x.2.1 z).toArray
theorem Tabs.below {P : Program} {w w' : World} (h : Tabs P w) (hb : Below w.heap.size w w') : Tabs P w' := by
  intro x hx
  have h1 := h x hx
  unfold World.var? at h1 ⊢
  cases hg : P.globalNamed x.1 with
  | none => rw [hg] at h1; exact h1
  | some g =>
    rw [hg] at h1
    simp only [Option.bind_some] at h1 ⊢
    have hlt : g < w.heap.size := by
      rcases Nat.lt_or_ge g w.heap.size with hl | hl
      · exact hl
      · rw [Array.getElem?_eq_none (by omega)] at h1
        cases h1
    rw [hb.block g hlt]
    exact h1
end Go.Proofs.Ytckmcglkjfkghaa.Aw
