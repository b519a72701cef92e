import Derived.Below
import GoSem.Claims
import Derived.KernelRfl
namespace Go.Proofs.YtckmcglkjfkghaaDoor.Aw
open Go Go.RowKit
set_option linter.unusedVariables false
set_option linter.unusedSimpArgs false
def tabs : List (String × IntKind × List Int) := [("math/bits.deBruijn32tab", .u8, [0, 1, 28, 2, 29, 14, 24, 3, 30, 22, 20, 15, 25, 17, 4, 8, 31, 27, 13, 23, 21, 19, 16, 7, 26, 12, 18, 6, 11, 5, 10, 9]), ("math/bits.deBruijn64tab", .u8, [0, 1, 56, 2, 57, 49, 28, 3, 61, 58, 42, 50, 38, 29, 17, 4, 62, 47, 59, 36, 45, 43, 51, 22, 53, 39, 33, 30, 24, 18, 12, 5, 63, 55, 48, 27, 60, 41, 37, 16, 46, 35, 44, 21, 52, 32, 23, 11, 54, 26, 40, 15, 34, 20, 31, 10, 25, 14, 19, 9, 13, 8, 7, 6]), ("internal/strconv.uint64pow10", .u64, [1, 10, 100, 1000, 10000, 100000, 1000000, 10000000, 100000000, 1000000000, 10000000000, 100000000000, 1000000000000, 10000000000000, 100000000000000, 1000000000000000, 10000000000000000, 100000000000000000, 1000000000000000000, 10000000000000000000])]
def Tabs (P : Program) (w : World) : Prop := ∀ x ∈ tabs, w.var? P x.1 = some (x.2.2.map fun z => Value.int x.2.1 z).toArray
theorem Tabs.below {P : Program} {w w' : World} (h : Tabs P w) (hb : Below w.heap.size w w') : Tabs P w' := by
  intro x hx
  have h1 := h x hx
  unfold World.var? at h1 ⊢
  cases hg : P.globalNamed x.1 with
  | none => rw [hg] at h1; exact h1
  | some g =>
    rw [hg] at h1
    simp only [Option.bind_some] at h1 ⊢
    have hlt : g < w.heap.size := by
      rcases Nat.lt_or_ge g w.heap.size with hl | hl
      · exact hl
      · rw [Array.getElem?_eq_none (by omega)] at h1
        cases h1
    rw [hb.block g hlt]
    exact h1
end Go.Proofs.YtckmcglkjfkghaaDoor.Aw
