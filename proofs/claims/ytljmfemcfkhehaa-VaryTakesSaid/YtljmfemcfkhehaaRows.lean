/-
  No cell of these rows narrows 'for every input' (looked for: loops, veiled, ifaces, maps, wideKeys, modest, calm, conditions, laid).
  DERIVED. THE GIVEN ROWS OF THIS SEAT. 6 by the template 'for every input the law returns true; each argument reads behind the call as it read before'; 0 by the template 'total and deterministic' (their statements: YtljmfemcfkhehaaTotals.lean).
  GIVEN WITH THE SEED: the statements are not yours to turn. If you find one false, say at which input.
  Laid BY PROGRAM, IN A SANDBOX (cutbox-rows.mjs): the forced cells as the released guide's own fill.sh prints them over the translation 27aa525230847d4e… (all of the seat's roots in one cut). By AI agents, Wed Nov 11 2026. No macro, syntax, notation, axiom, sorry.
-/
import Derived.Test.YtljmfemcfkhehaaChecked
import GoSem.Claim
import GoSem.ClaimJoined
import GoSem.ClaimMapViews
import Derived.JoinedTies
import Derived.KernelRfl
namespace Go.Proofs.Ytljmfemcfkhehaa
/- THE CELL 'sum', in the pinned program and in every row, IS THE sha256 OF THE DUMP (.gsa) THAT YtljmfemcfkhehaaProg.lean LOADS. Nothing in Lean hashes anything: it is a label: what it is worth is what the hold of that sum in a sandbox is worth. -/
noncomputable def Try.pinned : Pinned := { name := "ytljmfemcfkhehaa", sum := "27aa525230847d4efeaf16798bdca68932fb1daf86d8b58bb2a8719fa6fedea7", checked := Try.checked }
namespace Rows
def none {H : Type} : Left H := { results := [], args := [] }

/-- 'creellaw01.VaryTakes': WHATEVER THE INPUT: true; the input reads as it did. -/
def varyTakesSpec : ChangeSpec := { name := "varyTakes", fn := fun _ => fun
  | [d1, d2] => { results := [.lit (.bool true)], args := [d1, d2] }
  | _ => none }
def varyTakesRow : OpenClaim := { program := "ytljmfemcfkhehaa", sum := "27aa525230847d4efeaf16798bdca68932fb1daf86d8b58bb2a8719fa6fedea7", func := "creel/creellaw01.VaryTakes", spec := "varyTakes", apart := false }
def VaryTakesSaid : Prop := varyTakesRow.holds Try.pinned (OpenSpec.ofChange varyTakesSpec)

/-- ITS FALSE NEIGHBOUR: 'it returns false'. Refute it at one input. -/
def varyTakesWrong : ChangeSpec := { name := "varyTakes", fn := fun _ => fun
  | [d1, d2] => { results := [.lit (.bool false)], args := [d1, d2] }
  | _ => none }
def VaryTakesWrongFalsely : Prop := varyTakesRow.holds Try.pinned (OpenSpec.ofChange varyTakesWrong)

/-- 'creellaw01.VaryBack': WHATEVER THE INPUT: true; the input reads as it did. -/
def varyBackSpec : ChangeSpec := { name := "varyBack", fn := fun _ => fun
  | [d1, d2, d3] => { results := [.lit (.bool true)], args := [d1, d2, d3] }
  | _ => none }
def varyBackRow : OpenClaim := { program := "ytljmfemcfkhehaa", sum := "27aa525230847d4efeaf16798bdca68932fb1daf86d8b58bb2a8719fa6fedea7", func := "creel/creellaw01.VaryBack", spec := "varyBack", apart := false }
def VaryBackSaid : Prop := varyBackRow.holds Try.pinned (OpenSpec.ofChange varyBackSpec)

/-- ITS FALSE NEIGHBOUR: 'it returns false'. Refute it at one input. -/
def varyBackWrong : ChangeSpec := { name := "varyBack", fn := fun _ => fun
  | [d1, d2, d3] => { results := [.lit (.bool false)], args := [d1, d2, d3] }
  | _ => none }
def VaryBackWrongFalsely : Prop := varyBackRow.holds Try.pinned (OpenSpec.ofChange varyBackWrong)

/-- 'creellaw01.VaryCut': WHATEVER THE INPUT: true; the input reads as it did. -/
def varyCutSpec : ChangeSpec := { name := "varyCut", fn := fun _ => fun
  | [d1, d2] => { results := [.lit (.bool true)], args := [d1, d2] }
  | _ => none }
def varyCutRow : OpenClaim := { program := "ytljmfemcfkhehaa", sum := "27aa525230847d4efeaf16798bdca68932fb1daf86d8b58bb2a8719fa6fedea7", func := "creel/creellaw01.VaryCut", spec := "varyCut", apart := false }
def VaryCutSaid : Prop := varyCutRow.holds Try.pinned (OpenSpec.ofChange varyCutSpec)

/-- ITS FALSE NEIGHBOUR: 'it returns false'. Refute it at one input. -/
def varyCutWrong : ChangeSpec := { name := "varyCut", fn := fun _ => fun
  | [d1, d2] => { results := [.lit (.bool false)], args := [d1, d2] }
  | _ => none }
def VaryCutWrongFalsely : Prop := varyCutRow.holds Try.pinned (OpenSpec.ofChange varyCutWrong)

/-- 'creellaw01.VarySigns': WHATEVER THE INPUT: true; the input reads as it did. -/
def varySignsSpec : ChangeSpec := { name := "varySigns", fn := fun _ => fun
  | [d1, d2] => { results := [.lit (.bool true)], args := [d1, d2] }
  | _ => none }
def varySignsRow : OpenClaim := { program := "ytljmfemcfkhehaa", sum := "27aa525230847d4efeaf16798bdca68932fb1daf86d8b58bb2a8719fa6fedea7", func := "creel/creellaw01.VarySigns", spec := "varySigns", apart := false }
def VarySignsSaid : Prop := varySignsRow.holds Try.pinned (OpenSpec.ofChange varySignsSpec)

/-- ITS FALSE NEIGHBOUR: 'it returns false'. Refute it at one input. -/
def varySignsWrong : ChangeSpec := { name := "varySigns", fn := fun _ => fun
  | [d1, d2] => { results := [.lit (.bool false)], args := [d1, d2] }
  | _ => none }
def VarySignsWrongFalsely : Prop := varySignsRow.holds Try.pinned (OpenSpec.ofChange varySignsWrong)

/-- 'creellaw01.VaryOrder': WHATEVER THE INPUT: true; the input reads as it did. -/
def varyOrderSpec : ChangeSpec := { name := "varyOrder", fn := fun _ => fun
  | [d1, d2, d3] => { results := [.lit (.bool true)], args := [d1, d2, d3] }
  | _ => none }
def varyOrderRow : OpenClaim := { program := "ytljmfemcfkhehaa", sum := "27aa525230847d4efeaf16798bdca68932fb1daf86d8b58bb2a8719fa6fedea7", func := "creel/creellaw01.VaryOrder", spec := "varyOrder", apart := false }
def VaryOrderSaid : Prop := varyOrderRow.holds Try.pinned (OpenSpec.ofChange varyOrderSpec)

/-- ITS FALSE NEIGHBOUR: 'it returns false'. Refute it at one input. -/
def varyOrderWrong : ChangeSpec := { name := "varyOrder", fn := fun _ => fun
  | [d1, d2, d3] => { results := [.lit (.bool false)], args := [d1, d2, d3] }
  | _ => none }
def VaryOrderWrongFalsely : Prop := varyOrderRow.holds Try.pinned (OpenSpec.ofChange varyOrderWrong)

/-- 'creellaw01.VaryLen': WHATEVER THE INPUT: true; the input reads as it did. -/
def varyLenSpec : ChangeSpec := { name := "varyLen", fn := fun _ => fun
  | [d1, d2] => { results := [.lit (.bool true)], args := [d1, d2] }
  | _ => none }
def varyLenRow : OpenClaim := { program := "ytljmfemcfkhehaa", sum := "27aa525230847d4efeaf16798bdca68932fb1daf86d8b58bb2a8719fa6fedea7", func := "creel/creellaw01.VaryLen", spec := "varyLen", apart := false }
def VaryLenSaid : Prop := varyLenRow.holds Try.pinned (OpenSpec.ofChange varyLenSpec)

/-- ITS FALSE NEIGHBOUR: 'it returns false'. Refute it at one input. -/
def varyLenWrong : ChangeSpec := { name := "varyLen", fn := fun _ => fun
  | [d1, d2] => { results := [.lit (.bool false)], args := [d1, d2] }
  | _ => none }
def VaryLenWrongFalsely : Prop := varyLenRow.holds Try.pinned (OpenSpec.ofChange varyLenWrong)

/- THE SECOND FORM. 'bulk': how many values and letters a reading holds, each counted each time it is reached (what is shared counts as often as it is met; a slice's spare places count too). A statement '..UptoSaid' is the law's where the arguments, and the package variables that the reading takes, are together of bulk at most 1048576: NARROWER than '..Said'. Prove '..Said' where nothing that the law and all that it calls make is longer than what came in: it says more and counts as full. Else prove '..UptoSaid'. A law counts once. -/
mutual
def uptoBulk {H : Type} : DataW H → Nat
  | .lit (.string bytes) => bytes.length + 1
  | .lit _ => 1
  | .nil => 1
  | .ptr d => uptoBulk d + 1
  | .slice elems spare => uptoBulkAll elems + uptoBulkAll spare + 1
  | .agg parts => uptoBulkAll parts + 1
  | .iface _ d => uptoBulk d + 1
  | .map entries => uptoBulkEntries entries + 1
  | .held _ => 1
def uptoBulkAll {H : Type} : List (DataW H) → Nat
  | [] => 0
  | d :: r => uptoBulk d + uptoBulkAll r
def uptoBulkEntries {H : Type} : List (Lit × DataW H) → Nat
  | [] => 0
  | x :: r => uptoBulkEntry x + uptoBulkEntries r
def uptoBulkEntry {H : Type} : Lit × DataW H → Nat
  | (.string bytes, d) => bytes.length + uptoBulk d + 1
  | (_, d) => uptoBulk d + 1
 end
def uptoSmall : (H : Type) → List (DataW H) → Bool := fun _ ds => decide (uptoBulkAll ds ≤ 1048576)
def OpenSpec.upto (s : _root_.Go.ChangeSpec) : _root_.Go.OpenSpec := { _root_.Go.OpenSpec.ofChange s with cond := some uptoSmall }

/-- 'creellaw01.VaryTakes', WHERE WHAT IT READS IS OF BULK AT MOST 1048576: true; the input reads as it did. -/
def varyTakesUptoRow : OpenClaim := { program := "ytljmfemcfkhehaa", sum := "27aa525230847d4efeaf16798bdca68932fb1daf86d8b58bb2a8719fa6fedea7", func := "creel/creellaw01.VaryTakes", spec := "varyTakes", apart := false, narrowed := true }
def VaryTakesUptoSaid : Prop := varyTakesUptoRow.holds Try.pinned (OpenSpec.upto varyTakesSpec)

/-- 'creellaw01.VaryBack', WHERE WHAT IT READS IS OF BULK AT MOST 1048576: true; the input reads as it did. -/
def varyBackUptoRow : OpenClaim := { program := "ytljmfemcfkhehaa", sum := "27aa525230847d4efeaf16798bdca68932fb1daf86d8b58bb2a8719fa6fedea7", func := "creel/creellaw01.VaryBack", spec := "varyBack", apart := false, narrowed := true }
def VaryBackUptoSaid : Prop := varyBackUptoRow.holds Try.pinned (OpenSpec.upto varyBackSpec)

/-- 'creellaw01.VaryCut', WHERE WHAT IT READS IS OF BULK AT MOST 1048576: true; the input reads as it did. -/
def varyCutUptoRow : OpenClaim := { program := "ytljmfemcfkhehaa", sum := "27aa525230847d4efeaf16798bdca68932fb1daf86d8b58bb2a8719fa6fedea7", func := "creel/creellaw01.VaryCut", spec := "varyCut", apart := false, narrowed := true }
def VaryCutUptoSaid : Prop := varyCutUptoRow.holds Try.pinned (OpenSpec.upto varyCutSpec)

/-- 'creellaw01.VarySigns', WHERE WHAT IT READS IS OF BULK AT MOST 1048576: true; the input reads as it did. -/
def varySignsUptoRow : OpenClaim := { program := "ytljmfemcfkhehaa", sum := "27aa525230847d4efeaf16798bdca68932fb1daf86d8b58bb2a8719fa6fedea7", func := "creel/creellaw01.VarySigns", spec := "varySigns", apart := false, narrowed := true }
def VarySignsUptoSaid : Prop := varySignsUptoRow.holds Try.pinned (OpenSpec.upto varySignsSpec)

/-- 'creellaw01.VaryOrder', WHERE WHAT IT READS IS OF BULK AT MOST 1048576: true; the input reads as it did. -/
def varyOrderUptoRow : OpenClaim := { program := "ytljmfemcfkhehaa", sum := "27aa525230847d4efeaf16798bdca68932fb1daf86d8b58bb2a8719fa6fedea7", func := "creel/creellaw01.VaryOrder", spec := "varyOrder", apart := false, narrowed := true }
def VaryOrderUptoSaid : Prop := varyOrderUptoRow.holds Try.pinned (OpenSpec.upto varyOrderSpec)

/-- 'creellaw01.VaryLen', WHERE WHAT IT READS IS OF BULK AT MOST 1048576: true; the input reads as it did. -/
def varyLenUptoRow : OpenClaim := { program := "ytljmfemcfkhehaa", sum := "27aa525230847d4efeaf16798bdca68932fb1daf86d8b58bb2a8719fa6fedea7", func := "creel/creellaw01.VaryLen", spec := "varyLen", apart := false, narrowed := true }
def VaryLenUptoSaid : Prop := varyLenUptoRow.holds Try.pinned (OpenSpec.upto varyLenSpec)

end Rows
end Go.Proofs.Ytljmfemcfkhehaa
