/-
  No cell of these rows narrows 'for every input' (looked for: loops, veiled, ifaces, maps, wideKeys, modest, calm, conditions, laid).
  DERIVED. THE GIVEN ROWS OF THIS SEAT. 3 by the template 'for every input the law returns true; each argument reads behind the call as it read before'; 0 by the template 'total and deterministic' (their statements: YtckmcglkjfkghaaTotals.lean).
  GIVEN WITH THE SEED: the statements are not yours to turn. If you find one false, say at which input.
  Laid BY PROGRAM, IN A SANDBOX (cutbox-rows.mjs): the forced cells as the released guide's own fill.sh prints them over the translation fcf738adb66bb07c… (all of the seat's roots in one cut). By AI agents, Wed Nov 11 2026. No macro, syntax, notation, axiom, sorry.
-/
import Derived.Test.YtckmcglkjfkghaaChecked
import GoSem.Claim
import GoSem.ClaimJoined
import GoSem.ClaimMapViews
import Derived.JoinedTies
import Derived.KernelRfl
namespace Go.Proofs.Ytckmcglkjfkghaa
/- THE CELL 'sum', in the pinned program and in every row, IS THE sha256 OF THE DUMP (.gsa) THAT YtckmcglkjfkghaaProg.lean LOADS. Nothing in Lean hashes anything: it is a label: what it is worth is what the hold of that sum in a sandbox is worth. -/
noncomputable def Try.pinned : Pinned := { name := "ytckmcglkjfkghaa", sum := "fcf738adb66bb07c10dd30d76c7a94df06724f37e983227dc5d409da49b44e0f", checked := Try.checked }
namespace Rows
def none {H : Type} : Left H := { results := [], args := [] }

/-- 'creellaw08.EdgeParses': WHATEVER THE INPUT: true; the input reads as it did. -/
def edgeParsesSpec : ChangeSpec := { name := "edgeParses", fn := fun _ => fun
  | [d1, d2, d3] => { results := [.lit (.bool true)], args := [d1, d2, d3] }
  | _ => none }
def edgeParsesRow : OpenClaim := { program := "ytckmcglkjfkghaa", sum := "fcf738adb66bb07c10dd30d76c7a94df06724f37e983227dc5d409da49b44e0f", func := "creel/creellaw08.EdgeParses", spec := "edgeParses", apart := false }
def EdgeParsesSaid : Prop := edgeParsesRow.holds Try.pinned (OpenSpec.ofChange edgeParsesSpec)

/-- ITS FALSE NEIGHBOUR: 'it returns false'. Refute it at one input. -/
def edgeParsesWrong : ChangeSpec := { name := "edgeParses", fn := fun _ => fun
  | [d1, d2, d3] => { results := [.lit (.bool false)], args := [d1, d2, d3] }
  | _ => none }
def EdgeParsesWrongFalsely : Prop := edgeParsesRow.holds Try.pinned (OpenSpec.ofChange edgeParsesWrong)

/-- 'creellaw08.EdgeOrder': WHATEVER THE INPUT: true; the input reads as it did. -/
def edgeOrderSpec : ChangeSpec := { name := "edgeOrder", fn := fun _ => fun
  | [d1, d2] => { results := [.lit (.bool true)], args := [d1, d2] }
  | _ => none }
def edgeOrderRow : OpenClaim := { program := "ytckmcglkjfkghaa", sum := "fcf738adb66bb07c10dd30d76c7a94df06724f37e983227dc5d409da49b44e0f", func := "creel/creellaw08.EdgeOrder", spec := "edgeOrder", recurses := true, apart := false }
def EdgeOrderSaid : Prop := edgeOrderRow.holds Try.pinned (OpenSpec.ofChange edgeOrderSpec)

/-- ITS FALSE NEIGHBOUR: 'it returns false'. Refute it at one input. -/
def edgeOrderWrong : ChangeSpec := { name := "edgeOrder", fn := fun _ => fun
  | [d1, d2] => { results := [.lit (.bool false)], args := [d1, d2] }
  | _ => none }
def EdgeOrderWrongFalsely : Prop := edgeOrderRow.holds Try.pinned (OpenSpec.ofChange edgeOrderWrong)

/-- 'creellaw08.EdgeTwo': WHATEVER THE INPUT: true; the input reads as it did. -/
def edgeTwoSpec : ChangeSpec := { name := "edgeTwo", fn := fun _ => fun
  | [d1, d2, d3] => { results := [.lit (.bool true)], args := [d1, d2, d3] }
  | _ => none }
def edgeTwoRow : OpenClaim := { program := "ytckmcglkjfkghaa", sum := "fcf738adb66bb07c10dd30d76c7a94df06724f37e983227dc5d409da49b44e0f", func := "creel/creellaw08.EdgeTwo", spec := "edgeTwo", apart := false }
def EdgeTwoSaid : Prop := edgeTwoRow.holds Try.pinned (OpenSpec.ofChange edgeTwoSpec)

/-- ITS FALSE NEIGHBOUR: 'it returns false'. Refute it at one input. -/
def edgeTwoWrong : ChangeSpec := { name := "edgeTwo", fn := fun _ => fun
  | [d1, d2, d3] => { results := [.lit (.bool false)], args := [d1, d2, d3] }
  | _ => none }
def EdgeTwoWrongFalsely : Prop := edgeTwoRow.holds Try.pinned (OpenSpec.ofChange edgeTwoWrong)

/- THE SECOND FORM. 'bulk': how many values and letters a reading holds, each counted each time it is reached (what is shared counts as often as it is met; a slice's spare places count too). A statement '..UptoSaid' is the law's where the arguments, and the package variables that the reading takes, are together of bulk at most 1048576: NARROWER than '..Said'. Prove '..Said' where nothing that the law and all that it calls make is longer than what came in: it says more and counts as full. Else prove '..UptoSaid'. A law counts once. -/
mutual
def uptoBulk {H : Type} : DataW H → Nat
  | .lit (.string bytes) => bytes.length + 1
  | .lit _ => 1
  | .nil => 1
  | .ptr d => uptoBulk d + 1
  | .slice elems spare => uptoBulkAll elems + uptoBulkAll spare + 1
  | .agg parts => uptoBulkAll parts + 1
  | .iface _ d => uptoBulk d + 1
  | .map entries => uptoBulkEntries entries + 1
  | .held _ => 1
def uptoBulkAll {H : Type} : List (DataW H) → Nat
  | [] => 0
  | d :: r => uptoBulk d + uptoBulkAll r
def uptoBulkEntries {H : Type} : List (Lit × DataW H) → Nat
  | [] => 0
  | x :: r => uptoBulkEntry x + uptoBulkEntries r
def uptoBulkEntry {H : Type} : Lit × DataW H → Nat
  | (.string bytes, d) => bytes.length + uptoBulk d + 1
  | (_, d) => uptoBulk d + 1
 end
def uptoSmall : (H : Type) → List (DataW H) → Bool := fun _ ds => decide (uptoBulkAll ds ≤ 1048576)
def OpenSpec.upto (s : _root_.Go.ChangeSpec) : _root_.Go.OpenSpec := { _root_.Go.OpenSpec.ofChange s with cond := some uptoSmall }

/-- 'creellaw08.EdgeParses', WHERE WHAT IT READS IS OF BULK AT MOST 1048576: true; the input reads as it did. -/
def edgeParsesUptoRow : OpenClaim := { program := "ytckmcglkjfkghaa", sum := "fcf738adb66bb07c10dd30d76c7a94df06724f37e983227dc5d409da49b44e0f", func := "creel/creellaw08.EdgeParses", spec := "edgeParses", apart := false, narrowed := true }
def EdgeParsesUptoSaid : Prop := edgeParsesUptoRow.holds Try.pinned (OpenSpec.upto edgeParsesSpec)

/-- 'creellaw08.EdgeOrder', WHERE WHAT IT READS IS OF BULK AT MOST 1048576: true; the input reads as it did. -/
def edgeOrderUptoRow : OpenClaim := { program := "ytckmcglkjfkghaa", sum := "fcf738adb66bb07c10dd30d76c7a94df06724f37e983227dc5d409da49b44e0f", func := "creel/creellaw08.EdgeOrder", spec := "edgeOrder", recurses := true, apart := false, narrowed := true }
def EdgeOrderUptoSaid : Prop := edgeOrderUptoRow.holds Try.pinned (OpenSpec.upto edgeOrderSpec)

/-- 'creellaw08.EdgeTwo', WHERE WHAT IT READS IS OF BULK AT MOST 1048576: true; the input reads as it did. -/
def edgeTwoUptoRow : OpenClaim := { program := "ytckmcglkjfkghaa", sum := "fcf738adb66bb07c10dd30d76c7a94df06724f37e983227dc5d409da49b44e0f", func := "creel/creellaw08.EdgeTwo", spec := "edgeTwo", apart := false, narrowed := true }
def EdgeTwoUptoSaid : Prop := edgeTwoUptoRow.holds Try.pinned (OpenSpec.upto edgeTwoSpec)

end Rows
end Go.Proofs.Ytckmcglkjfkghaa
