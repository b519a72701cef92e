/-
  No cell of these rows narrows 'for every input' (looked for: loops, veiled, ifaces, maps, wideKeys, modest, calm, conditions, laid).
  DERIVED. THE GIVEN ROWS OF THIS SEAT. 9 by the template 'for every input the law returns true; each argument reads behind the call as it read before'; 0 by the template 'total and deterministic' (their statements: YtpncnionnfomeaaTotals.lean).
  GIVEN WITH THE SEED: the statements are not yours to turn. If you find one false, say at which input.
  Laid BY PROGRAM, IN A SANDBOX (cutbox-rows.mjs): the forced cells as the released guide's own fill.sh prints them over the translation faa495952e52c9c5… (all of the seat's roots in one cut). By AI agents, Wed Nov 11 2026. No macro, syntax, notation, axiom, sorry.
-/
import Derived.Test.YtpncnionnfomeaaChecked
import GoSem.Claim
import GoSem.ClaimJoined
import GoSem.ClaimMapViews
import Derived.JoinedTies
import Derived.KernelRfl
namespace Go.Proofs.Ytpncnionnfomeaa
/- THE CELL 'sum', in the pinned program and in every row, IS THE sha256 OF THE DUMP (.gsa) THAT YtpncnionnfomeaaProg.lean LOADS. Nothing in Lean hashes anything: it is a label: what it is worth is what the hold of that sum in a sandbox is worth. -/
noncomputable def Try.pinned : Pinned := { name := "ytpncnionnfomeaa", sum := "faa495952e52c9c5a7dbeb0acd646f1d9514d5c4f49a7ecf019ce582844ba3fe", checked := Try.checked }
namespace Rows
def none {H : Type} : Left H := { results := [], args := [] }

/-- 'creellaw05.PlacePlays': WHATEVER THE INPUT: true; the input reads as it did. -/
def placePlaysSpec : ChangeSpec := { name := "placePlays", fn := fun _ => fun
  | [d1, d2, d3] => { results := [.lit (.bool true)], args := [d1, d2, d3] }
  | _ => none }
def placePlaysRow : OpenClaim := { program := "ytpncnionnfomeaa", sum := "faa495952e52c9c5a7dbeb0acd646f1d9514d5c4f49a7ecf019ce582844ba3fe", func := "creel/creellaw05.PlacePlays", spec := "placePlays", inPlace := ["maps.clone"], unfollowed := true, recurses := true, apart := false }
def PlacePlaysSaid : Prop := placePlaysRow.holds Try.pinned (OpenSpec.ofChange placePlaysSpec)

/-- ITS FALSE NEIGHBOUR: 'it returns false'. Refute it at one input. -/
def placePlaysWrong : ChangeSpec := { name := "placePlays", fn := fun _ => fun
  | [d1, d2, d3] => { results := [.lit (.bool false)], args := [d1, d2, d3] }
  | _ => none }
def PlacePlaysWrongFalsely : Prop := placePlaysRow.holds Try.pinned (OpenSpec.ofChange placePlaysWrong)

/-- 'creellaw05.PlaceAtOnce': WHATEVER THE INPUT: true; the input reads as it did. -/
def placeAtOnceSpec : ChangeSpec := { name := "placeAtOnce", fn := fun _ => fun
  | [d1, d2, d3, d4, d5, d6] => { results := [.lit (.bool true)], args := [d1, d2, d3, d4, d5, d6] }
  | _ => none }
def placeAtOnceRow : OpenClaim := { program := "ytpncnionnfomeaa", sum := "faa495952e52c9c5a7dbeb0acd646f1d9514d5c4f49a7ecf019ce582844ba3fe", func := "creel/creellaw05.PlaceAtOnce", spec := "placeAtOnce", inPlace := ["maps.clone"], unfollowed := true, recurses := true, apart := false }
def PlaceAtOnceSaid : Prop := placeAtOnceRow.holds Try.pinned (OpenSpec.ofChange placeAtOnceSpec)

/-- ITS FALSE NEIGHBOUR: 'it returns false'. Refute it at one input. -/
def placeAtOnceWrong : ChangeSpec := { name := "placeAtOnce", fn := fun _ => fun
  | [d1, d2, d3, d4, d5, d6] => { results := [.lit (.bool false)], args := [d1, d2, d3, d4, d5, d6] }
  | _ => none }
def PlaceAtOnceWrongFalsely : Prop := placeAtOnceRow.holds Try.pinned (OpenSpec.ofChange placeAtOnceWrong)

/-- 'creellaw05.PlaceGrows': WHATEVER THE INPUT: true; the input reads as it did. -/
def placeGrowsSpec : ChangeSpec := { name := "placeGrows", fn := fun _ => fun
  | [d1, d2, d3, d4, d5, d6] => { results := [.lit (.bool true)], args := [d1, d2, d3, d4, d5, d6] }
  | _ => none }
def placeGrowsRow : OpenClaim := { program := "ytpncnionnfomeaa", sum := "faa495952e52c9c5a7dbeb0acd646f1d9514d5c4f49a7ecf019ce582844ba3fe", func := "creel/creellaw05.PlaceGrows", spec := "placeGrows", inPlace := ["maps.clone"], unfollowed := true, recurses := true, apart := false }
def PlaceGrowsSaid : Prop := placeGrowsRow.holds Try.pinned (OpenSpec.ofChange placeGrowsSpec)

/-- ITS FALSE NEIGHBOUR: 'it returns false'. Refute it at one input. -/
def placeGrowsWrong : ChangeSpec := { name := "placeGrows", fn := fun _ => fun
  | [d1, d2, d3, d4, d5, d6] => { results := [.lit (.bool false)], args := [d1, d2, d3, d4, d5, d6] }
  | _ => none }
def PlaceGrowsWrongFalsely : Prop := placeGrowsRow.holds Try.pinned (OpenSpec.ofChange placeGrowsWrong)

/-- 'creellaw05.PlaceDrops': WHATEVER THE INPUT: true; the input reads as it did. -/
def placeDropsSpec : ChangeSpec := { name := "placeDrops", fn := fun _ => fun
  | [d1, d2, d3, d4] => { results := [.lit (.bool true)], args := [d1, d2, d3, d4] }
  | _ => none }
def placeDropsRow : OpenClaim := { program := "ytpncnionnfomeaa", sum := "faa495952e52c9c5a7dbeb0acd646f1d9514d5c4f49a7ecf019ce582844ba3fe", func := "creel/creellaw05.PlaceDrops", spec := "placeDrops", inPlace := ["maps.clone"], unfollowed := true, recurses := true, apart := false }
def PlaceDropsSaid : Prop := placeDropsRow.holds Try.pinned (OpenSpec.ofChange placeDropsSpec)

/-- ITS FALSE NEIGHBOUR: 'it returns false'. Refute it at one input. -/
def placeDropsWrong : ChangeSpec := { name := "placeDrops", fn := fun _ => fun
  | [d1, d2, d3, d4] => { results := [.lit (.bool false)], args := [d1, d2, d3, d4] }
  | _ => none }
def PlaceDropsWrongFalsely : Prop := placeDropsRow.holds Try.pinned (OpenSpec.ofChange placeDropsWrong)

/-- 'creellaw05.PlaceTwice': WHATEVER THE INPUT: true; the input reads as it did. -/
def placeTwiceSpec : ChangeSpec := { name := "placeTwice", fn := fun _ => fun
  | [d1, d2, d3] => { results := [.lit (.bool true)], args := [d1, d2, d3] }
  | _ => none }
def placeTwiceRow : OpenClaim := { program := "ytpncnionnfomeaa", sum := "faa495952e52c9c5a7dbeb0acd646f1d9514d5c4f49a7ecf019ce582844ba3fe", func := "creel/creellaw05.PlaceTwice", spec := "placeTwice", inPlace := ["maps.clone"], unfollowed := true, recurses := true, apart := false }
def PlaceTwiceSaid : Prop := placeTwiceRow.holds Try.pinned (OpenSpec.ofChange placeTwiceSpec)

/-- ITS FALSE NEIGHBOUR: 'it returns false'. Refute it at one input. -/
def placeTwiceWrong : ChangeSpec := { name := "placeTwice", fn := fun _ => fun
  | [d1, d2, d3] => { results := [.lit (.bool false)], args := [d1, d2, d3] }
  | _ => none }
def PlaceTwiceWrongFalsely : Prop := placeTwiceRow.holds Try.pinned (OpenSpec.ofChange placeTwiceWrong)

/-- 'creellaw06.JournalKeeps': WHATEVER THE INPUT: true; the input reads as it did. -/
def journalKeepsSpec : ChangeSpec := { name := "journalKeeps", fn := fun _ => fun
  | [d1, d2] => { results := [.lit (.bool true)], args := [d1, d2] }
  | _ => none }
def journalKeepsRow : OpenClaim := { program := "ytpncnionnfomeaa", sum := "faa495952e52c9c5a7dbeb0acd646f1d9514d5c4f49a7ecf019ce582844ba3fe", func := "creel/creellaw06.JournalKeeps", spec := "journalKeeps", inPlace := ["maps.clone"], unfollowed := true, recurses := true, apart := false }
def JournalKeepsSaid : Prop := journalKeepsRow.holds Try.pinned (OpenSpec.ofChange journalKeepsSpec)

/-- ITS FALSE NEIGHBOUR: 'it returns false'. Refute it at one input. -/
def journalKeepsWrong : ChangeSpec := { name := "journalKeeps", fn := fun _ => fun
  | [d1, d2] => { results := [.lit (.bool false)], args := [d1, d2] }
  | _ => none }
def JournalKeepsWrongFalsely : Prop := journalKeepsRow.holds Try.pinned (OpenSpec.ofChange journalKeepsWrong)

/-- 'creellaw06.JournalBegins': WHATEVER THE INPUT: true; the input reads as it did. -/
def journalBeginsSpec : ChangeSpec := { name := "journalBegins", fn := fun _ => fun
  | [d1, d2, d3] => { results := [.lit (.bool true)], args := [d1, d2, d3] }
  | _ => none }
def journalBeginsRow : OpenClaim := { program := "ytpncnionnfomeaa", sum := "faa495952e52c9c5a7dbeb0acd646f1d9514d5c4f49a7ecf019ce582844ba3fe", func := "creel/creellaw06.JournalBegins", spec := "journalBegins", inPlace := ["maps.clone"], unfollowed := true, recurses := true, apart := false }
def JournalBeginsSaid : Prop := journalBeginsRow.holds Try.pinned (OpenSpec.ofChange journalBeginsSpec)

/-- ITS FALSE NEIGHBOUR: 'it returns false'. Refute it at one input. -/
def journalBeginsWrong : ChangeSpec := { name := "journalBegins", fn := fun _ => fun
  | [d1, d2, d3] => { results := [.lit (.bool false)], args := [d1, d2, d3] }
  | _ => none }
def JournalBeginsWrongFalsely : Prop := journalBeginsRow.holds Try.pinned (OpenSpec.ofChange journalBeginsWrong)

/-- 'creellaw06.JournalTwice': WHATEVER THE INPUT: true; the input reads as it did. -/
def journalTwiceSpec : ChangeSpec := { name := "journalTwice", fn := fun _ => fun
  | [d1, d2] => { results := [.lit (.bool true)], args := [d1, d2] }
  | _ => none }
def journalTwiceRow : OpenClaim := { program := "ytpncnionnfomeaa", sum := "faa495952e52c9c5a7dbeb0acd646f1d9514d5c4f49a7ecf019ce582844ba3fe", func := "creel/creellaw06.JournalTwice", spec := "journalTwice", inPlace := ["maps.clone"], unfollowed := true, recurses := true, apart := false }
def JournalTwiceSaid : Prop := journalTwiceRow.holds Try.pinned (OpenSpec.ofChange journalTwiceSpec)

/-- ITS FALSE NEIGHBOUR: 'it returns false'. Refute it at one input. -/
def journalTwiceWrong : ChangeSpec := { name := "journalTwice", fn := fun _ => fun
  | [d1, d2] => { results := [.lit (.bool false)], args := [d1, d2] }
  | _ => none }
def JournalTwiceWrongFalsely : Prop := journalTwiceRow.holds Try.pinned (OpenSpec.ofChange journalTwiceWrong)

/-- 'creellaw06.JournalLong': WHATEVER THE INPUT: true; the input reads as it did. -/
def journalLongSpec : ChangeSpec := { name := "journalLong", fn := fun _ => fun
  | [d] => { results := [.lit (.bool true)], args := [d] }
  | _ => none }
def journalLongRow : OpenClaim := { program := "ytpncnionnfomeaa", sum := "faa495952e52c9c5a7dbeb0acd646f1d9514d5c4f49a7ecf019ce582844ba3fe", func := "creel/creellaw06.JournalLong", spec := "journalLong", inPlace := ["maps.clone"], unfollowed := true, recurses := true, apart := false }
def JournalLongSaid : Prop := journalLongRow.holds Try.pinned (OpenSpec.ofChange journalLongSpec)

/-- ITS FALSE NEIGHBOUR: 'it returns false'. Refute it at one input. -/
def journalLongWrong : ChangeSpec := { name := "journalLong", fn := fun _ => fun
  | [d] => { results := [.lit (.bool false)], args := [d] }
  | _ => none }
def JournalLongWrongFalsely : Prop := journalLongRow.holds Try.pinned (OpenSpec.ofChange journalLongWrong)

/- THE SECOND FORM. 'bulk': how many values and letters a reading holds, each counted each time it is reached (what is shared counts as often as it is met; a slice's spare places count too). A statement '..UptoSaid' is the law's where the arguments, and the package variables that the reading takes, are together of bulk at most 1048576: NARROWER than '..Said'. Prove '..Said' where nothing that the law and all that it calls make is longer than what came in: it says more and counts as full. Else prove '..UptoSaid'. A law counts once. -/
mutual
def uptoBulk {H : Type} : DataW H → Nat
  | .lit (.string bytes) => bytes.length + 1
  | .lit _ => 1
  | .nil => 1
  | .ptr d => uptoBulk d + 1
  | .slice elems spare => uptoBulkAll elems + uptoBulkAll spare + 1
  | .agg parts => uptoBulkAll parts + 1
  | .iface _ d => uptoBulk d + 1
  | .map entries => uptoBulkEntries entries + 1
  | .held _ => 1
def uptoBulkAll {H : Type} : List (DataW H) → Nat
  | [] => 0
  | d :: r => uptoBulk d + uptoBulkAll r
def uptoBulkEntries {H : Type} : List (Lit × DataW H) → Nat
  | [] => 0
  | x :: r => uptoBulkEntry x + uptoBulkEntries r
def uptoBulkEntry {H : Type} : Lit × DataW H → Nat
  | (.string bytes, d) => bytes.length + uptoBulk d + 1
  | (_, d) => uptoBulk d + 1
 end
def uptoSmall : (H : Type) → List (DataW H) → Bool := fun _ ds => decide (uptoBulkAll ds ≤ 1048576)
def OpenSpec.upto (s : _root_.Go.ChangeSpec) : _root_.Go.OpenSpec := { _root_.Go.OpenSpec.ofChange s with cond := some uptoSmall }

/-- 'creellaw05.PlacePlays', WHERE WHAT IT READS IS OF BULK AT MOST 1048576: true; the input reads as it did. -/
def placePlaysUptoRow : OpenClaim := { program := "ytpncnionnfomeaa", sum := "faa495952e52c9c5a7dbeb0acd646f1d9514d5c4f49a7ecf019ce582844ba3fe", func := "creel/creellaw05.PlacePlays", spec := "placePlays", inPlace := ["maps.clone"], unfollowed := true, recurses := true, apart := false, narrowed := true }
def PlacePlaysUptoSaid : Prop := placePlaysUptoRow.holds Try.pinned (OpenSpec.upto placePlaysSpec)

/-- 'creellaw05.PlaceAtOnce', WHERE WHAT IT READS IS OF BULK AT MOST 1048576: true; the input reads as it did. -/
def placeAtOnceUptoRow : OpenClaim := { program := "ytpncnionnfomeaa", sum := "faa495952e52c9c5a7dbeb0acd646f1d9514d5c4f49a7ecf019ce582844ba3fe", func := "creel/creellaw05.PlaceAtOnce", spec := "placeAtOnce", inPlace := ["maps.clone"], unfollowed := true, recurses := true, apart := false, narrowed := true }
def PlaceAtOnceUptoSaid : Prop := placeAtOnceUptoRow.holds Try.pinned (OpenSpec.upto placeAtOnceSpec)

/-- 'creellaw05.PlaceGrows', WHERE WHAT IT READS IS OF BULK AT MOST 1048576: true; the input reads as it did. -/
def placeGrowsUptoRow : OpenClaim := { program := "ytpncnionnfomeaa", sum := "faa495952e52c9c5a7dbeb0acd646f1d9514d5c4f49a7ecf019ce582844ba3fe", func := "creel/creellaw05.PlaceGrows", spec := "placeGrows", inPlace := ["maps.clone"], unfollowed := true, recurses := true, apart := false, narrowed := true }
def PlaceGrowsUptoSaid : Prop := placeGrowsUptoRow.holds Try.pinned (OpenSpec.upto placeGrowsSpec)

/-- 'creellaw05.PlaceDrops', WHERE WHAT IT READS IS OF BULK AT MOST 1048576: true; the input reads as it did. -/
def placeDropsUptoRow : OpenClaim := { program := "ytpncnionnfomeaa", sum := "faa495952e52c9c5a7dbeb0acd646f1d9514d5c4f49a7ecf019ce582844ba3fe", func := "creel/creellaw05.PlaceDrops", spec := "placeDrops", inPlace := ["maps.clone"], unfollowed := true, recurses := true, apart := false, narrowed := true }
def PlaceDropsUptoSaid : Prop := placeDropsUptoRow.holds Try.pinned (OpenSpec.upto placeDropsSpec)

/-- 'creellaw05.PlaceTwice', WHERE WHAT IT READS IS OF BULK AT MOST 1048576: true; the input reads as it did. -/
def placeTwiceUptoRow : OpenClaim := { program := "ytpncnionnfomeaa", sum := "faa495952e52c9c5a7dbeb0acd646f1d9514d5c4f49a7ecf019ce582844ba3fe", func := "creel/creellaw05.PlaceTwice", spec := "placeTwice", inPlace := ["maps.clone"], unfollowed := true, recurses := true, apart := false, narrowed := true }
def PlaceTwiceUptoSaid : Prop := placeTwiceUptoRow.holds Try.pinned (OpenSpec.upto placeTwiceSpec)

/-- 'creellaw06.JournalKeeps', WHERE WHAT IT READS IS OF BULK AT MOST 1048576: true; the input reads as it did. -/
def journalKeepsUptoRow : OpenClaim := { program := "ytpncnionnfomeaa", sum := "faa495952e52c9c5a7dbeb0acd646f1d9514d5c4f49a7ecf019ce582844ba3fe", func := "creel/creellaw06.JournalKeeps", spec := "journalKeeps", inPlace := ["maps.clone"], unfollowed := true, recurses := true, apart := false, narrowed := true }
def JournalKeepsUptoSaid : Prop := journalKeepsUptoRow.holds Try.pinned (OpenSpec.upto journalKeepsSpec)

/-- 'creellaw06.JournalBegins', WHERE WHAT IT READS IS OF BULK AT MOST 1048576: true; the input reads as it did. -/
def journalBeginsUptoRow : OpenClaim := { program := "ytpncnionnfomeaa", sum := "faa495952e52c9c5a7dbeb0acd646f1d9514d5c4f49a7ecf019ce582844ba3fe", func := "creel/creellaw06.JournalBegins", spec := "journalBegins", inPlace := ["maps.clone"], unfollowed := true, recurses := true, apart := false, narrowed := true }
def JournalBeginsUptoSaid : Prop := journalBeginsUptoRow.holds Try.pinned (OpenSpec.upto journalBeginsSpec)

/-- 'creellaw06.JournalTwice', WHERE WHAT IT READS IS OF BULK AT MOST 1048576: true; the input reads as it did. -/
def journalTwiceUptoRow : OpenClaim := { program := "ytpncnionnfomeaa", sum := "faa495952e52c9c5a7dbeb0acd646f1d9514d5c4f49a7ecf019ce582844ba3fe", func := "creel/creellaw06.JournalTwice", spec := "journalTwice", inPlace := ["maps.clone"], unfollowed := true, recurses := true, apart := false, narrowed := true }
def JournalTwiceUptoSaid : Prop := journalTwiceUptoRow.holds Try.pinned (OpenSpec.upto journalTwiceSpec)

/-- 'creellaw06.JournalLong', WHERE WHAT IT READS IS OF BULK AT MOST 1048576: true; the input reads as it did. -/
def journalLongUptoRow : OpenClaim := { program := "ytpncnionnfomeaa", sum := "faa495952e52c9c5a7dbeb0acd646f1d9514d5c4f49a7ecf019ce582844ba3fe", func := "creel/creellaw06.JournalLong", spec := "journalLong", inPlace := ["maps.clone"], unfollowed := true, recurses := true, apart := false, narrowed := true }
def JournalLongUptoSaid : Prop := journalLongUptoRow.holds Try.pinned (OpenSpec.upto journalLongSpec)

end Rows
end Go.Proofs.Ytpncnionnfomeaa
