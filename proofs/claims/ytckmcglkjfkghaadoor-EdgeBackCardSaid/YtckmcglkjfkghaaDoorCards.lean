/-
  DERIVED. GIVEN WITH THE SEED: THE CARDS: each row of YtckmcglkjfkghaaDoorRows.lean that lists a variable, with what it lists TIED to the program's text (the seventh form; the later family's looks); each row that meets fmt, with fmt's text TOLD by the authors' own Lean function (tested against real Go, not proved from fmt's source: count such statements apart). THE CARD IS WHAT COUNTS. Prove the row's statement (the work); the ties are given (YtckmcglkjfkghaaDoorTie.lean); close each card by the builder's one call (the guide's Derived/Test/ToyasCard.lean, 'card_holds'). Laid BY PROGRAM, IN A SANDBOX (cutbox-door.mjs). By AI agents, Wed Nov 11 2026. No macro, syntax, notation, axiom, sorry.
-/
import Derived.Test.YtckmcglkjfkghaaDoorRows
import GoSem.ClaimSeven
namespace Go.Proofs.YtckmcglkjfkghaaDoor
namespace Rows

/-- THE TIED CARD OF 'creellaw08.EdgeLabels'. -/
def edgeLabelsCard : Claim7 := { stood := { row := edgeLabelsRow, standIns := [], harness := (true, "3e1d7f44a056924d5362224351ce2af5842da060b8d73cf54bc702a6b2602125"), looks := false }, kinds := [], alts := [], laidByText := true, laidKinds := [.data, .data, .data], laidTests := true, laidLooks := .later }
def EdgeLabelsCardSaid : Prop := Claim7.holds Tryd.pinned (.plain (OpenSpec.ofChange edgeLabelsSpec)) edgeLabelsCard

/-- THE TIED CARD OF 'creellaw08.EdgeBack'. -/
def edgeBackCard : Claim7 := { stood := { row := edgeBackRow, standIns := [], harness := (true, "3e1d7f44a056924d5362224351ce2af5842da060b8d73cf54bc702a6b2602125"), looks := false }, kinds := [], alts := [], laidByText := true, laidKinds := [.data, .data, .data], laidTests := true, laidLooks := .later }
def EdgeBackCardSaid : Prop := Claim7.holds Tryd.pinned (.plain (OpenSpec.ofChange edgeBackSpec)) edgeBackCard

/-- THE TIED CARD OF 'creellaw08.EdgeNumbers'. -/
def edgeNumbersCard : Claim7 := { stood := { row := edgeNumbersRow, standIns := [], harness := (true, "3e1d7f44a056924d5362224351ce2af5842da060b8d73cf54bc702a6b2602125"), looks := false }, kinds := [], alts := [], laidByText := true, laidKinds := [.data, .data, .data], laidTests := true, laidLooks := .later }
def EdgeNumbersCardSaid : Prop := Claim7.holds Tryd.pinned (.plain (OpenSpec.ofChange edgeNumbersSpec)) edgeNumbersCard

/-- THE SECOND FORM's CARD OF 'creellaw08.EdgeLabels'. -/
def edgeLabelsUptoCard : Claim7 := { stood := { row := edgeLabelsUptoRow, standIns := [], harness := (true, "3e1d7f44a056924d5362224351ce2af5842da060b8d73cf54bc702a6b2602125"), looks := false }, kinds := [], alts := [], laidByText := true, laidKinds := [.data, .data, .data], laidTests := true, laidLooks := .later }
def EdgeLabelsUptoCardSaid : Prop := Claim7.holds Tryd.pinned (.plain (OpenSpec.upto edgeLabelsSpec)) edgeLabelsUptoCard

/-- THE SECOND FORM's CARD OF 'creellaw08.EdgeBack'. -/
def edgeBackUptoCard : Claim7 := { stood := { row := edgeBackUptoRow, standIns := [], harness := (true, "3e1d7f44a056924d5362224351ce2af5842da060b8d73cf54bc702a6b2602125"), looks := false }, kinds := [], alts := [], laidByText := true, laidKinds := [.data, .data, .data], laidTests := true, laidLooks := .later }
def EdgeBackUptoCardSaid : Prop := Claim7.holds Tryd.pinned (.plain (OpenSpec.upto edgeBackSpec)) edgeBackUptoCard

/-- THE SECOND FORM's CARD OF 'creellaw08.EdgeNumbers'. -/
def edgeNumbersUptoCard : Claim7 := { stood := { row := edgeNumbersUptoRow, standIns := [], harness := (true, "3e1d7f44a056924d5362224351ce2af5842da060b8d73cf54bc702a6b2602125"), looks := false }, kinds := [], alts := [], laidByText := true, laidKinds := [.data, .data, .data], laidTests := true, laidLooks := .later }
def EdgeNumbersUptoCardSaid : Prop := Claim7.holds Tryd.pinned (.plain (OpenSpec.upto edgeNumbersSpec)) edgeNumbersUptoCard
end Rows
end Go.Proofs.YtckmcglkjfkghaaDoor
