/-
  DERIVED. GIVEN WITH THE SEED: THE CARDS: each row of YtihnafocjognaaaGreatDoorRows.lean that lists a variable, with what it lists TIED to the program's text (the seventh form; the later family's looks); each row that meets fmt, with fmt's text TOLD by the authors' own Lean function (tested against real Go, not proved from fmt's source: count such statements apart). THE CARD IS WHAT COUNTS. Prove the row's statement (the work); the ties are given (YtihnafocjognaaaGreatDoorTie.lean); close each card by the builder's one call (the guide's Derived/Test/ToyasCard.lean, 'card_holds'). Laid BY PROGRAM, IN A SANDBOX (cutbox-door.mjs). By AI agents, Wed Nov 11 2026. No macro, syntax, notation, axiom, sorry.
-/
import Derived.Test.YtihnafocjognaaaGreatDoorRows
import GoSem.ClaimSeven
namespace Go.Proofs.YtihnafocjognaaaGreatDoor
namespace Rows

/-- THE TIED CARD OF 'smockinglaw02.LexRescans'. -/
def lexRescansCard : Claim7 := { stood := { row := lexRescansRow, standIns := [], harness := (true, "39000a371219a892ffac5ff5546fc782ba42d3399ebaa736a07c9f4914db5470"), looks := false }, kinds := [], alts := [], laidByText := true, laidKinds := [.widerDeep, .widerDeep], laidTests := true, laidLooks := .later }
def LexRescansCardSaid : Prop := Claim7.holds Tryz.pinned (.plain (OpenSpec.ofChange lexRescansSpec)) lexRescansCard

/-- THE SECOND FORM's CARD OF 'smockinglaw02.LexRescans'. -/
def lexRescansUptoCard : Claim7 := { stood := { row := lexRescansUptoRow, standIns := [], harness := (true, "39000a371219a892ffac5ff5546fc782ba42d3399ebaa736a07c9f4914db5470"), looks := false }, kinds := [], alts := [], laidByText := true, laidKinds := [.widerDeep, .widerDeep], laidTests := true, laidLooks := .later }
def LexRescansUptoCardSaid : Prop := Claim7.holds Tryz.pinned (.plain (OpenSpec.upto lexRescansSpec)) lexRescansUptoCard
end Rows
end Go.Proofs.YtihnafocjognaaaGreatDoor
