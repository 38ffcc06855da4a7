/-
  DERIVED. GIVEN WITH THE SEED: THE CARDS: each row of YtcbmkkndbeiknaaGreatDoorRows.lean that lists a variable, with what it lists TIED to the program's text (the seventh form; the later family's looks); each row that meets fmt, with fmt's text TOLD by the authors' own Lean function (tested against real Go, not proved from fmt's source: count such statements apart). THE CARD IS WHAT COUNTS. Prove the row's statement (the work); the ties are given (YtcbmkkndbeiknaaGreatDoorTie.lean); close each card by the builder's one call (the guide's Derived/Test/ToyasCard.lean, 'card_holds'). Laid BY PROGRAM, IN A SANDBOX (cutbox-door.mjs). By AI agents, Wed Nov 11 2026. No macro, syntax, notation, axiom, sorry.
-/
import Derived.Test.YtcbmkkndbeiknaaGreatDoorRows
import GoSem.ClaimSeven
namespace Go.Proofs.YtcbmkkndbeiknaaGreatDoor
namespace Rows

/-- THE TIED CARD OF 'smockinglaw01.TextPatches'. -/
def textPatchesCard : Claim7 := { stood := { row := textPatchesRow, standIns := [], harness := (true, "80e9ffa13b66c6fb20340424da945b60534926b9db4aa30b7f50474a5628bc49"), looks := false }, kinds := [], alts := [], laidByText := true, laidKinds := [.data, .data, .data], laidTests := true, laidLooks := .later }
def TextPatchesCardSaid : Prop := Claim7.holds Tryz.pinned (.plain (OpenSpec.ofChange textPatchesSpec)) textPatchesCard

/-- THE TIED CARD OF 'smockinglaw01.TextRefuses'. -/
def textRefusesCard : Claim7 := { stood := { row := textRefusesRow, standIns := [], harness := (true, "80e9ffa13b66c6fb20340424da945b60534926b9db4aa30b7f50474a5628bc49"), looks := false }, kinds := [], alts := [], laidByText := true, laidKinds := [.data, .data, .data], laidTests := true, laidLooks := .later }
def TextRefusesCardSaid : Prop := Claim7.holds Tryz.pinned (.plain (OpenSpec.ofChange textRefusesSpec)) textRefusesCard

/-- THE TIED CARD OF 'smockinglaw01.TextRounds'. -/
def textRoundsCard : Claim7 := { stood := { row := textRoundsRow, standIns := [], harness := (true, "80e9ffa13b66c6fb20340424da945b60534926b9db4aa30b7f50474a5628bc49"), looks := false }, kinds := [], alts := [], laidByText := true, laidKinds := [.data, .data, .data], laidTests := true, laidLooks := .later }
def TextRoundsCardSaid : Prop := Claim7.holds Tryz.pinned (.plain (OpenSpec.ofChange textRoundsSpec)) textRoundsCard

/-- THE TIED CARD OF 'smockinglaw02.LexRescans'. -/
def lexRescansCard : Claim7 := { stood := { row := lexRescansRow, standIns := [], harness := (true, "80e9ffa13b66c6fb20340424da945b60534926b9db4aa30b7f50474a5628bc49"), looks := false }, kinds := [], alts := [], laidByText := true, laidKinds := [.widerDeep, .widerDeep], laidTests := true, laidLooks := .later }
def LexRescansCardSaid : Prop := Claim7.holds Tryz.pinned (.plain (OpenSpec.ofChange lexRescansSpec)) lexRescansCard

/-- THE SECOND FORM's CARD OF 'smockinglaw01.TextPatches'. -/
def textPatchesUptoCard : Claim7 := { stood := { row := textPatchesUptoRow, standIns := [], harness := (true, "80e9ffa13b66c6fb20340424da945b60534926b9db4aa30b7f50474a5628bc49"), looks := false }, kinds := [], alts := [], laidByText := true, laidKinds := [.data, .data, .data], laidTests := true, laidLooks := .later }
def TextPatchesUptoCardSaid : Prop := Claim7.holds Tryz.pinned (.plain (OpenSpec.upto textPatchesSpec)) textPatchesUptoCard

/-- THE SECOND FORM's CARD OF 'smockinglaw01.TextRefuses'. -/
def textRefusesUptoCard : Claim7 := { stood := { row := textRefusesUptoRow, standIns := [], harness := (true, "80e9ffa13b66c6fb20340424da945b60534926b9db4aa30b7f50474a5628bc49"), looks := false }, kinds := [], alts := [], laidByText := true, laidKinds := [.data, .data, .data], laidTests := true, laidLooks := .later }
def TextRefusesUptoCardSaid : Prop := Claim7.holds Tryz.pinned (.plain (OpenSpec.upto textRefusesSpec)) textRefusesUptoCard

/-- THE SECOND FORM's CARD OF 'smockinglaw01.TextRounds'. -/
def textRoundsUptoCard : Claim7 := { stood := { row := textRoundsUptoRow, standIns := [], harness := (true, "80e9ffa13b66c6fb20340424da945b60534926b9db4aa30b7f50474a5628bc49"), looks := false }, kinds := [], alts := [], laidByText := true, laidKinds := [.data, .data, .data], laidTests := true, laidLooks := .later }
def TextRoundsUptoCardSaid : Prop := Claim7.holds Tryz.pinned (.plain (OpenSpec.upto textRoundsSpec)) textRoundsUptoCard

/-- THE SECOND FORM's CARD OF 'smockinglaw02.LexRescans'. -/
def lexRescansUptoCard : Claim7 := { stood := { row := lexRescansUptoRow, standIns := [], harness := (true, "80e9ffa13b66c6fb20340424da945b60534926b9db4aa30b7f50474a5628bc49"), looks := false }, kinds := [], alts := [], laidByText := true, laidKinds := [.widerDeep, .widerDeep], laidTests := true, laidLooks := .later }
def LexRescansUptoCardSaid : Prop := Claim7.holds Tryz.pinned (.plain (OpenSpec.upto lexRescansSpec)) lexRescansUptoCard
end Rows
end Go.Proofs.YtcbmkkndbeiknaaGreatDoor
