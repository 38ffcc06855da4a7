/-
  DERIVED. GIVEN WITH THE SEED: THE CARDS: each row of YtjdpkhjoecfhlaaDoorRows.lean that lists a variable, with what it lists TIED to the program's text (the seventh form; the later family's looks); each row that meets fmt, with fmt's text TOLD by the authors' own Lean function (tested against real Go, not proved from fmt's source: count such statements apart). THE CARD IS WHAT COUNTS. Prove the row's statement (the work); the ties are given (YtjdpkhjoecfhlaaDoorTie.lean); close each card by the builder's one call (the guide's Derived/Test/ToyasCard.lean, 'card_holds'). Laid BY PROGRAM, IN A SANDBOX (cutbox-door.mjs). By AI agents, Wed Nov 11 2026. No macro, syntax, notation, axiom, sorry.
-/
import Derived.Test.YtjdpkhjoecfhlaaDoorRows
import GoSem.ClaimSeven
namespace Go.Proofs.YtjdpkhjoecfhlaaDoor
namespace Rows

/-- THE TIED CARD OF 'smockinglaw04.MacroDefines'. -/
def macroDefinesCard : Claim7 := { stood := { row := macroDefinesRow, standIns := [], harness := (true, "1d101b4c070ec7a5457a39168c61968c2f308e8143cba2e89b57834611fa85bc"), looks := false }, kinds := [], alts := [], laidByText := true, laidKinds := [.data, .widerDeep, .widerDeep, .pinned], laidTests := true, laidLooks := .later }
def MacroDefinesCardSaid : Prop := Claim7.holds Tryd.pinned (.plain (OpenSpec.ofChange macroDefinesSpec)) macroDefinesCard

/-- THE TIED CARD OF 'smockinglaw04.MacroBefore'. -/
def macroBeforeCard : Claim7 := { stood := { row := macroBeforeRow, standIns := [], harness := (true, "1d101b4c070ec7a5457a39168c61968c2f308e8143cba2e89b57834611fa85bc"), looks := false }, kinds := [], alts := [], laidByText := true, laidKinds := [.data, .widerDeep, .widerDeep, .pinned], laidTests := true, laidLooks := .later }
def MacroBeforeCardSaid : Prop := Claim7.holds Tryd.pinned (.plain (OpenSpec.ofChange macroBeforeSpec)) macroBeforeCard

/-- THE SECOND FORM's CARD OF 'smockinglaw04.MacroDefines'. -/
def macroDefinesUptoCard : Claim7 := { stood := { row := macroDefinesUptoRow, standIns := [], harness := (true, "1d101b4c070ec7a5457a39168c61968c2f308e8143cba2e89b57834611fa85bc"), looks := false }, kinds := [], alts := [], laidByText := true, laidKinds := [.data, .widerDeep, .widerDeep, .pinned], laidTests := true, laidLooks := .later }
def MacroDefinesUptoCardSaid : Prop := Claim7.holds Tryd.pinned (.plain (OpenSpec.upto macroDefinesSpec)) macroDefinesUptoCard

/-- THE SECOND FORM's CARD OF 'smockinglaw04.MacroBefore'. -/
def macroBeforeUptoCard : Claim7 := { stood := { row := macroBeforeUptoRow, standIns := [], harness := (true, "1d101b4c070ec7a5457a39168c61968c2f308e8143cba2e89b57834611fa85bc"), looks := false }, kinds := [], alts := [], laidByText := true, laidKinds := [.data, .widerDeep, .widerDeep, .pinned], laidTests := true, laidLooks := .later }
def MacroBeforeUptoCardSaid : Prop := Claim7.holds Tryd.pinned (.plain (OpenSpec.upto macroBeforeSpec)) macroBeforeUptoCard
end Rows
end Go.Proofs.YtjdpkhjoecfhlaaDoor
