/-
  DERIVED. GIVEN WITH THE SEED: THE CARDS: each row of YtjdpkhjoecfhlaaGreatDoorRows.lean that lists a variable, with what it lists TIED to the program's text (the seventh form; the later family's looks); each row that meets fmt, with fmt's text TOLD by the authors' own Lean function (tested against real Go, not proved from fmt's source: count such statements apart). THE CARD IS WHAT COUNTS. Prove the row's statement (the work); the ties are given (YtjdpkhjoecfhlaaGreatDoorTie.lean); close each card by the builder's one call (the guide's Derived/Test/ToyasCard.lean, 'card_holds'). Laid BY PROGRAM, IN A SANDBOX (cutbox-door.mjs). By AI agents, Wed Nov 11 2026. No macro, syntax, notation, axiom, sorry.
-/
import Derived.Test.YtjdpkhjoecfhlaaGreatDoorRows
import GoSem.ClaimSeven
namespace Go.Proofs.YtjdpkhjoecfhlaaGreatDoor
namespace Rows

/-- THE TIED CARD OF 'smockinglaw03.CondLines'. -/
def condLinesCard : Claim7 := { stood := { row := condLinesRow, standIns := [], harness := (true, "638f4b98ee862f0e110f36df82b9e46ff9ccd7586a2c22f48b7238ad405e77e9"), looks := true }, kinds := [], alts := [], laidByText := true, laidKinds := [.data, .data, .data, .data, .sentinel, .sentinel, .widerDeep, .widerDeep, .pinned], laidTests := true, laidLooks := .later }
def CondLinesCardSaid : Prop := Claim7.holds Tryz.pinned (.plain (OpenSpec.ofChange condLinesSpec)) condLinesCard

/-- THE TIED CARD OF 'smockinglaw03.CondViews'. -/
def condViewsCard : Claim7 := { stood := { row := condViewsRow, standIns := [], harness := (true, "638f4b98ee862f0e110f36df82b9e46ff9ccd7586a2c22f48b7238ad405e77e9"), looks := true }, kinds := [], alts := [], laidByText := true, laidKinds := [.data, .data, .data, .data, .sentinel, .sentinel, .widerDeep, .widerDeep, .pinned], laidTests := true, laidLooks := .later }
def CondViewsCardSaid : Prop := Claim7.holds Tryz.pinned (.plain (OpenSpec.ofChange condViewsSpec)) condViewsCard

/-- THE TIED CARD OF 'smockinglaw03.CondCovers'. -/
def condCoversCard : Claim7 := { stood := { row := condCoversRow, standIns := [], harness := (true, "638f4b98ee862f0e110f36df82b9e46ff9ccd7586a2c22f48b7238ad405e77e9"), looks := true }, kinds := [], alts := [], laidByText := true, laidKinds := [.data, .data, .data, .data, .sentinel, .sentinel, .widerDeep, .widerDeep, .pinned], laidTests := true, laidLooks := .later }
def CondCoversCardSaid : Prop := Claim7.holds Tryz.pinned (.plain (OpenSpec.ofChange condCoversSpec)) condCoversCard

/-- THE TIED CARD OF 'smockinglaw03.CondNames'. -/
def condNamesCard : Claim7 := { stood := { row := condNamesRow, standIns := [], harness := (true, "638f4b98ee862f0e110f36df82b9e46ff9ccd7586a2c22f48b7238ad405e77e9"), looks := true }, kinds := [], alts := [], laidByText := true, laidKinds := [.data, .data, .data, .data, .sentinel, .sentinel, .widerDeep, .widerDeep, .pinned], laidTests := true, laidLooks := .later }
def CondNamesCardSaid : Prop := Claim7.holds Tryz.pinned (.plain (OpenSpec.ofChange condNamesSpec)) condNamesCard

/-- THE TIED CARD OF 'smockinglaw04.MacroFinds'. -/
def macroFindsCard : Claim7 := { stood := { row := macroFindsRow, standIns := [], harness := (true, "638f4b98ee862f0e110f36df82b9e46ff9ccd7586a2c22f48b7238ad405e77e9"), looks := true }, kinds := [], alts := [], laidByText := true, laidKinds := [.data, .widerDeep, .widerDeep, .pinned], laidTests := true, laidLooks := .later }
def MacroFindsCardSaid : Prop := Claim7.holds Tryz.pinned (.plain (OpenSpec.ofChange macroFindsSpec)) macroFindsCard

/-- THE TIED CARD OF 'smockinglaw04.MacroSame'. -/
def macroSameCard : Claim7 := { stood := { row := macroSameRow, standIns := [], harness := (true, "638f4b98ee862f0e110f36df82b9e46ff9ccd7586a2c22f48b7238ad405e77e9"), looks := true }, kinds := [], alts := [], laidByText := true, laidKinds := [.data, .widerDeep, .widerDeep, .pinned], laidTests := true, laidLooks := .later }
def MacroSameCardSaid : Prop := Claim7.holds Tryz.pinned (.plain (OpenSpec.ofChange macroSameSpec)) macroSameCard

/-- THE SECOND FORM's CARD OF 'smockinglaw03.CondLines'. -/
def condLinesUptoCard : Claim7 := { stood := { row := condLinesUptoRow, standIns := [], harness := (true, "638f4b98ee862f0e110f36df82b9e46ff9ccd7586a2c22f48b7238ad405e77e9"), looks := true }, kinds := [], alts := [], laidByText := true, laidKinds := [.data, .data, .data, .data, .sentinel, .sentinel, .widerDeep, .widerDeep, .pinned], laidTests := true, laidLooks := .later }
def CondLinesUptoCardSaid : Prop := Claim7.holds Tryz.pinned (.plain (OpenSpec.upto condLinesSpec)) condLinesUptoCard

/-- THE SECOND FORM's CARD OF 'smockinglaw03.CondViews'. -/
def condViewsUptoCard : Claim7 := { stood := { row := condViewsUptoRow, standIns := [], harness := (true, "638f4b98ee862f0e110f36df82b9e46ff9ccd7586a2c22f48b7238ad405e77e9"), looks := true }, kinds := [], alts := [], laidByText := true, laidKinds := [.data, .data, .data, .data, .sentinel, .sentinel, .widerDeep, .widerDeep, .pinned], laidTests := true, laidLooks := .later }
def CondViewsUptoCardSaid : Prop := Claim7.holds Tryz.pinned (.plain (OpenSpec.upto condViewsSpec)) condViewsUptoCard

/-- THE SECOND FORM's CARD OF 'smockinglaw03.CondCovers'. -/
def condCoversUptoCard : Claim7 := { stood := { row := condCoversUptoRow, standIns := [], harness := (true, "638f4b98ee862f0e110f36df82b9e46ff9ccd7586a2c22f48b7238ad405e77e9"), looks := true }, kinds := [], alts := [], laidByText := true, laidKinds := [.data, .data, .data, .data, .sentinel, .sentinel, .widerDeep, .widerDeep, .pinned], laidTests := true, laidLooks := .later }
def CondCoversUptoCardSaid : Prop := Claim7.holds Tryz.pinned (.plain (OpenSpec.upto condCoversSpec)) condCoversUptoCard

/-- THE SECOND FORM's CARD OF 'smockinglaw03.CondNames'. -/
def condNamesUptoCard : Claim7 := { stood := { row := condNamesUptoRow, standIns := [], harness := (true, "638f4b98ee862f0e110f36df82b9e46ff9ccd7586a2c22f48b7238ad405e77e9"), looks := true }, kinds := [], alts := [], laidByText := true, laidKinds := [.data, .data, .data, .data, .sentinel, .sentinel, .widerDeep, .widerDeep, .pinned], laidTests := true, laidLooks := .later }
def CondNamesUptoCardSaid : Prop := Claim7.holds Tryz.pinned (.plain (OpenSpec.upto condNamesSpec)) condNamesUptoCard

/-- THE SECOND FORM's CARD OF 'smockinglaw04.MacroFinds'. -/
def macroFindsUptoCard : Claim7 := { stood := { row := macroFindsUptoRow, standIns := [], harness := (true, "638f4b98ee862f0e110f36df82b9e46ff9ccd7586a2c22f48b7238ad405e77e9"), looks := true }, kinds := [], alts := [], laidByText := true, laidKinds := [.data, .widerDeep, .widerDeep, .pinned], laidTests := true, laidLooks := .later }
def MacroFindsUptoCardSaid : Prop := Claim7.holds Tryz.pinned (.plain (OpenSpec.upto macroFindsSpec)) macroFindsUptoCard

/-- THE SECOND FORM's CARD OF 'smockinglaw04.MacroSame'. -/
def macroSameUptoCard : Claim7 := { stood := { row := macroSameUptoRow, standIns := [], harness := (true, "638f4b98ee862f0e110f36df82b9e46ff9ccd7586a2c22f48b7238ad405e77e9"), looks := true }, kinds := [], alts := [], laidByText := true, laidKinds := [.data, .widerDeep, .widerDeep, .pinned], laidTests := true, laidLooks := .later }
def MacroSameUptoCardSaid : Prop := Claim7.holds Tryz.pinned (.plain (OpenSpec.upto macroSameSpec)) macroSameUptoCard
end Rows
end Go.Proofs.YtjdpkhjoecfhlaaGreatDoor
