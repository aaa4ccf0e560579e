/-
  DERIVED. GIVEN WITH THE SEED: THE CARDS: each row of YtjafmnpobalepaaDoorRows.lean that lists a variable, with what it lists TIED to the program's text (the seventh form; the later family's looks); each row that meets fmt, with fmt's text TOLD by the authors' own Lean function (tested against real Go, not proved from fmt's source: count such statements apart). THE CARD IS WHAT COUNTS. Prove the row's statement (the work); the ties are given (YtjafmnpobalepaaDoorTie.lean); close each card by the builder's one call (the guide's Derived/Test/ToyasCard.lean, 'card_holds'). Laid BY PROGRAM, IN A SANDBOX (cutbox-door.mjs). By AI agents, Wed Nov 11 2026. No macro, syntax, notation, axiom, sorry.
-/
import Derived.Test.YtjafmnpobalepaaDoorRows
import GoSem.ClaimSeven
namespace Go.Proofs.YtjafmnpobalepaaDoor
namespace Rows

/-- THE TIED CARD OF 'segmentslaw.Unpacks'. -/
def unpacksCard : Claim7 := { stood := { row := unpacksRow, standIns := [], harness := (true, "35428a8d82e68790e5aae80cfa7b57f25abee49153d47b23db5af06607be022d"), looks := true }, kinds := [], alts := [], laidByText := true, laidKinds := [.handle], laidTests := true, laidLooks := .later }
def UnpacksCardSaid : Prop := Claim7.holds Tryd.pinned (.plain (OpenSpec.ofChange unpacksSpec)) unpacksCard

/-- THE TIED CARD OF 'segmentslaw.Packs'. -/
def packsCard : Claim7 := { stood := { row := packsRow, standIns := [], harness := (true, "35428a8d82e68790e5aae80cfa7b57f25abee49153d47b23db5af06607be022d"), looks := true }, kinds := [], alts := [], laidByText := true, laidKinds := [.handle], laidTests := true, laidLooks := .later }
def PacksCardSaid : Prop := Claim7.holds Tryd.pinned (.plain (OpenSpec.ofChange packsSpec)) packsCard

/-- THE TIED CARD OF 'segmentslaw.Shrinks'. -/
def shrinksCard : Claim7 := { stood := { row := shrinksRow, standIns := [], harness := (true, "35428a8d82e68790e5aae80cfa7b57f25abee49153d47b23db5af06607be022d"), looks := true }, kinds := [], alts := [], laidByText := true, laidKinds := [.handle], laidTests := true, laidLooks := .later }
def ShrinksCardSaid : Prop := Claim7.holds Tryd.pinned (.plain (OpenSpec.ofChange shrinksSpec)) shrinksCard

/-- THE SECOND FORM's CARD OF 'segmentslaw.Unpacks'. -/
def unpacksUptoCard : Claim7 := { stood := { row := unpacksUptoRow, standIns := [], harness := (true, "35428a8d82e68790e5aae80cfa7b57f25abee49153d47b23db5af06607be022d"), looks := true }, kinds := [], alts := [], laidByText := true, laidKinds := [.handle], laidTests := true, laidLooks := .later }
def UnpacksUptoCardSaid : Prop := Claim7.holds Tryd.pinned (.plain (OpenSpec.upto unpacksSpec)) unpacksUptoCard

/-- THE SECOND FORM's CARD OF 'segmentslaw.Packs'. -/
def packsUptoCard : Claim7 := { stood := { row := packsUptoRow, standIns := [], harness := (true, "35428a8d82e68790e5aae80cfa7b57f25abee49153d47b23db5af06607be022d"), looks := true }, kinds := [], alts := [], laidByText := true, laidKinds := [.handle], laidTests := true, laidLooks := .later }
def PacksUptoCardSaid : Prop := Claim7.holds Tryd.pinned (.plain (OpenSpec.upto packsSpec)) packsUptoCard

/-- THE SECOND FORM's CARD OF 'segmentslaw.Shrinks'. -/
def shrinksUptoCard : Claim7 := { stood := { row := shrinksUptoRow, standIns := [], harness := (true, "35428a8d82e68790e5aae80cfa7b57f25abee49153d47b23db5af06607be022d"), looks := true }, kinds := [], alts := [], laidByText := true, laidKinds := [.handle], laidTests := true, laidLooks := .later }
def ShrinksUptoCardSaid : Prop := Claim7.holds Tryd.pinned (.plain (OpenSpec.upto shrinksSpec)) shrinksUptoCard
end Rows
end Go.Proofs.YtjafmnpobalepaaDoor
