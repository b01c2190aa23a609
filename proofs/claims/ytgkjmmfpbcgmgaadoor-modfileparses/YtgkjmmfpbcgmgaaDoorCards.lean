/-
  DERIVED. GIVEN WITH THE SEED: THE CARDS: each row of YtgkjmmfpbcgmgaaDoorRows.lean that lists a variable, with what it lists TIED to the program's text (the seventh form; the later family's looks); each row that meets fmt, with fmt's text TOLD by the authors' own Lean function (tested against real Go, not proved from fmt's source: count such statements apart). THE CARD IS WHAT COUNTS. Prove the row's statement (the work); the ties are given (YtgkjmmfpbcgmgaaDoorTie.lean); close each card by the builder's one call (the guide's Derived/Test/ToyasCard.lean, 'card_holds'). Laid BY PROGRAM, IN A SANDBOX (cutbox-door.mjs). By AI agents, Wed Nov 11 2026. No macro, syntax, notation, axiom, sorry.
-/
import Derived.Test.YtgkjmmfpbcgmgaaDoorRows
import GoSem.ClaimSeven
namespace Go.Proofs.YtgkjmmfpbcgmgaaDoor
namespace Rows

/-- THE TIED CARD OF 'cartularylaw22.ModfileParses'. -/
def modfileParsesCard : Claim7 := { stood := { row := modfileParsesRow, standIns := [], harness := (true, "f97eef603b06b544d06f91e6f8d78727c51ea7d45f5ee385c8431a321d09046c"), looks := false }, kinds := [], alts := [], laidByText := true, laidKinds := [.data, .pinned], laidTests := true, laidLooks := .later }
def ModfileParsesCardSaid : Prop := Claim7.holds Tryd.pinned (.plain (OpenSpec.ofChange modfileParsesSpec)) modfileParsesCard

/-- THE TIED CARD OF 'cartularylaw22.ModfilePaths'. -/
def modfilePathsCard : Claim7 := { stood := { row := modfilePathsRow, standIns := [], harness := (true, "f97eef603b06b544d06f91e6f8d78727c51ea7d45f5ee385c8431a321d09046c"), looks := false }, kinds := [], alts := [], laidByText := true, laidKinds := [.data, .pinned], laidTests := true, laidLooks := .later }
def ModfilePathsCardSaid : Prop := Claim7.holds Tryd.pinned (.plain (OpenSpec.ofChange modfilePathsSpec)) modfilePathsCard

/-- THE TIED CARD OF 'cartularylaw22.ModfileBlanks'. -/
def modfileBlanksCard : Claim7 := { stood := { row := modfileBlanksRow, standIns := [], harness := (true, "f97eef603b06b544d06f91e6f8d78727c51ea7d45f5ee385c8431a321d09046c"), looks := false }, kinds := [], alts := [], laidByText := true, laidKinds := [.data, .pinned], laidTests := true, laidLooks := .later }
def ModfileBlanksCardSaid : Prop := Claim7.holds Tryd.pinned (.plain (OpenSpec.ofChange modfileBlanksSpec)) modfileBlanksCard

/-- THE TIED CARD OF 'cartularylaw22.ModfileJoins'. -/
def modfileJoinsCard : Claim7 := { stood := { row := modfileJoinsRow, standIns := [], harness := (true, "f97eef603b06b544d06f91e6f8d78727c51ea7d45f5ee385c8431a321d09046c"), looks := false }, kinds := [], alts := [], laidByText := true, laidKinds := [.data, .pinned], laidTests := true, laidLooks := .later }
def ModfileJoinsCardSaid : Prop := Claim7.holds Tryd.pinned (.plain (OpenSpec.ofChange modfileJoinsSpec)) modfileJoinsCard

/-- THE TIED CARD OF 'cartularylaw22.ModfileParents'. -/
def modfileParentsCard : Claim7 := { stood := { row := modfileParentsRow, standIns := [], harness := (true, "f97eef603b06b544d06f91e6f8d78727c51ea7d45f5ee385c8431a321d09046c"), looks := false }, kinds := [], alts := [], laidByText := true, laidKinds := [.data, .pinned], laidTests := true, laidLooks := .later }
def ModfileParentsCardSaid : Prop := Claim7.holds Tryd.pinned (.plain (OpenSpec.ofChange modfileParentsSpec)) modfileParentsCard

/-- THE SECOND FORM's CARD OF 'cartularylaw22.ModfileParses'. -/
def modfileParsesUptoCard : Claim7 := { stood := { row := modfileParsesUptoRow, standIns := [], harness := (true, "f97eef603b06b544d06f91e6f8d78727c51ea7d45f5ee385c8431a321d09046c"), looks := false }, kinds := [], alts := [], laidByText := true, laidKinds := [.data, .pinned], laidTests := true, laidLooks := .later }
def ModfileParsesUptoCardSaid : Prop := Claim7.holds Tryd.pinned (.plain (OpenSpec.upto modfileParsesSpec)) modfileParsesUptoCard

/-- THE SECOND FORM's CARD OF 'cartularylaw22.ModfilePaths'. -/
def modfilePathsUptoCard : Claim7 := { stood := { row := modfilePathsUptoRow, standIns := [], harness := (true, "f97eef603b06b544d06f91e6f8d78727c51ea7d45f5ee385c8431a321d09046c"), looks := false }, kinds := [], alts := [], laidByText := true, laidKinds := [.data, .pinned], laidTests := true, laidLooks := .later }
def ModfilePathsUptoCardSaid : Prop := Claim7.holds Tryd.pinned (.plain (OpenSpec.upto modfilePathsSpec)) modfilePathsUptoCard

/-- THE SECOND FORM's CARD OF 'cartularylaw22.ModfileBlanks'. -/
def modfileBlanksUptoCard : Claim7 := { stood := { row := modfileBlanksUptoRow, standIns := [], harness := (true, "f97eef603b06b544d06f91e6f8d78727c51ea7d45f5ee385c8431a321d09046c"), looks := false }, kinds := [], alts := [], laidByText := true, laidKinds := [.data, .pinned], laidTests := true, laidLooks := .later }
def ModfileBlanksUptoCardSaid : Prop := Claim7.holds Tryd.pinned (.plain (OpenSpec.upto modfileBlanksSpec)) modfileBlanksUptoCard

/-- THE SECOND FORM's CARD OF 'cartularylaw22.ModfileJoins'. -/
def modfileJoinsUptoCard : Claim7 := { stood := { row := modfileJoinsUptoRow, standIns := [], harness := (true, "f97eef603b06b544d06f91e6f8d78727c51ea7d45f5ee385c8431a321d09046c"), looks := false }, kinds := [], alts := [], laidByText := true, laidKinds := [.data, .pinned], laidTests := true, laidLooks := .later }
def ModfileJoinsUptoCardSaid : Prop := Claim7.holds Tryd.pinned (.plain (OpenSpec.upto modfileJoinsSpec)) modfileJoinsUptoCard

/-- THE SECOND FORM's CARD OF 'cartularylaw22.ModfileParents'. -/
def modfileParentsUptoCard : Claim7 := { stood := { row := modfileParentsUptoRow, standIns := [], harness := (true, "f97eef603b06b544d06f91e6f8d78727c51ea7d45f5ee385c8431a321d09046c"), looks := false }, kinds := [], alts := [], laidByText := true, laidKinds := [.data, .pinned], laidTests := true, laidLooks := .later }
def ModfileParentsUptoCardSaid : Prop := Claim7.holds Tryd.pinned (.plain (OpenSpec.upto modfileParentsSpec)) modfileParentsUptoCard
end Rows
end Go.Proofs.YtgkjmmfpbcgmgaaDoor
