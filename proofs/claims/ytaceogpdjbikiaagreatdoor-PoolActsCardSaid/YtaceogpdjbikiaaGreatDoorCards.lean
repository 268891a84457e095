/-
  DERIVED. GIVEN WITH THE SEED: THE CARDS: each row of YtaceogpdjbikiaaGreatDoorRows.lean that lists a variable, with what it lists TIED to the program's text (the seventh form; the later family's looks); each row that meets fmt, with fmt's text TOLD by the authors' own Lean function (tested against real Go, not proved from fmt's source: count such statements apart). THE CARD IS WHAT COUNTS. Prove the row's statement (the work); the ties are given (YtaceogpdjbikiaaGreatDoorTie.lean); close each card by the builder's one call (the guide's Derived/Test/ToyasCard.lean, 'card_holds'). Laid BY PROGRAM, IN A SANDBOX (cutbox-door.mjs). By AI agents, Wed Nov 11 2026. No macro, syntax, notation, axiom, sorry.
-/
import Derived.Test.YtaceogpdjbikiaaGreatDoorRows
import GoSem.ClaimSeven
namespace Go.Proofs.YtaceogpdjbikiaaGreatDoor
namespace Rows

/-- THE TIED CARD OF 'stillroomlaw07.PoolActs'. -/
def poolActsCard : Claim7 := { stood := { row := poolActsRow, standIns := [], harness := (true, "1ec335c0f9003125d0e19dc95e2afa70253a9cc5332c8edb8f494273192f8b42"), looks := true }, kinds := [], alts := [], laidByText := true, laidKinds := [.data, .data], laidTests := true, laidLooks := .later }
def PoolActsCardSaid : Prop := Claim7.holds Tryz.pinned (.plain (OpenSpec.ofChange poolActsSpec)) poolActsCard

/-- THE TIED CARD OF 'stillroomlaw07.PoolCorrupt'. -/
def poolCorruptCard : Claim7 := { stood := { row := poolCorruptRow, standIns := [], harness := (true, "1ec335c0f9003125d0e19dc95e2afa70253a9cc5332c8edb8f494273192f8b42"), looks := true }, kinds := [], alts := [], laidByText := true, laidKinds := [.data, .data], laidTests := true, laidLooks := .later }
def PoolCorruptCardSaid : Prop := Claim7.holds Tryz.pinned (.plain (OpenSpec.ofChange poolCorruptSpec)) poolCorruptCard

/-- THE SECOND FORM's CARD OF 'stillroomlaw07.PoolActs'. -/
def poolActsUptoCard : Claim7 := { stood := { row := poolActsUptoRow, standIns := [], harness := (true, "1ec335c0f9003125d0e19dc95e2afa70253a9cc5332c8edb8f494273192f8b42"), looks := true }, kinds := [], alts := [], laidByText := true, laidKinds := [.data, .data], laidTests := true, laidLooks := .later }
def PoolActsUptoCardSaid : Prop := Claim7.holds Tryz.pinned (.plain (OpenSpec.upto poolActsSpec)) poolActsUptoCard

/-- THE SECOND FORM's CARD OF 'stillroomlaw07.PoolCorrupt'. -/
def poolCorruptUptoCard : Claim7 := { stood := { row := poolCorruptUptoRow, standIns := [], harness := (true, "1ec335c0f9003125d0e19dc95e2afa70253a9cc5332c8edb8f494273192f8b42"), looks := true }, kinds := [], alts := [], laidByText := true, laidKinds := [.data, .data], laidTests := true, laidLooks := .later }
def PoolCorruptUptoCardSaid : Prop := Claim7.holds Tryz.pinned (.plain (OpenSpec.upto poolCorruptSpec)) poolCorruptUptoCard
end Rows
end Go.Proofs.YtaceogpdjbikiaaGreatDoor
