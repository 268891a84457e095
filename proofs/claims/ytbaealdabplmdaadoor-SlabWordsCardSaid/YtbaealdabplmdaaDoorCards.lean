/-
  DERIVED. GIVEN WITH THE SEED: THE CARDS: each row of YtbaealdabplmdaaDoorRows.lean that lists a variable, with what it lists TIED to the program's text (the seventh form; the later family's looks); each row that meets fmt, with fmt's text TOLD by the authors' own Lean function (tested against real Go, not proved from fmt's source: count such statements apart). THE CARD IS WHAT COUNTS. Prove the row's statement (the work); the ties are given (YtbaealdabplmdaaDoorTie.lean); close each card by the builder's one call (the guide's Derived/Test/ToyasCard.lean, 'card_holds'). Laid BY PROGRAM, IN A SANDBOX (cutbox-door.mjs). By AI agents, Wed Nov 11 2026. No macro, syntax, notation, axiom, sorry.
-/
import Derived.Test.YtbaealdabplmdaaDoorRows
import GoSem.ClaimSeven
namespace Go.Proofs.YtbaealdabplmdaaDoor
namespace Rows

/-- THE TIED CARD OF 'stillroomlaw06.SlabTells'. -/
def slabTellsCard : Claim7 := { stood := { row := slabTellsRow, standIns := [], harness := (true, "ff57745ec08953a9348aa7ab7ded8329c2417d0ba0dd6693a08a4be2df289da7"), looks := false }, kinds := [], alts := [], laidByText := true, laidKinds := [.data], laidTests := true, laidLooks := .later }
def SlabTellsCardSaid : Prop := Claim7.holds Tryd.pinned (.plain (OpenSpec.ofChange slabTellsSpec)) slabTellsCard

/-- THE TIED CARD OF 'stillroomlaw06.SlabTakes'. -/
def slabTakesCard : Claim7 := { stood := { row := slabTakesRow, standIns := [], harness := (true, "ff57745ec08953a9348aa7ab7ded8329c2417d0ba0dd6693a08a4be2df289da7"), looks := false }, kinds := [], alts := [], laidByText := true, laidKinds := [.data], laidTests := true, laidLooks := .later }
def SlabTakesCardSaid : Prop := Claim7.holds Tryd.pinned (.plain (OpenSpec.ofChange slabTakesSpec)) slabTakesCard

/-- THE TIED CARD OF 'stillroomlaw06.SlabFills'. -/
def slabFillsCard : Claim7 := { stood := { row := slabFillsRow, standIns := [], harness := (true, "ff57745ec08953a9348aa7ab7ded8329c2417d0ba0dd6693a08a4be2df289da7"), looks := false }, kinds := [], alts := [], laidByText := true, laidKinds := [.data], laidTests := true, laidLooks := .later }
def SlabFillsCardSaid : Prop := Claim7.holds Tryd.pinned (.plain (OpenSpec.ofChange slabFillsSpec)) slabFillsCard

/-- THE TIED CARD OF 'stillroomlaw06.SlabWords'. -/
def slabWordsCard : Claim7 := { stood := { row := slabWordsRow, standIns := [], harness := (true, "ff57745ec08953a9348aa7ab7ded8329c2417d0ba0dd6693a08a4be2df289da7"), looks := false }, kinds := [], alts := [], laidByText := true, laidKinds := [.data], laidTests := true, laidLooks := .later }
def SlabWordsCardSaid : Prop := Claim7.holds Tryd.pinned (.plain (OpenSpec.ofChange slabWordsSpec)) slabWordsCard

/-- THE TIED CARD OF 'stillroomlaw06.SlabOrder'. -/
def slabOrderCard : Claim7 := { stood := { row := slabOrderRow, standIns := [], harness := (true, "ff57745ec08953a9348aa7ab7ded8329c2417d0ba0dd6693a08a4be2df289da7"), looks := false }, kinds := [], alts := [], laidByText := true, laidKinds := [.data], laidTests := true, laidLooks := .later }
def SlabOrderCardSaid : Prop := Claim7.holds Tryd.pinned (.plain (OpenSpec.ofChange slabOrderSpec)) slabOrderCard

/-- THE SECOND FORM's CARD OF 'stillroomlaw06.SlabTells'. -/
def slabTellsUptoCard : Claim7 := { stood := { row := slabTellsUptoRow, standIns := [], harness := (true, "ff57745ec08953a9348aa7ab7ded8329c2417d0ba0dd6693a08a4be2df289da7"), looks := false }, kinds := [], alts := [], laidByText := true, laidKinds := [.data], laidTests := true, laidLooks := .later }
def SlabTellsUptoCardSaid : Prop := Claim7.holds Tryd.pinned (.plain (OpenSpec.upto slabTellsSpec)) slabTellsUptoCard

/-- THE SECOND FORM's CARD OF 'stillroomlaw06.SlabTakes'. -/
def slabTakesUptoCard : Claim7 := { stood := { row := slabTakesUptoRow, standIns := [], harness := (true, "ff57745ec08953a9348aa7ab7ded8329c2417d0ba0dd6693a08a4be2df289da7"), looks := false }, kinds := [], alts := [], laidByText := true, laidKinds := [.data], laidTests := true, laidLooks := .later }
def SlabTakesUptoCardSaid : Prop := Claim7.holds Tryd.pinned (.plain (OpenSpec.upto slabTakesSpec)) slabTakesUptoCard

/-- THE SECOND FORM's CARD OF 'stillroomlaw06.SlabFills'. -/
def slabFillsUptoCard : Claim7 := { stood := { row := slabFillsUptoRow, standIns := [], harness := (true, "ff57745ec08953a9348aa7ab7ded8329c2417d0ba0dd6693a08a4be2df289da7"), looks := false }, kinds := [], alts := [], laidByText := true, laidKinds := [.data], laidTests := true, laidLooks := .later }
def SlabFillsUptoCardSaid : Prop := Claim7.holds Tryd.pinned (.plain (OpenSpec.upto slabFillsSpec)) slabFillsUptoCard

/-- THE SECOND FORM's CARD OF 'stillroomlaw06.SlabWords'. -/
def slabWordsUptoCard : Claim7 := { stood := { row := slabWordsUptoRow, standIns := [], harness := (true, "ff57745ec08953a9348aa7ab7ded8329c2417d0ba0dd6693a08a4be2df289da7"), looks := false }, kinds := [], alts := [], laidByText := true, laidKinds := [.data], laidTests := true, laidLooks := .later }
def SlabWordsUptoCardSaid : Prop := Claim7.holds Tryd.pinned (.plain (OpenSpec.upto slabWordsSpec)) slabWordsUptoCard

/-- THE SECOND FORM's CARD OF 'stillroomlaw06.SlabOrder'. -/
def slabOrderUptoCard : Claim7 := { stood := { row := slabOrderUptoRow, standIns := [], harness := (true, "ff57745ec08953a9348aa7ab7ded8329c2417d0ba0dd6693a08a4be2df289da7"), looks := false }, kinds := [], alts := [], laidByText := true, laidKinds := [.data], laidTests := true, laidLooks := .later }
def SlabOrderUptoCardSaid : Prop := Claim7.holds Tryd.pinned (.plain (OpenSpec.upto slabOrderSpec)) slabOrderUptoCard
end Rows
end Go.Proofs.YtbaealdabplmdaaDoor
