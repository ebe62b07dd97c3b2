/-
  DERIVED. GIVEN WITH THE SEED: THE CARDS: each row of YtdckldfekepopaaGreatDoorRows.lean that lists a variable, with what it lists TIED to the program's text (the seventh form; the later family's looks); each row that meets fmt, with fmt's text TOLD by the authors' own Lean function (tested against real Go, not proved from fmt's source: count such statements apart). THE CARD IS WHAT COUNTS. Prove the row's statement (the work); the ties are given (YtdckldfekepopaaGreatDoorTie.lean); close each card by the builder's one call (the guide's Derived/Test/ToyasCard.lean, 'card_holds'). Laid BY PROGRAM, IN A SANDBOX (cutbox-door.mjs). By AI agents, Wed Nov 11 2026. No macro, syntax, notation, axiom, sorry.
-/
import Derived.Test.YtdckldfekepopaaGreatDoorRows
import GoSem.ClaimSeven
namespace Go.Proofs.YtdckldfekepopaaGreatDoor
namespace Rows

/-- THE TIED CARD OF 'hoardinglaw10.StoreDoes'. -/
def storeDoesCard : Claim7 := { stood := { row := storeDoesRow, standIns := [], harness := (true, "07c31c40997407e459c2d3e8051321b1a77eba56be5027a9f7a784e2b13636e3"), looks := false }, kinds := [], alts := [], laidByText := true, laidKinds := [.data, .data, .pinned], laidTests := true, laidLooks := .later }
def StoreDoesCardSaid : Prop := Claim7.holds Tryz.pinned (.plain (OpenSpec.ofChange storeDoesSpec)) storeDoesCard

/-- THE TIED CARD OF 'hoardinglaw10.StoreOnce'. -/
def storeOnceCard : Claim7 := { stood := { row := storeOnceRow, standIns := [], harness := (true, "07c31c40997407e459c2d3e8051321b1a77eba56be5027a9f7a784e2b13636e3"), looks := false }, kinds := [], alts := [], laidByText := true, laidKinds := [.data, .data, .pinned], laidTests := true, laidLooks := .later }
def StoreOnceCardSaid : Prop := Claim7.holds Tryz.pinned (.plain (OpenSpec.ofChange storeOnceSpec)) storeOnceCard

/-- THE TIED CARD OF 'hoardinglaw10.StoreUndo'. -/
def storeUndoCard : Claim7 := { stood := { row := storeUndoRow, standIns := [], harness := (true, "07c31c40997407e459c2d3e8051321b1a77eba56be5027a9f7a784e2b13636e3"), looks := false }, kinds := [], alts := [], laidByText := true, laidKinds := [.data, .data, .pinned], laidTests := true, laidLooks := .later }
def StoreUndoCardSaid : Prop := Claim7.holds Tryz.pinned (.plain (OpenSpec.ofChange storeUndoSpec)) storeUndoCard

/-- THE SECOND FORM's CARD OF 'hoardinglaw10.StoreDoes'. -/
def storeDoesUptoCard : Claim7 := { stood := { row := storeDoesUptoRow, standIns := [], harness := (true, "07c31c40997407e459c2d3e8051321b1a77eba56be5027a9f7a784e2b13636e3"), looks := false }, kinds := [], alts := [], laidByText := true, laidKinds := [.data, .data, .pinned], laidTests := true, laidLooks := .later }
def StoreDoesUptoCardSaid : Prop := Claim7.holds Tryz.pinned (.plain (OpenSpec.upto storeDoesSpec)) storeDoesUptoCard

/-- THE SECOND FORM's CARD OF 'hoardinglaw10.StoreOnce'. -/
def storeOnceUptoCard : Claim7 := { stood := { row := storeOnceUptoRow, standIns := [], harness := (true, "07c31c40997407e459c2d3e8051321b1a77eba56be5027a9f7a784e2b13636e3"), looks := false }, kinds := [], alts := [], laidByText := true, laidKinds := [.data, .data, .pinned], laidTests := true, laidLooks := .later }
def StoreOnceUptoCardSaid : Prop := Claim7.holds Tryz.pinned (.plain (OpenSpec.upto storeOnceSpec)) storeOnceUptoCard

/-- THE SECOND FORM's CARD OF 'hoardinglaw10.StoreUndo'. -/
def storeUndoUptoCard : Claim7 := { stood := { row := storeUndoUptoRow, standIns := [], harness := (true, "07c31c40997407e459c2d3e8051321b1a77eba56be5027a9f7a784e2b13636e3"), looks := false }, kinds := [], alts := [], laidByText := true, laidKinds := [.data, .data, .pinned], laidTests := true, laidLooks := .later }
def StoreUndoUptoCardSaid : Prop := Claim7.holds Tryz.pinned (.plain (OpenSpec.upto storeUndoSpec)) storeUndoUptoCard
end Rows
end Go.Proofs.YtdckldfekepopaaGreatDoor
