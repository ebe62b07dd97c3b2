/-
  DERIVED. GIVEN WITH THE SEED: THE CARDS: each row of YtkigeegahepnaaaGreatDoorRows.lean that lists a variable, with what it lists TIED to the program's text (the seventh form; the later family's looks); each row that meets fmt, with fmt's text TOLD by the authors' own Lean function (tested against real Go, not proved from fmt's source: count such statements apart). THE CARD IS WHAT COUNTS. Prove the row's statement (the work); the ties are given (YtkigeegahepnaaaGreatDoorTie.lean); close each card by the builder's one call (the guide's Derived/Test/ToyasCard.lean, 'card_holds'). Laid BY PROGRAM, IN A SANDBOX (cutbox-door.mjs). By AI agents, Wed Nov 11 2026. No macro, syntax, notation, axiom, sorry.
-/
import Derived.Test.YtkigeegahepnaaaGreatDoorRows
import GoSem.ClaimSeven
namespace Go.Proofs.YtkigeegahepnaaaGreatDoor
namespace Rows

/-- THE TIED CARD OF 'hoardinglaw11.CloudPlays'. -/
def cloudPlaysCard : Claim7 := { stood := { row := cloudPlaysRow, standIns := [], harness := (true, "3dde422c8a3968c28dede6261f7fe57aaa96bfcdeb1bab32c35352dcbca54a8c"), looks := false }, kinds := [], alts := [], laidByText := true, laidKinds := [.data, .data, .pinned], laidTests := true, laidLooks := .later }
def CloudPlaysCardSaid : Prop := Claim7.holds Tryz.pinned (.plain (OpenSpec.ofChange cloudPlaysSpec)) cloudPlaysCard

/-- THE TIED CARD OF 'hoardinglaw11.CloudOnce'. -/
def cloudOnceCard : Claim7 := { stood := { row := cloudOnceRow, standIns := [], harness := (true, "3dde422c8a3968c28dede6261f7fe57aaa96bfcdeb1bab32c35352dcbca54a8c"), looks := false }, kinds := [], alts := [], laidByText := true, laidKinds := [.data, .data, .pinned], laidTests := true, laidLooks := .later }
def CloudOnceCardSaid : Prop := Claim7.holds Tryz.pinned (.plain (OpenSpec.ofChange cloudOnceSpec)) cloudOnceCard

/-- THE TIED CARD OF 'hoardinglaw11.CloudAnswers'. -/
def cloudAnswersCard : Claim7 := { stood := { row := cloudAnswersRow, standIns := [], harness := (true, "3dde422c8a3968c28dede6261f7fe57aaa96bfcdeb1bab32c35352dcbca54a8c"), looks := false }, kinds := [], alts := [], laidByText := true, laidKinds := [.data, .data, .pinned], laidTests := true, laidLooks := .later }
def CloudAnswersCardSaid : Prop := Claim7.holds Tryz.pinned (.plain (OpenSpec.ofChange cloudAnswersSpec)) cloudAnswersCard

/-- THE TIED CARD OF 'hoardinglaw11.CloudBooks'. -/
def cloudBooksCard : Claim7 := { stood := { row := cloudBooksRow, standIns := [], harness := (true, "3dde422c8a3968c28dede6261f7fe57aaa96bfcdeb1bab32c35352dcbca54a8c"), looks := false }, kinds := [], alts := [], laidByText := true, laidKinds := [.data, .data, .pinned], laidTests := true, laidLooks := .later }
def CloudBooksCardSaid : Prop := Claim7.holds Tryz.pinned (.plain (OpenSpec.ofChange cloudBooksSpec)) cloudBooksCard

/-- THE TIED CARD OF 'hoardinglaw11.CloudBad'. -/
def cloudBadCard : Claim7 := { stood := { row := cloudBadRow, standIns := [], harness := (true, "3dde422c8a3968c28dede6261f7fe57aaa96bfcdeb1bab32c35352dcbca54a8c"), looks := false }, kinds := [], alts := [], laidByText := true, laidKinds := [.data, .data, .pinned], laidTests := true, laidLooks := .later }
def CloudBadCardSaid : Prop := Claim7.holds Tryz.pinned (.plain (OpenSpec.ofChange cloudBadSpec)) cloudBadCard

/-- THE TIED CARD OF 'hoardinglaw11.CloudNil'. -/
def cloudNilCard : Claim7 := { stood := { row := cloudNilRow, standIns := [], harness := (true, "3dde422c8a3968c28dede6261f7fe57aaa96bfcdeb1bab32c35352dcbca54a8c"), looks := false }, kinds := [], alts := [], laidByText := true, laidKinds := [.data, .data, .pinned], laidTests := true, laidLooks := .later }
def CloudNilCardSaid : Prop := Claim7.holds Tryz.pinned (.plain (OpenSpec.ofChange cloudNilSpec)) cloudNilCard

/-- THE TIED CARD OF 'hoardinglaw11.CloudTurned'. -/
def cloudTurnedCard : Claim7 := { stood := { row := cloudTurnedRow, standIns := [], harness := (true, "3dde422c8a3968c28dede6261f7fe57aaa96bfcdeb1bab32c35352dcbca54a8c"), looks := false }, kinds := [], alts := [], laidByText := true, laidKinds := [.data, .data, .pinned], laidTests := true, laidLooks := .later }
def CloudTurnedCardSaid : Prop := Claim7.holds Tryz.pinned (.plain (OpenSpec.ofChange cloudTurnedSpec)) cloudTurnedCard

/-- THE SECOND FORM's CARD OF 'hoardinglaw11.CloudPlays'. -/
def cloudPlaysUptoCard : Claim7 := { stood := { row := cloudPlaysUptoRow, standIns := [], harness := (true, "3dde422c8a3968c28dede6261f7fe57aaa96bfcdeb1bab32c35352dcbca54a8c"), looks := false }, kinds := [], alts := [], laidByText := true, laidKinds := [.data, .data, .pinned], laidTests := true, laidLooks := .later }
def CloudPlaysUptoCardSaid : Prop := Claim7.holds Tryz.pinned (.plain (OpenSpec.upto cloudPlaysSpec)) cloudPlaysUptoCard

/-- THE SECOND FORM's CARD OF 'hoardinglaw11.CloudOnce'. -/
def cloudOnceUptoCard : Claim7 := { stood := { row := cloudOnceUptoRow, standIns := [], harness := (true, "3dde422c8a3968c28dede6261f7fe57aaa96bfcdeb1bab32c35352dcbca54a8c"), looks := false }, kinds := [], alts := [], laidByText := true, laidKinds := [.data, .data, .pinned], laidTests := true, laidLooks := .later }
def CloudOnceUptoCardSaid : Prop := Claim7.holds Tryz.pinned (.plain (OpenSpec.upto cloudOnceSpec)) cloudOnceUptoCard

/-- THE SECOND FORM's CARD OF 'hoardinglaw11.CloudAnswers'. -/
def cloudAnswersUptoCard : Claim7 := { stood := { row := cloudAnswersUptoRow, standIns := [], harness := (true, "3dde422c8a3968c28dede6261f7fe57aaa96bfcdeb1bab32c35352dcbca54a8c"), looks := false }, kinds := [], alts := [], laidByText := true, laidKinds := [.data, .data, .pinned], laidTests := true, laidLooks := .later }
def CloudAnswersUptoCardSaid : Prop := Claim7.holds Tryz.pinned (.plain (OpenSpec.upto cloudAnswersSpec)) cloudAnswersUptoCard

/-- THE SECOND FORM's CARD OF 'hoardinglaw11.CloudBooks'. -/
def cloudBooksUptoCard : Claim7 := { stood := { row := cloudBooksUptoRow, standIns := [], harness := (true, "3dde422c8a3968c28dede6261f7fe57aaa96bfcdeb1bab32c35352dcbca54a8c"), looks := false }, kinds := [], alts := [], laidByText := true, laidKinds := [.data, .data, .pinned], laidTests := true, laidLooks := .later }
def CloudBooksUptoCardSaid : Prop := Claim7.holds Tryz.pinned (.plain (OpenSpec.upto cloudBooksSpec)) cloudBooksUptoCard

/-- THE SECOND FORM's CARD OF 'hoardinglaw11.CloudBad'. -/
def cloudBadUptoCard : Claim7 := { stood := { row := cloudBadUptoRow, standIns := [], harness := (true, "3dde422c8a3968c28dede6261f7fe57aaa96bfcdeb1bab32c35352dcbca54a8c"), looks := false }, kinds := [], alts := [], laidByText := true, laidKinds := [.data, .data, .pinned], laidTests := true, laidLooks := .later }
def CloudBadUptoCardSaid : Prop := Claim7.holds Tryz.pinned (.plain (OpenSpec.upto cloudBadSpec)) cloudBadUptoCard

/-- THE SECOND FORM's CARD OF 'hoardinglaw11.CloudNil'. -/
def cloudNilUptoCard : Claim7 := { stood := { row := cloudNilUptoRow, standIns := [], harness := (true, "3dde422c8a3968c28dede6261f7fe57aaa96bfcdeb1bab32c35352dcbca54a8c"), looks := false }, kinds := [], alts := [], laidByText := true, laidKinds := [.data, .data, .pinned], laidTests := true, laidLooks := .later }
def CloudNilUptoCardSaid : Prop := Claim7.holds Tryz.pinned (.plain (OpenSpec.upto cloudNilSpec)) cloudNilUptoCard

/-- THE SECOND FORM's CARD OF 'hoardinglaw11.CloudTurned'. -/
def cloudTurnedUptoCard : Claim7 := { stood := { row := cloudTurnedUptoRow, standIns := [], harness := (true, "3dde422c8a3968c28dede6261f7fe57aaa96bfcdeb1bab32c35352dcbca54a8c"), looks := false }, kinds := [], alts := [], laidByText := true, laidKinds := [.data, .data, .pinned], laidTests := true, laidLooks := .later }
def CloudTurnedUptoCardSaid : Prop := Claim7.holds Tryz.pinned (.plain (OpenSpec.upto cloudTurnedSpec)) cloudTurnedUptoCard
end Rows
end Go.Proofs.YtkigeegahepnaaaGreatDoor
