/-
  DERIVED. GIVEN WITH THE SEED: THE CARDS: each row of YtjnoomefppncoaaDoorRows.lean that lists a variable, with what it lists TIED to the program's text (the seventh form; the later family's looks); each row that meets fmt, with fmt's text TOLD by the authors' own Lean function (tested against real Go, not proved from fmt's source: count such statements apart). THE CARD IS WHAT COUNTS. Prove the row's statement (the work); the ties are given (YtjnoomefppncoaaDoorTie.lean); close each card by the builder's one call (the guide's Derived/Test/ToyasCard.lean, 'card_holds'). Laid BY PROGRAM, IN A SANDBOX (cutbox-door.mjs). By AI agents, Wed Nov 11 2026. No macro, syntax, notation, axiom, sorry.
-/
import Derived.Test.YtjnoomefppncoaaDoorRows
import GoSem.ClaimSeven
namespace Go.Proofs.YtjnoomefppncoaaDoor
namespace Rows

/-- THE TIED CARD OF 'hoardinglaw12.SubTells'. -/
def subTellsCard : Claim7 := { stood := { row := subTellsRow, standIns := [], harness := (true, "53cc929cc716a5d8cbf98dee9ac45fc510a934640ec84774c882d17d70f2adb3"), looks := false }, kinds := [], alts := [], laidByText := true, laidKinds := [.data, .pinned], laidTests := true, laidLooks := .later }
def SubTellsCardSaid : Prop := Claim7.holds Tryd.pinned (.plain (OpenSpec.ofChange subTellsSpec)) subTellsCard

/-- THE TIED CARD OF 'hoardinglaw12.SubWrites'. -/
def subWritesCard : Claim7 := { stood := { row := subWritesRow, standIns := [], harness := (true, "53cc929cc716a5d8cbf98dee9ac45fc510a934640ec84774c882d17d70f2adb3"), looks := false }, kinds := [], alts := [], laidByText := true, laidKinds := [.data, .pinned], laidTests := true, laidLooks := .later }
def SubWritesCardSaid : Prop := Claim7.holds Tryd.pinned (.plain (OpenSpec.ofChange subWritesSpec)) subWritesCard

/-- THE TIED CARD OF 'hoardinglaw12.SubBack'. -/
def subBackCard : Claim7 := { stood := { row := subBackRow, standIns := [], harness := (true, "53cc929cc716a5d8cbf98dee9ac45fc510a934640ec84774c882d17d70f2adb3"), looks := false }, kinds := [], alts := [], laidByText := true, laidKinds := [.data, .pinned], laidTests := true, laidLooks := .later }
def SubBackCardSaid : Prop := Claim7.holds Tryd.pinned (.plain (OpenSpec.ofChange subBackSpec)) subBackCard

/-- THE TIED CARD OF 'hoardinglaw12.SubPlain'. -/
def subPlainCard : Claim7 := { stood := { row := subPlainRow, standIns := [], harness := (true, "53cc929cc716a5d8cbf98dee9ac45fc510a934640ec84774c882d17d70f2adb3"), looks := false }, kinds := [], alts := [], laidByText := true, laidKinds := [.data, .pinned], laidTests := true, laidLooks := .later }
def SubPlainCardSaid : Prop := Claim7.holds Tryd.pinned (.plain (OpenSpec.ofChange subPlainSpec)) subPlainCard

/-- THE TIED CARD OF 'hoardinglaw12.SubJoin'. -/
def subJoinCard : Claim7 := { stood := { row := subJoinRow, standIns := [], harness := (true, "53cc929cc716a5d8cbf98dee9ac45fc510a934640ec84774c882d17d70f2adb3"), looks := false }, kinds := [], alts := [], laidByText := true, laidKinds := [.data, .pinned], laidTests := true, laidLooks := .later }
def SubJoinCardSaid : Prop := Claim7.holds Tryd.pinned (.plain (OpenSpec.ofChange subJoinSpec)) subJoinCard

/-- THE SECOND FORM's CARD OF 'hoardinglaw12.SubTells'. -/
def subTellsUptoCard : Claim7 := { stood := { row := subTellsUptoRow, standIns := [], harness := (true, "53cc929cc716a5d8cbf98dee9ac45fc510a934640ec84774c882d17d70f2adb3"), looks := false }, kinds := [], alts := [], laidByText := true, laidKinds := [.data, .pinned], laidTests := true, laidLooks := .later }
def SubTellsUptoCardSaid : Prop := Claim7.holds Tryd.pinned (.plain (OpenSpec.upto subTellsSpec)) subTellsUptoCard

/-- THE SECOND FORM's CARD OF 'hoardinglaw12.SubWrites'. -/
def subWritesUptoCard : Claim7 := { stood := { row := subWritesUptoRow, standIns := [], harness := (true, "53cc929cc716a5d8cbf98dee9ac45fc510a934640ec84774c882d17d70f2adb3"), looks := false }, kinds := [], alts := [], laidByText := true, laidKinds := [.data, .pinned], laidTests := true, laidLooks := .later }
def SubWritesUptoCardSaid : Prop := Claim7.holds Tryd.pinned (.plain (OpenSpec.upto subWritesSpec)) subWritesUptoCard

/-- THE SECOND FORM's CARD OF 'hoardinglaw12.SubBack'. -/
def subBackUptoCard : Claim7 := { stood := { row := subBackUptoRow, standIns := [], harness := (true, "53cc929cc716a5d8cbf98dee9ac45fc510a934640ec84774c882d17d70f2adb3"), looks := false }, kinds := [], alts := [], laidByText := true, laidKinds := [.data, .pinned], laidTests := true, laidLooks := .later }
def SubBackUptoCardSaid : Prop := Claim7.holds Tryd.pinned (.plain (OpenSpec.upto subBackSpec)) subBackUptoCard

/-- THE SECOND FORM's CARD OF 'hoardinglaw12.SubPlain'. -/
def subPlainUptoCard : Claim7 := { stood := { row := subPlainUptoRow, standIns := [], harness := (true, "53cc929cc716a5d8cbf98dee9ac45fc510a934640ec84774c882d17d70f2adb3"), looks := false }, kinds := [], alts := [], laidByText := true, laidKinds := [.data, .pinned], laidTests := true, laidLooks := .later }
def SubPlainUptoCardSaid : Prop := Claim7.holds Tryd.pinned (.plain (OpenSpec.upto subPlainSpec)) subPlainUptoCard

/-- THE SECOND FORM's CARD OF 'hoardinglaw12.SubJoin'. -/
def subJoinUptoCard : Claim7 := { stood := { row := subJoinUptoRow, standIns := [], harness := (true, "53cc929cc716a5d8cbf98dee9ac45fc510a934640ec84774c882d17d70f2adb3"), looks := false }, kinds := [], alts := [], laidByText := true, laidKinds := [.data, .pinned], laidTests := true, laidLooks := .later }
def SubJoinUptoCardSaid : Prop := Claim7.holds Tryd.pinned (.plain (OpenSpec.upto subJoinSpec)) subJoinUptoCard
end Rows
end Go.Proofs.YtjnoomefppncoaaDoor
