/-
  DERIVED. GIVEN WITH THE SEED: THE CARDS: each row of YtmgodamdpemmhaaGreatDoorRows.lean that lists a variable, with what it lists TIED to the program's text (the seventh form; the later family's looks); each row that meets fmt, with fmt's text TOLD by the authors' own Lean function (tested against real Go, not proved from fmt's source: count such statements apart). THE CARD IS WHAT COUNTS. Prove the row's statement (the work); the ties are given (YtmgodamdpemmhaaGreatDoorTie.lean); close each card by the builder's one call (the guide's Derived/Test/ToyasCard.lean, 'card_holds'). Laid BY PROGRAM, IN A SANDBOX (cutbox-door.mjs). By AI agents, Wed Nov 11 2026. No macro, syntax, notation, axiom, sorry.
-/
import Derived.Test.YtmgodamdpemmhaaGreatDoorRows
import GoSem.ClaimSeven
namespace Go.Proofs.YtmgodamdpemmhaaGreatDoor
namespace Rows

/-- THE TIED CARD OF 'hoardinglaw09.SchemaTells'. -/
def schemaTellsCard : Claim7 := { stood := { row := schemaTellsRow, standIns := [], harness := (true, "68c7c90e0533a5dd7d8f3ebd0f6466ec2fe9c06541e3f1ff66bfa6957985cdf3"), looks := false }, kinds := [], alts := [], laidByText := true, laidKinds := [.data, .data, .pinned], laidTests := true, laidLooks := .later }
def SchemaTellsCardSaid : Prop := Claim7.holds Tryz.pinned (.plain (OpenSpec.ofChange schemaTellsSpec)) schemaTellsCard

/-- THE TIED CARD OF 'hoardinglaw09.SchemaAttrs'. -/
def schemaAttrsCard : Claim7 := { stood := { row := schemaAttrsRow, standIns := [], harness := (true, "68c7c90e0533a5dd7d8f3ebd0f6466ec2fe9c06541e3f1ff66bfa6957985cdf3"), looks := false }, kinds := [], alts := [], laidByText := true, laidKinds := [.data, .data, .pinned], laidTests := true, laidLooks := .later }
def SchemaAttrsCardSaid : Prop := Claim7.holds Tryz.pinned (.plain (OpenSpec.ofChange schemaAttrsSpec)) schemaAttrsCard

/-- THE TIED CARD OF 'hoardinglaw09.SchemaNone'. -/
def schemaNoneCard : Claim7 := { stood := { row := schemaNoneRow, standIns := [], harness := (true, "68c7c90e0533a5dd7d8f3ebd0f6466ec2fe9c06541e3f1ff66bfa6957985cdf3"), looks := false }, kinds := [], alts := [], laidByText := true, laidKinds := [.data, .data, .pinned], laidTests := true, laidLooks := .later }
def SchemaNoneCardSaid : Prop := Claim7.holds Tryz.pinned (.plain (OpenSpec.ofChange schemaNoneSpec)) schemaNoneCard

/-- THE TIED CARD OF 'hoardinglaw09.SchemaKnown'. -/
def schemaKnownCard : Claim7 := { stood := { row := schemaKnownRow, standIns := [], harness := (true, "68c7c90e0533a5dd7d8f3ebd0f6466ec2fe9c06541e3f1ff66bfa6957985cdf3"), looks := false }, kinds := [], alts := [], laidByText := true, laidKinds := [.data, .data, .pinned], laidTests := true, laidLooks := .later }
def SchemaKnownCardSaid : Prop := Claim7.holds Tryz.pinned (.plain (OpenSpec.ofChange schemaKnownSpec)) schemaKnownCard

/-- THE TIED CARD OF 'hoardinglaw09.SchemaParts'. -/
def schemaPartsCard : Claim7 := { stood := { row := schemaPartsRow, standIns := [], harness := (true, "68c7c90e0533a5dd7d8f3ebd0f6466ec2fe9c06541e3f1ff66bfa6957985cdf3"), looks := false }, kinds := [], alts := [], laidByText := true, laidKinds := [.data, .data, .pinned], laidTests := true, laidLooks := .later }
def SchemaPartsCardSaid : Prop := Claim7.holds Tryz.pinned (.plain (OpenSpec.ofChange schemaPartsSpec)) schemaPartsCard

/-- THE SECOND FORM's CARD OF 'hoardinglaw09.SchemaTells'. -/
def schemaTellsUptoCard : Claim7 := { stood := { row := schemaTellsUptoRow, standIns := [], harness := (true, "68c7c90e0533a5dd7d8f3ebd0f6466ec2fe9c06541e3f1ff66bfa6957985cdf3"), looks := false }, kinds := [], alts := [], laidByText := true, laidKinds := [.data, .data, .pinned], laidTests := true, laidLooks := .later }
def SchemaTellsUptoCardSaid : Prop := Claim7.holds Tryz.pinned (.plain (OpenSpec.upto schemaTellsSpec)) schemaTellsUptoCard

/-- THE SECOND FORM's CARD OF 'hoardinglaw09.SchemaAttrs'. -/
def schemaAttrsUptoCard : Claim7 := { stood := { row := schemaAttrsUptoRow, standIns := [], harness := (true, "68c7c90e0533a5dd7d8f3ebd0f6466ec2fe9c06541e3f1ff66bfa6957985cdf3"), looks := false }, kinds := [], alts := [], laidByText := true, laidKinds := [.data, .data, .pinned], laidTests := true, laidLooks := .later }
def SchemaAttrsUptoCardSaid : Prop := Claim7.holds Tryz.pinned (.plain (OpenSpec.upto schemaAttrsSpec)) schemaAttrsUptoCard

/-- THE SECOND FORM's CARD OF 'hoardinglaw09.SchemaNone'. -/
def schemaNoneUptoCard : Claim7 := { stood := { row := schemaNoneUptoRow, standIns := [], harness := (true, "68c7c90e0533a5dd7d8f3ebd0f6466ec2fe9c06541e3f1ff66bfa6957985cdf3"), looks := false }, kinds := [], alts := [], laidByText := true, laidKinds := [.data, .data, .pinned], laidTests := true, laidLooks := .later }
def SchemaNoneUptoCardSaid : Prop := Claim7.holds Tryz.pinned (.plain (OpenSpec.upto schemaNoneSpec)) schemaNoneUptoCard

/-- THE SECOND FORM's CARD OF 'hoardinglaw09.SchemaKnown'. -/
def schemaKnownUptoCard : Claim7 := { stood := { row := schemaKnownUptoRow, standIns := [], harness := (true, "68c7c90e0533a5dd7d8f3ebd0f6466ec2fe9c06541e3f1ff66bfa6957985cdf3"), looks := false }, kinds := [], alts := [], laidByText := true, laidKinds := [.data, .data, .pinned], laidTests := true, laidLooks := .later }
def SchemaKnownUptoCardSaid : Prop := Claim7.holds Tryz.pinned (.plain (OpenSpec.upto schemaKnownSpec)) schemaKnownUptoCard

/-- THE SECOND FORM's CARD OF 'hoardinglaw09.SchemaParts'. -/
def schemaPartsUptoCard : Claim7 := { stood := { row := schemaPartsUptoRow, standIns := [], harness := (true, "68c7c90e0533a5dd7d8f3ebd0f6466ec2fe9c06541e3f1ff66bfa6957985cdf3"), looks := false }, kinds := [], alts := [], laidByText := true, laidKinds := [.data, .data, .pinned], laidTests := true, laidLooks := .later }
def SchemaPartsUptoCardSaid : Prop := Claim7.holds Tryz.pinned (.plain (OpenSpec.upto schemaPartsSpec)) schemaPartsUptoCard
end Rows
end Go.Proofs.YtmgodamdpemmhaaGreatDoor
