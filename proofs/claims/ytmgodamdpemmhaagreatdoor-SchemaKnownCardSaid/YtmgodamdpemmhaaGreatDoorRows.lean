/-
  NARROWER THAN 'FOR EVERY INPUT', by the rows' own cells (each row's printed sentence says how): SchemaTells: loops, laid · SchemaAttrs: laid · SchemaNone: loops, laid · SchemaKnown: loops, laid · SchemaParts: loops, laid.
  DERIVED. THE GIVEN ROWS OF THIS SEAT. 5 by the template 'for every input the law returns true; each argument reads behind the call as it read before'; 0 by the template 'total and deterministic' (their statements: YtmgodamdpemmhaaGreatDoorTotals.lean).
  GIVEN WITH THE SEED: the statements are not yours to turn. If you find one false, say at which input.
  Laid BY PROGRAM, IN A SANDBOX (cutbox-rows.mjs): the forced cells as the released guide's own fill.sh prints them over the translation 4b794028e0706205… (all of the seat's roots in one cut). By AI agents, Wed Nov 11 2026. No macro, syntax, notation, axiom, sorry.
-/
import Derived.Test.YtmgodamdpemmhaaGreatDoorChecked
import GoSem.PinnedTables
import GoSem.Claim
import GoSem.ClaimJoined
import GoSem.ClaimMapViews
import Derived.JoinedTies
import Derived.KernelRfl
namespace Go.Proofs.YtmgodamdpemmhaaGreatDoor
/- THE CELL 'sum', in the pinned program and in every row, IS THE sha256 OF THE DUMP (.gsa) THAT YtmgodamdpemmhaaGreatDoorProg.lean LOADS. Nothing in Lean hashes anything: it is a label: what it is worth is what the hold of that sum in a sandbox is worth. -/
noncomputable def Tryz.pinned : Pinned := { name := "ytmgodamdpemmhaagreatdoor", sum := "4b794028e0706205a9b7245537515ae6ac09a4886e03a8621a6934d1e368778a", checked := Tryz.checked }
namespace Rows
def none {H : Type} : Left H := { results := [], args := [] }

/- WHAT THE LISTED PACKAGE-LEVEL VARIABLES READ AS WHEN THE CALL BEGINS. Each datum BY PROGRAM (the guide's laid-datum.mjs) off the statement by which the dump's own 'gosem.cut.vars' lays the variable. In a bare row this is a premise. The card (YtmgodamdpemmhaaGreatDoorCards.lean) ties it to the program's text. -/
def laid_unicode_utf8_acceptRanges {H : Type} : DataW H := .agg [.agg [.lit (.int .u8 128), .lit (.int .u8 191)], .agg [.lit (.int .u8 160), .lit (.int .u8 191)], .agg [.lit (.int .u8 128), .lit (.int .u8 159)], .agg [.lit (.int .u8 144), .lit (.int .u8 191)], .agg [.lit (.int .u8 128), .lit (.int .u8 143)], .agg [.lit (.int .u8 0), .lit (.int .u8 0)], .agg [.lit (.int .u8 0), .lit (.int .u8 0)], .agg [.lit (.int .u8 0), .lit (.int .u8 0)], .agg [.lit (.int .u8 0), .lit (.int .u8 0)], .agg [.lit (.int .u8 0), .lit (.int .u8 0)], .agg [.lit (.int .u8 0), .lit (.int .u8 0)], .agg [.lit (.int .u8 0), .lit (.int .u8 0)], .agg [.lit (.int .u8 0), .lit (.int .u8 0)], .agg [.lit (.int .u8 0), .lit (.int .u8 0)], .agg [.lit (.int .u8 0), .lit (.int .u8 0)], .agg [.lit (.int .u8 0), .lit (.int .u8 0)]]
def laid_hoarding_schema_rows {H : Type} : DataW H := .agg [.agg [.lit (.string [68, 105, 115, 107]), .agg [.lit (.string [83, 105, 122, 101]), .lit (.int .i8 2), .lit (.bool false)]], .agg [.lit (.string [68, 105, 115, 107]), .agg [.lit (.string [84, 97, 103, 115]), .lit (.int .i8 4), .lit (.bool false)]], .agg [.lit (.string [68, 105, 115, 107]), .agg [.lit (.string [75, 105, 110, 100]), .lit (.int .i8 3), .lit (.bool true)]], .agg [.lit (.string [78, 101, 116]), .agg [.lit (.string [76, 97, 98, 101, 108]), .lit (.int .i8 3), .lit (.bool false)]], .agg [.lit (.string [78, 101, 116]), .agg [.lit (.string [82, 97, 110, 103, 101]), .lit (.int .i8 3), .lit (.bool true)]], .agg [.lit (.string [78, 111, 100, 101]), .agg [.lit (.string [67, 111, 117, 110, 116]), .lit (.int .i8 2), .lit (.bool false)]], .agg [.lit (.string [78, 111, 100, 101]), .agg [.lit (.string [68, 105, 115, 107]), .lit (.int .i8 3), .lit (.bool false)]], .agg [.lit (.string [78, 111, 100, 101]), .agg [.lit (.string [73, 109, 97, 103, 101]), .lit (.int .i8 3), .lit (.bool true)]], .agg [.lit (.string [78, 111, 100, 101]), .agg [.lit (.string [78, 101, 116]), .lit (.int .i8 3), .lit (.bool true)]], .agg [.lit (.string [82, 117, 108, 101]), .agg [.lit (.string [78, 111, 100, 101]), .lit (.int .i8 3), .lit (.bool false)]], .agg [.lit (.string [82, 117, 108, 101]), .agg [.lit (.string [80, 111, 114, 116]), .lit (.int .i8 2), .lit (.bool true)]]]
/-- One of Go's own tables, pinned by name: the form's constant. -/
def laid_unicode_utf8_first : DataW Unit := Go.Pinned.utf8First

/-- 'hoardinglaw09.SchemaTells': WHATEVER THE INPUT: true; the input reads as it did. -/
def schemaTellsSpec : ChangeSpec := { name := "schemaTells", fn := fun _ => fun
  | [d1, d2, d3, d4, d5] => { results := [.lit (.bool true)], args := [d1, d2, d3, d4, d5] }
  | _ => none }
def schemaTellsRow : OpenClaim := { program := "ytmgodamdpemmhaagreatdoor", sum := "4b794028e0706205a9b7245537515ae6ac09a4886e03a8621a6934d1e368778a", func := "hoarding/hoardinglaw09.SchemaTells", spec := "schemaTells", inPlace := ["internal/bytealg.abigen_runtime_cmpstring"], unfollowed := true, recurses := true, named := ["hoarding/schema.rows", "unicode/utf8.first", "unicode/utf8.acceptRanges"], loops := true, apart := false, laid := [("unicode/utf8.acceptRanges", laid_unicode_utf8_acceptRanges), ("hoarding/schema.rows", laid_hoarding_schema_rows), ("unicode/utf8.first", laid_unicode_utf8_first)] }
def SchemaTellsSaid : Prop := schemaTellsRow.holds Tryz.pinned (OpenSpec.ofChange schemaTellsSpec)

/-- ITS FALSE NEIGHBOUR: 'it returns false'. Refute it at one input. -/
def schemaTellsWrong : ChangeSpec := { name := "schemaTells", fn := fun _ => fun
  | [d1, d2, d3, d4, d5] => { results := [.lit (.bool false)], args := [d1, d2, d3, d4, d5] }
  | _ => none }
def SchemaTellsWrongFalsely : Prop := schemaTellsRow.holds Tryz.pinned (OpenSpec.ofChange schemaTellsWrong)

/-- 'hoardinglaw09.SchemaAttrs': WHATEVER THE INPUT: true; the input reads as it did. -/
def schemaAttrsSpec : ChangeSpec := { name := "schemaAttrs", fn := fun _ => fun
  | [d1, d2, d3, d4] => { results := [.lit (.bool true)], args := [d1, d2, d3, d4] }
  | _ => none }
def schemaAttrsRow : OpenClaim := { program := "ytmgodamdpemmhaagreatdoor", sum := "4b794028e0706205a9b7245537515ae6ac09a4886e03a8621a6934d1e368778a", func := "hoarding/hoardinglaw09.SchemaAttrs", spec := "schemaAttrs", inPlace := ["internal/bytealg.abigen_runtime_cmpstring"], unfollowed := true, recurses := true, named := ["hoarding/schema.rows", "unicode/utf8.first", "unicode/utf8.acceptRanges"], apart := false, laid := [("unicode/utf8.acceptRanges", laid_unicode_utf8_acceptRanges), ("hoarding/schema.rows", laid_hoarding_schema_rows), ("unicode/utf8.first", laid_unicode_utf8_first)] }
def SchemaAttrsSaid : Prop := schemaAttrsRow.holds Tryz.pinned (OpenSpec.ofChange schemaAttrsSpec)

/-- ITS FALSE NEIGHBOUR: 'it returns false'. Refute it at one input. -/
def schemaAttrsWrong : ChangeSpec := { name := "schemaAttrs", fn := fun _ => fun
  | [d1, d2, d3, d4] => { results := [.lit (.bool false)], args := [d1, d2, d3, d4] }
  | _ => none }
def SchemaAttrsWrongFalsely : Prop := schemaAttrsRow.holds Tryz.pinned (OpenSpec.ofChange schemaAttrsWrong)

/-- 'hoardinglaw09.SchemaNone': WHATEVER THE INPUT: true; the input reads as it did. -/
def schemaNoneSpec : ChangeSpec := { name := "schemaNone", fn := fun _ => fun
  | [d1, d2, d3] => { results := [.lit (.bool true)], args := [d1, d2, d3] }
  | _ => none }
def schemaNoneRow : OpenClaim := { program := "ytmgodamdpemmhaagreatdoor", sum := "4b794028e0706205a9b7245537515ae6ac09a4886e03a8621a6934d1e368778a", func := "hoarding/hoardinglaw09.SchemaNone", spec := "schemaNone", inPlace := ["internal/bytealg.abigen_runtime_cmpstring"], unfollowed := true, recurses := true, named := ["hoarding/schema.rows", "unicode/utf8.first", "unicode/utf8.acceptRanges"], loops := true, apart := false, laid := [("unicode/utf8.acceptRanges", laid_unicode_utf8_acceptRanges), ("hoarding/schema.rows", laid_hoarding_schema_rows), ("unicode/utf8.first", laid_unicode_utf8_first)] }
def SchemaNoneSaid : Prop := schemaNoneRow.holds Tryz.pinned (OpenSpec.ofChange schemaNoneSpec)

/-- ITS FALSE NEIGHBOUR: 'it returns false'. Refute it at one input. -/
def schemaNoneWrong : ChangeSpec := { name := "schemaNone", fn := fun _ => fun
  | [d1, d2, d3] => { results := [.lit (.bool false)], args := [d1, d2, d3] }
  | _ => none }
def SchemaNoneWrongFalsely : Prop := schemaNoneRow.holds Tryz.pinned (OpenSpec.ofChange schemaNoneWrong)

/-- 'hoardinglaw09.SchemaKnown': WHATEVER THE INPUT: true; the input reads as it did. -/
def schemaKnownSpec : ChangeSpec := { name := "schemaKnown", fn := fun _ => fun
  | [d1, d2, d3, d4, d5] => { results := [.lit (.bool true)], args := [d1, d2, d3, d4, d5] }
  | _ => none }
def schemaKnownRow : OpenClaim := { program := "ytmgodamdpemmhaagreatdoor", sum := "4b794028e0706205a9b7245537515ae6ac09a4886e03a8621a6934d1e368778a", func := "hoarding/hoardinglaw09.SchemaKnown", spec := "schemaKnown", inPlace := ["internal/bytealg.abigen_runtime_cmpstring"], unfollowed := true, recurses := true, named := ["hoarding/schema.rows", "unicode/utf8.first", "unicode/utf8.acceptRanges"], loops := true, apart := false, laid := [("unicode/utf8.acceptRanges", laid_unicode_utf8_acceptRanges), ("hoarding/schema.rows", laid_hoarding_schema_rows), ("unicode/utf8.first", laid_unicode_utf8_first)] }
def SchemaKnownSaid : Prop := schemaKnownRow.holds Tryz.pinned (OpenSpec.ofChange schemaKnownSpec)

/-- ITS FALSE NEIGHBOUR: 'it returns false'. Refute it at one input. -/
def schemaKnownWrong : ChangeSpec := { name := "schemaKnown", fn := fun _ => fun
  | [d1, d2, d3, d4, d5] => { results := [.lit (.bool false)], args := [d1, d2, d3, d4, d5] }
  | _ => none }
def SchemaKnownWrongFalsely : Prop := schemaKnownRow.holds Tryz.pinned (OpenSpec.ofChange schemaKnownWrong)

/-- 'hoardinglaw09.SchemaParts': WHATEVER THE INPUT: true; the input reads as it did. -/
def schemaPartsSpec : ChangeSpec := { name := "schemaParts", fn := fun _ => fun
  | [d1, d2] => { results := [.lit (.bool true)], args := [d1, d2] }
  | _ => none }
def schemaPartsRow : OpenClaim := { program := "ytmgodamdpemmhaagreatdoor", sum := "4b794028e0706205a9b7245537515ae6ac09a4886e03a8621a6934d1e368778a", func := "hoarding/hoardinglaw09.SchemaParts", spec := "schemaParts", inPlace := ["internal/bytealg.abigen_runtime_cmpstring"], unfollowed := true, recurses := true, named := ["hoarding/schema.rows", "unicode/utf8.first", "unicode/utf8.acceptRanges"], loops := true, apart := false, laid := [("unicode/utf8.acceptRanges", laid_unicode_utf8_acceptRanges), ("hoarding/schema.rows", laid_hoarding_schema_rows), ("unicode/utf8.first", laid_unicode_utf8_first)] }
def SchemaPartsSaid : Prop := schemaPartsRow.holds Tryz.pinned (OpenSpec.ofChange schemaPartsSpec)

/-- ITS FALSE NEIGHBOUR: 'it returns false'. Refute it at one input. -/
def schemaPartsWrong : ChangeSpec := { name := "schemaParts", fn := fun _ => fun
  | [d1, d2] => { results := [.lit (.bool false)], args := [d1, d2] }
  | _ => none }
def SchemaPartsWrongFalsely : Prop := schemaPartsRow.holds Tryz.pinned (OpenSpec.ofChange schemaPartsWrong)

/- THE SECOND FORM. 'bulk': how many values and letters a reading holds, each counted each time it is reached (what is shared counts as often as it is met; a slice's spare places count too). A statement '..UptoSaid' is the law's where the arguments, and the package variables that the reading takes, are together of bulk at most 1048576: NARROWER than '..Said'. Prove '..Said' where nothing that the law and all that it calls make is longer than what came in: it says more and counts as full. Else prove '..UptoSaid'. A law counts once. -/
mutual
def uptoBulk {H : Type} : DataW H → Nat
  | .lit (.string bytes) => bytes.length + 1
  | .lit _ => 1
  | .nil => 1
  | .ptr d => uptoBulk d + 1
  | .slice elems spare => uptoBulkAll elems + uptoBulkAll spare + 1
  | .agg parts => uptoBulkAll parts + 1
  | .iface _ d => uptoBulk d + 1
  | .map entries => uptoBulkEntries entries + 1
  | .held _ => 1
def uptoBulkAll {H : Type} : List (DataW H) → Nat
  | [] => 0
  | d :: r => uptoBulk d + uptoBulkAll r
def uptoBulkEntries {H : Type} : List (Lit × DataW H) → Nat
  | [] => 0
  | x :: r => uptoBulkEntry x + uptoBulkEntries r
def uptoBulkEntry {H : Type} : Lit × DataW H → Nat
  | (.string bytes, d) => bytes.length + uptoBulk d + 1
  | (_, d) => uptoBulk d + 1
 end
def uptoSmall : (H : Type) → List (DataW H) → Bool := fun _ ds => decide (uptoBulkAll ds ≤ 1048576)
def OpenSpec.upto (s : _root_.Go.ChangeSpec) : _root_.Go.OpenSpec := { _root_.Go.OpenSpec.ofChange s with cond := some uptoSmall }

/-- 'hoardinglaw09.SchemaTells', WHERE WHAT IT READS IS OF BULK AT MOST 1048576: true; the input reads as it did. -/
def schemaTellsUptoRow : OpenClaim := { program := "ytmgodamdpemmhaagreatdoor", sum := "4b794028e0706205a9b7245537515ae6ac09a4886e03a8621a6934d1e368778a", func := "hoarding/hoardinglaw09.SchemaTells", spec := "schemaTells", inPlace := ["internal/bytealg.abigen_runtime_cmpstring"], unfollowed := true, recurses := true, named := ["hoarding/schema.rows", "unicode/utf8.first", "unicode/utf8.acceptRanges"], loops := true, apart := false, laid := [("unicode/utf8.acceptRanges", laid_unicode_utf8_acceptRanges), ("hoarding/schema.rows", laid_hoarding_schema_rows), ("unicode/utf8.first", laid_unicode_utf8_first)], narrowed := true }
def SchemaTellsUptoSaid : Prop := schemaTellsUptoRow.holds Tryz.pinned (OpenSpec.upto schemaTellsSpec)

/-- 'hoardinglaw09.SchemaAttrs', WHERE WHAT IT READS IS OF BULK AT MOST 1048576: true; the input reads as it did. -/
def schemaAttrsUptoRow : OpenClaim := { program := "ytmgodamdpemmhaagreatdoor", sum := "4b794028e0706205a9b7245537515ae6ac09a4886e03a8621a6934d1e368778a", func := "hoarding/hoardinglaw09.SchemaAttrs", spec := "schemaAttrs", inPlace := ["internal/bytealg.abigen_runtime_cmpstring"], unfollowed := true, recurses := true, named := ["hoarding/schema.rows", "unicode/utf8.first", "unicode/utf8.acceptRanges"], apart := false, laid := [("unicode/utf8.acceptRanges", laid_unicode_utf8_acceptRanges), ("hoarding/schema.rows", laid_hoarding_schema_rows), ("unicode/utf8.first", laid_unicode_utf8_first)], narrowed := true }
def SchemaAttrsUptoSaid : Prop := schemaAttrsUptoRow.holds Tryz.pinned (OpenSpec.upto schemaAttrsSpec)

/-- 'hoardinglaw09.SchemaNone', WHERE WHAT IT READS IS OF BULK AT MOST 1048576: true; the input reads as it did. -/
def schemaNoneUptoRow : OpenClaim := { program := "ytmgodamdpemmhaagreatdoor", sum := "4b794028e0706205a9b7245537515ae6ac09a4886e03a8621a6934d1e368778a", func := "hoarding/hoardinglaw09.SchemaNone", spec := "schemaNone", inPlace := ["internal/bytealg.abigen_runtime_cmpstring"], unfollowed := true, recurses := true, named := ["hoarding/schema.rows", "unicode/utf8.first", "unicode/utf8.acceptRanges"], loops := true, apart := false, laid := [("unicode/utf8.acceptRanges", laid_unicode_utf8_acceptRanges), ("hoarding/schema.rows", laid_hoarding_schema_rows), ("unicode/utf8.first", laid_unicode_utf8_first)], narrowed := true }
def SchemaNoneUptoSaid : Prop := schemaNoneUptoRow.holds Tryz.pinned (OpenSpec.upto schemaNoneSpec)

/-- 'hoardinglaw09.SchemaKnown', WHERE WHAT IT READS IS OF BULK AT MOST 1048576: true; the input reads as it did. -/
def schemaKnownUptoRow : OpenClaim := { program := "ytmgodamdpemmhaagreatdoor", sum := "4b794028e0706205a9b7245537515ae6ac09a4886e03a8621a6934d1e368778a", func := "hoarding/hoardinglaw09.SchemaKnown", spec := "schemaKnown", inPlace := ["internal/bytealg.abigen_runtime_cmpstring"], unfollowed := true, recurses := true, named := ["hoarding/schema.rows", "unicode/utf8.first", "unicode/utf8.acceptRanges"], loops := true, apart := false, laid := [("unicode/utf8.acceptRanges", laid_unicode_utf8_acceptRanges), ("hoarding/schema.rows", laid_hoarding_schema_rows), ("unicode/utf8.first", laid_unicode_utf8_first)], narrowed := true }
def SchemaKnownUptoSaid : Prop := schemaKnownUptoRow.holds Tryz.pinned (OpenSpec.upto schemaKnownSpec)

/-- 'hoardinglaw09.SchemaParts', WHERE WHAT IT READS IS OF BULK AT MOST 1048576: true; the input reads as it did. -/
def schemaPartsUptoRow : OpenClaim := { program := "ytmgodamdpemmhaagreatdoor", sum := "4b794028e0706205a9b7245537515ae6ac09a4886e03a8621a6934d1e368778a", func := "hoarding/hoardinglaw09.SchemaParts", spec := "schemaParts", inPlace := ["internal/bytealg.abigen_runtime_cmpstring"], unfollowed := true, recurses := true, named := ["hoarding/schema.rows", "unicode/utf8.first", "unicode/utf8.acceptRanges"], loops := true, apart := false, laid := [("unicode/utf8.acceptRanges", laid_unicode_utf8_acceptRanges), ("hoarding/schema.rows", laid_hoarding_schema_rows), ("unicode/utf8.first", laid_unicode_utf8_first)], narrowed := true }
def SchemaPartsUptoSaid : Prop := schemaPartsUptoRow.holds Tryz.pinned (OpenSpec.upto schemaPartsSpec)

end Rows
end Go.Proofs.YtmgodamdpemmhaaGreatDoor
