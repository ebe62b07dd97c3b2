/-
  NARROWER THAN 'FOR EVERY INPUT', by the rows' own cells (each row's printed sentence says how): CloudPlays: loops, laid · CloudOnce: loops, laid · CloudAnswers: loops, laid · CloudBooks: loops, laid · CloudBad: loops, laid · CloudNil: loops, laid · CloudTurned: loops, laid.
  DERIVED. THE GIVEN ROWS OF THIS SEAT. 7 by the template 'for every input the law returns true; each argument reads behind the call as it read before'; 0 by the template 'total and deterministic' (their statements: YtkigeegahepnaaaGreatDoorTotals.lean).
  GIVEN WITH THE SEED: the statements are not yours to turn. If you find one false, say at which input.
  Laid BY PROGRAM, IN A SANDBOX (cutbox-rows.mjs): the forced cells as the released guide's own fill.sh prints them over the translation 58a6b56155404e7c… (all of the seat's roots in one cut). By AI agents, Wed Nov 11 2026. No macro, syntax, notation, axiom, sorry.
-/
import Derived.Test.YtkigeegahepnaaaGreatDoorChecked
import GoSem.PinnedTables
import GoSem.Claim
import GoSem.ClaimJoined
import GoSem.ClaimMapViews
import Derived.JoinedTies
import Derived.KernelRfl
namespace Go.Proofs.YtkigeegahepnaaaGreatDoor
/- THE CELL 'sum', in the pinned program and in every row, IS THE sha256 OF THE DUMP (.gsa) THAT YtkigeegahepnaaaGreatDoorProg.lean LOADS. Nothing in Lean hashes anything: it is a label: what it is worth is what the hold of that sum in a sandbox is worth. -/
noncomputable def Tryz.pinned : Pinned := { name := "ytkigeegahepnaaagreatdoor", sum := "58a6b56155404e7c910203fb42db68e38d89e1284562d0ba0ef1a5316e2eed5b", checked := Tryz.checked }
namespace Rows
def none {H : Type} : Left H := { results := [], args := [] }

/- WHAT THE LISTED PACKAGE-LEVEL VARIABLES READ AS WHEN THE CALL BEGINS. Each datum BY PROGRAM (the guide's laid-datum.mjs) off the statement by which the dump's own 'gosem.cut.vars' lays the variable. In a bare row this is a premise. The card (YtkigeegahepnaaaGreatDoorCards.lean) ties it to the program's text. -/
def laid_unicode_utf8_acceptRanges {H : Type} : DataW H := .agg [.agg [.lit (.int .u8 128), .lit (.int .u8 191)], .agg [.lit (.int .u8 160), .lit (.int .u8 191)], .agg [.lit (.int .u8 128), .lit (.int .u8 159)], .agg [.lit (.int .u8 144), .lit (.int .u8 191)], .agg [.lit (.int .u8 128), .lit (.int .u8 143)], .agg [.lit (.int .u8 0), .lit (.int .u8 0)], .agg [.lit (.int .u8 0), .lit (.int .u8 0)], .agg [.lit (.int .u8 0), .lit (.int .u8 0)], .agg [.lit (.int .u8 0), .lit (.int .u8 0)], .agg [.lit (.int .u8 0), .lit (.int .u8 0)], .agg [.lit (.int .u8 0), .lit (.int .u8 0)], .agg [.lit (.int .u8 0), .lit (.int .u8 0)], .agg [.lit (.int .u8 0), .lit (.int .u8 0)], .agg [.lit (.int .u8 0), .lit (.int .u8 0)], .agg [.lit (.int .u8 0), .lit (.int .u8 0)], .agg [.lit (.int .u8 0), .lit (.int .u8 0)]]
def laid_hoarding_schema_rows {H : Type} : DataW H := .agg [.agg [.lit (.string [68, 105, 115, 107]), .agg [.lit (.string [83, 105, 122, 101]), .lit (.int .i8 2), .lit (.bool false)]], .agg [.lit (.string [68, 105, 115, 107]), .agg [.lit (.string [84, 97, 103, 115]), .lit (.int .i8 4), .lit (.bool false)]], .agg [.lit (.string [68, 105, 115, 107]), .agg [.lit (.string [75, 105, 110, 100]), .lit (.int .i8 3), .lit (.bool true)]], .agg [.lit (.string [78, 101, 116]), .agg [.lit (.string [76, 97, 98, 101, 108]), .lit (.int .i8 3), .lit (.bool false)]], .agg [.lit (.string [78, 101, 116]), .agg [.lit (.string [82, 97, 110, 103, 101]), .lit (.int .i8 3), .lit (.bool true)]], .agg [.lit (.string [78, 111, 100, 101]), .agg [.lit (.string [67, 111, 117, 110, 116]), .lit (.int .i8 2), .lit (.bool false)]], .agg [.lit (.string [78, 111, 100, 101]), .agg [.lit (.string [68, 105, 115, 107]), .lit (.int .i8 3), .lit (.bool false)]], .agg [.lit (.string [78, 111, 100, 101]), .agg [.lit (.string [73, 109, 97, 103, 101]), .lit (.int .i8 3), .lit (.bool true)]], .agg [.lit (.string [78, 111, 100, 101]), .agg [.lit (.string [78, 101, 116]), .lit (.int .i8 3), .lit (.bool true)]], .agg [.lit (.string [82, 117, 108, 101]), .agg [.lit (.string [78, 111, 100, 101]), .lit (.int .i8 3), .lit (.bool false)]], .agg [.lit (.string [82, 117, 108, 101]), .agg [.lit (.string [80, 111, 114, 116]), .lit (.int .i8 2), .lit (.bool true)]]]
/-- One of Go's own tables, pinned by name: the form's constant. -/
def laid_unicode_utf8_first : DataW Unit := Go.Pinned.utf8First

/-- 'hoardinglaw11.CloudPlays': WHATEVER THE INPUT: true; the input reads as it did. -/
def cloudPlaysSpec : ChangeSpec := { name := "cloudPlays", fn := fun _ => fun
  | [d] => { results := [.lit (.bool true)], args := [d] }
  | _ => none }
def cloudPlaysRow : OpenClaim := { program := "ytkigeegahepnaaagreatdoor", sum := "58a6b56155404e7c910203fb42db68e38d89e1284562d0ba0ef1a5316e2eed5b", func := "hoarding/hoardinglaw11.CloudPlays", spec := "cloudPlays", inPlace := ["internal/bytealg.IndexByteString", "internal/bytealg.abigen_runtime_cmpstring"], unfollowed := true, recurses := true, named := ["hoarding/schema.rows", "unicode/utf8.first", "unicode/utf8.acceptRanges"], loops := true, apart := false, laid := [("unicode/utf8.acceptRanges", laid_unicode_utf8_acceptRanges), ("hoarding/schema.rows", laid_hoarding_schema_rows), ("unicode/utf8.first", laid_unicode_utf8_first)] }
def CloudPlaysSaid : Prop := cloudPlaysRow.holds Tryz.pinned (OpenSpec.ofChange cloudPlaysSpec)

/-- ITS FALSE NEIGHBOUR: 'it returns false'. Refute it at one input. -/
def cloudPlaysWrong : ChangeSpec := { name := "cloudPlays", fn := fun _ => fun
  | [d] => { results := [.lit (.bool false)], args := [d] }
  | _ => none }
def CloudPlaysWrongFalsely : Prop := cloudPlaysRow.holds Tryz.pinned (OpenSpec.ofChange cloudPlaysWrong)

/-- 'hoardinglaw11.CloudOnce': WHATEVER THE INPUT: true; the input reads as it did. -/
def cloudOnceSpec : ChangeSpec := { name := "cloudOnce", fn := fun _ => fun
  | [d1, d2] => { results := [.lit (.bool true)], args := [d1, d2] }
  | _ => none }
def cloudOnceRow : OpenClaim := { program := "ytkigeegahepnaaagreatdoor", sum := "58a6b56155404e7c910203fb42db68e38d89e1284562d0ba0ef1a5316e2eed5b", func := "hoarding/hoardinglaw11.CloudOnce", spec := "cloudOnce", inPlace := ["internal/bytealg.IndexByteString", "internal/bytealg.abigen_runtime_cmpstring"], unfollowed := true, recurses := true, named := ["hoarding/schema.rows", "unicode/utf8.first", "unicode/utf8.acceptRanges"], loops := true, apart := false, laid := [("unicode/utf8.acceptRanges", laid_unicode_utf8_acceptRanges), ("hoarding/schema.rows", laid_hoarding_schema_rows), ("unicode/utf8.first", laid_unicode_utf8_first)] }
def CloudOnceSaid : Prop := cloudOnceRow.holds Tryz.pinned (OpenSpec.ofChange cloudOnceSpec)

/-- ITS FALSE NEIGHBOUR: 'it returns false'. Refute it at one input. -/
def cloudOnceWrong : ChangeSpec := { name := "cloudOnce", fn := fun _ => fun
  | [d1, d2] => { results := [.lit (.bool false)], args := [d1, d2] }
  | _ => none }
def CloudOnceWrongFalsely : Prop := cloudOnceRow.holds Tryz.pinned (OpenSpec.ofChange cloudOnceWrong)

/-- 'hoardinglaw11.CloudAnswers': WHATEVER THE INPUT: true; the input reads as it did. -/
def cloudAnswersSpec : ChangeSpec := { name := "cloudAnswers", fn := fun _ => fun
  | [d] => { results := [.lit (.bool true)], args := [d] }
  | _ => none }
def cloudAnswersRow : OpenClaim := { program := "ytkigeegahepnaaagreatdoor", sum := "58a6b56155404e7c910203fb42db68e38d89e1284562d0ba0ef1a5316e2eed5b", func := "hoarding/hoardinglaw11.CloudAnswers", spec := "cloudAnswers", inPlace := ["internal/bytealg.IndexByteString", "internal/bytealg.abigen_runtime_cmpstring"], unfollowed := true, recurses := true, named := ["hoarding/schema.rows", "unicode/utf8.first", "unicode/utf8.acceptRanges"], loops := true, apart := false, laid := [("unicode/utf8.acceptRanges", laid_unicode_utf8_acceptRanges), ("hoarding/schema.rows", laid_hoarding_schema_rows), ("unicode/utf8.first", laid_unicode_utf8_first)] }
def CloudAnswersSaid : Prop := cloudAnswersRow.holds Tryz.pinned (OpenSpec.ofChange cloudAnswersSpec)

/-- ITS FALSE NEIGHBOUR: 'it returns false'. Refute it at one input. -/
def cloudAnswersWrong : ChangeSpec := { name := "cloudAnswers", fn := fun _ => fun
  | [d] => { results := [.lit (.bool false)], args := [d] }
  | _ => none }
def CloudAnswersWrongFalsely : Prop := cloudAnswersRow.holds Tryz.pinned (OpenSpec.ofChange cloudAnswersWrong)

/-- 'hoardinglaw11.CloudBooks': WHATEVER THE INPUT: true; the input reads as it did. -/
def cloudBooksSpec : ChangeSpec := { name := "cloudBooks", fn := fun _ => fun
  | [d] => { results := [.lit (.bool true)], args := [d] }
  | _ => none }
def cloudBooksRow : OpenClaim := { program := "ytkigeegahepnaaagreatdoor", sum := "58a6b56155404e7c910203fb42db68e38d89e1284562d0ba0ef1a5316e2eed5b", func := "hoarding/hoardinglaw11.CloudBooks", spec := "cloudBooks", inPlace := ["internal/bytealg.IndexByteString", "internal/bytealg.abigen_runtime_cmpstring"], unfollowed := true, recurses := true, named := ["hoarding/schema.rows", "unicode/utf8.first", "unicode/utf8.acceptRanges"], loops := true, apart := false, laid := [("unicode/utf8.acceptRanges", laid_unicode_utf8_acceptRanges), ("hoarding/schema.rows", laid_hoarding_schema_rows), ("unicode/utf8.first", laid_unicode_utf8_first)] }
def CloudBooksSaid : Prop := cloudBooksRow.holds Tryz.pinned (OpenSpec.ofChange cloudBooksSpec)

/-- ITS FALSE NEIGHBOUR: 'it returns false'. Refute it at one input. -/
def cloudBooksWrong : ChangeSpec := { name := "cloudBooks", fn := fun _ => fun
  | [d] => { results := [.lit (.bool false)], args := [d] }
  | _ => none }
def CloudBooksWrongFalsely : Prop := cloudBooksRow.holds Tryz.pinned (OpenSpec.ofChange cloudBooksWrong)

/-- 'hoardinglaw11.CloudBad': WHATEVER THE INPUT: true; the input reads as it did. -/
def cloudBadSpec : ChangeSpec := { name := "cloudBad", fn := fun _ => fun
  | [d1, d2] => { results := [.lit (.bool true)], args := [d1, d2] }
  | _ => none }
def cloudBadRow : OpenClaim := { program := "ytkigeegahepnaaagreatdoor", sum := "58a6b56155404e7c910203fb42db68e38d89e1284562d0ba0ef1a5316e2eed5b", func := "hoarding/hoardinglaw11.CloudBad", spec := "cloudBad", inPlace := ["internal/bytealg.IndexByteString", "internal/bytealg.abigen_runtime_cmpstring"], unfollowed := true, recurses := true, named := ["hoarding/schema.rows", "unicode/utf8.first", "unicode/utf8.acceptRanges"], loops := true, apart := false, laid := [("unicode/utf8.acceptRanges", laid_unicode_utf8_acceptRanges), ("hoarding/schema.rows", laid_hoarding_schema_rows), ("unicode/utf8.first", laid_unicode_utf8_first)] }
def CloudBadSaid : Prop := cloudBadRow.holds Tryz.pinned (OpenSpec.ofChange cloudBadSpec)

/-- ITS FALSE NEIGHBOUR: 'it returns false'. Refute it at one input. -/
def cloudBadWrong : ChangeSpec := { name := "cloudBad", fn := fun _ => fun
  | [d1, d2] => { results := [.lit (.bool false)], args := [d1, d2] }
  | _ => none }
def CloudBadWrongFalsely : Prop := cloudBadRow.holds Tryz.pinned (OpenSpec.ofChange cloudBadWrong)

/-- 'hoardinglaw11.CloudNil': WHATEVER THE INPUT: true; the input reads as it did. -/
def cloudNilSpec : ChangeSpec := { name := "cloudNil", fn := fun _ => fun
  | [d1, d2] => { results := [.lit (.bool true)], args := [d1, d2] }
  | _ => none }
def cloudNilRow : OpenClaim := { program := "ytkigeegahepnaaagreatdoor", sum := "58a6b56155404e7c910203fb42db68e38d89e1284562d0ba0ef1a5316e2eed5b", func := "hoarding/hoardinglaw11.CloudNil", spec := "cloudNil", inPlace := ["internal/bytealg.IndexByteString", "internal/bytealg.abigen_runtime_cmpstring"], unfollowed := true, recurses := true, named := ["hoarding/schema.rows", "unicode/utf8.first", "unicode/utf8.acceptRanges"], loops := true, apart := false, laid := [("unicode/utf8.acceptRanges", laid_unicode_utf8_acceptRanges), ("hoarding/schema.rows", laid_hoarding_schema_rows), ("unicode/utf8.first", laid_unicode_utf8_first)] }
def CloudNilSaid : Prop := cloudNilRow.holds Tryz.pinned (OpenSpec.ofChange cloudNilSpec)

/-- ITS FALSE NEIGHBOUR: 'it returns false'. Refute it at one input. -/
def cloudNilWrong : ChangeSpec := { name := "cloudNil", fn := fun _ => fun
  | [d1, d2] => { results := [.lit (.bool false)], args := [d1, d2] }
  | _ => none }
def CloudNilWrongFalsely : Prop := cloudNilRow.holds Tryz.pinned (OpenSpec.ofChange cloudNilWrong)

/-- 'hoardinglaw11.CloudTurned': WHATEVER THE INPUT: true; the input reads as it did. -/
def cloudTurnedSpec : ChangeSpec := { name := "cloudTurned", fn := fun _ => fun
  | [d1, d2] => { results := [.lit (.bool true)], args := [d1, d2] }
  | _ => none }
def cloudTurnedRow : OpenClaim := { program := "ytkigeegahepnaaagreatdoor", sum := "58a6b56155404e7c910203fb42db68e38d89e1284562d0ba0ef1a5316e2eed5b", func := "hoarding/hoardinglaw11.CloudTurned", spec := "cloudTurned", inPlace := ["internal/bytealg.IndexByteString", "internal/bytealg.abigen_runtime_cmpstring"], unfollowed := true, recurses := true, named := ["hoarding/schema.rows", "unicode/utf8.first", "unicode/utf8.acceptRanges"], loops := true, apart := false, laid := [("unicode/utf8.acceptRanges", laid_unicode_utf8_acceptRanges), ("hoarding/schema.rows", laid_hoarding_schema_rows), ("unicode/utf8.first", laid_unicode_utf8_first)] }
def CloudTurnedSaid : Prop := cloudTurnedRow.holds Tryz.pinned (OpenSpec.ofChange cloudTurnedSpec)

/-- ITS FALSE NEIGHBOUR: 'it returns false'. Refute it at one input. -/
def cloudTurnedWrong : ChangeSpec := { name := "cloudTurned", fn := fun _ => fun
  | [d1, d2] => { results := [.lit (.bool false)], args := [d1, d2] }
  | _ => none }
def CloudTurnedWrongFalsely : Prop := cloudTurnedRow.holds Tryz.pinned (OpenSpec.ofChange cloudTurnedWrong)

/- THE SECOND FORM. 'bulk': how many values and letters a reading holds, each counted each time it is reached (what is shared counts as often as it is met; a slice's spare places count too). A statement '..UptoSaid' is the law's where the arguments, and the package variables that the reading takes, are together of bulk at most 1048576: NARROWER than '..Said'. Prove '..Said' where nothing that the law and all that it calls make is longer than what came in: it says more and counts as full. Else prove '..UptoSaid'. A law counts once. -/
mutual
def uptoBulk {H : Type} : DataW H → Nat
  | .lit (.string bytes) => bytes.length + 1
  | .lit _ => 1
  | .nil => 1
  | .ptr d => uptoBulk d + 1
  | .slice elems spare => uptoBulkAll elems + uptoBulkAll spare + 1
  | .agg parts => uptoBulkAll parts + 1
  | .iface _ d => uptoBulk d + 1
  | .map entries => uptoBulkEntries entries + 1
  | .held _ => 1
def uptoBulkAll {H : Type} : List (DataW H) → Nat
  | [] => 0
  | d :: r => uptoBulk d + uptoBulkAll r
def uptoBulkEntries {H : Type} : List (Lit × DataW H) → Nat
  | [] => 0
  | x :: r => uptoBulkEntry x + uptoBulkEntries r
def uptoBulkEntry {H : Type} : Lit × DataW H → Nat
  | (.string bytes, d) => bytes.length + uptoBulk d + 1
  | (_, d) => uptoBulk d + 1
 end
def uptoSmall : (H : Type) → List (DataW H) → Bool := fun _ ds => decide (uptoBulkAll ds ≤ 1048576)
def OpenSpec.upto (s : _root_.Go.ChangeSpec) : _root_.Go.OpenSpec := { _root_.Go.OpenSpec.ofChange s with cond := some uptoSmall }

/-- 'hoardinglaw11.CloudPlays', WHERE WHAT IT READS IS OF BULK AT MOST 1048576: true; the input reads as it did. -/
def cloudPlaysUptoRow : OpenClaim := { program := "ytkigeegahepnaaagreatdoor", sum := "58a6b56155404e7c910203fb42db68e38d89e1284562d0ba0ef1a5316e2eed5b", func := "hoarding/hoardinglaw11.CloudPlays", spec := "cloudPlays", inPlace := ["internal/bytealg.IndexByteString", "internal/bytealg.abigen_runtime_cmpstring"], unfollowed := true, recurses := true, named := ["hoarding/schema.rows", "unicode/utf8.first", "unicode/utf8.acceptRanges"], loops := true, apart := false, laid := [("unicode/utf8.acceptRanges", laid_unicode_utf8_acceptRanges), ("hoarding/schema.rows", laid_hoarding_schema_rows), ("unicode/utf8.first", laid_unicode_utf8_first)], narrowed := true }
def CloudPlaysUptoSaid : Prop := cloudPlaysUptoRow.holds Tryz.pinned (OpenSpec.upto cloudPlaysSpec)

/-- 'hoardinglaw11.CloudOnce', WHERE WHAT IT READS IS OF BULK AT MOST 1048576: true; the input reads as it did. -/
def cloudOnceUptoRow : OpenClaim := { program := "ytkigeegahepnaaagreatdoor", sum := "58a6b56155404e7c910203fb42db68e38d89e1284562d0ba0ef1a5316e2eed5b", func := "hoarding/hoardinglaw11.CloudOnce", spec := "cloudOnce", inPlace := ["internal/bytealg.IndexByteString", "internal/bytealg.abigen_runtime_cmpstring"], unfollowed := true, recurses := true, named := ["hoarding/schema.rows", "unicode/utf8.first", "unicode/utf8.acceptRanges"], loops := true, apart := false, laid := [("unicode/utf8.acceptRanges", laid_unicode_utf8_acceptRanges), ("hoarding/schema.rows", laid_hoarding_schema_rows), ("unicode/utf8.first", laid_unicode_utf8_first)], narrowed := true }
def CloudOnceUptoSaid : Prop := cloudOnceUptoRow.holds Tryz.pinned (OpenSpec.upto cloudOnceSpec)

/-- 'hoardinglaw11.CloudAnswers', WHERE WHAT IT READS IS OF BULK AT MOST 1048576: true; the input reads as it did. -/
def cloudAnswersUptoRow : OpenClaim := { program := "ytkigeegahepnaaagreatdoor", sum := "58a6b56155404e7c910203fb42db68e38d89e1284562d0ba0ef1a5316e2eed5b", func := "hoarding/hoardinglaw11.CloudAnswers", spec := "cloudAnswers", inPlace := ["internal/bytealg.IndexByteString", "internal/bytealg.abigen_runtime_cmpstring"], unfollowed := true, recurses := true, named := ["hoarding/schema.rows", "unicode/utf8.first", "unicode/utf8.acceptRanges"], loops := true, apart := false, laid := [("unicode/utf8.acceptRanges", laid_unicode_utf8_acceptRanges), ("hoarding/schema.rows", laid_hoarding_schema_rows), ("unicode/utf8.first", laid_unicode_utf8_first)], narrowed := true }
def CloudAnswersUptoSaid : Prop := cloudAnswersUptoRow.holds Tryz.pinned (OpenSpec.upto cloudAnswersSpec)

/-- 'hoardinglaw11.CloudBooks', WHERE WHAT IT READS IS OF BULK AT MOST 1048576: true; the input reads as it did. -/
def cloudBooksUptoRow : OpenClaim := { program := "ytkigeegahepnaaagreatdoor", sum := "58a6b56155404e7c910203fb42db68e38d89e1284562d0ba0ef1a5316e2eed5b", func := "hoarding/hoardinglaw11.CloudBooks", spec := "cloudBooks", inPlace := ["internal/bytealg.IndexByteString", "internal/bytealg.abigen_runtime_cmpstring"], unfollowed := true, recurses := true, named := ["hoarding/schema.rows", "unicode/utf8.first", "unicode/utf8.acceptRanges"], loops := true, apart := false, laid := [("unicode/utf8.acceptRanges", laid_unicode_utf8_acceptRanges), ("hoarding/schema.rows", laid_hoarding_schema_rows), ("unicode/utf8.first", laid_unicode_utf8_first)], narrowed := true }
def CloudBooksUptoSaid : Prop := cloudBooksUptoRow.holds Tryz.pinned (OpenSpec.upto cloudBooksSpec)

/-- 'hoardinglaw11.CloudBad', WHERE WHAT IT READS IS OF BULK AT MOST 1048576: true; the input reads as it did. -/
def cloudBadUptoRow : OpenClaim := { program := "ytkigeegahepnaaagreatdoor", sum := "58a6b56155404e7c910203fb42db68e38d89e1284562d0ba0ef1a5316e2eed5b", func := "hoarding/hoardinglaw11.CloudBad", spec := "cloudBad", inPlace := ["internal/bytealg.IndexByteString", "internal/bytealg.abigen_runtime_cmpstring"], unfollowed := true, recurses := true, named := ["hoarding/schema.rows", "unicode/utf8.first", "unicode/utf8.acceptRanges"], loops := true, apart := false, laid := [("unicode/utf8.acceptRanges", laid_unicode_utf8_acceptRanges), ("hoarding/schema.rows", laid_hoarding_schema_rows), ("unicode/utf8.first", laid_unicode_utf8_first)], narrowed := true }
def CloudBadUptoSaid : Prop := cloudBadUptoRow.holds Tryz.pinned (OpenSpec.upto cloudBadSpec)

/-- 'hoardinglaw11.CloudNil', WHERE WHAT IT READS IS OF BULK AT MOST 1048576: true; the input reads as it did. -/
def cloudNilUptoRow : OpenClaim := { program := "ytkigeegahepnaaagreatdoor", sum := "58a6b56155404e7c910203fb42db68e38d89e1284562d0ba0ef1a5316e2eed5b", func := "hoarding/hoardinglaw11.CloudNil", spec := "cloudNil", inPlace := ["internal/bytealg.IndexByteString", "internal/bytealg.abigen_runtime_cmpstring"], unfollowed := true, recurses := true, named := ["hoarding/schema.rows", "unicode/utf8.first", "unicode/utf8.acceptRanges"], loops := true, apart := false, laid := [("unicode/utf8.acceptRanges", laid_unicode_utf8_acceptRanges), ("hoarding/schema.rows", laid_hoarding_schema_rows), ("unicode/utf8.first", laid_unicode_utf8_first)], narrowed := true }
def CloudNilUptoSaid : Prop := cloudNilUptoRow.holds Tryz.pinned (OpenSpec.upto cloudNilSpec)

/-- 'hoardinglaw11.CloudTurned', WHERE WHAT IT READS IS OF BULK AT MOST 1048576: true; the input reads as it did. -/
def cloudTurnedUptoRow : OpenClaim := { program := "ytkigeegahepnaaagreatdoor", sum := "58a6b56155404e7c910203fb42db68e38d89e1284562d0ba0ef1a5316e2eed5b", func := "hoarding/hoardinglaw11.CloudTurned", spec := "cloudTurned", inPlace := ["internal/bytealg.IndexByteString", "internal/bytealg.abigen_runtime_cmpstring"], unfollowed := true, recurses := true, named := ["hoarding/schema.rows", "unicode/utf8.first", "unicode/utf8.acceptRanges"], loops := true, apart := false, laid := [("unicode/utf8.acceptRanges", laid_unicode_utf8_acceptRanges), ("hoarding/schema.rows", laid_hoarding_schema_rows), ("unicode/utf8.first", laid_unicode_utf8_first)], narrowed := true }
def CloudTurnedUptoSaid : Prop := cloudTurnedUptoRow.holds Tryz.pinned (OpenSpec.upto cloudTurnedSpec)

end Rows
end Go.Proofs.YtkigeegahepnaaaGreatDoor
