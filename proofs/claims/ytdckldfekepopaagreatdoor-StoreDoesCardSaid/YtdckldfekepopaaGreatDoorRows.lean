/-
  NARROWER THAN 'FOR EVERY INPUT', by the rows' own cells (each row's printed sentence says how): StoreDoes: loops, laid · StoreOnce: loops, laid · StoreUndo: loops, laid.
  DERIVED. THE GIVEN ROWS OF THIS SEAT. 3 by the template 'for every input the law returns true; each argument reads behind the call as it read before'; 0 by the template 'total and deterministic' (their statements: YtdckldfekepopaaGreatDoorTotals.lean).
  GIVEN WITH THE SEED: the statements are not yours to turn. If you find one false, say at which input.
  Laid BY PROGRAM, IN A SANDBOX (cutbox-rows.mjs): the forced cells as the released guide's own fill.sh prints them over the translation 06650ef20a842112… (all of the seat's roots in one cut). By AI agents, Wed Nov 11 2026. No macro, syntax, notation, axiom, sorry.
-/
import Derived.Test.YtdckldfekepopaaGreatDoorChecked
import GoSem.PinnedTables
import GoSem.Claim
import GoSem.ClaimJoined
import GoSem.ClaimMapViews
import Derived.JoinedTies
import Derived.KernelRfl
namespace Go.Proofs.YtdckldfekepopaaGreatDoor
/- THE CELL 'sum', in the pinned program and in every row, IS THE sha256 OF THE DUMP (.gsa) THAT YtdckldfekepopaaGreatDoorProg.lean LOADS. Nothing in Lean hashes anything: it is a label: what it is worth is what the hold of that sum in a sandbox is worth. -/
noncomputable def Tryz.pinned : Pinned := { name := "ytdckldfekepopaagreatdoor", sum := "06650ef20a842112e395f89c1da95cc1504a527427da264df719dbd1d4112ab5", checked := Tryz.checked }
namespace Rows
def none {H : Type} : Left H := { results := [], args := [] }

/- WHAT THE LISTED PACKAGE-LEVEL VARIABLES READ AS WHEN THE CALL BEGINS. Each datum BY PROGRAM (the guide's laid-datum.mjs) off the statement by which the dump's own 'gosem.cut.vars' lays the variable. In a bare row this is a premise. The card (YtdckldfekepopaaGreatDoorCards.lean) ties it to the program's text. -/
def laid_unicode_utf8_acceptRanges {H : Type} : DataW H := .agg [.agg [.lit (.int .u8 128), .lit (.int .u8 191)], .agg [.lit (.int .u8 160), .lit (.int .u8 191)], .agg [.lit (.int .u8 128), .lit (.int .u8 159)], .agg [.lit (.int .u8 144), .lit (.int .u8 191)], .agg [.lit (.int .u8 128), .lit (.int .u8 143)], .agg [.lit (.int .u8 0), .lit (.int .u8 0)], .agg [.lit (.int .u8 0), .lit (.int .u8 0)], .agg [.lit (.int .u8 0), .lit (.int .u8 0)], .agg [.lit (.int .u8 0), .lit (.int .u8 0)], .agg [.lit (.int .u8 0), .lit (.int .u8 0)], .agg [.lit (.int .u8 0), .lit (.int .u8 0)], .agg [.lit (.int .u8 0), .lit (.int .u8 0)], .agg [.lit (.int .u8 0), .lit (.int .u8 0)], .agg [.lit (.int .u8 0), .lit (.int .u8 0)], .agg [.lit (.int .u8 0), .lit (.int .u8 0)], .agg [.lit (.int .u8 0), .lit (.int .u8 0)]]
def laid_hoarding_schema_rows {H : Type} : DataW H := .agg [.agg [.lit (.string [68, 105, 115, 107]), .agg [.lit (.string [83, 105, 122, 101]), .lit (.int .i8 2), .lit (.bool false)]], .agg [.lit (.string [68, 105, 115, 107]), .agg [.lit (.string [84, 97, 103, 115]), .lit (.int .i8 4), .lit (.bool false)]], .agg [.lit (.string [68, 105, 115, 107]), .agg [.lit (.string [75, 105, 110, 100]), .lit (.int .i8 3), .lit (.bool true)]], .agg [.lit (.string [78, 101, 116]), .agg [.lit (.string [76, 97, 98, 101, 108]), .lit (.int .i8 3), .lit (.bool false)]], .agg [.lit (.string [78, 101, 116]), .agg [.lit (.string [82, 97, 110, 103, 101]), .lit (.int .i8 3), .lit (.bool true)]], .agg [.lit (.string [78, 111, 100, 101]), .agg [.lit (.string [67, 111, 117, 110, 116]), .lit (.int .i8 2), .lit (.bool false)]], .agg [.lit (.string [78, 111, 100, 101]), .agg [.lit (.string [68, 105, 115, 107]), .lit (.int .i8 3), .lit (.bool false)]], .agg [.lit (.string [78, 111, 100, 101]), .agg [.lit (.string [73, 109, 97, 103, 101]), .lit (.int .i8 3), .lit (.bool true)]], .agg [.lit (.string [78, 111, 100, 101]), .agg [.lit (.string [78, 101, 116]), .lit (.int .i8 3), .lit (.bool true)]], .agg [.lit (.string [82, 117, 108, 101]), .agg [.lit (.string [78, 111, 100, 101]), .lit (.int .i8 3), .lit (.bool false)]], .agg [.lit (.string [82, 117, 108, 101]), .agg [.lit (.string [80, 111, 114, 116]), .lit (.int .i8 2), .lit (.bool true)]]]
/-- One of Go's own tables, pinned by name: the form's constant. -/
def laid_unicode_utf8_first : DataW Unit := Go.Pinned.utf8First

/-- 'hoardinglaw10.StoreDoes': WHATEVER THE INPUT: true; the input reads as it did. -/
def storeDoesSpec : ChangeSpec := { name := "storeDoes", fn := fun _ => fun
  | [d1, d2, d3, d4] => { results := [.lit (.bool true)], args := [d1, d2, d3, d4] }
  | _ => none }
def storeDoesRow : OpenClaim := { program := "ytdckldfekepopaagreatdoor", sum := "06650ef20a842112e395f89c1da95cc1504a527427da264df719dbd1d4112ab5", func := "hoarding/hoardinglaw10.StoreDoes", spec := "storeDoes", inPlace := ["internal/bytealg.IndexByteString", "internal/bytealg.abigen_runtime_cmpstring"], unfollowed := true, recurses := true, named := ["hoarding/schema.rows", "unicode/utf8.first", "unicode/utf8.acceptRanges"], loops := true, apart := false, laid := [("unicode/utf8.acceptRanges", laid_unicode_utf8_acceptRanges), ("hoarding/schema.rows", laid_hoarding_schema_rows), ("unicode/utf8.first", laid_unicode_utf8_first)] }
def StoreDoesSaid : Prop := storeDoesRow.holds Tryz.pinned (OpenSpec.ofChange storeDoesSpec)

/-- ITS FALSE NEIGHBOUR: 'it returns false'. Refute it at one input. -/
def storeDoesWrong : ChangeSpec := { name := "storeDoes", fn := fun _ => fun
  | [d1, d2, d3, d4] => { results := [.lit (.bool false)], args := [d1, d2, d3, d4] }
  | _ => none }
def StoreDoesWrongFalsely : Prop := storeDoesRow.holds Tryz.pinned (OpenSpec.ofChange storeDoesWrong)

/-- 'hoardinglaw10.StoreOnce': WHATEVER THE INPUT: true; the input reads as it did. -/
def storeOnceSpec : ChangeSpec := { name := "storeOnce", fn := fun _ => fun
  | [d] => { results := [.lit (.bool true)], args := [d] }
  | _ => none }
def storeOnceRow : OpenClaim := { program := "ytdckldfekepopaagreatdoor", sum := "06650ef20a842112e395f89c1da95cc1504a527427da264df719dbd1d4112ab5", func := "hoarding/hoardinglaw10.StoreOnce", spec := "storeOnce", inPlace := ["internal/bytealg.IndexByteString", "internal/bytealg.abigen_runtime_cmpstring"], unfollowed := true, recurses := true, named := ["hoarding/schema.rows", "unicode/utf8.first", "unicode/utf8.acceptRanges"], loops := true, apart := false, laid := [("unicode/utf8.acceptRanges", laid_unicode_utf8_acceptRanges), ("hoarding/schema.rows", laid_hoarding_schema_rows), ("unicode/utf8.first", laid_unicode_utf8_first)] }
def StoreOnceSaid : Prop := storeOnceRow.holds Tryz.pinned (OpenSpec.ofChange storeOnceSpec)

/-- ITS FALSE NEIGHBOUR: 'it returns false'. Refute it at one input. -/
def storeOnceWrong : ChangeSpec := { name := "storeOnce", fn := fun _ => fun
  | [d] => { results := [.lit (.bool false)], args := [d] }
  | _ => none }
def StoreOnceWrongFalsely : Prop := storeOnceRow.holds Tryz.pinned (OpenSpec.ofChange storeOnceWrong)

/-- 'hoardinglaw10.StoreUndo': WHATEVER THE INPUT: true; the input reads as it did. -/
def storeUndoSpec : ChangeSpec := { name := "storeUndo", fn := fun _ => fun
  | [d1, d2, d3, d4] => { results := [.lit (.bool true)], args := [d1, d2, d3, d4] }
  | _ => none }
def storeUndoRow : OpenClaim := { program := "ytdckldfekepopaagreatdoor", sum := "06650ef20a842112e395f89c1da95cc1504a527427da264df719dbd1d4112ab5", func := "hoarding/hoardinglaw10.StoreUndo", spec := "storeUndo", inPlace := ["internal/bytealg.IndexByteString", "internal/bytealg.abigen_runtime_cmpstring"], unfollowed := true, recurses := true, named := ["hoarding/schema.rows", "unicode/utf8.first", "unicode/utf8.acceptRanges"], loops := true, apart := false, laid := [("unicode/utf8.acceptRanges", laid_unicode_utf8_acceptRanges), ("hoarding/schema.rows", laid_hoarding_schema_rows), ("unicode/utf8.first", laid_unicode_utf8_first)] }
def StoreUndoSaid : Prop := storeUndoRow.holds Tryz.pinned (OpenSpec.ofChange storeUndoSpec)

/-- ITS FALSE NEIGHBOUR: 'it returns false'. Refute it at one input. -/
def storeUndoWrong : ChangeSpec := { name := "storeUndo", fn := fun _ => fun
  | [d1, d2, d3, d4] => { results := [.lit (.bool false)], args := [d1, d2, d3, d4] }
  | _ => none }
def StoreUndoWrongFalsely : Prop := storeUndoRow.holds Tryz.pinned (OpenSpec.ofChange storeUndoWrong)

/- THE SECOND FORM. 'bulk': how many values and letters a reading holds, each counted each time it is reached (what is shared counts as often as it is met; a slice's spare places count too). A statement '..UptoSaid' is the law's where the arguments, and the package variables that the reading takes, are together of bulk at most 1048576: NARROWER than '..Said'. Prove '..Said' where nothing that the law and all that it calls make is longer than what came in: it says more and counts as full. Else prove '..UptoSaid'. A law counts once. -/
mutual
def uptoBulk {H : Type} : DataW H → Nat
  | .lit (.string bytes) => bytes.length + 1
  | .lit _ => 1
  | .nil => 1
  | .ptr d => uptoBulk d + 1
  | .slice elems spare => uptoBulkAll elems + uptoBulkAll spare + 1
  | .agg parts => uptoBulkAll parts + 1
  | .iface _ d => uptoBulk d + 1
  | .map entries => uptoBulkEntries entries + 1
  | .held _ => 1
def uptoBulkAll {H : Type} : List (DataW H) → Nat
  | [] => 0
  | d :: r => uptoBulk d + uptoBulkAll r
def uptoBulkEntries {H : Type} : List (Lit × DataW H) → Nat
  | [] => 0
  | x :: r => uptoBulkEntry x + uptoBulkEntries r
def uptoBulkEntry {H : Type} : Lit × DataW H → Nat
  | (.string bytes, d) => bytes.length + uptoBulk d + 1
  | (_, d) => uptoBulk d + 1
 end
def uptoSmall : (H : Type) → List (DataW H) → Bool := fun _ ds => decide (uptoBulkAll ds ≤ 1048576)
def OpenSpec.upto (s : _root_.Go.ChangeSpec) : _root_.Go.OpenSpec := { _root_.Go.OpenSpec.ofChange s with cond := some uptoSmall }

/-- 'hoardinglaw10.StoreDoes', WHERE WHAT IT READS IS OF BULK AT MOST 1048576: true; the input reads as it did. -/
def storeDoesUptoRow : OpenClaim := { program := "ytdckldfekepopaagreatdoor", sum := "06650ef20a842112e395f89c1da95cc1504a527427da264df719dbd1d4112ab5", func := "hoarding/hoardinglaw10.StoreDoes", spec := "storeDoes", inPlace := ["internal/bytealg.IndexByteString", "internal/bytealg.abigen_runtime_cmpstring"], unfollowed := true, recurses := true, named := ["hoarding/schema.rows", "unicode/utf8.first", "unicode/utf8.acceptRanges"], loops := true, apart := false, laid := [("unicode/utf8.acceptRanges", laid_unicode_utf8_acceptRanges), ("hoarding/schema.rows", laid_hoarding_schema_rows), ("unicode/utf8.first", laid_unicode_utf8_first)], narrowed := true }
def StoreDoesUptoSaid : Prop := storeDoesUptoRow.holds Tryz.pinned (OpenSpec.upto storeDoesSpec)

/-- 'hoardinglaw10.StoreOnce', WHERE WHAT IT READS IS OF BULK AT MOST 1048576: true; the input reads as it did. -/
def storeOnceUptoRow : OpenClaim := { program := "ytdckldfekepopaagreatdoor", sum := "06650ef20a842112e395f89c1da95cc1504a527427da264df719dbd1d4112ab5", func := "hoarding/hoardinglaw10.StoreOnce", spec := "storeOnce", inPlace := ["internal/bytealg.IndexByteString", "internal/bytealg.abigen_runtime_cmpstring"], unfollowed := true, recurses := true, named := ["hoarding/schema.rows", "unicode/utf8.first", "unicode/utf8.acceptRanges"], loops := true, apart := false, laid := [("unicode/utf8.acceptRanges", laid_unicode_utf8_acceptRanges), ("hoarding/schema.rows", laid_hoarding_schema_rows), ("unicode/utf8.first", laid_unicode_utf8_first)], narrowed := true }
def StoreOnceUptoSaid : Prop := storeOnceUptoRow.holds Tryz.pinned (OpenSpec.upto storeOnceSpec)

/-- 'hoardinglaw10.StoreUndo', WHERE WHAT IT READS IS OF BULK AT MOST 1048576: true; the input reads as it did. -/
def storeUndoUptoRow : OpenClaim := { program := "ytdckldfekepopaagreatdoor", sum := "06650ef20a842112e395f89c1da95cc1504a527427da264df719dbd1d4112ab5", func := "hoarding/hoardinglaw10.StoreUndo", spec := "storeUndo", inPlace := ["internal/bytealg.IndexByteString", "internal/bytealg.abigen_runtime_cmpstring"], unfollowed := true, recurses := true, named := ["hoarding/schema.rows", "unicode/utf8.first", "unicode/utf8.acceptRanges"], loops := true, apart := false, laid := [("unicode/utf8.acceptRanges", laid_unicode_utf8_acceptRanges), ("hoarding/schema.rows", laid_hoarding_schema_rows), ("unicode/utf8.first", laid_unicode_utf8_first)], narrowed := true }
def StoreUndoUptoSaid : Prop := storeUndoUptoRow.holds Tryz.pinned (OpenSpec.upto storeUndoSpec)

end Rows
end Go.Proofs.YtdckldfekepopaaGreatDoor
