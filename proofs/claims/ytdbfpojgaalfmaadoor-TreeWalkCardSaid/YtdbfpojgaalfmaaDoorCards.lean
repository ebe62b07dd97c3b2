/-
  DERIVED. GIVEN WITH THE SEED: THE CARDS: each row of YtdbfpojgaalfmaaDoorRows.lean that lists a variable, with what it lists TIED to the program's text (the seventh form; the later family's looks); each row that meets fmt, with fmt's text TOLD by the authors' own Lean function (tested against real Go, not proved from fmt's source: count such statements apart). THE CARD IS WHAT COUNTS. Prove the row's statement (the work); the ties are given (YtdbfpojgaalfmaaDoorTie.lean); close each card by the builder's one call (the guide's Derived/Test/ToyasCard.lean, 'card_holds'). Laid BY PROGRAM, IN A SANDBOX (cutbox-door.mjs). By AI agents, Wed Nov 11 2026. No macro, syntax, notation, axiom, sorry.
-/
import Derived.Test.YtdbfpojgaalfmaaDoorRows
import GoSem.ClaimSeven
namespace Go.Proofs.YtdbfpojgaalfmaaDoor
namespace Rows

/-- THE TIED CARD OF 'hoardinglaw03.TreeTells'. -/
def treeTellsCard : Claim7 := { stood := { row := treeTellsRow, standIns := [], harness := (true, "35bbc1edaf503327cb1f9a16380f86164b44030fc11a1627c1b95fad79e89e2d"), looks := true }, kinds := [], alts := [], laidByText := true, laidKinds := [.data, .pinned], laidTests := true, laidLooks := .later }
def TreeTellsCardSaid : Prop := Claim7.holds Tryd.pinned (.plain (OpenSpec.ofChange treeTellsSpec)) treeTellsCard

/-- THE TIED CARD OF 'hoardinglaw03.TreeWalk'. -/
def treeWalkCard : Claim7 := { stood := { row := treeWalkRow, standIns := [], harness := (true, "35bbc1edaf503327cb1f9a16380f86164b44030fc11a1627c1b95fad79e89e2d"), looks := true }, kinds := [], alts := [], laidByText := true, laidKinds := [.data, .pinned], laidTests := true, laidLooks := .later }
def TreeWalkCardSaid : Prop := Claim7.holds Tryd.pinned (.plain (OpenSpec.ofChange treeWalkSpec)) treeWalkCard

/-- THE TIED CARD OF 'hoardinglaw03.TreeOrder'. -/
def treeOrderCard : Claim7 := { stood := { row := treeOrderRow, standIns := [], harness := (true, "35bbc1edaf503327cb1f9a16380f86164b44030fc11a1627c1b95fad79e89e2d"), looks := true }, kinds := [], alts := [], laidByText := true, laidKinds := [.data, .pinned], laidTests := true, laidLooks := .later }
def TreeOrderCardSaid : Prop := Claim7.holds Tryd.pinned (.plain (OpenSpec.ofChange treeOrderSpec)) treeOrderCard

/-- THE TIED CARD OF 'hoardinglaw03.TreeSorted'. -/
def treeSortedCard : Claim7 := { stood := { row := treeSortedRow, standIns := [], harness := (true, "35bbc1edaf503327cb1f9a16380f86164b44030fc11a1627c1b95fad79e89e2d"), looks := true }, kinds := [], alts := [], laidByText := true, laidKinds := [.data, .pinned], laidTests := true, laidLooks := .later }
def TreeSortedCardSaid : Prop := Claim7.holds Tryd.pinned (.plain (OpenSpec.ofChange treeSortedSpec)) treeSortedCard

/-- THE TIED CARD OF 'hoardinglaw03.TreeGet'. -/
def treeGetCard : Claim7 := { stood := { row := treeGetRow, standIns := [], harness := (true, "35bbc1edaf503327cb1f9a16380f86164b44030fc11a1627c1b95fad79e89e2d"), looks := true }, kinds := [], alts := [], laidByText := true, laidKinds := [.data, .pinned], laidTests := true, laidLooks := .later }
def TreeGetCardSaid : Prop := Claim7.holds Tryd.pinned (.plain (OpenSpec.ofChange treeGetSpec)) treeGetCard

/-- THE TIED CARD OF 'hoardinglaw03.TreeWrap'. -/
def treeWrapCard : Claim7 := { stood := { row := treeWrapRow, standIns := [], harness := (true, "35bbc1edaf503327cb1f9a16380f86164b44030fc11a1627c1b95fad79e89e2d"), looks := true }, kinds := [], alts := [], laidByText := true, laidKinds := [.data, .pinned], laidTests := true, laidLooks := .later }
def TreeWrapCardSaid : Prop := Claim7.holds Tryd.pinned (.plain (OpenSpec.ofChange treeWrapSpec)) treeWrapCard

/-- THE TIED CARD OF 'hoardinglaw04.ParseReads'. -/
def parseReadsCard : Claim7 := { stood := { row := parseReadsRow, standIns := [], harness := (true, "35bbc1edaf503327cb1f9a16380f86164b44030fc11a1627c1b95fad79e89e2d"), looks := true }, kinds := [], alts := [], laidByText := true, laidKinds := [.data, .data, .data, .data, .sentinel, .sentinel, .pinned], laidTests := true, laidLooks := .later }
def ParseReadsCardSaid : Prop := Claim7.holds Tryd.pinned (.plain (OpenSpec.ofChange parseReadsSpec)) parseReadsCard

/-- THE TIED CARD OF 'hoardinglaw04.ParseBack'. -/
def parseBackCard : Claim7 := { stood := { row := parseBackRow, standIns := [], harness := (true, "35bbc1edaf503327cb1f9a16380f86164b44030fc11a1627c1b95fad79e89e2d"), looks := true }, kinds := [], alts := [], laidByText := true, laidKinds := [.data, .data, .data, .data, .sentinel, .sentinel, .pinned], laidTests := true, laidLooks := .later }
def ParseBackCardSaid : Prop := Claim7.holds Tryd.pinned (.plain (OpenSpec.ofChange parseBackSpec)) parseBackCard

/-- THE TIED CARD OF 'hoardinglaw04.ParseCuts'. -/
def parseCutsCard : Claim7 := { stood := { row := parseCutsRow, standIns := [], harness := (true, "35bbc1edaf503327cb1f9a16380f86164b44030fc11a1627c1b95fad79e89e2d"), looks := true }, kinds := [], alts := [], laidByText := true, laidKinds := [.data, .data, .data, .data, .sentinel, .sentinel, .pinned], laidTests := true, laidLooks := .later }
def ParseCutsCardSaid : Prop := Claim7.holds Tryd.pinned (.plain (OpenSpec.ofChange parseCutsSpec)) parseCutsCard

/-- THE SECOND FORM's CARD OF 'hoardinglaw03.TreeTells'. -/
def treeTellsUptoCard : Claim7 := { stood := { row := treeTellsUptoRow, standIns := [], harness := (true, "35bbc1edaf503327cb1f9a16380f86164b44030fc11a1627c1b95fad79e89e2d"), looks := true }, kinds := [], alts := [], laidByText := true, laidKinds := [.data, .pinned], laidTests := true, laidLooks := .later }
def TreeTellsUptoCardSaid : Prop := Claim7.holds Tryd.pinned (.plain (OpenSpec.upto treeTellsSpec)) treeTellsUptoCard

/-- THE SECOND FORM's CARD OF 'hoardinglaw03.TreeWalk'. -/
def treeWalkUptoCard : Claim7 := { stood := { row := treeWalkUptoRow, standIns := [], harness := (true, "35bbc1edaf503327cb1f9a16380f86164b44030fc11a1627c1b95fad79e89e2d"), looks := true }, kinds := [], alts := [], laidByText := true, laidKinds := [.data, .pinned], laidTests := true, laidLooks := .later }
def TreeWalkUptoCardSaid : Prop := Claim7.holds Tryd.pinned (.plain (OpenSpec.upto treeWalkSpec)) treeWalkUptoCard

/-- THE SECOND FORM's CARD OF 'hoardinglaw03.TreeOrder'. -/
def treeOrderUptoCard : Claim7 := { stood := { row := treeOrderUptoRow, standIns := [], harness := (true, "35bbc1edaf503327cb1f9a16380f86164b44030fc11a1627c1b95fad79e89e2d"), looks := true }, kinds := [], alts := [], laidByText := true, laidKinds := [.data, .pinned], laidTests := true, laidLooks := .later }
def TreeOrderUptoCardSaid : Prop := Claim7.holds Tryd.pinned (.plain (OpenSpec.upto treeOrderSpec)) treeOrderUptoCard

/-- THE SECOND FORM's CARD OF 'hoardinglaw03.TreeSorted'. -/
def treeSortedUptoCard : Claim7 := { stood := { row := treeSortedUptoRow, standIns := [], harness := (true, "35bbc1edaf503327cb1f9a16380f86164b44030fc11a1627c1b95fad79e89e2d"), looks := true }, kinds := [], alts := [], laidByText := true, laidKinds := [.data, .pinned], laidTests := true, laidLooks := .later }
def TreeSortedUptoCardSaid : Prop := Claim7.holds Tryd.pinned (.plain (OpenSpec.upto treeSortedSpec)) treeSortedUptoCard

/-- THE SECOND FORM's CARD OF 'hoardinglaw03.TreeGet'. -/
def treeGetUptoCard : Claim7 := { stood := { row := treeGetUptoRow, standIns := [], harness := (true, "35bbc1edaf503327cb1f9a16380f86164b44030fc11a1627c1b95fad79e89e2d"), looks := true }, kinds := [], alts := [], laidByText := true, laidKinds := [.data, .pinned], laidTests := true, laidLooks := .later }
def TreeGetUptoCardSaid : Prop := Claim7.holds Tryd.pinned (.plain (OpenSpec.upto treeGetSpec)) treeGetUptoCard

/-- THE SECOND FORM's CARD OF 'hoardinglaw03.TreeWrap'. -/
def treeWrapUptoCard : Claim7 := { stood := { row := treeWrapUptoRow, standIns := [], harness := (true, "35bbc1edaf503327cb1f9a16380f86164b44030fc11a1627c1b95fad79e89e2d"), looks := true }, kinds := [], alts := [], laidByText := true, laidKinds := [.data, .pinned], laidTests := true, laidLooks := .later }
def TreeWrapUptoCardSaid : Prop := Claim7.holds Tryd.pinned (.plain (OpenSpec.upto treeWrapSpec)) treeWrapUptoCard

/-- THE SECOND FORM's CARD OF 'hoardinglaw04.ParseReads'. -/
def parseReadsUptoCard : Claim7 := { stood := { row := parseReadsUptoRow, standIns := [], harness := (true, "35bbc1edaf503327cb1f9a16380f86164b44030fc11a1627c1b95fad79e89e2d"), looks := true }, kinds := [], alts := [], laidByText := true, laidKinds := [.data, .data, .data, .data, .sentinel, .sentinel, .pinned], laidTests := true, laidLooks := .later }
def ParseReadsUptoCardSaid : Prop := Claim7.holds Tryd.pinned (.plain (OpenSpec.upto parseReadsSpec)) parseReadsUptoCard

/-- THE SECOND FORM's CARD OF 'hoardinglaw04.ParseBack'. -/
def parseBackUptoCard : Claim7 := { stood := { row := parseBackUptoRow, standIns := [], harness := (true, "35bbc1edaf503327cb1f9a16380f86164b44030fc11a1627c1b95fad79e89e2d"), looks := true }, kinds := [], alts := [], laidByText := true, laidKinds := [.data, .data, .data, .data, .sentinel, .sentinel, .pinned], laidTests := true, laidLooks := .later }
def ParseBackUptoCardSaid : Prop := Claim7.holds Tryd.pinned (.plain (OpenSpec.upto parseBackSpec)) parseBackUptoCard

/-- THE SECOND FORM's CARD OF 'hoardinglaw04.ParseCuts'. -/
def parseCutsUptoCard : Claim7 := { stood := { row := parseCutsUptoRow, standIns := [], harness := (true, "35bbc1edaf503327cb1f9a16380f86164b44030fc11a1627c1b95fad79e89e2d"), looks := true }, kinds := [], alts := [], laidByText := true, laidKinds := [.data, .data, .data, .data, .sentinel, .sentinel, .pinned], laidTests := true, laidLooks := .later }
def ParseCutsUptoCardSaid : Prop := Claim7.holds Tryd.pinned (.plain (OpenSpec.upto parseCutsSpec)) parseCutsUptoCard
end Rows
end Go.Proofs.YtdbfpojgaalfmaaDoor
