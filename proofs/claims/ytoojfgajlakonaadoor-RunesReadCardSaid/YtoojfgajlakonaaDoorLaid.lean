/-
  What the rows' condition on the package variables gives the walks: unicode/utf8's two tables, and that strconv.ErrSyntax holds an error value.
-/
import Derived.Test.YtoojfgajlakonaaDoorRows
import Derived.Test.YtoojfgajlakonaaDoorEsc
import Derived.Lib.LaidU8
import Derived.PinnedBridge
import Derived.ProofKit
import Derived.OpenShut
import Derived.ShutString
import Derived.ChangeOld
import Derived.LaidMore
import Derived.Lay
namespace Go.Proofs.YtoojfgajlakonaaDoor
open Go.ChangeShapes Go.WideShapes Go.ChangeAt Go.RowKit Go.Shelf
open Go.ChangeMaps (open_string shut_string)

theorem accept_eq : (Rows.laid_unicode_utf8_acceptRanges : DataW Unit) = Lib.acceptData := by kernel_rfl
theorem first_eq : Rows.laid_unicode_utf8_first = Lib.firstData := Pinned.utf8First_eq

theorem cell_of_iface {P : Program} {w : World} {fuel : Nat} {t : TypeId} {cs : List Value} {ms : Array (String × TypeId)} {n : String} {d : DataW Unit} {p : List MemPlace} (ht : P.underlying t = some (.interface ms))
    (h : DataW.trod (fun _ => ()) P w 0 (fun _ => true) false fuel t cs = some (.iface n d, p)) : ∃ u v, cs = [.iface u v] := by
  cases fuel with
  | zero => simp [DataW.trod] at h
  | succ fuel =>
    simp only [DataW.trod, ht] at h
    split at h <;> simp_all

theorem env_of_laid {laid : List (String × DataW Unit)} (hm : ("unicode/utf8.first", Rows.laid_unicode_utf8_first) ∈ laid) (hm2 : ("unicode/utf8.acceptRanges", Rows.laid_unicode_utf8_acceptRanges) ∈ laid) (hm3 : ("strconv.ErrSyntax", Rows.laid_strconv_ErrSyntax) ∈ laid)
    {W : World} (h : laidMet Tryd.prog laid W) (h7 : 7 ≤ W.heap.size) : Env W := by
  have r1 := Lib.laidMet.reads h hm
  have r2 := Lib.laidMet.reads h hm2
  have r3 := Lib.laidMet.reads h hm3
  rw [first_eq] at r1
  rw [accept_eq] at r2
  refine ⟨h7, utf8Tabs_of_reads Tryd.lays260 Tryd.u8Extra r1 r2, ?_⟩
  obtain ⟨g, t, cs, fuel, p, hg, ht, hv, hd⟩ := r3
  obtain rfl := Option.some.inj ((show Tryd.prog.globalNamed "strconv.ErrSyntax" = some 2 by kernel_rfl).symm.trans hg)
  obtain rfl := Option.some.inj ((show (Tryd.prog.globals[2]?).map (·.type) = some 44 by kernel_rfl).symm.trans ht)
  obtain ⟨u, v, hcs⟩ := cell_of_iface Tryd.underlying44 hd
  refine ⟨.iface u v, ?_, .inr ⟨u, v, rfl⟩⟩
  rw [World.var?_cell hg hv 0, ← Array.getElem?_toList, hcs]; rfl
theorem size_of_laid {laid : List (String × DataW Unit)} (hm : ("math/bits.deBruijn64tab", Rows.laid_math_bits_deBruijn64tab) ∈ laid) {W : World} (h : laidMet Tryd.prog laid W) : 7 ≤ W.heap.size := by
  obtain ⟨g, t, cs, fuel, p, hg, ht, hv, hd⟩ := Lib.laidMet.reads h hm
  obtain rfl := Option.some.inj ((show Tryd.prog.globalNamed "math/bits.deBruijn64tab" = some 6 by kernel_rfl).symm.trans hg)
  obtain rfl := Option.some.inj ((show (Tryd.prog.globals[6]?).map (·.type) = some 108 by kernel_rfl).symm.trans ht)
  have hne : cs.toList ≠ [] := by
    intro e
    rw [e] at hd
    cases fuel with
    | zero => simp [DataW.trod] at hd
    | succ fuel =>
      have hc : Tryd.prog.cellsOf 108 = 64 := by kernel_rfl
      simp [DataW.trod, Tryd.underlying108, hc] at hd
  obtain ⟨x, xs, hx⟩ : ∃ x xs, cs.toList = x :: xs := by
    cases h : cs.toList with
    | nil => exact absurd h hne
    | cons x xs => exact ⟨_, _, rfl⟩
  have h0 : W.cell? ⟨6, 0, none⟩ = some x := by rw [World.var?_cell hg hv 0, ← Array.getElem?_toList, hx]; rfl
  exact World.block_lt_of_cell? _ _ h0
end Go.Proofs.YtoojfgajlakonaaDoor
