/-
  wakes: the document's example.
-/
import Derived.Test.YtmajlanncchbnaaYl
set_option linter.unusedVariables false
namespace Go.Proofs.Ytmajlanncchbnaa
open Go.RowKit Go.Shelf Go.Lib Go.Deep

/-- A row that is built. -/
theorem rd_built (w : World) (x : List UInt8) (h : x.length ≤ maxLen) : rd (w.alloc (.cells (byteCells x).toArray 5)) x (.slice (some ⟨w.heap.size, 0, none⟩) x.length x.length) :=
  (ow.new (base := 0) (W := w) x (byteCells x).toArray x.length (Nat.zero_le _) (Nat.le_refl _) h (by simp [byteCells]) (List.take_of_length_le (by simp [byteCells]))).rd
/-- string(b) of bytes that are read. -/
theorem run_str (w : World) (x : List UInt8) (o : Option Addr) (n c : Nat) (h : rd w x (.slice o n c)) : (convert 29 9 (.slice o n c)).run Try.prog w = .ok (.string ⟨x.toArray⟩) w := by
  obtain ⟨o', a, c', hv, h1, h2, h3, h4⟩ := h
  cases hv
  rcases Nat.eq_zero_or_pos x.length with h0 | h0
  · obtain rfl : x = [] := List.eq_nil_of_length_eq_zero h0
    cases o with
    | none => exact run_convert_bytes_nil w 29 5 Try.underlying29 Try.underlying5 0 c _ Try.underlying9
    | some a => exact run_convert_bytes_back w 29 9 5 a c [] Try.underlying29 Try.underlying5 Try.underlying9 (fun j hj => absurd hj (by simp))
  · rw [h3 h0]
    refine run_convert_bytes_back w 29 9 5 a c x Try.underlying29 Try.underlying5 Try.underlying9 (fun j hj => h4 j _ ?_)
    simp [byteCells, List.getElem?_eq_getElem hj]

theorem DQ.low {t : TypeId} {base b f : Nat} {args : Array Value} {s : DS} {v : Value} {w : World} {r : Int × DS} (h : Dk t base b s v w) (hb : base ≤ w.heap.size) (hc : Calls Try.prog f args w (DQ t base b v w r)) :
    Calls Try.prog f args w fun e w' => e = .returned (.int .i64 r.1) ∧ Hid (∃ v', Dk t base b r.2 v' w' ∧ Below base w w') := by
  refine hc.mono ?_
  rintro e w' ⟨rfl, v', h1, _, h3⟩
  exact ⟨rfl, Lib.hid ⟨v', h1, h3.below (fun k hk => (h.fp k hk).1) hb⟩⟩

set_option maxRecDepth 100000 in
set_option maxHeartbeats 4000000 in
theorem wakes_any (w : World) : Calls Try.prog 8 #[] w fun e w' => e = .returned (.bool true) ∧ Below w.heap.size w w' := by
  have HC := Lib.hid (new_any w.heap.size w (Nat.le_refl _))
  go_enter Try.func8, Try.ntmps8
  go_wp2_with (go_at_call 9; refine HC.out.mono ?_)
  rintro e w1 ⟨rfl, hk1, hb1⟩
  have hb1a : Below w.heap.size w1 (w1.alloc (.cells (byteCells [1, 2, 3]).toArray 5)) := (Below.refl _ _).alloc hb1.size _
  have hk1a := hk1.below ((Below.refl _ _).alloc (Nat.le_refl _) (.cells (byteCells [1, 2, 3]).toArray 5))
  have HB1 := Lib.hid (hb1.trans hb1a)
  have HA := Lib.hid (DQ.low hk1a HB1.out.size (append_any (x := [1, 2, 3]) _ hk1a HB1.out.size (rd_built w1 [1, 2, 3] (by decide))))
  rw [show appD ⟨[], false, none⟩ [1, 2, 3] = (0, ⟨[1, 2, 3], false, none⟩) from by rfl] at HA
  clear hk1 hb1 hb1a hk1a HC
  go_wp2_with (go_at_call 17; refine HA.out.mono ?_)
  rintro e w2 ⟨rfl, hk2⟩
  obtain ⟨v2, hk2, hb2⟩ := hk2.out
  have HB2 := Lib.hid (HB1.out.trans hb2)
  have HA2 := Lib.hid (DQ.low hk2 HB2.out.size (arm_any 1 w2 hk2))
  rw [show armD ⟨[1, 2, 3], false, none⟩ 1 = (0, ⟨[1, 2, 3], false, some 1⟩) from by rfl] at HA2
  clear hk2 hb2 HA HB1
  go_wp2_with (go_at_call 19; refine HA2.out.mono ?_)
  rintro e w3 ⟨rfl, hk3⟩
  obtain ⟨v3, hk3, hb3⟩ := hk3.out
  have hb3a : Below w.heap.size w3 (w3.alloc (.cells (byteCells [4, 5]).toArray 5)) := (Below.refl _ _).alloc (HB2.out.trans hb3).size _
  have hk3a := hk3.below ((Below.refl _ _).alloc (Nat.le_refl _) (.cells (byteCells [4, 5]).toArray 5))
  have HB3 := Lib.hid ((HB2.out.trans hb3).trans hb3a)
  have HA3 := Lib.hid (DQ.low hk3a HB3.out.size (append_any (x := [4, 5]) _ hk3a HB3.out.size (rd_built w3 [4, 5] (by decide))))
  rw [show appD ⟨[1, 2, 3], false, some 1⟩ [4, 5] = (60, ⟨[1, 2, 3, 4], true, none⟩) from by rfl] at HA3
  clear hk3 hb3 hb3a hk3a HA2 HB2
  go_wp2_with (go_at_call 17; refine HA3.out.mono ?_)
  rintro e w4 ⟨rfl, hk4⟩
  obtain ⟨v4, hk4, hb4⟩ := hk4.out
  have HB4 := Lib.hid (HB3.out.trans hb4)
  have HA4 := Lib.hid (DQ.low hk4 HB4.out.size (up_any w4 hk4))
  rw [show upD ⟨[1, 2, 3, 4], true, none⟩ = (0, ⟨[1, 2, 3, 4], false, none⟩) from by rfl] at HA4
  clear hk4 hb4 HA3 HB3
  go_wp2_with (go_at_call 20; refine HA4.out.mono ?_)
  rintro e w5 ⟨rfl, hk5⟩
  obtain ⟨v5, hk5, hb5⟩ := hk5.out
  have HB5 := Lib.hid (HB4.out.trans hb5)
  have HA5 := Lib.hid (bytes_any w5 hk5)
  rw [show byD ⟨[1, 2, 3, 4], false, none⟩ = [1, 2, 3, 4] from by rfl, show beD ⟨[1, 2, 3, 4], false, none⟩ = 0 from by rfl] at HA5
  clear hk5 hb5 HA4 HB4
  go_wp2_with (go_at_call 16; refine HA5.out.mono ?_)
  rintro e w6 ⟨o, c, rfl, hq⟩
  have HB6 := Lib.hid (HB5.out.trans (hq.out.2.mono HB5.out.size))
  have hcv := run_str w6 _ o 4 c hq.out.1
  clear hq HA5 HB5
  go_wp2_with fail
  go_ret
  exact ⟨rfl, HB6.out⟩
end Go.Proofs.Ytmajlanncchbnaa
