/-
  The program's frames: Size, Frame.
-/
import Derived.Test.YtbjdbphnccdpbaaFc
set_option linter.unusedVariables false
namespace Go.Proofs.Ytbjdbphnccdpbaa
open Go.RowKit Go.Shelf Go.Lib Go.Deep

set_option maxRecDepth 100000 in
set_option maxHeartbeats 1000000 in
theorem psize_any (n : Int) (w : World) : Calls Try.prog 56 #[.int .i64 n] w fun e w' => e = .returned (.int .i64 (sizeF n)) ∧ w = w' := by
  by_cases h1 : n < 1
  · have hs : sizeF n = 0 := by unfold sizeF; rw [if_pos (.inl h1)]
    have t1 : decide (n < 1) = true := decide_eq_true h1
    rw [hs]
    clear h1
    go_enter Try.func56, Try.ntmps56
    go_wp2
    go_ret
    exact ⟨rfl, rfl⟩
  have t1 : decide (n < 1) = false := decide_eq_false h1
  by_cases h2 : 524288 < n
  · have hs : sizeF n = 0 := by unfold sizeF; rw [if_pos (.inr h2)]
    have t2 : decide (524288 < n) = true := decide_eq_true h2
    rw [hs]
    clear h1 h2
    go_enter Try.func56, Try.ntmps56
    go_wp2
    go_ret
    exact ⟨rfl, rfl⟩
  · have hs : sizeF n = 4 + n := by unfold sizeF; rw [if_neg (by omega)]; omega
    have t2 : decide (524288 < n) = false := decide_eq_false h2
    have hw : IntKind.i64.wrap (4 + n) = 4 + n := by go_unwrap
    rw [hs]
    clear h1 h2
    go_enter Try.func56, Try.ntmps56
    go_wp2
    go_ret
    exact ⟨rfl, rfl⟩

theorem ow.of_row {base n : Nat} {W : World} {v : Value} {xs : List Value} {x : List UInt8} (h : W.ownsRow base 5 1 v n xs) (hx : xs = byteCells x) : ow base W v x := by
  obtain ⟨h1, h2⟩ := h
  have hl : x.length = n := by rw [hx, byteCells_length] at h1; omega
  rcases h2 with ⟨rfl, h0⟩ | ⟨g, cap, cur, q1, q2, q3, q4, q5, q6, q7⟩
  · exact .inl ⟨rfl, List.eq_nil_of_length_eq_zero (by omega)⟩
  · exact .inr ⟨g, cap, cur, by rw [q1, hl], q2, q3, by omega, q5, by omega, by rw [hl, ← hx, ← q7, Nat.mul_one]⟩
set_option maxRecDepth 100000 in
set_option maxHeartbeats 4000000 in
theorem pframe_any (x : List UInt8) (v : Value) (w : World) (hx : rd w x v) : Calls Try.prog 29 #[v] w fun e w' => ∃ o c, e = .returned (.tuple #[.slice o (frB x).length c, .int .i64 (frE x)]) ∧ Hid (ow w.heap.size w' (.slice o (frB x).length c) (frB x) ∧ Below w.heap.size w w') := by
  obtain ⟨o, a, c, rfl, hc1, hc2, _⟩ := id hx
  unfold maxLen at hc2
  by_cases h0 : x.length = 0
  · have e1 : frB x = [] := by unfold frB; rw [if_neg (by omega)]
    have e2 : frE x = 2 := by unfold frE; rw [if_pos h0]
    rw [e1, e2]
    have t0 : ((x.length : Int) == 0) = true := by simp [h0]
    clear hx h0
    go_enter Try.func29, Try.ntmps29
    go_wp2
    go_ret2
    exact ⟨none, 0, rfl, Lib.hid ⟨.inl ⟨rfl, rfl⟩, Below.refl _ _⟩⟩
  have t0 : ((x.length : Int) == 0) = false := by simpa using h0
  by_cases h1 : 524288 < x.length
  · have e1 : frB x = [] := by unfold frB; rw [if_neg (by omega)]
    have e2 : frE x = 3 := by unfold frE; rw [if_neg h0, if_pos h1]
    rw [e1, e2]
    have t1 : decide (524288 < (x.length : Int)) = true := decide_eq_true (by omega)
    have t1' : decide (524288 < x.length) = true := decide_eq_true h1
    clear hx h0 h1
    go_enter Try.func29, Try.ntmps29
    go_wp2
    go_ret2
    exact ⟨none, 0, rfl, Lib.hid ⟨.inl ⟨rfl, rfl⟩, Below.refl _ _⟩⟩
  · have e1 : frB x = frameL x := by unfold frB; rw [if_pos ⟨by omega, by omega⟩]
    have e2 : frE x = 0 := by unfold frE; rw [if_neg h0, if_neg h1]
    rw [e1, e2]
    have t1 : decide (524288 < (x.length : Int)) = false := decide_eq_false (by omega)
    have t1' : decide (524288 < x.length) = false := decide_eq_false h1
    have HX := Lib.hid hx
    have hcells : (#[Value.int .u8 ((x.length : Int) / 16777216 % 256), .int .u8 ((x.length : Int) / 65536 % 256), .int .u8 ((x.length : Int) / 256 % 256), .int .u8 ((x.length : Int) % 256)] : Array Value).toList.take (num4 x.length).length = byteCells (num4 x.length) := by
      unfold num4 byteCells
      simp only [List.length_cons, List.length_nil, List.map_cons, List.map_nil, UInt8.toNat_ofNat', List.take_succ_cons, List.take_zero]
      rw [show ((x.length : Int) / 16777216 % 256) = ((x.length / 16777216 % 2 ^ 8 : Nat) : Int) by omega, show ((x.length : Int) / 65536 % 256) = ((x.length / 65536 % 2 ^ 8 : Nat) : Int) by omega, show ((x.length : Int) / 256 % 256) = ((x.length / 256 % 2 ^ 8 : Nat) : Int) by omega, show ((x.length : Int) % 256) = ((x.length % 2 ^ 8 : Nat) : Int) by omega]
    have HO : Hid (∀ W : World, w.heap.size ≤ W.heap.size → ow w.heap.size (W.alloc (.cells #[Value.int .u8 ((x.length : Int) / 16777216 % 256), .int .u8 ((x.length : Int) / 65536 % 256), .int .u8 ((x.length : Int) / 256 % 256), .int .u8 ((x.length : Int) % 256)] 5)) (.slice (some ⟨W.heap.size, 0, none⟩) 4 4) (num4 x.length)) := Lib.hid fun W hW => ow.new (base := w.heap.size) (W := W) (num4 x.length) _ 4 hW (by simp [num4]) (by unfold maxLen; omega) (by simp) hcells
    have HL4 : Hid ((num4 x.length).length = 4) := Lib.hid rfl
    have HSZ : Hid (sizeF (x.length : Int) = ((4 + x.length : Nat) : Int)) := Lib.hid (by unfold sizeF; rw [if_neg (by omega)]; omega)
    have HH := Lib.hid (And.intro h0 h1)
    clear hx hcells h0 h1
    obtain ⟨i8, hi8, hz8, hs8, hb8⟩ := info_parts infoU8
    go_enter Try.func29, Try.ntmps29
    go_wp2_with first
      | (go_at_call 56; refine (psize_any _ _).mono ?_; rintro e w0 ⟨rfl, rfl⟩; rw [HSZ.out])
      | (at_make; refine wpList_make_own _ rfl _ _ 27 rfl w.heap.size 5 i8 _ 1 Try.underlying27 hi8 hz8 hs8 .i64 .i64 _ (4 + x.length) rfl rfl rfl ?b2 ?b3 (Nat.le_refl _) ?_)
    case b2 => rw [hb8]; have := HH.out; omega
    case b3 => have := HH.out; unfold maxLen; omega
    intro w1 own1 gr1
    have OW1 : Hid (ow w.heap.size w1 (.slice (some ⟨w.heap.size, 0, none⟩) 0 (4 + x.length)) []) := Lib.hid (ow.of_row own1 rfl)
    have HB1 : Hid (Below w.heap.size w w1) := Lib.hid ((Fr.grown (B := fun _ => False) gr1 (fun r hr => by cases hr)).below (fun k hk => hk.elim) (Nat.le_refl _))
    clear own1 gr1
    have hb2 : Below w1.heap.size w1 (w1.alloc (.cells #[Value.int .u8 ((x.length : Int) / 16777216 % 256), .int .u8 ((x.length : Int) / 65536 % 256), .int .u8 ((x.length : Int) / 256 % 256), .int .u8 ((x.length : Int) % 256)] 5)) := (Below.refl _ _).alloc (Nat.le_refl _) _
    have HB2 := Lib.hid hb2
    have HX2 := Lib.hid (HX.out.below (HB1.out.trans (hb2.mono HB1.out.size)))
    have OW2 := Lib.hid (ow_rd_below OW1.out hb2)
    have HRD2 := Lib.hid (HO.out w1 HB1.out.size).rd
    clear hb2
    go_wp2_with (at_builtin; refine wpList_app_ow rfl _ _ rfl w.heap.size (.slice (some ⟨w.heap.size, 0, none⟩) 0 (4 + x.length)) (.slice (some ⟨w1.heap.size, 0, none⟩) 4 4) [] (num4 x.length) rfl rfl OW2.out HRD2.out (by rw [HL4.out]; show 0 + 4 ≤ _; omega) (by have := HB1.out.size; have := HB2.out.size; omega) ?_)
    simp only [HL4.out]
    intro o3 c3 w3 own3 gr3 at3
    have HB3 : Hid (Below w.heap.size w w3) := Lib.hid ((HB1.out.trans (HB2.out.mono HB1.out.size)).trans ((Fr.grown (B := fun k => k = w.heap.size) gr3 (fun r hr => by simp [Value.ownBlock] at hr; omega)).below (fun k hk => by omega) (by have := HB1.out.size; have := HB2.out.size; omega)))
    have OW3 := Lib.hid own3
    have HX3 := Lib.hid (HX.out.below HB3.out)
    have AT3 := Lib.hid (fun r (hr : (Value.slice o3 (0 + 4) c3).ownBlock = some r) => (ow.lt own3 r hr).1)
    clear own3 gr3 at3
    go_wp2_with (at_builtin; refine wpList_app_ow rfl _ _ rfl w.heap.size (.slice o3 (0 + 4) c3) (.slice o x.length c) (num4 x.length) x rfl rfl OW3.out HX3.out (by rw [HL4.out]; have := HH.out; omega) HB3.out.size ?_)
    simp only [HL4.out]
    intro o4 c4 w4 own4 gr4 at4
    have HQ : Hid (ow w.heap.size w4 (.slice o4 (frameL x).length c4) (frameL x) ∧ Below w.heap.size w w4) := Lib.hid ⟨by rw [frame_length]; exact own4, HB3.out.trans ((Fr.grown (B := fun k => w.heap.size ≤ k) gr4 (fun r hr => AT3.out r hr)).below (fun k hk => hk) HB3.out.size)⟩
    rw [show 4 + x.length = (frameL x).length from (frame_length x).symm]
    clear own4 gr4 at4
    go_wp2_with fail
    go_ret2
    exact ⟨o4, c4, rfl, HQ⟩
end Go.Proofs.Ytbjdbphnccdpbaa
