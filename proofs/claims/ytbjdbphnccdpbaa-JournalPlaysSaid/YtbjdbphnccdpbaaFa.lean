/-
  The reference's frames: Size, Frame.
-/
import Derived.Test.YtbjdbphnccdpbaaYa
import Derived.Test.YtbjdbphnccdpbaaFm
import Derived.Deep.OwnRows
import Derived.Handy
set_option linter.unusedVariables false
namespace Go.Proofs.Ytbjdbphnccdpbaa
open Go.RowKit Go.Shelf Go.Lib Go.Deep

def Holdp (p : Prop) : Prop := p
theorem holdp {p : Prop} (h : Holdp p) : p := h
def sizeF (n : Int) : Int := if n < 1 ∨ 524288 < n then 0 else n + 4
/-- What Frame answers. -/
def frB (x : List UInt8) : List UInt8 := if 1 ≤ x.length ∧ x.length ≤ 524288 then frameL x else []
def frE (x : List UInt8) : Int := if x.length = 0 then 2 else if 524288 < x.length then 3 else 0
set_option maxRecDepth 100000 in
set_option maxHeartbeats 4000000 in
theorem rframe_any (x : List UInt8) (v : Value) (w : World) (hx : rd w x v) : Calls Try.prog 22 #[v] w fun e w' => ∃ o c, e = .returned (.tuple #[.slice o (frB x).length c, .int .i64 (frE x)]) ∧ Hid (ow w.heap.size w' (.slice o (frB x).length c) (frB x) ∧ Below w.heap.size w w') := by
  obtain ⟨o, a, c, rfl, hc1, hc2, _⟩ := id hx
  unfold maxLen at hc2
  by_cases h0 : x.length = 0
  · have e1 : frB x = [] := by unfold frB; rw [if_neg (by omega)]
    have e2 : frE x = 2 := by unfold frE; rw [if_pos h0]
    rw [e1, e2]
    have t0 : ((x.length : Int) == 0) = true := by simp [h0]
    clear hx h0
    go_enter Try.func22, Try.ntmps22
    go_wp2
    go_ret2
    exact ⟨none, 0, rfl, Lib.hid ⟨.inl ⟨rfl, rfl⟩, Below.refl _ _⟩⟩
  have t0 : ((x.length : Int) == 0) = false := by simpa using h0
  by_cases h1 : 524288 < x.length
  · have e1 : frB x = [] := by unfold frB; rw [if_neg (by omega)]
    have e2 : frE x = 3 := by unfold frE; rw [if_neg h0, if_pos h1]
    rw [e1, e2]
    have t1 : decide (524288 < (x.length : Int)) = true := decide_eq_true (by omega)
    have t1' : decide (524288 < x.length) = true := decide_eq_true h1
    clear hx h0 h1
    go_enter Try.func22, Try.ntmps22
    go_wp2
    go_ret2
    exact ⟨none, 0, rfl, Lib.hid ⟨.inl ⟨rfl, rfl⟩, Below.refl _ _⟩⟩
  · have e1 : frB x = frameL x := by unfold frB; rw [if_pos ⟨by omega, by omega⟩]
    have e2 : frE x = 0 := by unfold frE; rw [if_neg h0, if_neg h1]
    rw [e1, e2]
    have t1 : decide (524288 < (x.length : Int)) = false := decide_eq_false (by omega)
    have t1' : decide (524288 < x.length) = false := decide_eq_false h1
    have HX := Lib.hid hx
    have hcells : (#[Value.int .u8 ((x.length : Int) / 16777216), .int .u8 ((x.length : Int) / 65536), .int .u8 ((x.length : Int) / 256 % 256), .int .u8 ((x.length : Int) % 256)] : Array Value).toList.take (num4 x.length).length = byteCells (num4 x.length) := by
      unfold num4 byteCells
      simp only [List.length_cons, List.length_nil, List.map_cons, List.map_nil, UInt8.toNat_ofNat', List.take_succ_cons, List.take_zero]
      rw [show ((x.length : Int) / 16777216) = ((x.length / 16777216 % 2 ^ 8 : Nat) : Int) by omega, show ((x.length : Int) / 65536) = ((x.length / 65536 % 2 ^ 8 : Nat) : Int) by omega, show ((x.length : Int) / 256 % 256) = ((x.length / 256 % 2 ^ 8 : Nat) : Int) by omega, show ((x.length : Int) % 256) = ((x.length % 2 ^ 8 : Nat) : Int) by omega]
    have HO := Lib.hid (ow.new (base := w.heap.size) (W := w) (num4 x.length) _ 4 (Nat.le_refl _) (by simp [num4]) (by unfold maxLen; omega) (by simp) hcells)
    have HL4 : Hid ((num4 x.length).length = 4) := Lib.hid rfl
    have hb1 : Below w.heap.size w (w.alloc (.cells #[Value.int .u8 ((x.length : Int) / 16777216), .int .u8 ((x.length : Int) / 65536), .int .u8 ((x.length : Int) / 256 % 256), .int .u8 ((x.length : Int) % 256)] 5)) := (Below.refl _ _).alloc (Nat.le_refl _) _
    have HB1 := Lib.hid hb1
    have HX1 := Lib.hid (hx.below hb1)
    clear hx hcells hb1
    go_enter Try.func22, Try.ntmps22
    go_wp2_with (at_builtin; refine wpList_app_ow rfl _ _ rfl w.heap.size (.slice (some ⟨w.heap.size, 0, none⟩) 4 4) (.slice o x.length c) (num4 x.length) x rfl rfl HO.out HX1.out (by rw [HL4.out]; omega) HB1.out.size ?_)
    simp only [HL4.out]
    intro o2 c2 w2 own2 gr2 at2
    have HQ : Hid (ow w.heap.size w2 (.slice o2 (frameL x).length c2) (frameL x) ∧ Below w.heap.size w w2) := Lib.hid ⟨by rw [frame_length]; exact own2, HB1.out.trans ((Fr.grown (B := fun k => k = w.heap.size) gr2 (fun r hr => by simp [Value.ownBlock] at hr; omega)).below (fun k hk => by omega) HB1.out.size)⟩
    rw [show 4 + x.length = (frameL x).length from (frame_length x).symm]
    clear own2 gr2 at2
    go_wp2_with fail
    go_ret2
    exact ⟨o2, c2, rfl, HQ⟩
end Go.Proofs.Ytbjdbphnccdpbaa
