/-
  The statement SubWrites.
-/
import Derived.Test.YtjnoomefppncoaaDoorMt
import Derived.Test.YtjnoomefppncoaaDoorLi
set_option linter.unusedVariables false
namespace Go.Proofs.YtjnoomefppncoaaDoor
open Go.RowKit Go.Shelf

theorem writeR_det (l : List E) : ∃ (u : ByteArray) (n : Int), ∀ w e w', WriteR l w e w' → e = .returned (.tuple #[.string u, .int .i64 n]) ∧ Below w.heap.size w w' := by
  by_cases hok : okP l l.length
  · cases hz : wrR (l.map toX).reverse with
    | none =>
      refine ⟨⟨#[]⟩, 130, fun w e w' h => ⟨?_, h.2.2⟩⟩
      have := h.1 hok
      rw [hz] at this
      exact this
    | some z =>
      refine ⟨bs z, 0, fun w e w' h => ⟨?_, h.2.2⟩⟩
      have := h.1 hok
      rw [hz] at this
      exact this
  · exact ⟨⟨#[]⟩, 2, fun w e w' h => ⟨h.2.1 hok, h.2.2⟩⟩

set_option maxRecDepth 100000 in
set_option maxHeartbeats 8000000 in
theorem subWrites_any (l : List E) (v : Value) (w : World) (hE : Env w) (hv : isEl w l v) :
    Calls Tryd.prog 4 #[v] w fun e w' => e = .returned (.bool true) ∧ Below w.heap.size w w' := by
  have HW : Hid (∀ W, Hid (Below w.heap.size w W) → Calls Tryd.prog 8 #[] W fun e w' => e = .returned (.bool true) ∧ Below W.heap.size W w') := Lib.hid fun W hb => wakes_any W (hE.kb hb.out)
  have HG := Lib.hid (great_any l v w hv)
  obtain ⟨u, n, hd⟩ := writeR_det l
  have HA : Hid (∀ W, Hid (Below w.heap.size w W) → (l.length ≤ 200 ∧ ∀ x ∈ l, smallE x) → Calls Tryd.prog 17 #[v] W fun e w' => e = .returned (.tuple #[.string u, .int .i64 n]) ∧ Below W.heap.size W w') := Lib.hid fun W hb hs => (write_walk l v W (hE.kb hb.out) (by omega) hs.2 (hv.below hb.out)).mono (hd W)
  have HB : Hid (∀ W, Hid (Below w.heap.size w W) → (l.length ≤ 200 ∧ ∀ x ∈ l, smallE x) → Calls Tryd.prog 18 #[v] W fun e w' => e = .returned (.tuple #[.string u, .int .i64 n]) ∧ Below W.heap.size W w') := Lib.hid fun W hb hs => (rwrite_walk l v W (by omega) hs.2 (hv.below hb.out)).mono (hd W)
  clear hE hv hd
  go_enter Tryd.func4, Tryd.ntmps4
  go_wp2_with fail
  go_at_call 16
  refine HG.out.mono ?_
  rintro e w1 ⟨r, rfl, hr, hb1⟩
  have HB1 := Lib.hid hb1
  have HR := Lib.hid hr
  clear hb1 hr HG
  cases r with
  | true =>
    go_wp2_with (go_at_call 8; refine (HW.out _ HB1).mono ?_; rintro e w6 ⟨rfl, hb6⟩)
    go_ret
    exact ⟨rfl, HB1.out.trans (hb6.mono HB1.out.size)⟩
  | false =>
    have HS := Lib.hid (HR.out rfl)
    clear HR
    go_wp2_with fail
    go_at_call 17
    refine (HA.out _ HB1 HS.out).mono ?_
    rintro e w2 ⟨rfl, hb2⟩
    have HB2 := Lib.hid (HB1.out.trans (hb2.mono HB1.out.size))
    clear hb2 HB1 HA
    go_wp2_with fail
    go_at_call 18
    refine (HB.out _ HB2 HS.out).mono ?_
    rintro e w3 ⟨rfl, hb3⟩
    have HB3 := Lib.hid (HB2.out.trans (hb3.mono HB2.out.size))
    clear hb3 HB2 HB HS
    go_wp2_with (go_at_call 8; refine (HW.out _ HB3).mono ?_; rintro e w6 ⟨rfl, hb6⟩)
    go_ret
    exact ⟨rfl, HB3.out.trans (hb6.mono HB3.out.size)⟩
end Go.Proofs.YtjnoomefppncoaaDoor
