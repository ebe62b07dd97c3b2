/-
  The statements' example; what the journal's calls leave, told by plain facts.
-/
import Derived.Test.YtbjdbphnccdpbaaJq
set_option linter.unusedVariables false
namespace Go.Proofs.Ytbjdbphnccdpbaa
open Go.RowKit Go.Shelf Go.Lib Go.Deep

/-- A row that is built. -/
theorem rd_built (w : World) (x : List UInt8) (h : x.length ≤ maxLen) : rd (w.alloc (.cells (Lib.byteCells x).toArray 5)) x (.slice (some ⟨w.heap.size, 0, none⟩) x.length x.length) :=
  (ow.new (base := 0) (W := w) x (Lib.byteCells x).toArray x.length (Nat.zero_le _) (Nat.le_refl _) h (by simp [Lib.byteCells]) (List.take_of_length_le (by simp [Lib.byteCells]))).rd
theorem DQ.low {t : TypeId} {base b f : Nat} {args : Array Value} {s : DS} {v : Value} {w : World} {r : Int × DS} (h : Dk t base b s v w) (hb : base ≤ w.heap.size) (hc : Calls Try.prog f args w (DQ t base b v w r)) :
    Calls Try.prog f args w fun e w' => e = .returned (.int .i64 r.1) ∧ Hid (∃ v', Dk t base b r.2 v' w' ∧ Below base w w') := by
  refine hc.mono ?_
  rintro e w' ⟨rfl, v', h1, _, h3⟩
  exact ⟨rfl, Lib.hid ⟨v', h1, h3.below (fun k hk => (h.fp k hk).1) hb⟩⟩
theorem fr_of_good {x : List UInt8} (h : goodL x) : frE x = 0 := by unfold frE; rw [if_neg (by have := h.1; omega), if_neg (by have := h.2; omega)]
/-- Append on a disk that is up and of which nothing is torn. -/
theorem app_whole {s : DS} {x : List UInt8} {r : Int × DS} (h : AppR s x r) (hg : goodL x) (hd : s.dn = false) (h0 : (scanL s.f).2 = 0) : r = appD s (frameL x) := by
  rcases h with ⟨h, _⟩ | ⟨_, h, _⟩ | ⟨_, _, n, hn, h⟩
  · exact absurd (fr_of_good hg) h
  · rw [hd] at h; cases h
  · have := hn.2 h0
    subst this
    rcases h with ⟨_, h⟩ | ⟨h, _⟩
    · exact h
    · omega
theorem japp_low {base b : Nat} {s : DS} {v u : Value} {x : List UInt8} (w : World) (h : Dk 52 base b s v w) (hbase : base ≤ w.heap.size) (hx : rd w x u) (hg : goodL x) (hd : s.dn = false) (h0 : (scanL s.f).2 = 0) :
    Calls Try.prog 10 #[.pointer (some ⟨b, 0, none⟩), u] w fun e w' => e = .returned (.int .i64 (appD s (frameL x)).1) ∧ Hid (∃ v', Dk 52 base b (appD s (frameL x)).2 v' w' ∧ Below base w w') := by
  refine (japp_any w h hbase hx).mono ?_
  rintro e w' ⟨r, rfl, hq⟩
  obtain rfl := app_whole hq.out.1 hg hd h0
  obtain ⟨_, v', h1, _, h3⟩ := hq.out.2
  exact ⟨rfl, Lib.hid ⟨v', h1, h3.below (fun k hk => (h.fp k hk).1) hbase⟩⟩
theorem jopen_low {base b : Nat} {s : DS} {v : Value} (w : World) (h : Dk 52 base b s v w) (hbase : base ≤ w.heap.size) :
    Calls Try.prog 15 #[.pointer (some ⟨b, 0, none⟩)] w fun e w' => ∃ o c, e = .returned (.tuple #[.slice o (opL s).length c, .int .i64 (opT s : Nat), .int .i64 (openD s).1]) ∧ Hid (rds w' (opL s) (.slice o (opL s).length c) ∧ ∃ v', Dk 52 base b (openD s).2 v' w' ∧ Below base w w') := by
  refine (jopen_any w h hbase).mono ?_
  rintro e w' ⟨o, c, rfl, hq⟩
  obtain ⟨v', h1, h2⟩ := hq.out
  exact ⟨o, c, rfl, Lib.hid ⟨h2.rds, v', h1.1, h1.2.2.below (fun k hk => (h.fp k hk).1) hbase⟩⟩
set_option maxRecDepth 100000 in
set_option maxHeartbeats 4000000 in
theorem wakes_any (w : World) : Calls Try.prog 7 #[] w fun e w' => e = .returned (.bool true) ∧ Hid (Below w.heap.size w w') := by
  have HC := Lib.hid (new_any w.heap.size w (Nat.le_refl _))
  go_enter Try.func7, Try.ntmps7
  go_wp2_with (go_at_call 8; refine HC.out.mono ?_)
  rintro e w1 ⟨rfl, hk1, hb1⟩
  have hb1a : Below w.heap.size w1 (w1.alloc (.cells (Lib.byteCells [65]).toArray 5)) := (Below.refl _ _).alloc hb1.size _
  have hk1a := hk1.below ((Below.refl _ _).alloc (Nat.le_refl _) (.cells (Lib.byteCells [65]).toArray 5))
  have HB1 := Lib.hid (hb1.trans hb1a)
  have HA := Lib.hid (japp_low (x := [65]) _ hk1a HB1.out.size (rd_built w1 [65] (by decide)) ⟨by decide, by decide⟩ rfl rfl)
  rw [show appD ⟨[], false, none⟩ (frameL [65]) = (0, ⟨[0, 0, 0, 1, 65], false, none⟩) from by rfl] at HA
  clear hk1 hb1 hb1a hk1a HC
  go_wp2_with (go_at_call 10; refine HA.out.mono ?_)
  rintro e w2 ⟨rfl, hk2⟩
  obtain ⟨v2, hk2, hb2⟩ := hk2.out
  have HB2 := Lib.hid (HB1.out.trans hb2)
  have HA2 := Lib.hid (DQ.low hk2 HB2.out.size (arm_any 4 w2 hk2))
  rw [show armD ⟨[0, 0, 0, 1, 65], false, none⟩ 4 = (0, ⟨[0, 0, 0, 1, 65], false, some 4⟩) from by rfl] at HA2
  clear hk2 hb2 HA HB1
  go_wp2_with (go_at_call 12; refine HA2.out.mono ?_)
  rintro e w3 ⟨rfl, hk3⟩
  obtain ⟨v3, hk3, hb3⟩ := hk3.out
  have hb3a : Below w.heap.size w3 (w3.alloc (.cells (Lib.byteCells [66]).toArray 5)) := (Below.refl _ _).alloc (HB2.out.trans hb3).size _
  have hk3a := hk3.below ((Below.refl _ _).alloc (Nat.le_refl _) (.cells (Lib.byteCells [66]).toArray 5))
  have HB3 := Lib.hid ((HB2.out.trans hb3).trans hb3a)
  have HA3 := Lib.hid (japp_low (x := [66]) _ hk3a HB3.out.size (rd_built w3 [66] (by decide)) ⟨by decide, by decide⟩ rfl (by decide))
  rw [show appD ⟨[0, 0, 0, 1, 65], false, some 4⟩ (frameL [66]) = (60, ⟨[0, 0, 0, 1, 65, 0, 0, 0, 1], true, none⟩) from by rfl] at HA3
  clear hk3 hb3 hb3a hk3a HA2 HB2
  go_wp2_with (go_at_call 10; refine HA3.out.mono ?_)
  rintro e w4 ⟨rfl, hk4⟩
  obtain ⟨v4, hk4, hb4⟩ := hk4.out
  have HB4 := Lib.hid (HB3.out.trans hb4)
  have HA4 := Lib.hid (DQ.low hk4 HB4.out.size (up_any w4 hk4))
  rw [show upD ⟨[0, 0, 0, 1, 65, 0, 0, 0, 1], true, none⟩ = (0, ⟨[0, 0, 0, 1, 65, 0, 0, 0, 1], false, none⟩) from by rfl] at HA4
  clear hk4 hb4 HA3 HB3
  go_wp2_with (go_at_call 14; refine HA4.out.mono ?_)
  rintro e w5 ⟨rfl, hk5⟩
  obtain ⟨v5, hk5, hb5⟩ := hk5.out
  have HB5 := Lib.hid (HB4.out.trans hb5)
  have hop : openD ⟨[0, 0, 0, 1, 65, 0, 0, 0, 1], false, none⟩ = (0, ⟨[0, 0, 0, 1, 65], false, none⟩) := by kernel_rfl
  have hol : opL ⟨[0, 0, 0, 1, 65, 0, 0, 0, 1], false, none⟩ = [[65]] := by unfold opL; rw [hop]; rfl
  have hot : opT ⟨[0, 0, 0, 1, 65, 0, 0, 0, 1], false, none⟩ = 4 := by unfold opT; rw [hop]; rfl
  have HA5 := jopen_low w5 hk5 HB5.out.size
  rw [hop, hol, hot] at HA5
  have HA5 := Lib.hid HA5
  clear hk5 hb5 HA4 HB4 hop hol hot
  go_wp2_with (go_at_call 15; refine HA5.out.mono ?_)
  rintro e w6 ⟨o, c, rfl, hq⟩
  have HB6 := Lib.hid (HB5.out.trans hq.out.2.choose_spec.2)
  obtain ⟨o2, a2, c2, e2, _, _, ho2, hrow⟩ := hq.out.1
  cases e2
  obtain rfl := ho2 (by decide)
  obtain ⟨ob, cb, g1, g2⟩ := hrow 0 (by decide)
  have hcv := run_strF w6 _ ob 1 cb g2
  have g0 : w6.cell? a2 = some (.slice ob 1 cb) := by simpa [Addr.add] using g1
  clear hq HA5 HB5 hrow ho2 g2
  go_wp2_with fail
  go_ret
  exact ⟨rfl, HB6⟩
end Go.Proofs.Ytbjdbphnccdpbaa
