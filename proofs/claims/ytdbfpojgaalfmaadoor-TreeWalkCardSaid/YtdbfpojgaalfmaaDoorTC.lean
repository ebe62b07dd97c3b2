/-
  Contracts of the reference's Great, Count, Depth, deeper, Text, Num.
-/
import Derived.Test.YtdbfpojgaalfmaaDoorTM
set_option linter.unusedVariables false
namespace Go.Proofs.YtdbfpojgaalfmaaDoor
open Go.RowKit

theorem kbA {w : World} {o : Obj} : KB w (w.alloc o) := (Below.refl _ _).alloc (Nat.le_refl _) _
theorem Calls.kb {f : Nat} {args : Array Value} {w0 w : World} {v : Value} (hK : KB w0 w) (h : Calls Tryd.prog f args w fun e w' => e = .returned v ∧ Below w.heap.size w w') : Calls Tryd.prog f args w fun e w' => e = .returned v ∧ KB w0 w' :=
  h.mono fun _ _ ⟨he, hb⟩ => ⟨he, Below.trans hK (hb.mono hK.size)⟩
/-- Is it great? -/
def greatB (x : V) : Bool := decide (5000 < wtV 30 x)
theorem great_no {x : V} (h : greatB x = false) : sizeV x ≤ 5000 ∧ depthV x ≤ 30 := by
  have h1 : ¬ 5000 < wtV 30 x := of_decide_eq_false h
  have := wt_small 30 x (by omega)
  omega
set_option maxHeartbeats 2000000 in
theorem great_any (x : V) (v : Value) (w : World) (h : isV w x v) :
    Calls Tryd.prog 12 #[v] w fun e w' => e = .returned (.bool (greatB x)) ∧ Below w.heap.size w w' := by
  have hG : greatB x = decide (5000 < wtV 30 x) := rfl
  obtain ⟨z, hz⟩ : ∃ z, wtV 30 x = z := ⟨_, rfl⟩
  have HI : Hid (∀ w1, KB w w1 → Calls Tryd.prog 42 #[v, .int .i64 30] w1 fun e w' => e = .returned (.int .i64 z) ∧ KB w w') := Lib.hid fun w1 hK => Calls.kb hK (by have := weight_any 30 x v w1 (Nat.le_refl _) (isV_below hK h); rw [hz] at this; exact this)
  rw [hz] at hG
  have HG : Hid (greatB x = decide ((5000 : Int) < (z : Int))) := Lib.hid (by rw [hG, decide_eq_decide]; omega)
  obtain ⟨k, b, n, s, l, ks⟩ := x
  unfold isV at h
  obtain ⟨lv, kv, rfl, _⟩ := h
  clear hz hG
  go_enter Tryd.func12, Tryd.ntmps12
  go_wp2_with (go_at_call 42; refine (HI.out _ kbA).mono ?_; rintro e w5 ⟨rfl, hb5⟩)
  go_ret
  exact ⟨by rw [HG.out]; rfl, hb5⟩

set_option maxRecDepth 100000 in
set_option maxHeartbeats 4000000 in
theorem count_any : ∀ (N : Nat) (x : V) (v : Value) (w : World), sizeV x ≤ N → N ≤ 1000000 → isV w x v →
    Calls Tryd.prog 22 #[v] w fun e w' => e = .returned (.int .i64 (countV x)) ∧ Below w.heap.size w w'
  | 0, x, v, w, hN, _, h => absurd (sizeV_pos x) (by omega)
  | N + 1, x, v, w, hN, hM, h => by
    obtain ⟨k, b, n, s, l, ks⟩ := x
    unfold isV at h
    obtain ⟨lv, kv, rfl, hk, hn, hs, ⟨a, cap, ⟨o, rfl, hc1, hc2, ho⟩, hvs⟩, ⟨a2, cap2, ⟨o2, rfl, hc3, hc4, ho2⟩, hks⟩⟩ := h
    unfold maxLen at hs hc2 hc4
    have hsz : sizeV (.mk k b n s l ks) = 1 + s.size + keysS ks + sizeVs l := by rw [sizeV]
    have hcs := counts_le_size l
    have HC : Hid (countV (.mk k b n s l ks) = 1 + countVs l) := Lib.hid (by rw [countV])
    have hSL : sizeVs l ≤ N := by omega
    clear hsz hN hk hn ho2
    go_enter Tryd.func22, Tryd.ntmps22
    go_wp2_with fail
    have hB0 : KB w (w.alloc (.cells #[.int .i8 k, .bool b, .int .i64 n, .string s, .slice o l.length cap, .slice o2 ks.length cap2] 26)) := (Below.refl _ _).alloc (Nat.le_refl _) _
    have h4 : (w.alloc (.cells #[.int .i8 k, .bool b, .int .i64 n, .string s, .slice o l.length cap, .slice o2 ks.length cap2] 26)).cell? ⟨w.heap.size, 4, none⟩ = some (.slice o l.length cap) := by simp
    generalize hW1 : w.alloc (.cells #[.int .i8 k, .bool b, .int .i64 n, .string s, .slice o l.length cap, .slice o2 ks.length cap2] 26) = W1 at *
    clear hW1
    have HB0 := Lib.hid hB0
    have H4 := Lib.hid h4
    have HV : Hid (isVs w l a) := Lib.hid hvs
    clear hB0 h4 hvs hks
    go_loopw [3, 4] (fun n i wr => ∃ (j y : Nat), j ≤ l.length ∧ i = .int .i64 j ∧ n = .int .i64 y ∧ y ≤ 1 + N ∧ Hid (y = 1 + countVs (l.take j)) ∧ Below W1.heap.size W1 wr) (fun _ i _ => l.length - (intOf i).toNat)
    case atStart => exact ⟨0, 1, by omega, rfl, rfl, by omega, Lib.hid (by simp [countVs]), Below.refl _ _⟩
    case round =>
      obtain ⟨j, y, hj, rfl, rfl, hy, hye, hB⟩ := hrel
      have c4 : wr.cell? ⟨w.heap.size, 4, none⟩ = some (.slice o l.length cap) := cell_below hB _ _ H4.out
      by_cases hlt : j < l.length
      · obtain rfl := ho (by omega)
        have hvw := isVs_keep (cell_below hB) l a (isVs_keep (cell_below HB0.out) l a HV.out)
        obtain ⟨c0, c1, c2, c3, c4', c5, g0, g1, g2, g3, g4, g5, hx5⟩ := isVs_at l a j hlt hvw
        have hI := count_any N l[j] _ wr (by have := sizeVs_get l j hlt; omega) (by omega) hx5
        have hsn := countVs_snoc l j hlt
        have htl := countVs_take_le l (j + 1)
        obtain ⟨z, hz⟩ : ∃ z, countV l[j] = z := ⟨_, rfl⟩
        rw [hz] at hI hsn
        have HI := Lib.hid hI
        have HN : Hid (y + z = 1 + countVs (l.take (j + 1))) := Lib.hid (by rw [hsn, hye.out]; omega)
        have HBB := Lib.hid hB
        have hz3 : y + z ≤ 1 + N := by have := HN.out; omega
        clear hI hsn hB hvw hx5 hz hye htl
        go_wp2_with (go_at_call 22; (with_reducible refine HI.out.mono ?_); rintro e w5 ⟨rfl, hb5⟩)
        go_roundw
        case rel => exact ⟨j + 1, y + z, by omega, by go_num, by go_num, hz3, HN, HBB.out.trans (hb5.mono HBB.out.size)⟩
        case measure => simp [intOf]; omega
      · have HF : Hid (countV (.mk k b n s l ks) = y) := Lib.hid (by rw [HC.out, hye.out, List.take_of_length_le (by omega)])
        have HBB := Lib.hid hB
        clear hye hB
        go_wp2_with fail
        go_ret
        exact ⟨by rw [HF.out]; rfl, HB0.out.trans (HBB.out.mono HB0.out.size)⟩

set_option maxRecDepth 100000 in
set_option maxHeartbeats 4000000 in
theorem depth_any : ∀ (N : Nat) (x : V) (v : Value) (left : Int) (w : World), depthV x ≤ N → N ≤ 1000 → (N : Int) ≤ left → left ≤ 1000000 → isV w x v →
    Calls Tryd.prog 49 #[v, .int .i64 left] w fun e w' => e = .returned (.int .i64 (depthV x)) ∧ Below w.heap.size w w'
  | 0, x, v, left, w, hN, _, _, _, h => absurd (depthV_pos x) (by omega)
  | N + 1, x, v, left, w, hN, hM, hl, hl2, h => by
    obtain ⟨k, b, n, s, l, ks⟩ := x
    unfold isV at h
    obtain ⟨lv, kv, rfl, hk, hn, hs, ⟨a, cap, ⟨o, rfl, hc1, hc2, ho⟩, hvs⟩, ⟨a2, cap2, ⟨o2, rfl, hc3, hc4, ho2⟩, hks⟩⟩ := h
    unfold maxLen at hs hc2 hc4
    have hsz : depthV (.mk k b n s l ks) = 1 + depthVs l := by rw [depthV]
    have HC : Hid (depthV (.mk k b n s l ks) = 1 + depthVs l) := Lib.hid hsz
    have hSL : depthVs l ≤ N := by omega
    have hl0 : (left == 0) = false := by rw [beq_eq_false_iff_ne]; omega
    clear hsz hN hk hn ho2
    go_enter Tryd.func49, Tryd.ntmps49
    go_wp2_with fail
    have hB0 : KB w (w.alloc (.cells #[.int .i8 k, .bool b, .int .i64 n, .string s, .slice o l.length cap, .slice o2 ks.length cap2] 26)) := (Below.refl _ _).alloc (Nat.le_refl _) _
    have h4 : (w.alloc (.cells #[.int .i8 k, .bool b, .int .i64 n, .string s, .slice o l.length cap, .slice o2 ks.length cap2] 26)).cell? ⟨w.heap.size, 4, none⟩ = some (.slice o l.length cap) := by simp
    generalize hW1 : w.alloc (.cells #[.int .i8 k, .bool b, .int .i64 n, .string s, .slice o l.length cap, .slice o2 ks.length cap2] 26) = W1 at *
    clear hW1
    have HB0 := Lib.hid hB0
    have H4 := Lib.hid h4
    have HV : Hid (isVs w l a) := Lib.hid hvs
    clear hB0 h4 hvs hks
    go_loopw [5, 6] (fun n i wr => ∃ (j y : Nat), j ≤ l.length ∧ i = .int .i64 j ∧ n = .int .i64 y ∧ y ≤ N ∧ Hid (y = depthVs (l.take j)) ∧ Below W1.heap.size W1 wr) (fun _ i _ => l.length - (intOf i).toNat)
    case atStart => exact ⟨0, 0, by omega, rfl, rfl, by omega, Lib.hid (by simp [depthVs]), Below.refl _ _⟩
    case round =>
      obtain ⟨j, y, hj, rfl, rfl, hy, hye, hB⟩ := hrel
      have c4 : wr.cell? ⟨w.heap.size, 4, none⟩ = some (.slice o l.length cap) := cell_below hB _ _ H4.out
      by_cases hlt : j < l.length
      · obtain rfl := ho (by omega)
        have hvw := isVs_keep (cell_below hB) l a (isVs_keep (cell_below HB0.out) l a HV.out)
        obtain ⟨c0, c1, c2, c3, c4', c5, g0, g1, g2, g3, g4, g5, hx5⟩ := isVs_at l a j hlt hvw
        have hdl := depthVs_get l j hlt
        have hI := depth_any N l[j] _ (left - 1) wr (by omega) (by omega) (by omega) (by omega) hx5
        have hsn := depthVs_snoc l j hlt
        obtain ⟨z, hz⟩ : ∃ z, depthV l[j] = z := ⟨_, rfl⟩
        rw [hz] at hI hsn hdl
        have HI := Lib.hid hI
        obtain ⟨q, hq⟩ : ∃ q : Nat, q = max y z := ⟨_, rfl⟩
        have hqi : (if (y : Int) < (z : Int) then (z : Int) else (y : Int)) = (q : Int) := by split <;> omega
        have hq2 : q ≤ N := by omega
        have HN : Hid (q = depthVs (l.take (j + 1))) := Lib.hid (by rw [hsn, hq, hye.out])
        have HBB := Lib.hid hB
        clear hI hsn hB hvw hx5 hz hye hdl hq
        go_wp2_with (go_at_call 49; (with_reducible refine HI.out.mono ?_); rintro e w5 ⟨rfl, hb5⟩)
        go_roundw
        case rel => exact ⟨j + 1, q, by omega, by go_num, by go_num, hq2, HN, HBB.out.trans (hb5.mono HBB.out.size)⟩
        case measure => simp [intOf]; omega
      · have HF : Hid (depthV (.mk k b n s l ks) = y + 1) := Lib.hid (by rw [HC.out, hye.out, List.take_of_length_le (by omega)]; omega)
        have HBB := Lib.hid hB
        clear hye hB
        go_wp2_with fail
        go_ret
        exact ⟨by rw [HF.out]; rfl, HB0.out.trans (HBB.out.mono HB0.out.size)⟩
set_option maxHeartbeats 2000000 in
theorem depthT_any (x : V) (v : Value) (w : World) (hx : depthV x ≤ 1000) (h : isV w x v) :
    Calls Tryd.prog 20 #[v] w fun e w' => e = .returned (.int .i64 (depthV x)) ∧ Below w.heap.size w w' := by
  have HI : Hid (∀ w1, KB w w1 → Calls Tryd.prog 49 #[v, .int .i64 1000] w1 fun e w' => e = .returned (.int .i64 (depthV x)) ∧ KB w w') := Lib.hid fun w1 hK => Calls.kb hK (depth_any 1000 x v 1000 w1 hx (by decide) (by decide) (by decide) (isV_below hK h))
  obtain ⟨k, b, n, s, l, ks⟩ := x
  unfold isV at h
  obtain ⟨lv, kv, rfl, _⟩ := h
  clear hx
  go_enter Tryd.func20, Tryd.ntmps20
  go_wp2_with (go_at_call 49; refine (HI.out _ kbA).mono ?_; rintro e w5 ⟨rfl, hb5⟩)
  go_ret
  exact ⟨rfl, hb5⟩

/-- Is it deeper than so many levels? -/
def deepB (x : V) (n : Nat) : Bool := decide (n < depthV x)
theorem depthVs_gt {l : List V} {n : Nat} (h : n < depthVs l) : ∃ y ∈ l, n < depthV y := by
  refine Classical.byContradiction fun hc => ?_
  have := depthVs_le n l (fun y hy => by
    refine Classical.byContradiction fun h2 => hc ⟨y, hy, by omega⟩)
  omega
set_option maxRecDepth 100000 in
set_option maxHeartbeats 4000000 in
theorem deeper_any : ∀ (m : Nat) (x : V) (v : Value) (w : World), m ≤ 1000 → isV w x v →
    Calls Tryd.prog 46 #[v, .int .i64 m] w fun e w' => e = .returned (.bool (deepB x m)) ∧ Below w.heap.size w w'
  | 0, x, v, w, _, h => by
    have HD : Hid (deepB x 0 = true) := Lib.hid (decide_eq_true (depthV_pos x))
    obtain ⟨k, b, n, s, l, ks⟩ := x
    unfold isV at h
    obtain ⟨lv, kv, rfl, _⟩ := h
    go_enter Tryd.func46, Tryd.ntmps46
    go_wp2_with fail
    go_ret
    exact ⟨by rw [HD.out]; rfl, (Below.refl _ _).alloc (Nat.le_refl _) _⟩
  | m + 1, x, v, w, hm, h => by
    obtain ⟨k, b, n, s, l, ks⟩ := x
    unfold isV at h
    obtain ⟨lv, kv, rfl, hk, hn, hs, ⟨a, cap, ⟨o, rfl, hc1, hc2, ho⟩, hvs⟩, ⟨a2, cap2, ⟨o2, rfl, hc3, hc4, ho2⟩, hks⟩⟩ := h
    unfold maxLen at hs hc2 hc4
    have HC : Hid (depthV (.mk k b n s l ks) = 1 + depthVs l) := Lib.hid (by rw [depthV])
    have hl0 : ((m : Int) + 1 == 0) = false := by rw [beq_eq_false_iff_ne]; omega
    have hl1 : ((m + 1 : Nat) : Int) = (m : Int) + 1 := by omega
    have hl2 : (m : Int) + 1 - 1 = (m : Int) := by omega
    rw [hl1]
    clear hk hn ho2 hl1
    go_enter Tryd.func46, Tryd.ntmps46
    go_wp2_with fail
    have hB0 : KB w (w.alloc (.cells #[.int .i8 k, .bool b, .int .i64 n, .string s, .slice o l.length cap, .slice o2 ks.length cap2] 26)) := (Below.refl _ _).alloc (Nat.le_refl _) _
    have h4 : (w.alloc (.cells #[.int .i8 k, .bool b, .int .i64 n, .string s, .slice o l.length cap, .slice o2 ks.length cap2] 26)).cell? ⟨w.heap.size, 4, none⟩ = some (.slice o l.length cap) := by simp
    generalize hW1 : w.alloc (.cells #[.int .i8 k, .bool b, .int .i64 n, .string s, .slice o l.length cap, .slice o2 ks.length cap2] 26) = W1 at *
    clear hW1
    have HB0 := Lib.hid hB0
    have H4 := Lib.hid h4
    have HV : Hid (isVs w l a) := Lib.hid hvs
    clear hB0 h4 hvs hks
    go_loopw [5] (fun i wr => ∃ (j : Nat), j ≤ l.length ∧ i = .int .i64 j ∧ Hid (∀ q (h : q < j) (h2 : q < l.length), depthV l[q] ≤ m) ∧ Below W1.heap.size W1 wr) (fun i _ => l.length - (intOf i).toNat)
    case atStart => exact ⟨0, by omega, rfl, Lib.hid (fun q h => absurd h (by omega)), Below.refl _ _⟩
    case round =>
      obtain ⟨j, hj, rfl, hye, hB⟩ := hrel
      have c4 : wr.cell? ⟨w.heap.size, 4, none⟩ = some (.slice o l.length cap) := cell_below hB _ _ H4.out
      by_cases hlt : j < l.length
      · obtain rfl := ho (by omega)
        have hvw := isVs_keep (cell_below hB) l a (isVs_keep (cell_below HB0.out) l a HV.out)
        obtain ⟨c0, c1, c2, c3, c4', c5, g0, g1, g2, g3, g4, g5, hx5⟩ := isVs_at l a j hlt hvw
        have hI := deeper_any m l[j] _ wr (by omega) hx5
        have hdl := depthVs_get l j hlt
        have HBB := Lib.hid hB
        cases hz : deepB l[j] m with
        | true =>
          rw [hz] at hI
          have HI := Lib.hid hI
          have HD : Hid (deepB (.mk k b n s l ks) (m + 1) = true) := Lib.hid (decide_eq_true (by have : m < depthV l[j] := of_decide_eq_true hz; have := HC.out; omega))
          clear hI hB hvw hx5 hz hye hdl
          go_wp2_with (go_at_call 46; (with_reducible refine HI.out.mono ?_); rintro e w5 ⟨rfl, hb5⟩)
          go_ret
          exact ⟨by rw [HD.out]; rfl, HB0.out.trans ((HBB.out.trans (hb5.mono HBB.out.size)).mono HB0.out.size)⟩
        | false =>
          rw [hz] at hI
          have HI := Lib.hid hI
          have hn2 : depthV l[j] ≤ m := by have : ¬ m < depthV l[j] := of_decide_eq_false hz; omega
          have HN : Hid (∀ q (h : q < j + 1) (h2 : q < l.length), depthV l[q] ≤ m) := Lib.hid (fun q h h2 => by
            by_cases e : q = j
            · subst e; exact hn2
            · exact hye.out q (by omega) h2)
          clear hI hB hvw hx5 hz hye hdl hn2
          go_wp2_with (go_at_call 46; (with_reducible refine HI.out.mono ?_); rintro e w5 ⟨rfl, hb5⟩)
          go_roundw
          case rel => exact ⟨j + 1, by omega, by go_num, HN, HBB.out.trans (hb5.mono HBB.out.size)⟩
          case measure => simp [intOf]; omega
      · have HF : Hid (deepB (.mk k b n s l ks) (m + 1) = false) := Lib.hid (decide_eq_false (by
          intro hc
          rw [HC.out] at hc
          obtain ⟨y, hy, hy2⟩ := depthVs_gt (l := l) (n := m) (by omega)
          obtain ⟨q, hq, rfl⟩ := List.getElem_of_mem hy
          have := hye.out q (by omega) hq
          omega))
        have HBB := Lib.hid hB
        clear hye hB
        go_wp2_with fail
        go_ret
        exact ⟨by rw [HF.out]; rfl, HB0.out.trans (HBB.out.mono HB0.out.size)⟩
end Go.Proofs.YtdbfpojgaalfmaaDoor
