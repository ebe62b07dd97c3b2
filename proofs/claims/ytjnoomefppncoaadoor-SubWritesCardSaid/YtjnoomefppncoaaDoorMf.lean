/-
  How great an expression is: weight, Great, great.
-/
import Derived.Test.YtjnoomefppncoaaDoorLo
import Derived.Handy
set_option linter.unusedVariables false
namespace Go.Proofs.YtjnoomefppncoaaDoor
open Go.RowKit Go.Shelf

/-- What a weight of at most 3000 tells. -/
def smallE (x : E) : Prop := x.text.size + x.name.size + x.attr.size ≤ 3000
theorem reach_le : reachBytes ≤ 140737488355328 := by decide

set_option maxRecDepth 100000 in
set_option maxHeartbeats 4000000 in
theorem weight_any : ∀ (left : Nat) (x : E) (v : Value) (w : World), left ≤ 30 → isE w x v →
    Calls Tryd.prog 47 #[v, .int .i64 left] w fun e w' => ∃ n : Nat, e = .returned (.int .i64 n) ∧ n ≤ 10001 + 10000 * left ∧ (n ≤ 3000 → smallE x) ∧ Below w.heap.size w w'
  | 0, x, v, w, _, h => by
    obtain ⟨k, t, n, m, b, l⟩ := x
    unfold isE at h
    obtain ⟨lv, rfl, hk, hn, ht, hm, hb, ⟨a, cap, hsl, hvs⟩⟩ := h
    clear hk hn ht hm hb hsl hvs
    go_enter Tryd.func47, Tryd.ntmps47
    go_wp2_with fail
    go_ret
    exact ⟨10000, rfl, by omega, fun h => absurd h (by decide), (Below.refl _ _).alloc (Nat.le_refl _) _⟩
  | left + 1, x, v, w, hl, h => by
    obtain ⟨k, t, n, m, b, l⟩ := x
    unfold isE at h
    obtain ⟨lv, rfl, hk, hn, ht, hm, hbz, ⟨a, cap, ⟨o, rfl, hc1, hc2, ho⟩, hvs⟩⟩ := h
    unfold maxLen at hc2
    have hr := reach_le
    have hl0 : ((left : Int) + 1 == 0) = false := by rw [beq_eq_false_iff_ne]; omega
    have hl1 : ((left + 1 : Nat) : Int) = (left : Int) + 1 := by omega
    rw [hl1]
    have hl2 : (left : Int) + 1 - 1 = (left : Int) := by omega
    clear hk hn
    by_cases hb1 : 500 < l.length
    · have hb2 : (500 : Int) < (l.length : Int) := by omega
      go_enter Tryd.func47, Tryd.ntmps47
      go_wp2_with fail
      go_ret
      exact ⟨10000, rfl, by omega, fun h => absurd h (by decide), (Below.refl _ _).alloc (Nat.le_refl _) _⟩
    have hb2 : ¬ (500 : Int) < (l.length : Int) := by omega
    obtain ⟨q, hq⟩ : ∃ q : Nat, q = min (t.size + m.size + b.size) 10000 := ⟨_, rfl⟩
    have hmi : (if (10000 : Int) < (t.size : Int) + (m.size : Int) + (b.size : Int) then (10000 : Int) else (t.size : Int) + (m.size : Int) + (b.size : Int)) = (q : Int) := by split <;> omega
    have hs1 : t.size + m.size + b.size ≤ 9223372036854775807 := by omega
    have hs2 : t.size + m.size ≤ 9223372036854775807 := by omega
    have hq2 : q ≤ 10000 := by omega
    have HSM : Hid (∀ N : Nat, 1 + q ≤ N → N ≤ 3000 → smallE (.mk k t n m b l)) := Lib.hid fun N h1 h2 => by show t.size + m.size + b.size ≤ 3000; omega
    have HV : Hid (isEs w l a) := Lib.hid hvs
    have hb0 : Below w.heap.size w (w.alloc (.cells #[.int .i8 k, .string t, .int .i64 n, .string m, .string b, .slice o l.length cap] 36)) := (Below.refl _ _).alloc (Nat.le_refl _) _
    have h5 : (w.alloc (.cells #[.int .i8 k, .string t, .int .i64 n, .string m, .string b, .slice o l.length cap] 36)).cell? ⟨w.heap.size, 5, none⟩ = some (.slice o l.length cap) := cell_of_row _ _ 5 _ _ (0, 0) (heap_alloc_new w _)
    have HB0 := Lib.hid hb0
    have H5 := Lib.hid h5
    clear hvs hq hb0 h5 hl1 ht hm hbz hr
    go_enter Tryd.func47, Tryd.ntmps47
    go_wp2_with fail
    generalize hW1 : w.alloc (.cells #[.int .i8 k, .string t, .int .i64 n, .string m, .string b, .slice o l.length cap] 36) = W1 at *
    clear hW1
    go_loopw [5, 6] (fun nv iv wr => ∃ (j y : Nat), j ≤ l.length ∧ iv = .int .i64 j ∧ nv = .int .i64 y ∧ 1 + q ≤ y ∧ y ≤ 10001 + 10000 * (left + 1) ∧ Hid (Below W1.heap.size W1 wr)) (fun _ iv _ => l.length - (intOf iv).toNat)
    case atStart => exact ⟨0, 1 + q, Nat.zero_le _, rfl, by go_num, Nat.le_refl _, by omega, Lib.hid (Below.refl _ _)⟩
    case round =>
      obtain ⟨j, y, hj, rfl, rfl, hy0, hy, hB⟩ := hrel
      have c5 : wr.cell? ⟨w.heap.size, 5, none⟩ = some (.slice o l.length cap) := cell_below hB.out _ _ H5.out
      have HF : Hid (∃ N : Nat, Ending.returned (Value.int .i64 (y : Int)) = .returned (.int .i64 N) ∧ N ≤ 10001 + 10000 * (left + 1) ∧ (N ≤ 3000 → smallE (.mk k t n m b l)) ∧ Below w.heap.size w wr) := Lib.hid ⟨y, rfl, hy, HSM.out y hy0, HB0.out.trans (hB.out.mono HB0.out.size)⟩
      by_cases hlt : j < l.length
      · obtain rfl := ho (by omega)
        have hlti : (j : Int) < (l.length : Int) := by omega
        by_cases hy1 : y ≤ 10000
        · have hvw := isEs_below hB.out (isEs_below HB0.out HV.out)
          obtain ⟨c0, c1, c2, c3, c4, c5', g0, g1, g2, g3, g4, g5, hx5⟩ := isEs_at l a j hlt hvw
          have HI := Lib.hid (weight_any left l[j] _ wr (by omega) hx5)
          have hy2 : decide ((y : Int) ≤ 10000) = true := decide_eq_true (by omega)
          clear hvw hx5 HF
          go_wp2_with (go_at_call 47; (with_reducible refine HI.out.mono ?_); rintro e w5 ⟨z, rfl, hz, -, hb5⟩)
          go_roundw
          case rel => exact ⟨j + 1, y + z, by omega, by go_num, by go_num, by omega, by omega, Lib.hid (hB.out.trans (hb5.mono hB.out.size))⟩
          case measure => simp [intOf]; omega
        · have hy2 : decide ((y : Int) ≤ 10000) = false := decide_eq_false (by omega)
          go_wp2_with fail
          go_ret
          exact HF.out
      · have hlti : ¬ (j : Int) < (l.length : Int) := by omega
        go_wp2_with fail
        go_ret
        exact HF.out
set_option maxRecDepth 100000 in
set_option maxHeartbeats 4000000 in
theorem Great_any (x : E) (v : Value) (w : World) (h : isE w x v) :
    Calls Tryd.prog 30 #[v] w fun e w' => ∃ r : Bool, e = .returned (.bool r) ∧ (r = false → smallE x) ∧ Below w.heap.size w w' := by
  have h0 := h
  obtain ⟨k, t, n, m, b, l⟩ := x
  unfold isE at h
  obtain ⟨lv, rfl, -, -, -, -, -, -⟩ := h
  have HI : Hid (Calls Tryd.prog 47 #[_, .int .i64 30] (w.alloc (.cells #[.int .i8 k, .string t, .int .i64 n, .string m, .string b, lv] 36)) _) := Lib.hid (weight_any 30 _ _ _ (Nat.le_refl _) (isE_below ((Below.refl _ _).alloc (Nat.le_refl _) _) h0))
  clear h0
  go_enter Tryd.func30, Tryd.ntmps30
  go_wp2_with (go_at_call 47; refine HI.out.mono ?_; rintro e w5 ⟨z, rfl, hz, hsm, hb5⟩)
  go_ret
  have hz3 : decide ((3000 : Int) < (z : Int)) = false → z ≤ 3000 := fun h => by
    have h' : ¬ ((3000 : Int) < (z : Int)) := of_decide_eq_false h
    omega
  refine ⟨decide ((3000 : Int) < (z : Int)), by first | rfl | simp, fun h => hsm (hz3 h), ((Below.refl _ _).alloc (Nat.le_refl _) _).trans (hb5.mono (by simp))⟩

/-- A slice of expressions. -/
def isEl (W : World) (l : List E) (v : Value) : Prop := ∃ a cap, slv v l.length a cap ∧ isEs W l a
theorem isEl.below {W W' : World} {l : List E} {v : Value} (h : isEl W l v) (hb : Below W.heap.size W W') : isEl W' l v := by
  obtain ⟨a, cap, h1, h2⟩ := h
  exact ⟨a, cap, h1, isEs_below hb h2⟩
theorem isE_six {W : World} {x : E} {c0 c1 c2 c3 c4 c5 : Value} (h : isE W x (.agg #[c0, c1, c2, c3, c4, c5])) : ∃ o c, c0 = .int .i8 x.kind ∧ c1 = .string x.text ∧ c2 = .int .i64 x.num ∧ c3 = .string x.name ∧ c4 = .string x.attr ∧ c5 = .slice o x.list.length c := by
  obtain ⟨k, t, n, m, b, l⟩ := x
  unfold isE at h
  obtain ⟨lv, hv, -, -, -, -, -, ⟨a, cap, ⟨o, rfl, -, -, -⟩, -⟩⟩ := h
  simp only [Value.agg.injEq, Array.mk.injEq, List.cons.injEq, and_true] at hv
  obtain ⟨rfl, rfl, rfl, rfl, rfl, rfl⟩ := hv
  exact ⟨o, cap, rfl, rfl, rfl, rfl, rfl, rfl⟩
/-- What great answers. -/
def GreatR (l : List E) (w : World) (e : Ending) (w' : World) : Prop := ∃ r : Bool, e = .returned (.bool r) ∧ (r = false → l.length ≤ 200 ∧ ∀ x ∈ l, smallE x) ∧ Below w.heap.size w w'
set_option maxRecDepth 100000 in
set_option maxHeartbeats 4000000 in
theorem great_any (l : List E) (v : Value) (w : World) (h : isEl w l v) :
    Calls Tryd.prog 16 #[v] w (GreatR l w) := by
  obtain ⟨a, cap, ⟨o, rfl, hc1, hc2, ho⟩, hvs⟩ := h
  have HV := Lib.hid hvs
  clear hvs
  by_cases hb1 : 200 < l.length
  · have hb2 : (200 : Int) < (l.length : Int) := by omega
    go_enter Tryd.func16, Tryd.ntmps16
    go_wp2_with fail
    go_ret
    exact ⟨true, rfl, fun h => (by cases h), Below.refl _ _⟩
  have hb2 : ¬ (200 : Int) < (l.length : Int) := by omega
  go_enter Tryd.func16, Tryd.ntmps16
  go_wp2_with fail
  go_loopw [10] (fun iv wr => ∃ j : Nat, j ≤ l.length ∧ iv = .int .i64 j ∧ Hid (∀ x ∈ l.take j, smallE x) ∧ Hid (Below w.heap.size w wr)) (fun iv _ => l.length - (intOf iv).toNat)
  case atStart => exact ⟨0, Nat.zero_le _, rfl, Lib.hid (by simp), Lib.hid (Below.refl _ _)⟩
  case round =>
    obtain ⟨j, hj, rfl, hS, hB⟩ := hrel
    by_cases hlt : j < l.length
    · obtain rfl := ho (by omega)
      have hlti : (j : Int) < (l.length : Int) := by omega
      have hvw := isEs_below hB.out HV.out
      obtain ⟨c0, c1, c2, c3, c4, c5, g0, g1, g2, g3, g4, g5, hx5⟩ := isEs_at l a j hlt hvw
      obtain ⟨o5, cp5, rfl, rfl, rfl, rfl, rfl, rfl⟩ := isE_six hx5
      have HI := Lib.hid fun (ob : Obj) => Great_any l[j] _ (wr.alloc ob) (isE_below ((Below.refl _ _).alloc (Nat.le_refl _) ob) hx5)
      have HSN := Lib.hid (List.take_succ_eq_append_getElem hlt)
      have hBA := fun (ob : Obj) => hB.out.alloc hB.out.size ob
      have HBA := Lib.hid hBA
      clear hvw hx5 hBA
      generalize l[j] = x at *
      go_wp2_with (go_at_call 30; refine (HI.out _).mono ?_; rintro e w5 ⟨r, rfl, hsm, hb5⟩; rcases r with _ | _)
      · have HS2 : Hid (∀ y ∈ l.take (j + 1), smallE y) := Lib.hid fun y hy => by
          rw [HSN.out] at hy
          rcases List.mem_append.1 hy with h | h
          · exact hS.out y h
          · rw [List.mem_singleton.1 h]; exact hsm trivial
        go_roundw
        case rel => exact ⟨j + 1, by omega, by go_num, HS2, Lib.hid ((HBA.out _).trans (hb5.mono (HBA.out _).size))⟩
        case measure => simp [intOf]; omega
      · go_ret
        exact ⟨true, rfl, fun h => (by cases h), (HBA.out _).trans (hb5.mono (HBA.out _).size)⟩
    · have hlti : ¬ (j : Int) < (l.length : Int) := by omega
      have HF : Hid (∀ x ∈ l, smallE x) := Lib.hid (by have := hS.out; rw [List.take_of_length_le (by omega)] at this; exact this)
      clear hS
      go_wp2_with fail
      go_ret
      exact ⟨false, rfl, fun _ => ⟨by omega, HF.out⟩, hB.out⟩
end Go.Proofs.YtjnoomefppncoaaDoor
