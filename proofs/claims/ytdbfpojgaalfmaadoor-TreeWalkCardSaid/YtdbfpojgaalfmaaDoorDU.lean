/-
  TreeWrap, walked.
-/
import Derived.Test.YtdbfpojgaalfmaaDoorDZ
import Derived.Deep.RegionWith
set_option linter.unusedVariables false
namespace Go.Proofs.YtdbfpojgaalfmaaDoor
open Go.RowKit Go.Shelf

def allocs : World → List Obj → World
  | w, [] => w
  | w, o :: t => allocs (w.alloc o) t
theorem allocs_below (B : Nat) : ∀ (os : List Obj) (w v : World), B ≤ v.heap.size → Below B v w → B ≤ w.heap.size → Below B v (allocs w os)
  | [], w, v, h0, h, hB => h
  | o :: t, w, v, h0, h, hB => by
    rw [allocs]
    exact allocs_below B t (w.alloc o) v h0 (h.alloc hB _) (by rw [World.size_alloc]; omega)
theorem allocs_kb (w : World) (os : List Obj) : KB w (allocs w os) := allocs_below _ os w w (Nat.le_refl _) (Below.refl _ _) (Nat.le_refl _)
theorem allocs_at : ∀ (os : List Obj) (w : World) (i : Nat) (h : i < os.length), (allocs w os).heap[w.heap.size + i]? = some os[i]
  | o :: t, w, 0, _ => by
    rw [allocs]
    have h1 : w.heap.size < (w.alloc o).heap.size := by rw [World.size_alloc]; omega
    exact ((allocs_kb (w.alloc o) t).block _ h1).trans (World.alloc_heap_new w o)
  | o :: t, w, i + 1, h => by
    rw [allocs]
    have := allocs_at t (w.alloc o) i (by simpa using h)
    rw [World.size_alloc, Nat.add_assoc, Nat.add_comm 1 i] at this
    exact this

set_option maxRecDepth 100000 in
set_option maxHeartbeats 8000000 in
theorem wrapGreat_any (va : Value) (x : V) (vb : Value) (y : V) (key : ByteArray) (w : World) (hE : Env w) (h : isV w x va) (h' : isV w y vb) (hk : key.size ≤ maxLen) (hg : greatB x = true ∨ greatB y = true ∨ 200 < key.size) :
    Calls Tryd.prog 8 #[va, vb, .string key] w fun e w' => e = .returned (.bool true) ∧ Below w.heap.size w w' := by
  obtain ⟨k, b, n, s, o, m, c, o2, m2, c2, rfl⟩ := isV_six h
  obtain ⟨k', b', n', s', o', m', c', o2', m2', c2', rfl⟩ := isV_six h'
  have HB := (two_boxes w #[.int .i8 k, .bool b, .int .i64 n, .string s, .slice o m c, .slice o2 m2 c2] #[.int .i8 k', .bool b', .int .i64 n', .string s', .slice o' m' c', .slice o2' m2' c2'] 26)
  have HB0 : Hid (KB w ((w.alloc (.cells #[.int .i8 k, .bool b, .int .i64 n, .string s, .slice o m c, .slice o2 m2 c2] 26)).alloc (.cells #[.int .i8 k', .bool b', .int .i64 n', .string s', .slice o' m' c', .slice o2' m2' c2'] 26))) := Lib.hid HB.1
  have G1 : Hid (∀ w1, KB ((w.alloc (.cells #[.int .i8 k, .bool b, .int .i64 n, .string s, .slice o m c, .slice o2 m2 c2] 26)).alloc (.cells #[.int .i8 k', .bool b', .int .i64 n', .string s', .slice o' m' c', .slice o2' m2' c2'] 26)) w1 → Calls Tryd.prog 12 #[.agg #[.int .i8 k, .bool b, .int .i64 n, .string s, .slice o m c, .slice o2 m2 c2]] w1 fun e w' => e = .returned (.bool (greatB x)) ∧ KB ((w.alloc (.cells #[.int .i8 k, .bool b, .int .i64 n, .string s, .slice o m c, .slice o2 m2 c2] 26)).alloc (.cells #[.int .i8 k', .bool b', .int .i64 n', .string s', .slice o' m' c', .slice o2' m2' c2'] 26)) w') := Lib.hid fun w1 hK => Calls.kb hK (great_any x _ w1 (isV_below hK (isV_below HB.1 h)))
  have G2 : Hid (∀ w1, KB ((w.alloc (.cells #[.int .i8 k, .bool b, .int .i64 n, .string s, .slice o m c, .slice o2 m2 c2] 26)).alloc (.cells #[.int .i8 k', .bool b', .int .i64 n', .string s', .slice o' m' c', .slice o2' m2' c2'] 26)) w1 → Calls Tryd.prog 12 #[.agg #[.int .i8 k', .bool b', .int .i64 n', .string s', .slice o' m' c', .slice o2' m2' c2']] w1 fun e w' => e = .returned (.bool (greatB y)) ∧ KB ((w.alloc (.cells #[.int .i8 k, .bool b, .int .i64 n, .string s, .slice o m c, .slice o2 m2 c2] 26)).alloc (.cells #[.int .i8 k', .bool b', .int .i64 n', .string s', .slice o' m' c', .slice o2' m2' c2'] 26)) w') := Lib.hid fun w1 hK => Calls.kb hK (great_any y _ w1 (isV_below hK (isV_below HB.1 h')))
  have WK : Hid (∀ w1, KB ((w.alloc (.cells #[.int .i8 k, .bool b, .int .i64 n, .string s, .slice o m c, .slice o2 m2 c2] 26)).alloc (.cells #[.int .i8 k', .bool b', .int .i64 n', .string s', .slice o' m' c', .slice o2' m2' c2'] 26)) w1 → Calls Tryd.prog 13 #[] w1 fun e w' => e = .returned (.bool true) ∧ KB ((w.alloc (.cells #[.int .i8 k, .bool b, .int .i64 n, .string s, .slice o m c, .slice o2 m2 c2] 26)).alloc (.cells #[.int .i8 k', .bool b', .int .i64 n', .string s', .slice o' m' c', .slice o2' m2' c2'] 26)) w') := Lib.hid fun w1 hK => Calls.kb hK (wakes_any w1 ((hE.kb HB.1).kb hK))
  have C1 : Hid (∀ w1, KB ((w.alloc (.cells #[.int .i8 k, .bool b, .int .i64 n, .string s, .slice o m c, .slice o2 m2 c2] 26)).alloc (.cells #[.int .i8 k', .bool b', .int .i64 n', .string s', .slice o' m' c', .slice o2' m2' c2'] 26)) w1 → w1.heap[w.heap.size + 1]? = some (.cells #[.int .i8 k', .bool b', .int .i64 n', .string s', .slice o' m' c', .slice o2' m2' c2'] 26 (0, 0))) := Lib.hid fun w1 hK => (hK.block _ (Array.getElem?_eq_some_iff.1 HB.2.2).1).trans HB.2.2
  generalize greatB x = gA at *
  generalize greatB y = gB at *
  have HG := Lib.hid hg
  clear h h' hE hg HB
  cases gA with
  | true =>
    go_enter Tryd.func8, Tryd.ntmps8
    go_wp2_with fail
    refine (G1.out _ (Below.refl _ _)).mono ?_
    rintro e w5 ⟨rfl, hb5⟩
    go_wp2_with fail
    refine (WK.out _ hb5).mono ?_
    rintro e w6 ⟨rfl, hb6⟩
    go_wp2_with fail
    go_ret
    exact ⟨rfl, HB0.out.trans (hb6.mono HB0.out.size)⟩
  | false =>
  cases gB with
  | true =>
    go_enter Tryd.func8, Tryd.ntmps8
    go_wp2_with fail
    refine (G1.out _ (Below.refl _ _)).mono ?_
    rintro e w5 ⟨rfl, hb5⟩
    obtain ⟨s0, s1, s2, s3, s4, s5⟩ := six_cells (C1.out w5 hb5)
    go_wp2_with fail
    refine (G2.out _ hb5).mono ?_
    rintro e w6 ⟨rfl, hb6⟩
    go_wp2_with fail
    refine (WK.out _ hb6).mono ?_
    rintro e w7 ⟨rfl, hb7⟩
    go_wp2_with fail
    go_ret
    exact ⟨rfl, HB0.out.trans (hb7.mono HB0.out.size)⟩
  | false =>
    have hks : 200 < key.size := by
      rcases HG.out with h | h | h
      · cases h
      · cases h
      · exact h
    have hkd : decide ((200 : Int) < (key.size : Int)) = true := decide_eq_true (by omega)
    clear HG hks
    go_enter Tryd.func8, Tryd.ntmps8
    go_wp2_with fail
    refine (G1.out _ (Below.refl _ _)).mono ?_
    rintro e w5 ⟨rfl, hb5⟩
    obtain ⟨s0, s1, s2, s3, s4, s5⟩ := six_cells (C1.out w5 hb5)
    go_wp2_with fail
    refine (G2.out _ hb5).mono ?_
    rintro e w6 ⟨rfl, hb6⟩
    go_wp2_with fail
    refine (WK.out _ hb6).mono ?_
    rintro e w7 ⟨rfl, hb7⟩
    go_wp2_with fail
    go_ret
    exact ⟨rfl, HB0.out.trans (hb7.mono HB0.out.size)⟩
end Go.Proofs.YtdbfpojgaalfmaaDoor
