/-
  Is a value the zero one? (The program's alike, held against it.)
-/
import Derived.Test.YtdckldfekepopaaGreatDoorZS
import Derived.Deep.LoopGhost
set_option linter.unusedVariables false
set_option linter.unusedSimpArgs false
namespace Go.Proofs.YtdckldfekepopaaGreatDoor
open Go.RowKit

def zV : V := .mk 0 false 0 ⟨#[]⟩ [] []
theorem butZ (x : V) : butB x zV = sm x zV := by
  cases hb : butB x zV with
  | true =>
    symm
    apply sm_yes
    unfold butB at hb
    simp only [Bool.and_eq_true, decide_eq_true_eq] at hb
    obtain ⟨k, b, n, s, l, ks⟩ := x
    obtain ⟨h1, h2, h3, h4, h5, h6⟩ := hb
    unfold zV at *
    simp only [V.kind, V.bool, V.num, V.text, V.keys, V.list, List.length_nil] at h1 h2 h3 h4 h5 h6
    rw [h1, h2, h3, h4, h5, List.eq_nil_of_length_eq_zero h6]
  | false =>
    symm
    apply sm_no
    intro e
    subst e
    have : butB zV zV = true := by unfold butB zV; simp
    rw [this] at hb
    cases hb

theorem three_rows (U : World) (X Y P : Array Value) (t t' t'' : TypeId) :
    (∀ i, (((U.alloc (.cells X t)).alloc (.cells Y t')).alloc (.cells P t'')).cell? ⟨U.heap.size, i, none⟩ = X[i]?) ∧ (∀ i, (((U.alloc (.cells X t)).alloc (.cells Y t')).alloc (.cells P t'')).cell? ⟨U.heap.size + 1, i, none⟩ = Y[i]?) ∧
    ∀ i, (((U.alloc (.cells X t)).alloc (.cells Y t')).alloc (.cells P t'')).cell? ⟨U.heap.size + 1 + 1, i, none⟩ = P[i]? := by
  have z1 : (U.alloc (.cells X t)).heap.size = U.heap.size + 1 := by simp
  have z2 : ((U.alloc (.cells X t)).alloc (.cells Y t')).heap.size = U.heap.size + 1 + 1 := by simp
  refine ⟨fun i => cell_of_row _ _ _ _ _ _ (((MapKept.heap_alloc _ _).2 U.heap.size (by omega)).trans (((MapKept.heap_alloc _ _).2 U.heap.size (by omega)).trans (MapKept.heap_alloc U _).1)), fun i => ?_, fun i => ?_⟩
  · refine cell_of_row _ _ _ Y t' (0, 0) (((MapKept.heap_alloc _ _).2 (U.heap.size + 1) (by omega)).trans ?_)
    have h := (MapKept.heap_alloc (U.alloc (.cells X t)) (.cells Y t')).1
    rw [z1] at h; exact h
  · refine cell_of_row _ _ _ P t'' (0, 0) ?_
    have h := (MapKept.heap_alloc ((U.alloc (.cells X t)).alloc (.cells Y t')) (.cells P t'')).1
    rw [z2] at h; exact h

set_option maxRecDepth 100000 in
set_option maxHeartbeats 8000000 in
theorem alikeZ_any (x : V) (v u : Value) (w : World) (hM : x.keys.length ≤ 1000000) (h : isV w x v) (h' : isV w zV u) :
    Calls Tryz.prog 95 #[v, u] w fun e w' => e = .returned (.bool (sm x zV)) ∧ Below w.heap.size w w' := by
  obtain ⟨k, b, n, s, o, m, c, o2, m2, c2, rfl⟩ := isV_six h
  obtain ⟨k', b', n', s', o', m', c', o2', m2', c2', rfl⟩ := isV_six h'
  obtain ⟨_, _, _, _, hm, _⟩ := isV_all h
  obtain ⟨_, _, _, _, hm', _⟩ := isV_all h'
  obtain rfl : m' = 0 := hm'
  have hbz : butB x zV = true → m = 0 := fun hb => by
    unfold butB at hb
    simp only [Bool.and_eq_true, decide_eq_true_eq] at hb
    rw [hm]
    exact hb.2.2.2.2.2
  have HBUT : Hid (∀ w1, KB w w1 → Calls Tryz.prog 102 #[.agg #[.int .i8 k, .bool b, .int .i64 n, .string s, .slice o m c, .slice o2 m2 c2], .agg #[.int .i8 k', .bool b', .int .i64 n', .string s', .slice o' 0 c', .slice o2' m2' c2']] w1 fun e w' => e = .returned (.bool (butB x zV)) ∧ Below w1.heap.size w1 w') := Lib.hid fun w1 hK => alikeBut_any x zV _ _ w1 hM (isV_below hK h) (isV_below hK h')
  have HONE : Hid (∀ w1, Calls Tryz.prog 103 #[.slice o 0 c, .slice o' 0 c'] w1 fun e w' => e = .returned (.bool true) ∧ Below w1.heap.size w1 w') := Lib.hid fun w1 => one_nil o o' c c' w1
  rw [butZ] at HBUT hbz
  obtain ⟨r, hr⟩ : ∃ r, sm x zV = r := ⟨_, rfl⟩
  rw [hr] at HBUT hbz ⊢
  clear h h' hm hM hr
  have HB5 : Hid (Below w.heap.size w (((((w.alloc (.cells #[.int .i8 k, .bool b, .int .i64 n, .string s, .slice o m c, .slice o2 m2 c2] 64)).alloc (.cells #[.int .i8 k', .bool b', .int .i64 n', .string s', .slice o' 0 c', .slice o2' m2' c2'] 64)).alloc (.cells #[.int .i8 k, .bool b, .int .i64 n, .string s, .slice o m c, .slice o2 m2 c2] 64)).alloc (.cells #[.int .i8 k', .bool b', .int .i64 n', .string s', .slice o' 0 c', .slice o2' m2' c2'] 64)).alloc (.cells #[.slice (some ⟨w.heap.size + 1 + 1, 0, none⟩) 1 1, .slice (some ⟨w.heap.size + 1 + 1 + 1, 0, none⟩) 1 1] 136))) := Lib.hid (((((Below.refl _ _).alloc (Nat.le_refl _) _).alloc (by simp) _).alloc (by simp; omega) _).alloc (by simp; omega) _ |>.alloc (by simp; omega) _)
  have hU : ((w.alloc (.cells #[.int .i8 k, .bool b, .int .i64 n, .string s, .slice o m c, .slice o2 m2 c2] 64)).alloc (.cells #[.int .i8 k', .bool b', .int .i64 n', .string s', .slice o' 0 c', .slice o2' m2' c2'] 64)).heap.size = w.heap.size + 1 + 1 := by simp
  have h3 := three_rows ((w.alloc (.cells #[.int .i8 k, .bool b, .int .i64 n, .string s, .slice o m c, .slice o2 m2 c2] 64)).alloc (.cells #[.int .i8 k', .bool b', .int .i64 n', .string s', .slice o' 0 c', .slice o2' m2' c2'] 64)) (#[.int .i8 k, .bool b, .int .i64 n, .string s, .slice o m c, .slice o2 m2 c2] : Array Value) (#[.int .i8 k', .bool b', .int .i64 n', .string s', .slice o' 0 c', .slice o2' m2' c2'] : Array Value) (#[.slice (some ⟨w.heap.size + 1 + 1, 0, none⟩) 1 1, .slice (some ⟨w.heap.size + 1 + 1 + 1, 0, none⟩) 1 1] : Array Value) 64 64 136
  rw [hU] at h3
  have Fx0 : (((((w.alloc (.cells #[.int .i8 k, .bool b, .int .i64 n, .string s, .slice o m c, .slice o2 m2 c2] 64)).alloc (.cells #[.int .i8 k', .bool b', .int .i64 n', .string s', .slice o' 0 c', .slice o2' m2' c2'] 64)).alloc (.cells #[.int .i8 k, .bool b, .int .i64 n, .string s, .slice o m c, .slice o2 m2 c2] 64)).alloc (.cells #[.int .i8 k', .bool b', .int .i64 n', .string s', .slice o' 0 c', .slice o2' m2' c2'] 64)).alloc (.cells #[.slice (some ⟨w.heap.size + 1 + 1, 0, none⟩) 1 1, .slice (some ⟨w.heap.size + 1 + 1 + 1, 0, none⟩) 1 1] 136)).cell? ⟨w.heap.size + 1 + 1, 0, none⟩ = some (.int .i8 k) := (h3.1 0).trans rfl
  have Fx1 : (((((w.alloc (.cells #[.int .i8 k, .bool b, .int .i64 n, .string s, .slice o m c, .slice o2 m2 c2] 64)).alloc (.cells #[.int .i8 k', .bool b', .int .i64 n', .string s', .slice o' 0 c', .slice o2' m2' c2'] 64)).alloc (.cells #[.int .i8 k, .bool b, .int .i64 n, .string s, .slice o m c, .slice o2 m2 c2] 64)).alloc (.cells #[.int .i8 k', .bool b', .int .i64 n', .string s', .slice o' 0 c', .slice o2' m2' c2'] 64)).alloc (.cells #[.slice (some ⟨w.heap.size + 1 + 1, 0, none⟩) 1 1, .slice (some ⟨w.heap.size + 1 + 1 + 1, 0, none⟩) 1 1] 136)).cell? ⟨w.heap.size + 1 + 1, 1, none⟩ = some (.bool b) := (h3.1 1).trans rfl
  have Fx2 : (((((w.alloc (.cells #[.int .i8 k, .bool b, .int .i64 n, .string s, .slice o m c, .slice o2 m2 c2] 64)).alloc (.cells #[.int .i8 k', .bool b', .int .i64 n', .string s', .slice o' 0 c', .slice o2' m2' c2'] 64)).alloc (.cells #[.int .i8 k, .bool b, .int .i64 n, .string s, .slice o m c, .slice o2 m2 c2] 64)).alloc (.cells #[.int .i8 k', .bool b', .int .i64 n', .string s', .slice o' 0 c', .slice o2' m2' c2'] 64)).alloc (.cells #[.slice (some ⟨w.heap.size + 1 + 1, 0, none⟩) 1 1, .slice (some ⟨w.heap.size + 1 + 1 + 1, 0, none⟩) 1 1] 136)).cell? ⟨w.heap.size + 1 + 1, 2, none⟩ = some (.int .i64 n) := (h3.1 2).trans rfl
  have Fx3 : (((((w.alloc (.cells #[.int .i8 k, .bool b, .int .i64 n, .string s, .slice o m c, .slice o2 m2 c2] 64)).alloc (.cells #[.int .i8 k', .bool b', .int .i64 n', .string s', .slice o' 0 c', .slice o2' m2' c2'] 64)).alloc (.cells #[.int .i8 k, .bool b, .int .i64 n, .string s, .slice o m c, .slice o2 m2 c2] 64)).alloc (.cells #[.int .i8 k', .bool b', .int .i64 n', .string s', .slice o' 0 c', .slice o2' m2' c2'] 64)).alloc (.cells #[.slice (some ⟨w.heap.size + 1 + 1, 0, none⟩) 1 1, .slice (some ⟨w.heap.size + 1 + 1 + 1, 0, none⟩) 1 1] 136)).cell? ⟨w.heap.size + 1 + 1, 3, none⟩ = some (.string s) := (h3.1 3).trans rfl
  have Fx4 : (((((w.alloc (.cells #[.int .i8 k, .bool b, .int .i64 n, .string s, .slice o m c, .slice o2 m2 c2] 64)).alloc (.cells #[.int .i8 k', .bool b', .int .i64 n', .string s', .slice o' 0 c', .slice o2' m2' c2'] 64)).alloc (.cells #[.int .i8 k, .bool b, .int .i64 n, .string s, .slice o m c, .slice o2 m2 c2] 64)).alloc (.cells #[.int .i8 k', .bool b', .int .i64 n', .string s', .slice o' 0 c', .slice o2' m2' c2'] 64)).alloc (.cells #[.slice (some ⟨w.heap.size + 1 + 1, 0, none⟩) 1 1, .slice (some ⟨w.heap.size + 1 + 1 + 1, 0, none⟩) 1 1] 136)).cell? ⟨w.heap.size + 1 + 1, 4, none⟩ = some (.slice o m c) := (h3.1 4).trans rfl
  have Fx5 : (((((w.alloc (.cells #[.int .i8 k, .bool b, .int .i64 n, .string s, .slice o m c, .slice o2 m2 c2] 64)).alloc (.cells #[.int .i8 k', .bool b', .int .i64 n', .string s', .slice o' 0 c', .slice o2' m2' c2'] 64)).alloc (.cells #[.int .i8 k, .bool b, .int .i64 n, .string s, .slice o m c, .slice o2 m2 c2] 64)).alloc (.cells #[.int .i8 k', .bool b', .int .i64 n', .string s', .slice o' 0 c', .slice o2' m2' c2'] 64)).alloc (.cells #[.slice (some ⟨w.heap.size + 1 + 1, 0, none⟩) 1 1, .slice (some ⟨w.heap.size + 1 + 1 + 1, 0, none⟩) 1 1] 136)).cell? ⟨w.heap.size + 1 + 1, 5, none⟩ = some (.slice o2 m2 c2) := (h3.1 5).trans rfl
  have Fy0 : (((((w.alloc (.cells #[.int .i8 k, .bool b, .int .i64 n, .string s, .slice o m c, .slice o2 m2 c2] 64)).alloc (.cells #[.int .i8 k', .bool b', .int .i64 n', .string s', .slice o' 0 c', .slice o2' m2' c2'] 64)).alloc (.cells #[.int .i8 k, .bool b, .int .i64 n, .string s, .slice o m c, .slice o2 m2 c2] 64)).alloc (.cells #[.int .i8 k', .bool b', .int .i64 n', .string s', .slice o' 0 c', .slice o2' m2' c2'] 64)).alloc (.cells #[.slice (some ⟨w.heap.size + 1 + 1, 0, none⟩) 1 1, .slice (some ⟨w.heap.size + 1 + 1 + 1, 0, none⟩) 1 1] 136)).cell? ⟨w.heap.size + 1 + 1 + 1, 0, none⟩ = some (.int .i8 k') := (h3.2.1 0).trans rfl
  have Fy1 : (((((w.alloc (.cells #[.int .i8 k, .bool b, .int .i64 n, .string s, .slice o m c, .slice o2 m2 c2] 64)).alloc (.cells #[.int .i8 k', .bool b', .int .i64 n', .string s', .slice o' 0 c', .slice o2' m2' c2'] 64)).alloc (.cells #[.int .i8 k, .bool b, .int .i64 n, .string s, .slice o m c, .slice o2 m2 c2] 64)).alloc (.cells #[.int .i8 k', .bool b', .int .i64 n', .string s', .slice o' 0 c', .slice o2' m2' c2'] 64)).alloc (.cells #[.slice (some ⟨w.heap.size + 1 + 1, 0, none⟩) 1 1, .slice (some ⟨w.heap.size + 1 + 1 + 1, 0, none⟩) 1 1] 136)).cell? ⟨w.heap.size + 1 + 1 + 1, 1, none⟩ = some (.bool b') := (h3.2.1 1).trans rfl
  have Fy2 : (((((w.alloc (.cells #[.int .i8 k, .bool b, .int .i64 n, .string s, .slice o m c, .slice o2 m2 c2] 64)).alloc (.cells #[.int .i8 k', .bool b', .int .i64 n', .string s', .slice o' 0 c', .slice o2' m2' c2'] 64)).alloc (.cells #[.int .i8 k, .bool b, .int .i64 n, .string s, .slice o m c, .slice o2 m2 c2] 64)).alloc (.cells #[.int .i8 k', .bool b', .int .i64 n', .string s', .slice o' 0 c', .slice o2' m2' c2'] 64)).alloc (.cells #[.slice (some ⟨w.heap.size + 1 + 1, 0, none⟩) 1 1, .slice (some ⟨w.heap.size + 1 + 1 + 1, 0, none⟩) 1 1] 136)).cell? ⟨w.heap.size + 1 + 1 + 1, 2, none⟩ = some (.int .i64 n') := (h3.2.1 2).trans rfl
  have Fy3 : (((((w.alloc (.cells #[.int .i8 k, .bool b, .int .i64 n, .string s, .slice o m c, .slice o2 m2 c2] 64)).alloc (.cells #[.int .i8 k', .bool b', .int .i64 n', .string s', .slice o' 0 c', .slice o2' m2' c2'] 64)).alloc (.cells #[.int .i8 k, .bool b, .int .i64 n, .string s, .slice o m c, .slice o2 m2 c2] 64)).alloc (.cells #[.int .i8 k', .bool b', .int .i64 n', .string s', .slice o' 0 c', .slice o2' m2' c2'] 64)).alloc (.cells #[.slice (some ⟨w.heap.size + 1 + 1, 0, none⟩) 1 1, .slice (some ⟨w.heap.size + 1 + 1 + 1, 0, none⟩) 1 1] 136)).cell? ⟨w.heap.size + 1 + 1 + 1, 3, none⟩ = some (.string s') := (h3.2.1 3).trans rfl
  have Fy4 : (((((w.alloc (.cells #[.int .i8 k, .bool b, .int .i64 n, .string s, .slice o m c, .slice o2 m2 c2] 64)).alloc (.cells #[.int .i8 k', .bool b', .int .i64 n', .string s', .slice o' 0 c', .slice o2' m2' c2'] 64)).alloc (.cells #[.int .i8 k, .bool b, .int .i64 n, .string s, .slice o m c, .slice o2 m2 c2] 64)).alloc (.cells #[.int .i8 k', .bool b', .int .i64 n', .string s', .slice o' 0 c', .slice o2' m2' c2'] 64)).alloc (.cells #[.slice (some ⟨w.heap.size + 1 + 1, 0, none⟩) 1 1, .slice (some ⟨w.heap.size + 1 + 1 + 1, 0, none⟩) 1 1] 136)).cell? ⟨w.heap.size + 1 + 1 + 1, 4, none⟩ = some (.slice o' 0 c') := (h3.2.1 4).trans rfl
  have Fy5 : (((((w.alloc (.cells #[.int .i8 k, .bool b, .int .i64 n, .string s, .slice o m c, .slice o2 m2 c2] 64)).alloc (.cells #[.int .i8 k', .bool b', .int .i64 n', .string s', .slice o' 0 c', .slice o2' m2' c2'] 64)).alloc (.cells #[.int .i8 k, .bool b, .int .i64 n, .string s, .slice o m c, .slice o2 m2 c2] 64)).alloc (.cells #[.int .i8 k', .bool b', .int .i64 n', .string s', .slice o' 0 c', .slice o2' m2' c2'] 64)).alloc (.cells #[.slice (some ⟨w.heap.size + 1 + 1, 0, none⟩) 1 1, .slice (some ⟨w.heap.size + 1 + 1 + 1, 0, none⟩) 1 1] 136)).cell? ⟨w.heap.size + 1 + 1 + 1, 5, none⟩ = some (.slice o2' m2' c2') := (h3.2.1 5).trans rfl
  have Fp0 : (((((w.alloc (.cells #[.int .i8 k, .bool b, .int .i64 n, .string s, .slice o m c, .slice o2 m2 c2] 64)).alloc (.cells #[.int .i8 k', .bool b', .int .i64 n', .string s', .slice o' 0 c', .slice o2' m2' c2'] 64)).alloc (.cells #[.int .i8 k, .bool b, .int .i64 n, .string s, .slice o m c, .slice o2 m2 c2] 64)).alloc (.cells #[.int .i8 k', .bool b', .int .i64 n', .string s', .slice o' 0 c', .slice o2' m2' c2'] 64)).alloc (.cells #[.slice (some ⟨w.heap.size + 1 + 1, 0, none⟩) 1 1, .slice (some ⟨w.heap.size + 1 + 1 + 1, 0, none⟩) 1 1] 136)).cell? ⟨w.heap.size + 1 + 1 + 1 + 1, 0, none⟩ = some (.slice (some ⟨w.heap.size + 1 + 1, 0, none⟩) 1 1) := (h3.2.2 0).trans rfl
  have Fp1 : (((((w.alloc (.cells #[.int .i8 k, .bool b, .int .i64 n, .string s, .slice o m c, .slice o2 m2 c2] 64)).alloc (.cells #[.int .i8 k', .bool b', .int .i64 n', .string s', .slice o' 0 c', .slice o2' m2' c2'] 64)).alloc (.cells #[.int .i8 k, .bool b, .int .i64 n, .string s, .slice o m c, .slice o2 m2 c2] 64)).alloc (.cells #[.int .i8 k', .bool b', .int .i64 n', .string s', .slice o' 0 c', .slice o2' m2' c2'] 64)).alloc (.cells #[.slice (some ⟨w.heap.size + 1 + 1, 0, none⟩) 1 1, .slice (some ⟨w.heap.size + 1 + 1 + 1, 0, none⟩) 1 1] 136)).cell? ⟨w.heap.size + 1 + 1 + 1 + 1, 1, none⟩ = some (.slice (some ⟨w.heap.size + 1 + 1 + 1, 0, none⟩) 1 1) := (h3.2.2 1).trans rfl
  clear h3 hU
  cases r with
  | true =>
    obtain rfl : 0 = m := (hbz rfl).symm
    go_enter Tryz.func95, Tryz.ntmps95
    go_wp2_with fail
    generalize (((((w.alloc (.cells #[.int .i8 k, .bool b, .int .i64 n, .string s, .slice o 0 c, .slice o2 m2 c2] 64)).alloc (.cells #[.int .i8 k', .bool b', .int .i64 n', .string s', .slice o' 0 c', .slice o2' m2' c2'] 64)).alloc (.cells #[.int .i8 k, .bool b, .int .i64 n, .string s, .slice o 0 c, .slice o2 m2 c2] 64)).alloc (.cells #[.int .i8 k', .bool b', .int .i64 n', .string s', .slice o' 0 c', .slice o2' m2' c2'] 64)).alloc (.cells #[.slice (some ⟨w.heap.size + 1 + 1, 0, none⟩) 1 1, .slice (some ⟨w.heap.size + 1 + 1 + 1, 0, none⟩) 1 1] 136)) = W5 at *
    go_loopg [5] 1 (fun g lv wr => (g = 1 ∧ lv = .slice (some ⟨w.heap.size + 1 + 1 + 1 + 1, 0, none⟩) 1 1 ∧ Hid (Below W5.heap.size W5 wr)) ∨ (g = 0 ∧ lv = .slice (some ⟨w.heap.size + 1 + 1 + 1 + 1, 0, none⟩) 0 1 ∧ Hid (true = true) ∧ Hid (Below W5.heap.size W5 wr)))
    case atStart => exact .inl ⟨rfl, rfl, Lib.hid (Below.refl _ _)⟩
    case round =>
      rcases hrel with ⟨rfl, rfl, hB⟩ | ⟨rfl, rfl, hR, hB⟩
      · have hBw := HB5.out.trans (hB.out.mono HB5.out.size)
        have Gx0 := cell_below hB.out _ _ Fx0
        have Gx1 := cell_below hB.out _ _ Fx1
        have Gx2 := cell_below hB.out _ _ Fx2
        have Gx3 := cell_below hB.out _ _ Fx3
        have Gx4 := cell_below hB.out _ _ Fx4
        have Gx5 := cell_below hB.out _ _ Fx5
        have Gy0 := cell_below hB.out _ _ Fy0
        have Gy1 := cell_below hB.out _ _ Fy1
        have Gy2 := cell_below hB.out _ _ Fy2
        have Gy3 := cell_below hB.out _ _ Fy3
        have Gy4 := cell_below hB.out _ _ Fy4
        have Gy5 := cell_below hB.out _ _ Fy5
        have Gp0 := cell_below hB.out _ _ Fp0
        have Gp1 := cell_below hB.out _ _ Fp1
        have hbp : Below wr.heap.size wr (wr.alloc (.cells #[.slice (some ⟨w.heap.size + 1 + 1, 0, none⟩) 1 1, .slice (some ⟨w.heap.size + 1 + 1 + 1, 0, none⟩) 1 1] 136)) := (Below.refl _ _).alloc (Nat.le_refl _) _
        have Hq0 : (wr.alloc (.cells #[.slice (some ⟨w.heap.size + 1 + 1, 0, none⟩) 1 1, .slice (some ⟨w.heap.size + 1 + 1 + 1, 0, none⟩) 1 1] 136)).cell? ⟨wr.heap.size, 0, none⟩ = some (.slice (some ⟨w.heap.size + 1 + 1, 0, none⟩) 1 1) := by simp
        have Hq1 : (wr.alloc (.cells #[.slice (some ⟨w.heap.size + 1 + 1, 0, none⟩) 1 1, .slice (some ⟨w.heap.size + 1 + 1 + 1, 0, none⟩) 1 1] 136)).cell? ⟨wr.heap.size, 1, none⟩ = some (.slice (some ⟨w.heap.size + 1 + 1 + 1, 0, none⟩) 1 1) := by simp
        have Hx0 := cell_below hbp _ _ Gx0
        have Hx1 := cell_below hbp _ _ Gx1
        have Hx2 := cell_below hbp _ _ Gx2
        have Hx3 := cell_below hbp _ _ Gx3
        have Hx4 := cell_below hbp _ _ Gx4
        have Hx5 := cell_below hbp _ _ Gx5
        have Hy0 := cell_below hbp _ _ Gy0
        have Hy1 := cell_below hbp _ _ Gy1
        have Hy2 := cell_below hbp _ _ Gy2
        have Hy3 := cell_below hbp _ _ Gy3
        have Hy4 := cell_below hbp _ _ Gy4
        have Hy5 := cell_below hbp _ _ Gy5
        have Hp0 := cell_below hbp _ _ Gp0
        have Hp1 := cell_below hbp _ _ Gp1
        have HBP := Lib.hid (hBw.trans (hbp.mono hBw.size))
        have HB9 := Lib.hid (hB.out.trans (hbp.mono hB.out.size))
        clear hbp hBw hB
        go_wp2_with fail
        generalize (wr.alloc (.cells #[.slice (some ⟨w.heap.size + 1 + 1, 0, none⟩) 1 1, .slice (some ⟨w.heap.size + 1 + 1 + 1, 0, none⟩) 1 1] 136)) = wp at *
        go_loopw [5, 33] (fun lv i w6 => lv = .slice (some ⟨w.heap.size + 1 + 1 + 1 + 1, 0, none⟩) 0 1 ∧ (i = .int .i64 0 ∨ (i = .int .i64 1 ∧ Hid (true = true))) ∧ Hid (Below wp.heap.size wp w6)) (fun _ i _ => 1 - (intOf i).toNat)
        case atStart => exact ⟨rfl, .inl rfl, Lib.hid (Below.refl _ _)⟩
        case round =>
          obtain ⟨rfl, hi, hB6⟩ := hrel
          rcases hi with rfl | ⟨rfl, hR⟩
          · have hBw6 := HBP.out.trans (hB6.out.mono HBP.out.size)
            have Kx0 := cell_below hB6.out _ _ Hx0
            have Kx1 := cell_below hB6.out _ _ Hx1
            have Kx2 := cell_below hB6.out _ _ Hx2
            have Kx3 := cell_below hB6.out _ _ Hx3
            have Kx4 := cell_below hB6.out _ _ Hx4
            have Kx5 := cell_below hB6.out _ _ Hx5
            have Ky0 := cell_below hB6.out _ _ Hy0
            have Ky1 := cell_below hB6.out _ _ Hy1
            have Ky2 := cell_below hB6.out _ _ Hy2
            have Ky3 := cell_below hB6.out _ _ Hy3
            have Ky4 := cell_below hB6.out _ _ Hy4
            have Ky5 := cell_below hB6.out _ _ Hy5
            have Kp0 := cell_below hB6.out _ _ Hp0
            have Kp1 := cell_below hB6.out _ _ Hp1
            have Kq0 := cell_below hB6.out _ _ Hq0
            have Kq1 := cell_below hB6.out _ _ Hq1
            have hbA : Below wr.heap.size wr (wr.alloc (.cells #[.int .i8 k, .bool b, .int .i64 n, .string s, .slice o 0 c, .slice o2 m2 c2] 64)) := (Below.refl _ _).alloc (Nat.le_refl _) _
            have Mq1 := cell_below hbA _ _ Kq1
            have My0 := cell_below hbA _ _ Ky0
            have My1 := cell_below hbA _ _ Ky1
            have My2 := cell_below hbA _ _ Ky2
            have My3 := cell_below hbA _ _ Ky3
            have My4 := cell_below hbA _ _ Ky4
            have My5 := cell_below hbA _ _ Ky5
            clear hbA
            have hcl : ∀ w8, Below ((wr.alloc (.cells #[.int .i8 k, .bool b, .int .i64 n, .string s, .slice o 0 c, .slice o2 m2 c2] 64)).alloc (.cells #[.int .i8 k', .bool b', .int .i64 n', .string s', .slice o' 0 c', .slice o2' m2' c2'] 64)).heap.size ((wr.alloc (.cells #[.int .i8 k, .bool b, .int .i64 n, .string s, .slice o 0 c, .slice o2 m2 c2] 64)).alloc (.cells #[.int .i8 k', .bool b', .int .i64 n', .string s', .slice o' 0 c', .slice o2' m2' c2'] 64)) w8 → w8.cell? ⟨wr.heap.size, 4, none⟩ = some (.slice o 0 c) ∧ w8.cell? ⟨wr.heap.size + 1, 4, none⟩ = some (.slice o' 0 c') := fun w8 h8 => ⟨cell_below h8 _ _ (by simp), cell_below h8 _ _ (by simp)⟩
            have HCL := Lib.hid hcl
            have hb67 : Below wr.heap.size wr ((wr.alloc (.cells #[.int .i8 k, .bool b, .int .i64 n, .string s, .slice o 0 c, .slice o2 m2 c2] 64)).alloc (.cells #[.int .i8 k', .bool b', .int .i64 n', .string s', .slice o' 0 c', .slice o2' m2' c2'] 64)) := ((Below.refl _ _).alloc (Nat.le_refl _) _).alloc (by simp) _
            have HB67 := Lib.hid hb67
            have HX := Lib.hid (HBUT.out _ (hBw6.trans (hb67.mono hBw6.size)))
            clear hcl hb67
            go_wp2_with (go_at_call 102; refine HX.out.mono ?_; rintro e w8 ⟨rfl, hb8⟩; obtain ⟨m1, m2'⟩ := HCL.out _ hb8)
            go_wp2_with (go_at_call 103; refine (HONE.out _).mono ?_; rintro e w9 ⟨rfl, hb9⟩)
            go_roundw
            case rel => exact ⟨rfl, .inr ⟨rfl, Lib.hid (by simp)⟩, Lib.hid (hB6.out.trans ((HB67.out.trans ((hb8.trans (hb9.mono hb8.size)).mono HB67.out.size)).mono hB6.out.size))⟩
            case measure => simp [intOf]
          · go_wp2_with fail
            go_roundg 0
            case measure => omega
            case rel => exact .inr ⟨rfl, rfl, Lib.hid (by simp), Lib.hid (HB9.out.trans (hB6.out.mono HB9.out.size))⟩
      · go_wp2_with fail
        go_ret
        exact ⟨rfl, HB5.out.trans (hB.out.mono HB5.out.size)⟩
  | false =>
    clear hbz
    go_enter Tryz.func95, Tryz.ntmps95
    go_wp2_with fail
    generalize (((((w.alloc (.cells #[.int .i8 k, .bool b, .int .i64 n, .string s, .slice o m c, .slice o2 m2 c2] 64)).alloc (.cells #[.int .i8 k', .bool b', .int .i64 n', .string s', .slice o' 0 c', .slice o2' m2' c2'] 64)).alloc (.cells #[.int .i8 k, .bool b, .int .i64 n, .string s, .slice o m c, .slice o2 m2 c2] 64)).alloc (.cells #[.int .i8 k', .bool b', .int .i64 n', .string s', .slice o' 0 c', .slice o2' m2' c2'] 64)).alloc (.cells #[.slice (some ⟨w.heap.size + 1 + 1, 0, none⟩) 1 1, .slice (some ⟨w.heap.size + 1 + 1 + 1, 0, none⟩) 1 1] 136)) = W5 at *
    go_loopg [5] 1 (fun g lv wr => (g = 1 ∧ lv = .slice (some ⟨w.heap.size + 1 + 1 + 1 + 1, 0, none⟩) 1 1 ∧ Hid (Below W5.heap.size W5 wr)) ∨ (g = 0 ∧ lv = .slice (some ⟨w.heap.size + 1 + 1 + 1 + 1, 0, none⟩) 0 1 ∧ Hid (false = true) ∧ Hid (Below W5.heap.size W5 wr)))
    case atStart => exact .inl ⟨rfl, rfl, Lib.hid (Below.refl _ _)⟩
    case round =>
      rcases hrel with ⟨rfl, rfl, hB⟩ | ⟨rfl, rfl, hR, hB⟩
      · have hBw := HB5.out.trans (hB.out.mono HB5.out.size)
        have Gx0 := cell_below hB.out _ _ Fx0
        have Gx1 := cell_below hB.out _ _ Fx1
        have Gx2 := cell_below hB.out _ _ Fx2
        have Gx3 := cell_below hB.out _ _ Fx3
        have Gx4 := cell_below hB.out _ _ Fx4
        have Gx5 := cell_below hB.out _ _ Fx5
        have Gy0 := cell_below hB.out _ _ Fy0
        have Gy1 := cell_below hB.out _ _ Fy1
        have Gy2 := cell_below hB.out _ _ Fy2
        have Gy3 := cell_below hB.out _ _ Fy3
        have Gy4 := cell_below hB.out _ _ Fy4
        have Gy5 := cell_below hB.out _ _ Fy5
        have Gp0 := cell_below hB.out _ _ Fp0
        have Gp1 := cell_below hB.out _ _ Fp1
        have hbp : Below wr.heap.size wr (wr.alloc (.cells #[.slice (some ⟨w.heap.size + 1 + 1, 0, none⟩) 1 1, .slice (some ⟨w.heap.size + 1 + 1 + 1, 0, none⟩) 1 1] 136)) := (Below.refl _ _).alloc (Nat.le_refl _) _
        have Hq0 : (wr.alloc (.cells #[.slice (some ⟨w.heap.size + 1 + 1, 0, none⟩) 1 1, .slice (some ⟨w.heap.size + 1 + 1 + 1, 0, none⟩) 1 1] 136)).cell? ⟨wr.heap.size, 0, none⟩ = some (.slice (some ⟨w.heap.size + 1 + 1, 0, none⟩) 1 1) := by simp
        have Hq1 : (wr.alloc (.cells #[.slice (some ⟨w.heap.size + 1 + 1, 0, none⟩) 1 1, .slice (some ⟨w.heap.size + 1 + 1 + 1, 0, none⟩) 1 1] 136)).cell? ⟨wr.heap.size, 1, none⟩ = some (.slice (some ⟨w.heap.size + 1 + 1 + 1, 0, none⟩) 1 1) := by simp
        have Hx0 := cell_below hbp _ _ Gx0
        have Hx1 := cell_below hbp _ _ Gx1
        have Hx2 := cell_below hbp _ _ Gx2
        have Hx3 := cell_below hbp _ _ Gx3
        have Hx4 := cell_below hbp _ _ Gx4
        have Hx5 := cell_below hbp _ _ Gx5
        have Hy0 := cell_below hbp _ _ Gy0
        have Hy1 := cell_below hbp _ _ Gy1
        have Hy2 := cell_below hbp _ _ Gy2
        have Hy3 := cell_below hbp _ _ Gy3
        have Hy4 := cell_below hbp _ _ Gy4
        have Hy5 := cell_below hbp _ _ Gy5
        have Hp0 := cell_below hbp _ _ Gp0
        have Hp1 := cell_below hbp _ _ Gp1
        have HBP := Lib.hid (hBw.trans (hbp.mono hBw.size))
        have HB9 := Lib.hid (hB.out.trans (hbp.mono hB.out.size))
        clear hbp hBw hB
        go_wp2_with fail
        generalize (wr.alloc (.cells #[.slice (some ⟨w.heap.size + 1 + 1, 0, none⟩) 1 1, .slice (some ⟨w.heap.size + 1 + 1 + 1, 0, none⟩) 1 1] 136)) = wp at *
        go_loopw [5, 33] (fun lv i w6 => lv = .slice (some ⟨w.heap.size + 1 + 1 + 1 + 1, 0, none⟩) 0 1 ∧ (i = .int .i64 0 ∨ (i = .int .i64 1 ∧ Hid (false = true))) ∧ Hid (Below wp.heap.size wp w6)) (fun _ i _ => 1 - (intOf i).toNat)
        case atStart => exact ⟨rfl, .inl rfl, Lib.hid (Below.refl _ _)⟩
        case round =>
          obtain ⟨rfl, hi, hB6⟩ := hrel
          rcases hi with rfl | ⟨rfl, hR⟩
          · have hBw6 := HBP.out.trans (hB6.out.mono HBP.out.size)
            have Kx0 := cell_below hB6.out _ _ Hx0
            have Kx1 := cell_below hB6.out _ _ Hx1
            have Kx2 := cell_below hB6.out _ _ Hx2
            have Kx3 := cell_below hB6.out _ _ Hx3
            have Kx4 := cell_below hB6.out _ _ Hx4
            have Kx5 := cell_below hB6.out _ _ Hx5
            have Ky0 := cell_below hB6.out _ _ Hy0
            have Ky1 := cell_below hB6.out _ _ Hy1
            have Ky2 := cell_below hB6.out _ _ Hy2
            have Ky3 := cell_below hB6.out _ _ Hy3
            have Ky4 := cell_below hB6.out _ _ Hy4
            have Ky5 := cell_below hB6.out _ _ Hy5
            have Kp0 := cell_below hB6.out _ _ Hp0
            have Kp1 := cell_below hB6.out _ _ Hp1
            have Kq0 := cell_below hB6.out _ _ Hq0
            have Kq1 := cell_below hB6.out _ _ Hq1
            have hbA : Below wr.heap.size wr (wr.alloc (.cells #[.int .i8 k, .bool b, .int .i64 n, .string s, .slice o m c, .slice o2 m2 c2] 64)) := (Below.refl _ _).alloc (Nat.le_refl _) _
            have Mq1 := cell_below hbA _ _ Kq1
            have My0 := cell_below hbA _ _ Ky0
            have My1 := cell_below hbA _ _ Ky1
            have My2 := cell_below hbA _ _ Ky2
            have My3 := cell_below hbA _ _ Ky3
            have My4 := cell_below hbA _ _ Ky4
            have My5 := cell_below hbA _ _ Ky5
            clear hbA
            have hcl : ∀ w8, Below ((wr.alloc (.cells #[.int .i8 k, .bool b, .int .i64 n, .string s, .slice o m c, .slice o2 m2 c2] 64)).alloc (.cells #[.int .i8 k', .bool b', .int .i64 n', .string s', .slice o' 0 c', .slice o2' m2' c2'] 64)).heap.size ((wr.alloc (.cells #[.int .i8 k, .bool b, .int .i64 n, .string s, .slice o m c, .slice o2 m2 c2] 64)).alloc (.cells #[.int .i8 k', .bool b', .int .i64 n', .string s', .slice o' 0 c', .slice o2' m2' c2'] 64)) w8 → w8.cell? ⟨wr.heap.size, 4, none⟩ = some (.slice o m c) ∧ w8.cell? ⟨wr.heap.size + 1, 4, none⟩ = some (.slice o' 0 c') := fun w8 h8 => ⟨cell_below h8 _ _ (by simp), cell_below h8 _ _ (by simp)⟩
            have HCL := Lib.hid hcl
            have hb67 : Below wr.heap.size wr ((wr.alloc (.cells #[.int .i8 k, .bool b, .int .i64 n, .string s, .slice o m c, .slice o2 m2 c2] 64)).alloc (.cells #[.int .i8 k', .bool b', .int .i64 n', .string s', .slice o' 0 c', .slice o2' m2' c2'] 64)) := ((Below.refl _ _).alloc (Nat.le_refl _) _).alloc (by simp) _
            have HB67 := Lib.hid hb67
            have HX := Lib.hid (HBUT.out _ (hBw6.trans (hb67.mono hBw6.size)))
            clear hcl hb67
            go_wp2_with (go_at_call 102; refine HX.out.mono ?_; rintro e w8 ⟨rfl, hb8⟩; obtain ⟨m1, m2'⟩ := HCL.out _ hb8)
            go_ret
            exact ⟨rfl, hBw6.trans ((HB67.out.trans (hb8.mono HB67.out.size)).mono hBw6.size)⟩
          · cases hR.out
      · cases hR.out
end Go.Proofs.YtdckldfekepopaaGreatDoor
