/-
  The statements' helper 'wakes'.
-/
import Derived.Test.YtdbfpojgaalfmaaDoorDX
set_option linter.unusedVariables false
namespace Go.Proofs.YtdbfpojgaalfmaaDoor
open Go.RowKit Go.Shelf

set_option maxRecDepth 100000 in
set_option maxHeartbeats 2000000 in
theorem ptext_any (s : ByteArray) (w : World) :
    Calls Tryd.prog 29 #[.string s] w fun e w' => e = .returned (.agg #[.int .i8 3, .bool false, .int .i64 0, .string s, .slice none 0 0, .slice none 0 0]) ∧ Below w.heap.size w w' := by
  go_enter Tryd.func29, Tryd.ntmps29
  go_wp2_with fail
  exact bodyPost_ret (v := .agg #[.int .i8 3, .bool false, .int .i64 0, .string s, .slice none 0 0, .slice none 0 0]) (by simp [results, Tryd.results29, go_sem]) rfl ⟨rfl, by go_grown⟩
set_option maxRecDepth 100000 in
set_option maxHeartbeats 2000000 in
theorem pnum_any (n : Int) (w : World) :
    Calls Tryd.prog 31 #[.int .i64 n] w fun e w' => e = .returned (.agg #[.int .i8 2, .bool false, .int .i64 n, .string ⟨#[]⟩, .slice none 0 0, .slice none 0 0]) ∧ Below w.heap.size w w' := by
  go_enter Tryd.func31, Tryd.ntmps31
  go_wp2_with fail
  exact bodyPost_ret (v := .agg #[.int .i8 2, .bool false, .int .i64 n, .string ⟨#[]⟩, .slice none 0 0, .slice none 0 0]) (by simp [results, Tryd.results31, go_sem]) rfl ⟨rfl, by go_grown⟩

theorem obj_isV {W : World} {gL gK : Nat} {t t' : TypeId} (n1 n2 : Int) (h1 : -9223372036854775808 ≤ n1 ∧ n1 ≤ 9223372036854775807) (h2 : -9223372036854775808 ≤ n2 ∧ n2 ≤ 9223372036854775807) (s1 s2 : ByteArray) (hs1 : s1.size ≤ maxLen) (hs2 : s2.size ≤ maxLen)
    (hL : W.heap[gL]? = some (.cells #[.int .i8 2, .bool false, .int .i64 n1, .string ⟨#[]⟩, .slice none 0 0, .slice none 0 0, .int .i8 2, .bool false, .int .i64 n2, .string ⟨#[]⟩, .slice none 0 0, .slice none 0 0] t (0, 0))) (hK : W.heap[gK]? = some (.cells #[.string s1, .string s2] t' (0, 0))) :
    isV W (.mk 5 false 0 ⟨#[]⟩ [nV n1, nV n2] [s1, s2]) (.agg #[.int .i8 5, .bool false, .int .i64 0, .string ⟨#[]⟩, .slice (some ⟨gL, 0, none⟩) 2 2, .slice (some ⟨gK, 0, none⟩) 2 2]) := by
  have cl : ∀ i, i < 12 → W.cell? ⟨gL, i, none⟩ = (#[.int .i8 2, .bool false, .int .i64 n1, .string ⟨#[]⟩, .slice none 0 0, .slice none 0 0, .int .i8 2, .bool false, .int .i64 n2, .string ⟨#[]⟩, .slice none 0 0, .slice none 0 0] : Array Value)[i]? := fun i _ => by unfold World.cell?; simp [hL]
  have ck : ∀ i, i < 2 → W.cell? ⟨gK, i, none⟩ = (#[.string s1, .string s2] : Array Value)[i]? := fun i _ => by unfold World.cell?; simp [hK]
  unfold isV
  refine ⟨_, _, rfl, by omega, by omega, by decide, ⟨⟨gL, 0, none⟩, 2, ⟨_, rfl, Nat.le_refl _, by unfold maxLen; decide, fun _ => rfl⟩, ?_⟩, ⟨⟨gK, 0, none⟩, 2, ⟨_, rfl, Nat.le_refl _, by unfold maxLen; decide, fun _ => rfl⟩, ?_⟩⟩
  · unfold isVs
    refine ⟨⟨_, _, _, _, _, _, cl 0 (by decide), cl 1 (by decide), cl 2 (by decide), cl 3 (by decide), cl 4 (by decide), cl 5 (by decide), isV_leaf _ 2 false n1 ⟨#[]⟩ (by omega) h1 (by decide)⟩, ?_⟩
    unfold isVs
    refine ⟨⟨_, _, _, _, _, _, cl 6 (by decide), cl 7 (by decide), cl 8 (by decide), cl 9 (by decide), cl 10 (by decide), cl 11 (by decide), isV_leaf _ 2 false n2 ⟨#[]⟩ (by omega) h2 (by decide)⟩, ?_⟩
    unfold isVs
    trivial
  · intro i hi
    match i, hi with
    | 0, _ => exact ⟨ck 0 (by decide), hs1⟩
    | 1, _ => exact ⟨ck 1 (by decide), hs2⟩

set_option maxRecDepth 100000 in
set_option maxHeartbeats 4000000 in
theorem wakes_any (w : World) (hE : Env w) : Calls Tryd.prog 13 #[] w fun e w' => e = .returned (.bool true) ∧ Below w.heap.size w w' := by
  have HN := Lib.hid pnum_any
  have HT := Lib.hid (ptext_any ⟨#[97]⟩)
  have HE := Lib.hid hE
  have PE : Hid (∀ (v u : Value) (w1 : World), KB w w1 → isV w1 wA v → isV w1 wB u → Calls Tryd.prog 23 #[v, u] w1 fun e w' => e = .returned (.bool true) ∧ Below w1.heap.size w1 w') := Lib.hid fun v u w1 hK h1 h2 => by
    have := peq_any wA wB v u w1 (hE.kb hK) (by decide) fine_wA (by decide) fine_wB h1 h2
    rw [wake_eq] at this
    exact this
  have PL : Hid (∀ (v u : Value) (w1 : World), KB w w1 → isV w1 (nV 2) v → isV w1 (tV ⟨#[97]⟩) u → Calls Tryd.prog 25 #[v, u] w1 fun e w' => e = .returned (.bool true) ∧ Below w1.heap.size w1 w') := Lib.hid fun v u w1 hK h1 h2 => by
    have := pless_any (nV 2) (tV ⟨#[97]⟩) v u w1 (hE.kb hK) (by decide) (by unfold fineV; decide) (by decide) (by unfold fineV; decide) h1 h2
    rw [wake_less] at this
    exact this
  have PC : Hid (∀ (v : Value) (w1 : World), isV w1 wA v → Calls Tryd.prog 21 #[v] w1 fun e w' => e = .returned (.int .i64 3) ∧ Below w1.heap.size w1 w') := Lib.hid fun v w1 h1 => pcount_any wA v w1 (by decide) h1
  have PD : Hid (∀ (v : Value) (w1 : World), isV w1 wA v → Calls Tryd.prog 19 #[v] w1 fun e w' => e = .returned (.int .i64 2) ∧ Below w1.heap.size w1 w') := Lib.hid fun v w1 h1 => pDepth_any wA v w1 (by decide) h1
  have hk0 := World.alloc_heap_new w (.cells #[.string ⟨#[97]⟩, .string ⟨#[98]⟩] 9)
  have hb0 : KB w (w.alloc (.cells #[.string ⟨#[97]⟩, .string ⟨#[98]⟩] 9)) := kbA
  clear hE
  go_enter Tryd.func13, Tryd.ntmps13
  go_wp2_with fail
  refine (HN.out _ _).mono ?_
  rintro e w1 ⟨rfl, hb1⟩
  have hk1 := (hb1.block _ (Array.getElem?_eq_some_iff.1 hk0).1).trans hk0
  have hb01 : KB w w1 := hb0.trans (hb1.mono hb0.size)
  clear hk0 hb0 hb1
  go_wp2_with fail
  refine (HN.out _ _).mono ?_
  rintro e w2 ⟨rfl, hb2⟩
  have hk2 := (hb2.block _ (Array.getElem?_eq_some_iff.1 hk1).1).trans hk1
  have hb02 : KB w w2 := hb01.trans (hb2.mono hb01.size)
  clear hk1 hb01 hb2
  go_wp2_with fail
  have hz : w.heap.size < w2.heap.size := (Array.getElem?_eq_some_iff.1 hk2).1
  have hb3 : KB w (((w2.alloc (.cells #[.int .i8 2, .bool false, .int .i64 1, .string ⟨#[]⟩, .slice none 0 0, .slice none 0 0, .int .i8 2, .bool false, .int .i64 2, .string ⟨#[]⟩, .slice none 0 0, .slice none 0 0] 26)).alloc (.cells #[.int .i8 5, .bool false, .int .i64 0, .string ⟨#[]⟩, .slice (some ⟨w2.heap.size, 0, none⟩) 2 2, .slice (some ⟨w.heap.size, 0, none⟩) 2 2] 26)).alloc (.cells #[.string ⟨#[98]⟩, .string ⟨#[97]⟩] 9)) := hb02.trans (Below.mono (by go_grown) hb02.size)
  have hbb : Below w2.heap.size w2 (((w2.alloc (.cells #[.int .i8 2, .bool false, .int .i64 1, .string ⟨#[]⟩, .slice none 0 0, .slice none 0 0, .int .i8 2, .bool false, .int .i64 2, .string ⟨#[]⟩, .slice none 0 0, .slice none 0 0] 26)).alloc (.cells #[.int .i8 5, .bool false, .int .i64 0, .string ⟨#[]⟩, .slice (some ⟨w2.heap.size, 0, none⟩) 2 2, .slice (some ⟨w.heap.size, 0, none⟩) 2 2] 26)).alloc (.cells #[.string ⟨#[98]⟩, .string ⟨#[97]⟩] 9)) := by go_grown
  have hka : (((w2.alloc (.cells #[.int .i8 2, .bool false, .int .i64 1, .string ⟨#[]⟩, .slice none 0 0, .slice none 0 0, .int .i8 2, .bool false, .int .i64 2, .string ⟨#[]⟩, .slice none 0 0, .slice none 0 0] 26)).alloc (.cells #[.int .i8 5, .bool false, .int .i64 0, .string ⟨#[]⟩, .slice (some ⟨w2.heap.size, 0, none⟩) 2 2, .slice (some ⟨w.heap.size, 0, none⟩) 2 2] 26)).alloc (.cells #[.string ⟨#[98]⟩, .string ⟨#[97]⟩] 9)).heap[w.heap.size]? = some (.cells #[.string ⟨#[97]⟩, .string ⟨#[98]⟩] 9 (0, 0)) := (hbb.block _ hz).trans hk2
  have hla : (((w2.alloc (.cells #[.int .i8 2, .bool false, .int .i64 1, .string ⟨#[]⟩, .slice none 0 0, .slice none 0 0, .int .i8 2, .bool false, .int .i64 2, .string ⟨#[]⟩, .slice none 0 0, .slice none 0 0] 26)).alloc (.cells #[.int .i8 5, .bool false, .int .i64 0, .string ⟨#[]⟩, .slice (some ⟨w2.heap.size, 0, none⟩) 2 2, .slice (some ⟨w.heap.size, 0, none⟩) 2 2] 26)).alloc (.cells #[.string ⟨#[98]⟩, .string ⟨#[97]⟩] 9)).heap[w2.heap.size]? = some (.cells #[.int .i8 2, .bool false, .int .i64 1, .string ⟨#[]⟩, .slice none 0 0, .slice none 0 0, .int .i8 2, .bool false, .int .i64 2, .string ⟨#[]⟩, .slice none 0 0, .slice none 0 0] 26 (0, 0)) := (Below.heap_alloc _ _ _ (by simp; omega)).trans ((Below.heap_alloc _ _ _ (by simp)).trans (World.alloc_heap_new w2 _))
  have hba : (((w2.alloc (.cells #[.int .i8 2, .bool false, .int .i64 1, .string ⟨#[]⟩, .slice none 0 0, .slice none 0 0, .int .i8 2, .bool false, .int .i64 2, .string ⟨#[]⟩, .slice none 0 0, .slice none 0 0] 26)).alloc (.cells #[.int .i8 5, .bool false, .int .i64 0, .string ⟨#[]⟩, .slice (some ⟨w2.heap.size, 0, none⟩) 2 2, .slice (some ⟨w.heap.size, 0, none⟩) 2 2] 26)).alloc (.cells #[.string ⟨#[98]⟩, .string ⟨#[97]⟩] 9)).heap[w2.heap.size + 1]? = some (.cells #[.int .i8 5, .bool false, .int .i64 0, .string ⟨#[]⟩, .slice (some ⟨w2.heap.size, 0, none⟩) 2 2, .slice (some ⟨w.heap.size, 0, none⟩) 2 2] 26 (0, 0)) := (Below.heap_alloc _ _ _ (by simp)).trans (by have := World.alloc_heap_new (w2.alloc (.cells #[.int .i8 2, .bool false, .int .i64 1, .string ⟨#[]⟩, .slice none 0 0, .slice none 0 0, .int .i8 2, .bool false, .int .i64 2, .string ⟨#[]⟩, .slice none 0 0, .slice none 0 0] 26)) (.cells #[.int .i8 5, .bool false, .int .i64 0, .string ⟨#[]⟩, .slice (some ⟨w2.heap.size, 0, none⟩) 2 2, .slice (some ⟨w.heap.size, 0, none⟩) 2 2] 26); rw [World.size_alloc] at this; exact this)
  have hkb : (((w2.alloc (.cells #[.int .i8 2, .bool false, .int .i64 1, .string ⟨#[]⟩, .slice none 0 0, .slice none 0 0, .int .i8 2, .bool false, .int .i64 2, .string ⟨#[]⟩, .slice none 0 0, .slice none 0 0] 26)).alloc (.cells #[.int .i8 5, .bool false, .int .i64 0, .string ⟨#[]⟩, .slice (some ⟨w2.heap.size, 0, none⟩) 2 2, .slice (some ⟨w.heap.size, 0, none⟩) 2 2] 26)).alloc (.cells #[.string ⟨#[98]⟩, .string ⟨#[97]⟩] 9)).heap[w2.heap.size + 1 + 1]? = some (.cells #[.string ⟨#[98]⟩, .string ⟨#[97]⟩] 9 (0, 0)) := by have := World.alloc_heap_new ((w2.alloc (.cells #[.int .i8 2, .bool false, .int .i64 1, .string ⟨#[]⟩, .slice none 0 0, .slice none 0 0, .int .i8 2, .bool false, .int .i64 2, .string ⟨#[]⟩, .slice none 0 0, .slice none 0 0] 26)).alloc (.cells #[.int .i8 5, .bool false, .int .i64 0, .string ⟨#[]⟩, .slice (some ⟨w2.heap.size, 0, none⟩) 2 2, .slice (some ⟨w.heap.size, 0, none⟩) 2 2] 26)) (.cells #[.string ⟨#[98]⟩, .string ⟨#[97]⟩] 9); rw [World.size_alloc, World.size_alloc] at this; exact this
  generalize hW3 : (((w2.alloc (.cells #[.int .i8 2, .bool false, .int .i64 1, .string ⟨#[]⟩, .slice none 0 0, .slice none 0 0, .int .i8 2, .bool false, .int .i64 2, .string ⟨#[]⟩, .slice none 0 0, .slice none 0 0] 26)).alloc (.cells #[.int .i8 5, .bool false, .int .i64 0, .string ⟨#[]⟩, .slice (some ⟨w2.heap.size, 0, none⟩) 2 2, .slice (some ⟨w.heap.size, 0, none⟩) 2 2] 26)).alloc (.cells #[.string ⟨#[98]⟩, .string ⟨#[97]⟩] 9)) = W3 at *
  clear hW3 hbb hb02 hk2 hz
  refine (HN.out _ _).mono ?_
  rintro e w3 ⟨rfl, hb4⟩
  have hk3 : KB w w3 := hb3.trans (hb4.mono hb3.size)
  have ka3 := (hb4.block _ (Array.getElem?_eq_some_iff.1 hka).1).trans hka
  have la3 := (hb4.block _ (Array.getElem?_eq_some_iff.1 hla).1).trans hla
  have ba3 := (hb4.block _ (Array.getElem?_eq_some_iff.1 hba).1).trans hba
  have kb3 := (hb4.block _ (Array.getElem?_eq_some_iff.1 hkb).1).trans hkb
  clear hb4 hb3 hka hla hba hkb
  go_wp2_with fail
  refine (HN.out _ _).mono ?_
  rintro e w4 ⟨rfl, hb5⟩
  have hk4 : KB w w4 := hk3.trans (hb5.mono hk3.size)
  have ka4 := (hb5.block _ (Array.getElem?_eq_some_iff.1 ka3).1).trans ka3
  have la4 := (hb5.block _ (Array.getElem?_eq_some_iff.1 la3).1).trans la3
  have ba4 := (hb5.block _ (Array.getElem?_eq_some_iff.1 ba3).1).trans ba3
  have kb4 := (hb5.block _ (Array.getElem?_eq_some_iff.1 kb3).1).trans kb3
  clear hb5 hk3 ka3 la3 ba3 kb3
  obtain ⟨W5, hW5⟩ : ∃ W5, (w4.alloc (.cells #[.int .i8 2, .bool false, .int .i64 2, .string ⟨#[]⟩, .slice none 0 0, .slice none 0 0, .int .i8 2, .bool false, .int .i64 1, .string ⟨#[]⟩, .slice none 0 0, .slice none 0 0] 26)).alloc (.cells #[.int .i8 5, .bool false, .int .i64 0, .string ⟨#[]⟩, .slice (some ⟨w4.heap.size, 0, none⟩) 2 2, .slice (some ⟨w2.heap.size + 1 + 1, 0, none⟩) 2 2] 26) = W5 := ⟨_, rfl⟩
  have hbb : Below w4.heap.size w4 W5 := by rw [← hW5]; go_grown
  have hK5 : KB w W5 := hk4.trans (hbb.mono hk4.size)
  have ka5 := (hbb.block _ (Array.getElem?_eq_some_iff.1 ka4).1).trans ka4
  have la5 := (hbb.block _ (Array.getElem?_eq_some_iff.1 la4).1).trans la4
  have ba5 := (hbb.block _ (Array.getElem?_eq_some_iff.1 ba4).1).trans ba4
  have kb5 := (hbb.block _ (Array.getElem?_eq_some_iff.1 kb4).1).trans kb4
  have lb5 : W5.heap[w4.heap.size]? = some (.cells #[.int .i8 2, .bool false, .int .i64 2, .string ⟨#[]⟩, .slice none 0 0, .slice none 0 0, .int .i8 2, .bool false, .int .i64 1, .string ⟨#[]⟩, .slice none 0 0, .slice none 0 0] 26 (0, 0)) := by
    rw [← hW5]
    exact (Below.heap_alloc _ _ _ (by simp)).trans (World.alloc_heap_new w4 _)
  have bb5 : W5.heap[w4.heap.size + 1]? = some (.cells #[.int .i8 5, .bool false, .int .i64 0, .string ⟨#[]⟩, .slice (some ⟨w4.heap.size, 0, none⟩) 2 2, .slice (some ⟨w2.heap.size + 1 + 1, 0, none⟩) 2 2] 26 (0, 0)) := by
    have := World.alloc_heap_new (w4.alloc (.cells #[.int .i8 2, .bool false, .int .i64 2, .string ⟨#[]⟩, .slice none 0 0, .slice none 0 0, .int .i8 2, .bool false, .int .i64 1, .string ⟨#[]⟩, .slice none 0 0, .slice none 0 0] 26)) (.cells #[.int .i8 5, .bool false, .int .i64 0, .string ⟨#[]⟩, .slice (some ⟨w4.heap.size, 0, none⟩) 2 2, .slice (some ⟨w2.heap.size + 1 + 1, 0, none⟩) 2 2] 26)
    rw [World.size_alloc, hW5] at this
    exact this
  obtain ⟨r0, r1, r2, r3, r4, r5⟩ := six_cells ba5
  obtain ⟨s0, s1, s2, s3, s4, s5⟩ := six_cells bb5
  have VA := Lib.hid (obj_isV (W := W5) 1 2 (by omega) (by omega) ⟨#[97]⟩ ⟨#[98]⟩ (by decide) (by decide) la5 ka5)
  have VB := Lib.hid (obj_isV (W := W5) 2 1 (by omega) (by omega) ⟨#[98]⟩ ⟨#[97]⟩ (by decide) (by decide) lb5 kb5)
  have BA5 := Lib.hid ba5
  have HK5 := Lib.hid hK5
  clear hk4 ka4 la4 ba4 kb4 hbb hK5 ka5 la5 ba5 kb5 lb5 bb5
  go_wp2_with fail
  refine (PE.out _ _ W5 HK5.out VA.out VB.out).mono ?_
  rintro e w6 ⟨rfl, hb6⟩
  have hk6 : KB w w6 := HK5.out.trans (hb6.mono HK5.out.size)
  have ba6 := (hb6.block _ (Array.getElem?_eq_some_iff.1 BA5.out).1).trans BA5.out
  have va6 := isV_below hb6 VA.out
  clear hb6 r0 r1 r2 r3 r4 r5 s0 s1 s2 s3 s4 s5 BA5 VA VB PE HK5
  go_wp2_with fail
  refine (HN.out _ _).mono ?_
  rintro e w7 ⟨rfl, hb7⟩
  have hk7 : KB w w7 := hk6.trans (hb7.mono hk6.size)
  have ba7 := (hb7.block _ (Array.getElem?_eq_some_iff.1 ba6).1).trans ba6
  have va7 := isV_below hb7 va6
  clear hb7 hk6 ba6 va6
  go_wp2_with fail
  refine (HT.out _).mono ?_
  rintro e w8 ⟨rfl, hb8⟩
  have hk8 : KB w w8 := hk7.trans (hb8.mono hk7.size)
  have ba8 := (hb8.block _ (Array.getElem?_eq_some_iff.1 ba7).1).trans ba7
  have va8 := isV_below hb8 va7
  clear hb8 hk7 ba7 va7
  go_wp2_with fail
  refine (PL.out _ _ w8 hk8 (isV_leaf _ 2 false 2 ⟨#[]⟩ (by omega) (by omega) (by decide)) (isV_leaf _ 3 false 0 ⟨#[97]⟩ (by omega) (by omega) (by decide))).mono ?_
  rintro e w9 ⟨rfl, hb9⟩
  have hk9 : KB w w9 := hk8.trans (hb9.mono hk8.size)
  have ba9 := (hb9.block _ (Array.getElem?_eq_some_iff.1 ba8).1).trans ba8
  have va9 := isV_below hb9 va8
  obtain ⟨r0, r1, r2, r3, r4, r5⟩ := six_cells ba9
  have VA9 := Lib.hid va9
  have BA9 := Lib.hid ba9
  have HK9 := Lib.hid hk9
  clear hb9 hk8 ba8 va8 va9 ba9 hk9 PL HN HT
  go_wp2_with fail
  refine (PC.out _ w9 VA9.out).mono ?_
  rintro e w10 ⟨rfl, hb10⟩
  have hk10 : KB w w10 := HK9.out.trans (hb10.mono HK9.out.size)
  have ba10 := (hb10.block _ (Array.getElem?_eq_some_iff.1 BA9.out).1).trans BA9.out
  have va10 := isV_below hb10 VA9.out
  clear r0 r1 r2 r3 r4 r5
  obtain ⟨r0, r1, r2, r3, r4, r5⟩ := six_cells ba10
  have VA10 := Lib.hid va10
  have HK10 := Lib.hid hk10
  clear hb10 va10 ba10 hk10 PC VA9 BA9 HK9
  go_wp2_with fail
  refine (PD.out _ w10 VA10.out).mono ?_
  rintro e w11 ⟨rfl, hb11⟩
  have HK11 := Lib.hid (HK10.out.trans (hb11.mono HK10.out.size))
  clear hb11 r0 r1 r2 r3 r4 r5 VA10 PD
  go_wp2_with fail
  go_ret
  exact ⟨rfl, HK11.out⟩
end Go.Proofs.YtdbfpojgaalfmaaDoor
