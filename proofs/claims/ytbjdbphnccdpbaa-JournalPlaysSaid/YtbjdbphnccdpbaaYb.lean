/-
  The program's disk: what its deeds leave in memory.
-/
import Derived.Test.YtbjdbphnccdpbaaYa
import Derived.Deep.OwnRows
import Derived.Outline
set_option linter.unusedVariables false
namespace Go.Proofs.Ytbjdbphnccdpbaa
open Go.RowKit Go.Shelf Go.Lib Go.Deep

theorem Dk.upd {t : TypeId} {base b : Nat} {s : DS} {v : Value} {W : World} (h : Dk t base b s v W) (W' : World) (s' : DS) (hF : Fr (fun k => k = b) W W') (hf : s'.f = s.f)
    (hc : ∃ k : Int, W'.heap[b]? = some (.cells #[v, .bool s'.dn, .bool s'.ar.isSome, .int .i64 k] t (0, 0)) ∧ 0 ≤ k ∧ ∀ n, s'.ar = some n → k = n) : Dk t base b s' v W' := by
  have hne := h.ne
  obtain ⟨h1, h2, h3, h4, h5⟩ := h
  refine ⟨by rw [hf]; exact h1, h2, h3, hc, ?_⟩
  rw [hf]
  exact h5.keep fun k o hk ho => hF.2 k o ho (fun e => by subst e; exact hne hk)
/-- A new file in the old struct. -/
theorem Dk.file {t : TypeId} {base b : Nat} {s : DS} {v v' : Value} {x : List UInt8} {W : World} (h : Dk t base b s v W) (hx : x.length ≤ 1048576) (ho : ow base W v' x) : Dk t base b ⟨x, s.dn, s.ar⟩ v' (W.setCell ⟨b, 0, none⟩ v') := by
  obtain ⟨h1, h2, h3, ⟨k, h4, h6⟩, h5⟩ := h
  have hne : v'.ownBlock ≠ some b := fun e => by
    obtain ⟨_, _, cur, hc⟩ := ho.lt b e
    rw [h4] at hc
    cases hc
    exact h3 rfl
  refine ⟨hx, h2, h3, ⟨k, ?_, h6⟩, ho.keep fun k o hk ho => (Fr.set (B := fun k => k = b) W b 0 v' rfl).2 k o ho (fun e => by subst e; exact hne hk)⟩
  simp [World.setCell, Array.getElem?_modify, h4]

set_option maxRecDepth 100000 in
set_option maxHeartbeats 1000000 in
theorem fall_any {base b : Nat} {s : DS} {v : Value} (w : World) (h : Dk 52 base b s v w) :
    Calls Try.prog 45 #[.pointer (some ⟨b, 0, none⟩)] w fun e w' => e = .returned (.tuple #[]) ∧ Dk 52 base b ⟨s.f, true, none⟩ v w' ∧ Fr (fun k => k = b) w w' := by
  obtain ⟨c0, c1, c2, ⟨k, c3, _⟩, hf⟩ := h.cells
  have f1 := hf 1
  have f2 := hf 2
  have f3 := hf 3
  have hF : Fr (fun k => k = b) w (((w.setCell ⟨b, 1, none⟩ (.bool true)).setCell ⟨b, 2, none⟩ (.bool false)).setCell ⟨b, 3, none⟩ (.int .i64 0)) :=
    ((Fr.set (B := fun k => k = b) w b 1 _ rfl).trans (Fr.set _ b 2 _ rfl)).trans (Fr.set _ b 3 _ rfl)
  have hq := h.upd _ ⟨s.f, true, none⟩ hF rfl (by
    obtain ⟨_, _, _, ⟨k, hk, _⟩, _⟩ := h
    refine ⟨0, ?_, Int.le_refl _, fun n hn => by cases hn⟩
    simp [World.setCell, Array.getElem?_modify, hk])
  have HF := Lib.hid hF
  have HQ := Lib.hid hq
  clear hF hq hf h
  go_enter Try.func45, Try.ntmps45
  go_wp2
  go_end0
  exact ⟨rfl, HQ.out, HF.out⟩

set_option maxRecDepth 100000 in
set_option maxHeartbeats 1000000 in
theorem new_any (base : Nat) (w : World) (hb : base ≤ w.heap.size) :
    Calls Try.prog 8 #[] w fun e w' => e = .returned (.pointer (some ⟨w.heap.size, 0, none⟩)) ∧ Dk 52 base w.heap.size ⟨[], false, none⟩ (.slice none 0 0) w' ∧ Below w.heap.size w w' := by
  have hq : Dk 52 base w.heap.size ⟨[], false, none⟩ (.slice none 0 0) (w.alloc (.cells #[.slice none 0 0, .bool false, .bool false, .int .i64 0] 52)) :=
    ⟨by simp, hb, by decide, ⟨0, by rw [heap_alloc_new]; rfl, Int.le_refl _, fun n hn => by cases hn⟩, .inl ⟨rfl, rfl⟩⟩
  have HQ := Lib.hid hq
  clear hq
  go_enter Try.func8, Try.ntmps8
  go_wp2
  go_ret
  exact ⟨rfl, HQ.out, (Below.refl _ _).alloc (Nat.le_refl _) _⟩

set_option maxRecDepth 100000 in
set_option maxHeartbeats 1000000 in
theorem copied_any (base : Nat) (x : List UInt8) (v : Value) (w : World) (hx : rd w x v) (hb : base ≤ w.heap.size) (hl : x.length ≤ 1048576) :
    Calls Try.prog 26 #[v] w fun e w' => ∃ v', e = .returned v' ∧ ow base w' v' x ∧ (∃ c, v' = .slice (some ⟨w.heap.size, 0, none⟩) x.length c) ∧ Below w.heap.size w w' := by
  obtain ⟨o, a, c, rfl, h1, h2, h3, h4⟩ := hx
  have hmk := run_make_row' (P := Try.prog) 27 5 (.int .u8 0) 1 Try.underlying27 infoU8 rfl .i64 .i64 x.length (by omega) (by omega)
  have hsz : (Try.prog.info? 5).map (·.size) = some 1 := by kernel_rfl
  have hone : ∀ u ∈ byteCells x, u.oneCell' = true := fun u hu => by
    unfold byteCells at hu
    obtain ⟨b, _, rfl⟩ := List.mem_map.1 hu
    rfl
  have hlx : (byteCells x).length = x.length := byteCells_length x
  have hA := Lib.hid (fun j u hj => cell_later ((Below.refl w.heap.size w).alloc (Nat.le_refl _) (.cells (madeCells #[.int .u8 0] x.length) 5)) (h4 j u hj))
  have hO := Lib.hid hone
  have hL := Lib.hid hlx
  have hmz : Hid ((w.alloc (.cells (madeCells #[.int .u8 0] x.length) 5)).heap[w.heap.size]? = some (.cells (madeCells #[.int .u8 0] x.length) 5 (0, 0))) := Lib.hid (heap_alloc_new w _)
  have hms : Hid ((madeCells #[.int .u8 0] x.length).toList.length = x.length) := Lib.hid (by simp [madeCells])
  have hSp : Hid (splice (madeCells #[.int .u8 0] x.length).toList 0 (byteCells x) = byteCells x) := Lib.hid (by
    have := hms.out
    unfold splice
    rw [List.take_zero, List.nil_append, Nat.zero_add, List.drop_of_length_le (by omega), List.append_nil])
  have HB := Lib.hid hb
  have H3 := Lib.hid h3
  have HX : Hid (x.length ≤ maxLen) := Lib.hid (by omega)
  clear h4 hone hlx hb h1 h2 h3
  go_enter Try.func26, Try.ntmps26
  go_wp2_with (refine wpList_copy_splice rfl _ _ 27 27 rfl 5 Try.underlying27 hsz (some ⟨w.heap.size, 0, none⟩) o x.length x.length x.length c rfl rfl w.heap.size 0 (madeCells #[.int .u8 0] x.length).toList 5 ?c0 (byteCells x) ?c1 ?c2 ?c3 hO.out w.heap.size w ?c4 (Nat.le_refl _) ?_)
  case c0 => simpa using hmz.out
  case c4 => exact (Below.refl _ _).alloc (Nat.le_refl _) _
  case c1 => rw [hL.out]; exact (Nat.min_self _).symm
  case c2 =>
    intro hp
    have hp' : 0 < x.length := by simpa [byteCells] using hp
    exact ⟨a, H3.out hp', hA.out⟩
  case c3 => rw [hL.out, hms.out]; omega
  intro w2 hc2 hb2
  have hq : ow base w2 (.slice (some ⟨w.heap.size, 0, none⟩) x.length x.length) x := by
    have e := hc2.out
    rw [hSp.out] at e
    exact .inr ⟨w.heap.size, x.length, _, rfl, HB.out, e, Nat.le_refl _, HX.out, by simp [byteCells], List.take_of_length_le (by simp [byteCells])⟩
  have HQ := Lib.hid hq
  have HB2 := Lib.hid hb2
  clear hq hb2 hc2
  go_wp2_with fail
  go_ret
  exact ⟨_, rfl, HQ.out, ⟨_, rfl⟩, HB2.out⟩
end Go.Proofs.Ytbjdbphnccdpbaa
