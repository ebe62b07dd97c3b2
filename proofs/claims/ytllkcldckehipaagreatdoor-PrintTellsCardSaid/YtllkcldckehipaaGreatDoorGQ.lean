/-
  The program's order: the places of a value's parts, an object's by their keys.
-/
import Derived.Test.YtllkcldckehipaaGreatDoorGF
import Derived.Test.YtllkcldckehipaaGreatDoorShelfA
import Derived.Test.YtllkcldckehipaaGreatDoorGD
import Derived.Shelf.SlSortCmp.NoneTotal
import Derived.Deep.OwnRows
set_option linter.unusedVariables false
set_option linter.unusedSimpArgs false
namespace Go.Proofs.YtllkcldckehipaaGreatDoor
open Go.RowKit Go.Shelf

/-- How two keys stand to one another. -/
def cmpK (s t : ByteArray) : Int := Lib.compareBytes s.data.toList t.data.toList

set_option maxRecDepth 100000 in
set_option maxHeartbeats 2000000 in
/-- The closure that compares two places by their keys. -/
theorem order1_any (ks : List ByteArray) (a2 : Addr) (cap2 : Nat) (N : Nat) (w : World) (hc : w.cell? ⟨N, 5, none⟩ = some (.slice (some a2) ks.length cap2)) (hks : ∀ i (h : i < ks.length), w.cell? (a2.add i) = some (.string ks[i])) (i j : Nat) (hi : i < ks.length) (hj : j < ks.length) (hl : ks.length ≤ 1000000) :
    Calls Tryz.prog 91 #[.int .i64 i, .int .i64 j, .pointer (some ⟨N, 0, none⟩)] w fun e w' => e = .returned (.int .i64 (cmpK ks[i] ks[j])) ∧ ∃ q, w' = w.drewN q := by
  have h1 := hks i hi
  have h2 := hks j hj
  unfold cmpK
  generalize ks[i] = s at *
  generalize ks[j] = t at *
  have HS := Lib.hid (Tryz.strings_Compare s t)
  generalize Lib.compareBytes s.data.toList t.data.toList = r at *
  clear hks
  go_enter Tryz.func91, Tryz.ntmps91
  go_wp2_with fail
  go_quiet (first | (go_at_call 92; exact Calls.quiet_of_same (HS.out _)))
  rename_i nq
  go_wp2_with fail
  go_ret
  exact ⟨rfl, nq, rfl⟩

theorem cmpB_neg : ∀ a b : List UInt8, Lib.compareBytes a b < 0 ↔ a < b
  | [], [] => by simp [Lib.compareBytes]
  | [], b :: tb => by simp [Lib.compareBytes]
  | a :: ta, [] => by simp [Lib.compareBytes]
  | a :: ta, b :: tb => by
    have ih := cmpB_neg ta tb
    rw [List.cons_lt_cons_iff, Lib.compareBytes]
    by_cases h1 : a < b
    · simp [h1]
    · rw [if_neg h1]
      by_cases h2 : b < a
      · rw [if_pos h2]
        have : a ≠ b := fun e => by subst e; exact h1 h2
        simp [h1, this]
      · rw [if_neg h2]
        have : a = b := UInt8.le_antisymm (UInt8.not_lt.1 h2) (UInt8.not_lt.1 h1)
        simp [this, ih]
theorem cmpB_zero : ∀ a b : List UInt8, Lib.compareBytes a b = 0 ↔ a = b
  | [], [] => by simp [Lib.compareBytes]
  | [], b :: tb => by simp [Lib.compareBytes]
  | a :: ta, [] => by simp [Lib.compareBytes]
  | a :: ta, b :: tb => by
    have ih := cmpB_zero ta tb
    rw [Lib.compareBytes]
    by_cases h1 : a < b
    · rw [if_pos h1]
      simp only [List.cons.injEq]
      constructor
      · intro h; omega
      · rintro ⟨rfl, _⟩; exact absurd h1 (UInt8.lt_irrefl _)
    · rw [if_neg h1]
      by_cases h2 : b < a
      · rw [if_pos h2]
        simp only [List.cons.injEq]
        constructor
        · intro h; omega
        · rintro ⟨rfl, _⟩; exact absurd h2 (UInt8.lt_irrefl _)
      · rw [if_neg h2]
        have : a = b := UInt8.le_antisymm (UInt8.not_lt.1 h2) (UInt8.not_lt.1 h1)
        simp [this, ih]
theorem cmpK_neg (s t : ByteArray) : cmpK s t < 0 ↔ s.data.toList < t.data.toList := cmpB_neg _ _
theorem cmpK_zero (s t : ByteArray) : cmpK s t = 0 ↔ s = t := (cmpB_zero _ _).trans ⟨fun h => ByteArray.ext (by simpa using congrArg List.toArray h), fun h => by rw [h]⟩

/-- Behind the sort: what was there, but for the row. -/
theorem sorted_grown {α : Type} [Inhabited α] {enc : α → Value} {w : World} {g n : Nat} {os : Array Obj} (d : Array α) : w.grownBy (sortWorld enc w g 0 n d os) (some g) := by
  refine ⟨rfl, rfl, rfl, by simp [sortWorld, Sort.grow, Sort.putRow, Sort.mapBlock, Sort.ahead], fun k hk hne => ?_⟩
  have : g ≠ k := fun e => hne (by rw [e])
  have hk2 : k < (Sort.putRow enc (Sort.ahead w n) g 0 d).heap.size := by simpa [Sort.ahead] using hk
  show (Sort.grow _ _).heap[k]? = _
  rw [Sort.heap_grow_old _ _ hk2]
  simp [Sort.putRow, Sort.mapBlock, Sort.ahead, Array.getElem?_modify, this]
theorem sorted_cell {α : Type} [Inhabited α] {enc : α → Value} {w : World} {g n : Nat} {os : Array Obj} {d0 d : Array α} (h0 : Sort.Holds enc w g 0 d0) (hs : d.size = d0.size) (j : Nat) (hj : j < d.size) : (sortWorld enc w g 0 n d os).cell? ⟨g, j, none⟩ = some (enc d[j]!) := by
  have h1 := (Sort.holds_putRow enc (Sort.ahead w n) g 0 d0 d h0 hs j hj).1
  rw [Nat.zero_add] at h1
  show (Sort.grow _ _).cell? _ = _
  exact (Sort.cell?_grow _ _ _ (World.block_lt_of_cell? _ _ h1)).trans h1

theorem infoI : (Tryz.prog.info? 3).map (fun i => (i.zero, i.size, i.bytes)) = some (some (.int .i64 0), 1, 8) := by kernel_rfl

/-- The places of the parts: as they stand; an object's by their keys. -/
def isOrd (x : V) (ps : List Nat) : Prop := ps.Perm (List.range x.list.length) ∧ (x.kind ≠ 5 → ps = List.range x.list.length) ∧
  (x.kind = 5 → ∀ i j (hi : i < j) (hj : j < ps.length), ¬ cmpK (x.keys.getD (ps[j]) ⟨#[]⟩) (x.keys.getD (ps[i]'(by omega)) ⟨#[]⟩) < 0)

/-- SortFunc of the places, by their keys. -/
theorem sortK_any (ks : List ByteArray) (hl : ks.length ≤ 1000000) (a2 : Addr) (cap2 : Nat) (ho : 0 < ks.length → True) (N : Nat) (g : Nat) (o2 : Option Addr) (ho2 : 0 < ks.length → o2 = some a2) (w : World) (hN : N ≠ g) (hg : g < w.heap.size)
    (hc : w.cell? ⟨N, 5, none⟩ = some (.slice o2 ks.length cap2)) (hks : ∀ i (h : i < ks.length), w.cell? (a2.add i) = some (.string ks[i])) (ha : 0 < ks.length → a2.block ≠ g)
    (hrow : ∀ j, j < ks.length → w.cell? ⟨g, j, none⟩ = some (.int .i64 j) ∧ w.frozen? ⟨g, j, none⟩ = false) :
    Calls Tryz.prog 90 #[.slice (some ⟨g, 0, none⟩) ks.length ks.length, .func (.func 91) #[] #[.pointer (some ⟨N, 0, none⟩)]] w fun e w' => e = .returned (.tuple #[]) ∧ w.grownBy w' (some g) ∧
      ∃ ps : List Nat, ps.Perm (List.range ks.length) ∧ (∀ i j (hi : i < j) (hj : j < ps.length), ¬ cmpK (ks.getD (ps[j]) ⟨#[]⟩) (ks.getD (ps[i]'(by omega)) ⟨#[]⟩) < 0) ∧ ∀ j (hj : j < ps.length), w'.cell? ⟨g, j, none⟩ = some (.int .i64 ps[j]) := by
  rcases Nat.eq_zero_or_pos ks.length with h0 | h0
  · rw [h0]
    refine (AnyF.slices_SortFunc_none { Tryz.laysSlF6_f90 with } (some ⟨g, 0, none⟩) 0 _ w).mono ?_
    rintro e w' ⟨rfl, rfl⟩
    exact ⟨rfl, ⟨rfl, rfl, rfl, Nat.le_refl _, fun _ _ _ => rfl⟩, [], by simp, fun i j hi hj => absurd hj (by simp), fun j hj => absurd hj (by simp)⟩
  · obtain rfl := ho2 h0
    let α := Fin ks.length
    letI : Inhabited α := ⟨⟨0, h0⟩⟩
    let enc : α → Value := fun i => .int .i64 (i.1 : Nat)
    let cf : α → α → Int := fun i j => cmpK ks[i.1] ks[j.1]
    have hlt : ∀ i j : α, ltOf cf i j = decide (ks[i.1].data.toList < ks[j.1].data.toList) := fun i j => by
      unfold ltOf
      exact decide_eq_decide.2 (cmpK_neg _ _)
    have hO : Sort.SWO (ltOf cf) := {
      irrefl := fun i => by rw [hlt]; exact decide_eq_false (List.lt_irrefl _)
      trans := fun i j k h1 h2 => by
        rw [hlt] at *
        exact decide_eq_true (List.lt_trans (of_decide_eq_true h1) (of_decide_eq_true h2))
      ntrans := fun i j k h1 h2 => by
        rw [hlt] at *
        exact decide_eq_false (fun h => by
          have n1 := of_decide_eq_false h1
          have n2 := of_decide_eq_false h2
          exact absurd h (List.not_lt.2 (List.le_trans (List.not_lt.1 n2) (List.not_lt.1 n1)))) }
    let d : Array α := Array.ofFn (fun i : Fin ks.length => i)
    have hd : d.size = ks.length := by simp [d]
    have hdj : ∀ j (h : j < ks.length), d[j]! = ⟨j, h⟩ := fun j h => by
      rw [getElem!_pos d j (by rw [hd]; exact h)]
      simp [d]
    have hH : Sort.Holds enc w g 0 d := fun j hj => by
      rw [hd] at hj
      rw [hdj j hj, Nat.zero_add]
      exact hrow j hj
    have hcmp : CmpLays1 Tryz.prog 91 #[.pointer (some ⟨N, 0, none⟩)] enc cf g 0 d.size w := fun m os dk hs i j => by
      have hgr := sorted_grown (enc := enc) (w := w) (g := g) (n := m) (os := os) dk
      have k0 := hgr.cell hc (fun e => hN (Option.some.inj e))
      have k1 : ∀ q (h : q < ks.length), (sortWorld enc w g 0 m dk os).cell? (a2.add q) = some (.string ks[q]) := fun q h => hgr.cell (hks q h) (fun e => ha h0 (by have := Option.some.inj e; rw [add_block] at this; exact this))
      refine (order1_any ks a2 cap2 N _ k0 k1 i.1 j.1 i.2 j.2 hl).mono ?_
      rintro e w' ⟨rfl, q, rfl⟩
      exact ⟨rfl, q, #[], by rw [Sort.grow_empty]⟩
    have hS := Tryz.slices_SortFunc enc (fun _ => rfl) cf hO 91 #[.pointer (some ⟨N, 0, none⟩)] g 0 ks.length d w (enters_of Tryz.func91 (by kernel_rfl) rfl) hcmp hH hg (by omega)
    rw [hd] at hS
    refine hS.mono ?_
    rintro e w' ⟨rfl, d', n, os, hp, hs, rfl⟩
    obtain ⟨hp1, _, hp3⟩ := hp
    have hx : ∀ (z : Array α), z.size = ks.length → (z.extract 0 ks.length) = z := fun z hz => by rw [← hz]; simp
    rw [hx d hd, hx d' (by rw [hp1, hd])] at hp3
    refine ⟨rfl, sorted_grown d', d'.toList.map (·.1), ?_, ?_, ?_⟩
    · have := hp3.map (fun i : Fin ks.length => i.1)
      refine this.trans ?_
      rw [show d.toList.map (fun i : Fin ks.length => i.1) = List.range ks.length from by
        apply List.ext_getElem
        · simp [hd]
        · intro i h1 h2; simp [d]]
    · intro i j hi hj
      simp only [List.length_map, Array.length_toList] at hj
      have hj' : j < ks.length := by omega
      have h1 := hs i j (Nat.zero_le _) hi hj'
      rw [hlt, getElem!_pos d' i (by omega), getElem!_pos d' j hj] at h1
      have h2 := of_decide_eq_false h1
      rw [cmpK_neg]
      simpa using h2
    · intro j hj
      simp only [List.length_map, Array.length_toList] at hj
      have := sorted_cell (n := n) (os := os) (d := d') hH hp1 j hj
      rw [getElem!_pos d' j hj] at this
      simpa [enc] using this

set_option maxRecDepth 100000 in
set_option maxHeartbeats 4000000 in
theorem order_any (x : V) (v : Value) (w : World) (hl : x.list.length ≤ 1000000) (hk : x.kind = 5 → x.keys.length = x.list.length) (h : isV w x v) :
    Calls Tryz.prog 70 #[v] w fun e w' => ∃ (g : Nat) (ps : List Nat), e = .returned (.slice (some ⟨g, 0, none⟩) x.list.length x.list.length) ∧ w.heap.size ≤ g ∧ isOrd x ps ∧ (∀ j (hj : j < ps.length), w'.cell? ⟨g, j, none⟩ = some (.int .i64 ps[j])) ∧ Below w.heap.size w w' := by
  have HX := Lib.hid h
  obtain ⟨kk, b, n, s, l, ks⟩ := x
  unfold isV at h
  obtain ⟨lv, kv, rfl, hkk, hn, hs, ⟨a, cap, ⟨o, rfl, hc1, hc2, ho⟩, hvs⟩, ⟨a2, cap2, ⟨o2, rfl, hc3, hc4, ho2⟩, hks⟩⟩ := h
  unfold maxLen at hs hc2 hc4
  change l.length ≤ 1000000 at hl
  change kk = 5 → ks.length = l.length at hk
  have HKS : Hid (∀ i (h : i < ks.length), w.cell? (a2.add i) = some (.string ks[i])) := Lib.hid fun i h => (hks i h).1
  have HK := Lib.hid hk
  have HO2 := Lib.hid ho2
  show Calls Tryz.prog 70 _ _ fun e w' => ∃ (g : Nat) (ps : List Nat), e = .returned (.slice (some ⟨g, 0, none⟩) l.length l.length) ∧ _
  have hmk := run_make_row' (P := Tryz.prog) 86 3 (.int .i64 0) 8 Tryz.underlying86 infoI rfl .i64 .i64 l.length (by omega) (by omega)
  clear hkk hn ho hvs hks hk ho2
  go_enter Tryz.func70, Tryz.ntmps70
  go_wp2_with fail
  go_loopw [11] (fun i wr => ∃ (j : Nat), j ≤ l.length ∧ i = .int .i64 j ∧ Hid (wr.rowIs (w.heap.size + 1) 3 l.length (fun i => if i < j then .int .i64 i else .int .i64 0)) ∧ Hid (Below w.heap.size w wr ∧ wr.heap[w.heap.size]? = some (.cells #[.int .i8 kk, .bool b, .int .i64 n, .string s, .slice o l.length cap, .slice o2 ks.length cap2] 26 (0, 0)))) (fun i _ => l.length - (intOf i).toNat)
  case atStart =>
    refine ⟨0, by omega, rfl, Lib.hid ?_, Lib.hid ⟨by go_grown, ?_⟩⟩
    · have := World.rowIs_made (w.alloc (.cells #[.int .i8 kk, .bool b, .int .i64 n, .string s, .slice o l.length cap, .slice o2 ks.length cap2] 26)) (.int .i64 0) l.length 3
      rw [World.size_alloc] at this
      exact this.congr (fun i hi => by simp)
    · exact (Below.heap_alloc _ _ _ (by simp)).trans (World.alloc_heap_new w _)
  case round =>
    obtain ⟨j, hj, rfl, hR, hB⟩ := hrel
    by_cases hlt : j < l.length
    · have c0 : wr.cell? ⟨w.heap.size + 1, j, none⟩ = some (.int .i64 0) := by have := hR.out.cell hlt; simpa using this
      have f0 := hR.out.frozen j
      have HR2 : Hid ((wr.setCell ⟨w.heap.size + 1, j, none⟩ (.int .i64 j)).rowIs (w.heap.size + 1) 3 l.length (fun i => if i < j + 1 then .int .i64 i else .int .i64 0)) := Lib.hid ((hR.out.set j (.int .i64 j)).congr (fun i hi => by
        by_cases e : i = j
        · subst e; simp
        · rw [if_neg e]
          by_cases e2 : i < j
          · rw [if_pos e2, if_pos (by omega)]
          · rw [if_neg e2, if_neg (by omega)]))
      have HB2 : Hid (Below w.heap.size w (wr.setCell ⟨w.heap.size + 1, j, none⟩ (.int .i64 j)) ∧ (wr.setCell ⟨w.heap.size + 1, j, none⟩ (.int .i64 j)).heap[w.heap.size]? = some (.cells #[.int .i8 kk, .bool b, .int .i64 n, .string s, .slice o l.length cap, .slice o2 ks.length cap2] 26 (0, 0))) := Lib.hid ⟨hB.out.1.setCell (p := ⟨w.heap.size + 1, j, none⟩) (by simp) _, (Deep.blk_setCell_other _ _ _ _ (by simp)).trans hB.out.2⟩
      go_wp2_with fail
      go_roundw
      case rel => exact ⟨j + 1, by omega, by go_num, HR2, HB2⟩
      case measure => simp [intOf]; omega
    · obtain rfl : j = l.length := by omega
      obtain ⟨r0, r1, r2, r3, r4, r5⟩ := six_cells hB.out.2
      have hrow : ∀ i, i < l.length → wr.cell? ⟨w.heap.size + 1, i, none⟩ = some (.int .i64 i) ∧ wr.frozen? ⟨w.heap.size + 1, i, none⟩ = false := fun i hi => ⟨by have := hR.out.cell hi; simpa [hi] using this, hR.out.frozen i⟩
      have HROW := Lib.hid hrow
      have hgl := hR.out.lt
      clear hrow
      by_cases h5 : kk = 5
      · subst h5
        have hkl := HK.out rfl
        have hS := sortK_any ks (by omega) a2 cap2 (fun _ => trivial) w.heap.size (w.heap.size + 1) o2 HO2.out wr (by omega) hgl r5 (fun i h => cell_below hB.out.1 _ _ (HKS.out i h)) (fun h e => by
          have := World.block_lt_of_cell? w _ (HKS.out 0 h)
          rw [add_block] at this; omega) (fun j hj => HROW.out j (by omega))
        rw [hkl] at hS
        have HS := Lib.hid hS
        have HKL := Lib.hid hkl
        clear hS hkl r1 r2 r3 r4 r5 hgl
        go_wp2_with (go_at_call 90; refine HS.out.mono ?_; rintro e w5 ⟨rfl, hg5, ps, hp1, hp2, hp3⟩; have HP := Lib.hid (And.intro hp1 (And.intro hp2 hp3)); have HG := Lib.hid hg5; clear hp1 hp2 hp3 hg5)
        go_ret
        refine ⟨w.heap.size + 1, ps, rfl, by omega, ⟨HP.out.1, fun h => absurd rfl h, fun _ i j hi hj => Int.not_lt.2 (HP.out.2.1 i j hi hj)⟩, HP.out.2.2, ?_⟩
        exact hB.out.1.grown HG.out hB.out.1.size (fun r e => by cases e; omega)
      · have k5 : (kk == 5) = false := beqI h5
        have H5 := Lib.hid h5
        clear h5 hgl
        go_wp2_with fail
        go_ret
        refine ⟨w.heap.size + 1, List.range l.length, rfl, by omega, ⟨List.Perm.refl _, fun _ => rfl, fun h => absurd h H5.out⟩, ?_, hB.out.1⟩
        intro j hj
        have hj' : j < l.length := by simpa using hj
        rw [(HROW.out j hj').1]
        simp
end Go.Proofs.YtllkcldckehipaaGreatDoor
