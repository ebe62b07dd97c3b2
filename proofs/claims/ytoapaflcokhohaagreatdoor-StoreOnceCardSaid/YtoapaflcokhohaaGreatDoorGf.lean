/-
  The program's order: the places of a value's parts, an object's by their keys. · The program's sorted. · How the program compares: numbers, texts, rows of keys. · The program's compareSorted. · The program's compare, Equal, Less. · The statements' helper 'wakes': what the document says of values, plain. · The statements' helper 'wakes'. · The program's Check; sorting exists; a value in a list, in an object of one key.
-/
import Derived.Test.YtoapaflcokhohaaGreatDoorGe
import Derived.Test.YtoapaflcokhohaaGreatDoorShelfA
import Derived.Test.YtoapaflcokhohaaGreatDoorGc
import Derived.Shelf.SlSortCmp.NoneTotal
import Derived.Deep.OwnRows
import Derived.Deep.RegionWith
set_option linter.unusedVariables false
namespace Go.Proofs.YtoapaflcokhohaaGreatDoor
open Go.RowKit Go.Shelf

/-- How two keys stand to one another. -/
def cmpK (s t : ByteArray) : Int := Lib.compareBytes s.data.toList t.data.toList

set_option maxRecDepth 100000 in
set_option maxHeartbeats 2000000 in
/-- The closure that compares two places by their keys. -/
theorem order1_any (ks : List ByteArray) (a2 : Addr) (cap2 : Nat) (N : Nat) (w : World) (hc : w.cell? ⟨N, 5, none⟩ = some (.slice (some a2) ks.length cap2)) (hks : ∀ i (h : i < ks.length), w.cell? (a2.add i) = some (.string ks[i])) (i j : Nat) (hi : i < ks.length) (hj : j < ks.length) (hl : ks.length ≤ 1000000) :
    Calls Tryz.prog 140 #[.int .i64 i, .int .i64 j, .pointer (some ⟨N, 0, none⟩)] w fun e w' => e = .returned (.int .i64 (cmpK ks[i] ks[j])) ∧ ∃ q, w' = w.drewN q := by
  have h1 := hks i hi
  have h2 := hks j hj
  unfold cmpK
  generalize ks[i] = s at *
  generalize ks[j] = t at *
  have HS := Lib.hid (Tryz.strings_Compare s t)
  generalize Lib.compareBytes s.data.toList t.data.toList = r at *
  clear hks
  go_enter Tryz.func140, Tryz.ntmps140
  go_wp2_with fail
  go_quiet (first | (go_at_call 123; exact Calls.quiet_of_same (HS.out _)))
  rename_i nq
  go_wp2_with fail
  go_ret
  exact ⟨rfl, nq, rfl⟩

theorem cmpB_neg : ∀ a b : List UInt8, Lib.compareBytes a b < 0 ↔ a < b
  | [], [] => by simp [Lib.compareBytes]
  | [], b :: tb => by simp [Lib.compareBytes]
  | a :: ta, [] => by simp [Lib.compareBytes]
  | a :: ta, b :: tb => by
    have ih := cmpB_neg ta tb
    rw [List.cons_lt_cons_iff, Lib.compareBytes]
    by_cases h1 : a < b
    · simp [h1]
    · rw [if_neg h1]
      by_cases h2 : b < a
      · rw [if_pos h2]
        have : a ≠ b := fun e => by subst e; exact h1 h2
        simp [h1, this]
      · rw [if_neg h2]
        have : a = b := UInt8.le_antisymm (UInt8.not_lt.1 h2) (UInt8.not_lt.1 h1)
        simp [this, ih]
theorem cmpB_zero : ∀ a b : List UInt8, Lib.compareBytes a b = 0 ↔ a = b
  | [], [] => by simp [Lib.compareBytes]
  | [], b :: tb => by simp [Lib.compareBytes]
  | a :: ta, [] => by simp [Lib.compareBytes]
  | a :: ta, b :: tb => by
    have ih := cmpB_zero ta tb
    rw [Lib.compareBytes]
    by_cases h1 : a < b
    · rw [if_pos h1]
      simp only [List.cons.injEq]
      constructor
      · intro h; omega
      · rintro ⟨rfl, _⟩; exact absurd h1 (UInt8.lt_irrefl _)
    · rw [if_neg h1]
      by_cases h2 : b < a
      · rw [if_pos h2]
        simp only [List.cons.injEq]
        constructor
        · intro h; omega
        · rintro ⟨rfl, _⟩; exact absurd h2 (UInt8.lt_irrefl _)
      · rw [if_neg h2]
        have : a = b := UInt8.le_antisymm (UInt8.not_lt.1 h2) (UInt8.not_lt.1 h1)
        simp [this, ih]
theorem cmpK_neg (s t : ByteArray) : cmpK s t < 0 ↔ s.data.toList < t.data.toList := cmpB_neg _ _
theorem cmpK_zero (s t : ByteArray) : cmpK s t = 0 ↔ s = t := (cmpB_zero _ _).trans ⟨fun h => ByteArray.ext (by simpa using congrArg List.toArray h), fun h => by rw [h]⟩

/-- Behind the sort: what was there, but for the row. -/
theorem sorted_grown {α : Type} [Inhabited α] {enc : α → Value} {w : World} {g n : Nat} {os : Array Obj} (d : Array α) : w.grownBy (sortWorld enc w g 0 n d os) (some g) := by
  refine ⟨rfl, rfl, rfl, by simp [sortWorld, Sort.grow, Sort.putRow, Sort.mapBlock, Sort.ahead], fun k hk hne => ?_⟩
  have : g ≠ k := fun e => hne (by rw [e])
  have hk2 : k < (Sort.putRow enc (Sort.ahead w n) g 0 d).heap.size := by simpa [Sort.ahead] using hk
  show (Sort.grow _ _).heap[k]? = _
  rw [Sort.heap_grow_old _ _ hk2]
  simp [Sort.putRow, Sort.mapBlock, Sort.ahead, Array.getElem?_modify, this]
theorem sorted_cell {α : Type} [Inhabited α] {enc : α → Value} {w : World} {g n : Nat} {os : Array Obj} {d0 d : Array α} (h0 : Sort.Holds enc w g 0 d0) (hs : d.size = d0.size) (j : Nat) (hj : j < d.size) : (sortWorld enc w g 0 n d os).cell? ⟨g, j, none⟩ = some (enc d[j]!) := by
  have h1 := (Sort.holds_putRow enc (Sort.ahead w n) g 0 d0 d h0 hs j hj).1
  rw [Nat.zero_add] at h1
  show (Sort.grow _ _).cell? _ = _
  exact (Sort.cell?_grow _ _ _ (World.block_lt_of_cell? _ _ h1)).trans h1

theorem infoI : (Tryz.prog.info? 3).map (fun i => (i.zero, i.size, i.bytes)) = some (some (.int .i64 0), 1, 8) := by kernel_rfl

/-- The places of the parts: as they stand; an object's by their keys. -/
def isOrd (x : V) (ps : List Nat) : Prop := ps.Perm (List.range x.list.length) ∧ (x.kind ≠ 5 → ps = List.range x.list.length) ∧
  (x.kind = 5 → ∀ i j (hi : i < j) (hj : j < ps.length), ¬ cmpK (x.keys.getD (ps[j]) ⟨#[]⟩) (x.keys.getD (ps[i]'(by omega)) ⟨#[]⟩) < 0)

/-- SortFunc of the places, by their keys. -/
theorem sortK_any (ks : List ByteArray) (hl : ks.length ≤ 1000000) (a2 : Addr) (cap2 : Nat) (ho : 0 < ks.length → True) (N : Nat) (g : Nat) (o2 : Option Addr) (ho2 : 0 < ks.length → o2 = some a2) (w : World) (hN : N ≠ g) (hg : g < w.heap.size)
    (hc : w.cell? ⟨N, 5, none⟩ = some (.slice o2 ks.length cap2)) (hks : ∀ i (h : i < ks.length), w.cell? (a2.add i) = some (.string ks[i])) (ha : 0 < ks.length → a2.block ≠ g)
    (hrow : ∀ j, j < ks.length → w.cell? ⟨g, j, none⟩ = some (.int .i64 j) ∧ w.frozen? ⟨g, j, none⟩ = false) :
    Calls Tryz.prog 139 #[.slice (some ⟨g, 0, none⟩) ks.length ks.length, .func (.func 140) #[] #[.pointer (some ⟨N, 0, none⟩)]] w fun e w' => e = .returned (.tuple #[]) ∧ w.grownBy w' (some g) ∧
      ∃ ps : List Nat, ps.Perm (List.range ks.length) ∧ (∀ i j (hi : i < j) (hj : j < ps.length), ¬ cmpK (ks.getD (ps[j]) ⟨#[]⟩) (ks.getD (ps[i]'(by omega)) ⟨#[]⟩) < 0) ∧ ∀ j (hj : j < ps.length), w'.cell? ⟨g, j, none⟩ = some (.int .i64 ps[j]) := by
  rcases Nat.eq_zero_or_pos ks.length with h0 | h0
  · rw [h0]
    refine (AnyF.slices_SortFunc_none { Tryz.laysSlF6_f139 with } (some ⟨g, 0, none⟩) 0 _ w).mono ?_
    rintro e w' ⟨rfl, rfl⟩
    exact ⟨rfl, ⟨rfl, rfl, rfl, Nat.le_refl _, fun _ _ _ => rfl⟩, [], by simp, fun i j hi hj => absurd hj (by simp), fun j hj => absurd hj (by simp)⟩
  · obtain rfl := ho2 h0
    let α := Fin ks.length
    letI : Inhabited α := ⟨⟨0, h0⟩⟩
    let enc : α → Value := fun i => .int .i64 (i.1 : Nat)
    let cf : α → α → Int := fun i j => cmpK ks[i.1] ks[j.1]
    have hlt : ∀ i j : α, ltOf cf i j = decide (ks[i.1].data.toList < ks[j.1].data.toList) := fun i j => by
      unfold ltOf
      exact decide_eq_decide.2 (cmpK_neg _ _)
    have hO : Sort.SWO (ltOf cf) := {
      irrefl := fun i => by rw [hlt]; exact decide_eq_false (List.lt_irrefl _)
      trans := fun i j k h1 h2 => by
        rw [hlt] at *
        exact decide_eq_true (List.lt_trans (of_decide_eq_true h1) (of_decide_eq_true h2))
      ntrans := fun i j k h1 h2 => by
        rw [hlt] at *
        exact decide_eq_false (fun h => by
          have n1 := of_decide_eq_false h1
          have n2 := of_decide_eq_false h2
          exact absurd h (List.not_lt.2 (List.le_trans (List.not_lt.1 n2) (List.not_lt.1 n1)))) }
    let d : Array α := Array.ofFn (fun i : Fin ks.length => i)
    have hd : d.size = ks.length := by simp [d]
    have hdj : ∀ j (h : j < ks.length), d[j]! = ⟨j, h⟩ := fun j h => by
      rw [getElem!_pos d j (by rw [hd]; exact h)]
      simp [d]
    have hH : Sort.Holds enc w g 0 d := fun j hj => by
      rw [hd] at hj
      rw [hdj j hj, Nat.zero_add]
      exact hrow j hj
    have hcmp : CmpLays1 Tryz.prog 140 #[.pointer (some ⟨N, 0, none⟩)] enc cf g 0 d.size w := fun m os dk hs i j => by
      have hgr := sorted_grown (enc := enc) (w := w) (g := g) (n := m) (os := os) dk
      have k0 := hgr.cell hc (fun e => hN (Option.some.inj e))
      have k1 : ∀ q (h : q < ks.length), (sortWorld enc w g 0 m dk os).cell? (a2.add q) = some (.string ks[q]) := fun q h => hgr.cell (hks q h) (fun e => ha h0 (by have := Option.some.inj e; rw [add_block] at this; exact this))
      refine (order1_any ks a2 cap2 N _ k0 k1 i.1 j.1 i.2 j.2 hl).mono ?_
      rintro e w' ⟨rfl, q, rfl⟩
      exact ⟨rfl, q, #[], by rw [Sort.grow_empty]⟩
    have hS := Tryz.slices_SortFunc enc (fun _ => rfl) cf hO 140 #[.pointer (some ⟨N, 0, none⟩)] g 0 ks.length d w (enters_of Tryz.func140 (by kernel_rfl) rfl) hcmp hH hg (by omega)
    rw [hd] at hS
    refine hS.mono ?_
    rintro e w' ⟨rfl, d', n, os, hp, hs, rfl⟩
    obtain ⟨hp1, _, hp3⟩ := hp
    have hx : ∀ (z : Array α), z.size = ks.length → (z.extract 0 ks.length) = z := fun z hz => by rw [← hz]; simp
    rw [hx d hd, hx d' (by rw [hp1, hd])] at hp3
    refine ⟨rfl, sorted_grown d', d'.toList.map (·.1), ?_, ?_, ?_⟩
    · have := hp3.map (fun i : Fin ks.length => i.1)
      refine this.trans ?_
      rw [show d.toList.map (fun i : Fin ks.length => i.1) = List.range ks.length from by
        apply List.ext_getElem
        · simp [hd]
        · intro i h1 h2; simp [d]]
    · intro i j hi hj
      simp only [List.length_map, Array.length_toList] at hj
      have hj' : j < ks.length := by omega
      have h1 := hs i j (Nat.zero_le _) hi hj'
      rw [hlt, getElem!_pos d' i (by omega), getElem!_pos d' j hj] at h1
      have h2 := of_decide_eq_false h1
      rw [cmpK_neg]
      simpa using h2
    · intro j hj
      simp only [List.length_map, Array.length_toList] at hj
      have := sorted_cell (n := n) (os := os) (d := d') hH hp1 j hj
      rw [getElem!_pos d' j hj] at this
      simpa [enc] using this

set_option maxRecDepth 100000 in
set_option maxHeartbeats 4000000 in
theorem order_any (x : V) (v : Value) (w : World) (hl : x.list.length ≤ 1000000) (hk : x.kind = 5 → x.keys.length = x.list.length) (h : isV w x v) :
    Calls Tryz.prog 126 #[v] w fun e w' => ∃ (g : Nat) (ps : List Nat), e = .returned (.slice (some ⟨g, 0, none⟩) x.list.length x.list.length) ∧ w.heap.size ≤ g ∧ isOrd x ps ∧ (∀ j (hj : j < ps.length), w'.cell? ⟨g, j, none⟩ = some (.int .i64 ps[j])) ∧ Below w.heap.size w w' := by
  have HX := Lib.hid h
  obtain ⟨kk, b, n, s, l, ks⟩ := x
  unfold isV at h
  obtain ⟨lv, kv, rfl, hkk, hn, hs, ⟨a, cap, ⟨o, rfl, hc1, hc2, ho⟩, hvs⟩, ⟨a2, cap2, ⟨o2, rfl, hc3, hc4, ho2⟩, hks⟩⟩ := h
  unfold maxLen at hs hc2 hc4
  change l.length ≤ 1000000 at hl
  change kk = 5 → ks.length = l.length at hk
  have HKS : Hid (∀ i (h : i < ks.length), w.cell? (a2.add i) = some (.string ks[i])) := Lib.hid fun i h => (hks i h).1
  have HK := Lib.hid hk
  have HO2 := Lib.hid ho2
  show Calls Tryz.prog 126 _ _ fun e w' => ∃ (g : Nat) (ps : List Nat), e = .returned (.slice (some ⟨g, 0, none⟩) l.length l.length) ∧ _
  have hmk := run_make_row' (P := Tryz.prog) 154 3 (.int .i64 0) 8 Tryz.underlying154 infoI rfl .i64 .i64 l.length (by omega) (by omega)
  clear hkk hn ho hvs hks hk ho2
  go_enter Tryz.func126, Tryz.ntmps126
  go_wp2_with fail
  go_loopw [11] (fun i wr => ∃ (j : Nat), j ≤ l.length ∧ i = .int .i64 j ∧ Hid (wr.rowIs (w.heap.size + 1) 3 l.length (fun i => if i < j then .int .i64 i else .int .i64 0)) ∧ Hid (Below w.heap.size w wr ∧ wr.heap[w.heap.size]? = some (.cells #[.int .i8 kk, .bool b, .int .i64 n, .string s, .slice o l.length cap, .slice o2 ks.length cap2] 64 (0, 0)))) (fun i _ => l.length - (intOf i).toNat)
  case atStart =>
    refine ⟨0, by omega, rfl, Lib.hid ?_, Lib.hid ⟨by go_grown, ?_⟩⟩
    · have := World.rowIs_made (w.alloc (.cells #[.int .i8 kk, .bool b, .int .i64 n, .string s, .slice o l.length cap, .slice o2 ks.length cap2] 64)) (.int .i64 0) l.length 3
      rw [World.size_alloc] at this
      exact this.congr (fun i hi => by simp)
    · exact (Below.heap_alloc _ _ _ (by simp)).trans (World.alloc_heap_new w _)
  case round =>
    obtain ⟨j, hj, rfl, hR, hB⟩ := hrel
    by_cases hlt : j < l.length
    · have c0 : wr.cell? ⟨w.heap.size + 1, j, none⟩ = some (.int .i64 0) := by have := hR.out.cell hlt; simpa using this
      have f0 := hR.out.frozen j
      have HR2 : Hid ((wr.setCell ⟨w.heap.size + 1, j, none⟩ (.int .i64 j)).rowIs (w.heap.size + 1) 3 l.length (fun i => if i < j + 1 then .int .i64 i else .int .i64 0)) := Lib.hid ((hR.out.set j (.int .i64 j)).congr (fun i hi => by
        by_cases e : i = j
        · subst e; simp
        · rw [if_neg e]
          by_cases e2 : i < j
          · rw [if_pos e2, if_pos (by omega)]
          · rw [if_neg e2, if_neg (by omega)]))
      have HB2 : Hid (Below w.heap.size w (wr.setCell ⟨w.heap.size + 1, j, none⟩ (.int .i64 j)) ∧ (wr.setCell ⟨w.heap.size + 1, j, none⟩ (.int .i64 j)).heap[w.heap.size]? = some (.cells #[.int .i8 kk, .bool b, .int .i64 n, .string s, .slice o l.length cap, .slice o2 ks.length cap2] 64 (0, 0))) := Lib.hid ⟨hB.out.1.setCell (p := ⟨w.heap.size + 1, j, none⟩) (by simp) _, (Deep.blk_setCell_other _ _ _ _ (by simp)).trans hB.out.2⟩
      go_wp2_with fail
      go_roundw
      case rel => exact ⟨j + 1, by omega, by go_num, HR2, HB2⟩
      case measure => simp [intOf]; omega
    · obtain rfl : j = l.length := by omega
      obtain ⟨r0, r1, r2, r3, r4, r5⟩ := six_cells hB.out.2
      have hrow : ∀ i, i < l.length → wr.cell? ⟨w.heap.size + 1, i, none⟩ = some (.int .i64 i) ∧ wr.frozen? ⟨w.heap.size + 1, i, none⟩ = false := fun i hi => ⟨by have := hR.out.cell hi; simpa [hi] using this, hR.out.frozen i⟩
      have HROW := Lib.hid hrow
      have hgl := hR.out.lt
      clear hrow
      by_cases h5 : kk = 5
      · subst h5
        have hkl := HK.out rfl
        have hS := sortK_any ks (by omega) a2 cap2 (fun _ => trivial) w.heap.size (w.heap.size + 1) o2 HO2.out wr (by omega) hgl r5 (fun i h => cell_below hB.out.1 _ _ (HKS.out i h)) (fun h e => by
          have := World.block_lt_of_cell? w _ (HKS.out 0 h)
          rw [add_block] at this; omega) (fun j hj => HROW.out j (by omega))
        rw [hkl] at hS
        have HS := Lib.hid hS
        have HKL := Lib.hid hkl
        clear hS hkl r1 r2 r3 r4 r5 hgl
        go_wp2_with (go_at_call 139; refine HS.out.mono ?_; rintro e w5 ⟨rfl, hg5, ps, hp1, hp2, hp3⟩; have HP := Lib.hid (And.intro hp1 (And.intro hp2 hp3)); have HG := Lib.hid hg5; clear hp1 hp2 hp3 hg5)
        go_ret
        refine ⟨w.heap.size + 1, ps, rfl, by omega, ⟨HP.out.1, fun h => absurd rfl h, fun _ i j hi hj => Int.not_lt.2 (HP.out.2.1 i j hi hj)⟩, HP.out.2.2, ?_⟩
        exact hB.out.1.grown HG.out hB.out.1.size (fun r e => by cases e; omega)
      · have k5 : (kk == 5) = false := beqI h5
        have H5 := Lib.hid h5
        clear h5 hgl
        go_wp2_with fail
        go_ret
        refine ⟨w.heap.size + 1, List.range l.length, rfl, by omega, ⟨List.Perm.refl _, fun _ => rfl, fun h => absurd h H5.out⟩, ?_, hB.out.1⟩
        intro j hj
        have hj' : j < l.length := by simpa using hj
        rw [(HROW.out j hj').1]
        simp
end Go.Proofs.YtoapaflcokhohaaGreatDoor

set_option linter.unusedVariables false
namespace Go.Proofs.YtoapaflcokhohaaGreatDoor
open Go.RowKit Go.Shelf

/-- The second is the first, sorted at every depth. -/
inductive SortR : V → V → Prop
  | mk (k : Int) (b : Bool) (n : Int) (s : ByteArray) (l : List V) (ks : List ByteArray) (l' : List V) (ks' : List ByteArray) (ps : List Nat) (ho : isOrd (.mk k b n s l ks) ps) (hl : l'.length = ps.length)
      (hs : ∀ i (h : i < l'.length), SortR (l.getD (ps.getD i 0) default) l'[i]) (hk : ks' = if k = 5 then ps.map (fun p => ks.getD p ⟨#[]⟩) else ks) : SortR (.mk k b n s l ks) (.mk k b n s l' ks')

theorem getD_lt {α : Type} (l : List α) (i : Nat) (d : α) (h : i < l.length) : l.getD i d = l[i] := by
  rw [List.getD, List.getElem?_eq_getElem h]; rfl
/-- What lies there throughout: the value's box, the result's cell, the places. -/
def FX (w : World) (cs zs : Array Value) (gP : Nat) (ps : List Nat) (wr : World) : Prop :=
  Below w.heap.size w wr ∧ wr.heap[w.heap.size]? = some (.cells cs 64 (0, 0)) ∧ wr.heap[w.heap.size + 1]? = some (.cells zs 64 (0, 0)) ∧ ∀ j (hj : j < ps.length), wr.cell? ⟨gP, j, none⟩ = some (.int .i64 ps[j])
theorem FX.grown {w wr wr' : World} {cs zs : Array Value} {gP : Nat} {ps : List Nat} {row : Option Nat} (h : FX w cs zs gP ps wr) (hg : wr.grownBy wr' row) (hr : ∀ r, row = some r → w.heap.size + 1 < r ∧ r ≠ gP) : FX w cs zs gP ps wr' := by
  obtain ⟨h1, h2, h3, h4⟩ := h
  refine ⟨h1.grown hg h1.size (fun r e => by have := hr r e; omega), ?_, ?_, fun j hj => hg.cell (h4 j hj) (fun e => (hr _ e.symm).2 rfl)⟩
  · exact (hg.block _ (Array.getElem?_eq_some_iff.1 h2).1 (fun e => by have := hr _ e.symm; omega)).trans h2
  · exact (hg.block _ (Array.getElem?_eq_some_iff.1 h3).1 (fun e => by have := hr _ e.symm; omega)).trans h3
/-- A list's row of the call's own, of which so many parts are set. -/
def LR (B : Nat → Prop) (l : List V) (ps : List Nat) (gL cap : Nat) (j : Nat) (wr : World) : Prop :=
  0 < l.length → ∃ f, wr.rowIs gL 64 (cap * 6) f ∧ ∀ i, i < j → ∃ y, SortR (l.getD (ps.getD i 0) default) y ∧ isVa wr B y (.agg #[f (i * 6), f (i * 6 + 1), f (i * 6 + 2), f (i * 6 + 3), f (i * 6 + 4), f (i * 6 + 5)])
/-- The keys' row. -/
def KR (k : Int) (ks : List ByteArray) (ps : List Nat) (gK cap : Nat) (j : Nat) (wr : World) : Prop :=
  0 < ks.length → ∃ f, wr.rowIs gK 9 cap f ∧ if k = 5 then ∀ i, i < j → f i = .string (ks.getD (ps.getD i 0) ⟨#[]⟩) else ∀ i, i < ks.length → f i = .string (ks.getD i ⟨#[]⟩)
theorem rowIs_grown {w w' : World} {b n : Nat} {t : TypeId} {f : Nat → Value} {row : Option Nat} (h : w.rowIs b t n f) (hg : w.grownBy w' row) (hb : some b ≠ row) : w'.rowIs b t n f := h.of_block (hg.block b h.lt hb)
theorem LR.grown {B : Nat → Prop} {l : List V} {ps : List Nat} {gL cap j : Nat} {wr wr' : World} {row : Option Nat} (h : LR B l ps gL cap j wr) (hg : wr.grownBy wr' row) (hr : some gL ≠ row) (hB : ∀ q, B q → some q ≠ row) : LR B l ps gL cap j wr' := fun h0 => by
  obtain ⟨f, h1, h2⟩ := h h0
  refine ⟨f, rowIs_grown h1 hg hr, fun i hi => ?_⟩
  obtain ⟨y, hy, hv⟩ := h2 i hi
  exact ⟨y, hy, isVa_grown hg hB hv⟩
theorem KR.grown {k : Int} {ks : List ByteArray} {ps : List Nat} {gK cap j : Nat} {wr wr' : World} {row : Option Nat} (h : KR k ks ps gK cap j wr) (hg : wr.grownBy wr' row) (hr : some gK ≠ row) : KR k ks ps gK cap j wr' := fun h0 => by
  obtain ⟨f, h1, h2⟩ := h h0
  exact ⟨f, rowIs_grown h1 hg hr, h2⟩
theorem store_row {w : World} {b n : Nat} {t : TypeId} {f : Nat → Value} (h : w.rowIs b t n f) (i : Nat) (hi : i < n) (v : Value) (hv : v.oneCell' = true) : (store ⟨b, i, none⟩ v).run Tryz.prog w = .ok () (w.setCell ⟨b, i, none⟩ v) := by
  rw [run_store _ _ _ _ _ hv, h.cell hi]
  simp [h.frozen i]
theorem grown_set (W : World) (b i : Nat) (v : Value) : W.grownBy (W.setCell ⟨b, i, none⟩ v) (some b) :=
  ⟨rfl, rfl, rfl, by simp, fun k _ hne => Deep.blk_setCell_other _ _ _ _ (fun e => hne (by rw [e]))⟩
theorem grown_trans {a b c : World} {row : Option Nat} (h : a.grownBy b row) (k : b.grownBy c row) : a.grownBy c row :=
  World.grownBy.andThen h k (fun j e => .inr e)
/-- A struct of six cells is stored into a row: cell by cell. -/
theorem store_six {w : World} {b n : Nat} {t : TypeId} {f : Nat → Value} (h : w.rowIs b t n f) (p : Nat) (hp : p + 5 < n) (c0 c1 c2 c3 c4 c5 : Value) (hc : ∀ u ∈ [c0, c1, c2, c3, c4, c5], u.oneCell' = true) :
    ∃ w1 w2 w3 w4 w5 w6 f', ((∃ u, w.cell? ⟨b, p, none⟩ = some u) ∧ w.frozen? ⟨b, p, none⟩ = false ∧ w.setCell ⟨b, p, none⟩ c0 = w1) ∧ ((∃ u, w1.cell? ⟨b, p + 1, none⟩ = some u) ∧ w1.frozen? ⟨b, p + 1, none⟩ = false ∧ w1.setCell ⟨b, p + 1, none⟩ c1 = w2) ∧ ((∃ u, w2.cell? ⟨b, p + 2, none⟩ = some u) ∧ w2.frozen? ⟨b, p + 2, none⟩ = false ∧ w2.setCell ⟨b, p + 2, none⟩ c2 = w3) ∧ ((∃ u, w3.cell? ⟨b, p + 3, none⟩ = some u) ∧ w3.frozen? ⟨b, p + 3, none⟩ = false ∧ w3.setCell ⟨b, p + 3, none⟩ c3 = w4) ∧ ((∃ u, w4.cell? ⟨b, p + 4, none⟩ = some u) ∧ w4.frozen? ⟨b, p + 4, none⟩ = false ∧ w4.setCell ⟨b, p + 4, none⟩ c4 = w5) ∧ ((∃ u, w5.cell? ⟨b, p + 5, none⟩ = some u) ∧ w5.frozen? ⟨b, p + 5, none⟩ = false ∧ w5.setCell ⟨b, p + 5, none⟩ c5 = w6) ∧
      w6.rowIs b t n f' ∧ w.grownBy w6 (some b) ∧ f' p = c0 ∧ f' (p + 1) = c1 ∧ f' (p + 2) = c2 ∧ f' (p + 3) = c3 ∧ f' (p + 4) = c4 ∧ f' (p + 5) = c5 ∧ ∀ i, i < p → f' i = f i := by
  have h1 := h.set p c0
  have h2 := h1.set (p + 1) c1
  have h3 := h2.set (p + 2) c2
  have h4 := h3.set (p + 3) c3
  have h5 := h4.set (p + 4) c4
  have h6 := h5.set (p + 5) c5
  refine ⟨_, _, _, _, _, _, _, ⟨⟨_, h.cell (show p < n by omega)⟩, h.frozen _, rfl⟩, ⟨⟨_, h1.cell (show p + 1 < n by omega)⟩, h1.frozen _, rfl⟩, ⟨⟨_, h2.cell (show p + 2 < n by omega)⟩, h2.frozen _, rfl⟩, ⟨⟨_, h3.cell (show p + 3 < n by omega)⟩, h3.frozen _, rfl⟩, ⟨⟨_, h4.cell (show p + 4 < n by omega)⟩, h4.frozen _, rfl⟩, ⟨⟨_, h5.cell (show p + 5 < n by omega)⟩, h5.frozen _, rfl⟩, h6, ?_, ?_, ?_, ?_, ?_, ?_, ?_, ?_⟩
  · exact grown_trans (grown_trans (grown_trans (grown_trans (grown_trans (grown_set _ _ _ _) (grown_set _ _ _ _)) (grown_set _ _ _ _)) (grown_set _ _ _ _)) (grown_set _ _ _ _)) (grown_set _ _ _ _)
  all_goals try (simp; done)
  intro i hi
  rw [if_neg (by omega), if_neg (by omega), if_neg (by omega), if_neg (by omega), if_neg (by omega), if_neg (by omega)]
theorem rowIs_six {w : World} {b : Nat} {c0 c1 c2 c3 c4 c5 : Value} {t : TypeId} (h : w.heap[b]? = some (.cells #[c0, c1, c2, c3, c4, c5] t (0, 0))) : w.rowIs b t 6 (fun i => (#[c0, c1, c2, c3, c4, c5][i]?).getD undef) :=
  ⟨_, h, rfl, fun i hi => by
    match i, hi with
    | 0, _ => rfl
    | 1, _ => rfl
    | 2, _ => rfl
    | 3, _ => rfl
    | 4, _ => rfl
    | 5, _ => rfl⟩
/-- Two fields of a struct in a block are set. -/
theorem box_set {w : World} {b : Nat} {c0 c1 c2 c3 c4 c5 : Value} {t : TypeId} (u4 u5 : Value) (h : w.heap[b]? = some (.cells #[c0, c1, c2, c3, c4, c5] t (0, 0))) :
    ∃ y1 y2, ((∃ u, w.cell? ⟨b, 4, none⟩ = some u) ∧ w.frozen? ⟨b, 4, none⟩ = false ∧ w.setCell ⟨b, 4, none⟩ u4 = y1) ∧ ((∃ u, y1.cell? ⟨b, 5, none⟩ = some u) ∧ y1.frozen? ⟨b, 5, none⟩ = false ∧ y1.setCell ⟨b, 5, none⟩ u5 = y2) ∧
      y2.heap[b]? = some (.cells #[c0, c1, c2, c3, u4, u5] t (0, 0)) ∧ w.grownBy y2 (some b) := by
  have h1 : (w.setCell ⟨b, 4, none⟩ u4).heap[b]? = some (.cells #[c0, c1, c2, c3, u4, c5] t (0, 0)) := by simp [World.setCell, Array.getElem?_modify, h]
  have h2 : ((w.setCell ⟨b, 4, none⟩ u4).setCell ⟨b, 5, none⟩ u5).heap[b]? = some (.cells #[c0, c1, c2, c3, u4, u5] t (0, 0)) := by
    generalize w.setCell ⟨b, 4, none⟩ u4 = y at h1
    simp [World.setCell, Array.getElem?_modify, h1]
  have g1 := rowIs_six h
  have g2 := rowIs_six h1
  exact ⟨_, _, ⟨⟨_, g1.cell (show 4 < 6 by decide)⟩, g1.frozen _, rfl⟩, ⟨⟨_, g2.cell (show 5 < 6 by decide)⟩, g2.frozen _, rfl⟩, h2, grown_trans (grown_set _ _ _ _) (grown_set _ _ _ _)⟩
/-- A row that was cloned. -/
theorem clone_row {w : World} {base n sz : Nat} {e : TypeId} {v : Value} {xs : List Value} (h : w.ownsRow base e sz v n xs) : ∃ o g cap, v = .slice o n cap ∧ n ≤ cap ∧ cap ≤ maxLen ∧ (0 < n → o = some ⟨g, 0, none⟩ ∧ base ≤ g ∧ g < w.heap.size ∧ ∃ f, w.rowIs g e (cap * sz) f ∧ ∀ j u, xs[j]? = some u → f j = u) := by
  obtain ⟨h1, ⟨rfl, rfl⟩ | ⟨g, cap, cur, rfl, q2, q3, q4, q5, q6, q7⟩⟩ := h
  · exact ⟨none, 0, 0, rfl, Nat.le_refl _, Nat.zero_le _, fun h => absurd h (by omega)⟩
  · refine ⟨_, g, cap, rfl, q4, q5, fun _ => ⟨rfl, q2, (Array.getElem?_eq_some_iff.1 q3).1, fun i => (cur[i]?).getD undef, ⟨cur, q3, q6, fun i hi => ?_⟩, fun j u hj => ?_⟩⟩
    · have hi2 : i < cur.size := by omega
      simp [hi2]
    · rw [← q7, List.getElem?_take] at hj
      split at hj
      · rw [Array.getElem?_toList] at hj
        show (cur[j]?).getD undef = u
        rw [hj]; rfl
      · cases hj

/-- The cells of a list of values, one behind the other. -/
theorem cells_of {W : World} : ∀ (l : List V) (a : Addr), isVs W l a → ∃ news : List Value, news.length = l.length * 6 ∧ (∀ j u, news[j]? = some u → W.cell? (a.add j) = some u) ∧ (∀ u ∈ news, u.oneCell' = true)
  | [], a, _ => ⟨[], rfl, (fun j u h => by simp at h), (fun u h => by simp at h)⟩
  | x :: t, a, h => by
    unfold isVs at h
    obtain ⟨⟨c0, c1, c2, c3, c4, c5, g0, g1, g2, g3, g4, g5, hx⟩, ht⟩ := h
    obtain ⟨news, h1, h2, h3⟩ := cells_of t (a.add 6) ht
    refine ⟨c0 :: c1 :: c2 :: c3 :: c4 :: c5 :: news, by simp only [List.length_cons]; omega, fun j u hj => ?_, fun u hu => ?_⟩
    · match j, hj with
      | 0, hj => cases hj; simpa [Addr.add] using g0
      | 1, hj => cases hj; exact g1
      | 2, hj => cases hj; exact g2
      | 3, hj => cases hj; exact g3
      | 4, hj => cases hj; exact g4
      | 5, hj => cases hj; exact g5
      | j + 6, hj =>
        have := h2 j u (by simpa using hj)
        rw [add_add, show 6 + j = j + 6 by omega] at this
        exact this
    · rcases List.mem_append.1 (show u ∈ [c0, c1, c2, c3, c4, c5] ++ news from hu) with hu | hu
      · exact isV_one hx u hu
      · exact h3 u hu

theorem isVas_get {W : World} {B : Nat → Prop} : ∀ (l : List V) (a : Addr) (i : Nat) (h : i < l.length), isVas W B l a →
    ∃ c0 c1 c2 c3 c4 c5, W.cell? (a.add (i * 6)) = some c0 ∧ W.cell? (a.add (i * 6 + 1)) = some c1 ∧ W.cell? (a.add (i * 6 + 2)) = some c2 ∧ W.cell? (a.add (i * 6 + 3)) = some c3 ∧ W.cell? (a.add (i * 6 + 4)) = some c4 ∧ W.cell? (a.add (i * 6 + 5)) = some c5 ∧ isVa W B l[i] (.agg #[c0, c1, c2, c3, c4, c5])
  | x :: t, a, 0, _, h => by
    unfold isVas at h
    obtain ⟨⟨c0, c1, c2, c3, c4, c5, g0, g1, g2, g3, g4, g5, hx⟩, ht⟩ := h
    have e : a.add 0 = a := by simp [Addr.add]
    refine ⟨c0, c1, c2, c3, c4, c5, ?_, ?_, ?_, ?_, ?_, ?_, hx⟩
    all_goals simp only [Nat.zero_mul, Nat.zero_add, e]; assumption
  | x :: t, a, i + 1, hi, h => by
    unfold isVas at h
    obtain ⟨_, ht⟩ := h
    obtain ⟨c0, c1, c2, c3, c4, c5, g0, g1, g2, g3, g4, g5, hx⟩ := isVas_get t (a.add 6) i (by simpa using hi) ht
    simp only [add_add] at g0 g1 g2 g3 g4 g5
    refine ⟨c0, c1, c2, c3, c4, c5, ?_, ?_, ?_, ?_, ?_, ?_, hx⟩
    · rw [show (i + 1) * 6 = 6 + i * 6 by omega]; exact g0
    · rw [show (i + 1) * 6 + 1 = 6 + (i * 6 + 1) by omega]; exact g1
    · rw [show (i + 1) * 6 + 2 = 6 + (i * 6 + 2) by omega]; exact g2
    · rw [show (i + 1) * 6 + 3 = 6 + (i * 6 + 3) by omega]; exact g3
    · rw [show (i + 1) * 6 + 4 = 6 + (i * 6 + 4) by omega]; exact g4
    · rw [show (i + 1) * 6 + 5 = 6 + (i * 6 + 5) by omega]; exact g5
/-- An element's cells, written out, and the value that they are. -/
theorem isVas_sl {W : World} {B : Nat → Prop} (l : List V) (a : Addr) (i : Nat) (h : i < l.length) (hs : isVas W B l a) :
    ∃ (k : Int) (b : Bool) (n : Int) (s : ByteArray) (o : Option Addr) (m c : Nat) (o2 : Option Addr) (m2 c2 : Nat), W.cell? (a.add (i * 6)) = some (.int .i8 k) ∧ W.cell? ⟨(a.add (i * 6)).block, (a.add (i * 6)).off + 1, none⟩ = some (.bool b) ∧ W.cell? ⟨(a.add (i * 6)).block, (a.add (i * 6)).off + 2, none⟩ = some (.int .i64 n) ∧ W.cell? ⟨(a.add (i * 6)).block, (a.add (i * 6)).off + 3, none⟩ = some (.string s) ∧ W.cell? ⟨(a.add (i * 6)).block, (a.add (i * 6)).off + 4, none⟩ = some (.slice o m c) ∧ W.cell? ⟨(a.add (i * 6)).block, (a.add (i * 6)).off + 5, none⟩ = some (.slice o2 m2 c2) ∧ isVa W B l[i] (.agg #[.int .i8 k, .bool b, .int .i64 n, .string s, .slice o m c, .slice o2 m2 c2]) := by
  obtain ⟨c0, c1, c2, c3, c4, c5, g0, g1, g2, g3, g4, g5, hx⟩ := isVas_get l a i h hs
  rw [add_succ _ _ _ (by decide)] at g1 g2 g3 g4 g5
  obtain ⟨k, b, n, s, o, m, c, o2, m2, p2, he⟩ := isV_six (isV_of_a _ _ hx)
  cases he
  exact ⟨_, _, _, _, _, _, _, _, _, _, g0, g1, g2, g3, g4, g5, hx⟩
theorem isVas_mk {W : World} {B : Nat → Prop} : ∀ (l : List V) (a : Addr), (∀ i (h : i < l.length), ∃ c0 c1 c2 c3 c4 c5, W.cell? (a.add (i * 6)) = some c0 ∧ W.cell? (a.add (i * 6 + 1)) = some c1 ∧ W.cell? (a.add (i * 6 + 2)) = some c2 ∧ W.cell? (a.add (i * 6 + 3)) = some c3 ∧ W.cell? (a.add (i * 6 + 4)) = some c4 ∧ W.cell? (a.add (i * 6 + 5)) = some c5 ∧ isVa W B l[i] (.agg #[c0, c1, c2, c3, c4, c5])) → isVas W B l a
  | [], _, _ => by unfold isVas; trivial
  | x :: t, a, h => by
    unfold isVas
    have e : a.add 0 = a := by simp [Addr.add]
    refine ⟨?_, isVas_mk t (a.add 6) (fun i hi => ?_)⟩
    · obtain ⟨c0, c1, c2, c3, c4, c5, g0, g1, g2, g3, g4, g5, hx⟩ := h 0 (by simp)
      simp only [Nat.zero_mul, Nat.zero_add, e] at g0 g1 g2 g3 g4 g5
      exact ⟨c0, c1, c2, c3, c4, c5, g0, g1, g2, g3, g4, g5, hx⟩
    · obtain ⟨c0, c1, c2, c3, c4, c5, g0, g1, g2, g3, g4, g5, hx⟩ := h (i + 1) (by simpa using hi)
      refine ⟨c0, c1, c2, c3, c4, c5, ?_, ?_, ?_, ?_, ?_, ?_, hx⟩
      · rw [add_add, show 6 + i * 6 = (i + 1) * 6 by omega]; exact g0
      · rw [add_add, show 6 + (i * 6 + 1) = (i + 1) * 6 + 1 by omega]; exact g1
      · rw [add_add, show 6 + (i * 6 + 2) = (i + 1) * 6 + 2 by omega]; exact g2
      · rw [add_add, show 6 + (i * 6 + 3) = (i + 1) * 6 + 3 by omega]; exact g3
      · rw [add_add, show 6 + (i * 6 + 4) = (i + 1) * 6 + 4 by omega]; exact g4
      · rw [add_add, show 6 + (i * 6 + 5) = (i + 1) * 6 + 5 by omega]; exact g5
theorem add_offs (g n : Nat) : (⟨g, 0, none⟩ : Addr).add n = ⟨g, n, none⟩ := by
  unfold Addr.add
  by_cases h : n = 0 <;> simp [h]
/-- One more part is set. -/
theorem LR.step {B : Nat → Prop} {l : List V} {ps : List Nat} {gL cap j : Nat} {w w' w2 : World} {f f' : Nat → Value} {y : V} (hold : ∀ i, i < j → ∃ y, SortR (l.getD (ps.getD i 0) default) y ∧ isVa w B y (.agg #[f (i * 6), f (i * 6 + 1), f (i * 6 + 2), f (i * 6 + 3), f (i * 6 + 4), f (i * 6 + 5)]))
    (hb : Below w.heap.size w w') (hg : w'.grownBy w2 (some gL)) (hB : ∀ q, B q → q ≠ gL) (hr : w2.rowIs gL 64 (cap * 6) f') (he : ∀ i, i < j * 6 → f' i = f i) (hs : SortR (l.getD (ps.getD j 0) default) y) (hv : isVa w' B y (.agg #[f' (j * 6), f' (j * 6 + 1), f' (j * 6 + 2), f' (j * 6 + 3), f' (j * 6 + 4), f' (j * 6 + 5)])) : LR B l ps gL cap (j + 1) w2 := fun _ => by
  refine ⟨f', hr, fun i hi => ?_⟩
  by_cases e : i = j
  · subst e
    exact ⟨y, hs, isVa_grown hg (fun q hq e => hB q hq (Option.some.inj e)) hv⟩
  · obtain ⟨z, hz, hvz⟩ := hold i (by omega)
    refine ⟨z, hz, ?_⟩
    rw [he _ (by omega), he _ (by omega), he _ (by omega), he _ (by omega), he _ (by omega), he _ (by omega)]
    exact isVa_grown hg (fun q hq e => hB q hq (Option.some.inj e)) (isVa_grown (grown_bel hb) (fun q hq e => by cases e) hvz)
theorem walk_part {x y : V} {l : List V} (hy : y ∈ l) (hx : x.list = l) : ∀ z ∈ walkV y, z ∈ walkV x := by
  subst hx
  obtain ⟨k, b, n, s, l, ks⟩ := x
  have : ∀ (l : List V), y ∈ l → ∀ z ∈ walkV y, z ∈ walkVs l := by
    intro l
    induction l with
    | nil => intro h; cases h
    | cons a t ih =>
      intro h z hz
      rw [walkVs]
      rcases List.mem_cons.1 h with rfl | h
      · exact List.mem_append.2 (.inl hz)
      · exact List.mem_append.2 (.inr (ih h z hz))
  intro z hz
  rw [walkV]
  exact List.mem_cons_of_mem _ (this l hy z hz)

set_option maxRecDepth 100000 in
set_option maxHeartbeats 8000000 in
theorem psorted_any : ∀ (N : Nat) (x : V) (v : Value) (w : World) (B : Nat → Prop), sizeV x ≤ N → N ≤ 1000000 → fineV x → okV x → isVa w B x v → (∀ q, B q → q < w.heap.size) →
    Calls Tryz.prog 111 #[v] w fun e w' => ∃ y v', e = .returned v' ∧ SortR x y ∧ isVa w' (fun q => B q ∨ w.heap.size ≤ q) y v' ∧ Below w.heap.size w w'
  | 0, x, v, w, B, hN, _, _, _, h, _ => absurd (sizeV_pos x) (by omega)
  | N + 1, x, v, w, B, hN, hM, hF, hok, ha, hBq => by
    have h := isV_of_a x v ha
    have HX := Lib.hid h
    obtain ⟨kk, b, n, s, l, ks⟩ := x
    unfold isVa at ha
    obtain ⟨lv, kv, rfl, hkk, hn, hs, ⟨a, cap, ⟨o, rfl, hc1, hc2, ho⟩, hBa, hvas⟩, ⟨a2, cap2, ⟨o2, rfl, hc3, hc4, ho2⟩, hBk, hks⟩⟩ := ha
    have hvs := isVs_of_a l a hvas
    have HVA := Lib.hid hvas
    have HBA := Lib.hid (And.intro hBa hBk)
    have HMK := Lib.hid (And.intro hkk (And.intro hn hs))
    unfold maxLen at hs hc2 hc4
    have hll : l.length ≤ 1000000 := by have := sizeVs_len l; rw [sizeV] at hN; omega
    have hkl : ks.length ≤ 3000 := hF (.mk kk b n s l ks) (by rw [walkV]; exact List.mem_cons_self)
    obtain ⟨news, hw1, hw2, hw3⟩ := cells_of l a hvs
    have CL : Hid (∀ w1, KB w w1 → Calls Tryz.prog 82 #[.slice o l.length cap] w1 fun e w' => ∃ v', e = .returned v' ∧ w'.ownsRow w1.heap.size 64 6 v' l.length news ∧ Below w1.heap.size w1 w') := Lib.hid fun w1 hK => cloneV_any o a l.length cap ho hll news w1 hw1 (fun j u h => cell_below hK _ _ (hw2 j u h)) hw3
    have CK : Hid (∀ w1, KB w w1 → Calls Tryz.prog 83 #[.slice o2 ks.length cap2] w1 fun e w' => ∃ v', e = .returned v' ∧ w'.ownsRow w1.heap.size 9 1 v' ks.length (ks.map Value.string) ∧ Below w1.heap.size w1 w') := Lib.hid fun w1 hK => cloneS_any o2 a2 ks.length cap2 ho2 (by omega) (ks.map Value.string) w1 (by simp) (fun j u h => by
      rw [List.getElem?_map] at h
      obtain ⟨z, hz, rfl⟩ := Option.map_eq_some_iff.1 h
      obtain ⟨hj, rfl⟩ := List.getElem?_eq_some_iff.1 hz
      exact cell_below hK _ _ (hks j hj).1) (fun u hu => by obtain ⟨z, _, rfl⟩ := List.mem_map.1 hu; rfl)
    have CO : Hid (∀ w1, KB w w1 → Calls Tryz.prog 126 #[.agg #[.int .i8 kk, .bool b, .int .i64 n, .string s, .slice o l.length cap, .slice o2 ks.length cap2]] w1 fun e w' => ∃ (g : Nat) (ps : List Nat), e = .returned (.slice (some ⟨g, 0, none⟩) l.length l.length) ∧ w1.heap.size ≤ g ∧ isOrd (.mk kk b n s l ks) ps ∧ (∀ j (hj : j < ps.length), w'.cell? ⟨g, j, none⟩ = some (.int .i64 ps[j])) ∧ Below w1.heap.size w1 w') := Lib.hid fun w1 hK => order_any (.mk kk b n s l ks) _ w1 hll (by unfold okV at hok; exact hok.1) (isV_below hK HX.out)
    have hB0 : KB w ((w.alloc (.cells #[.int .i8 kk, .bool b, .int .i64 n, .string s, .slice o l.length cap, .slice o2 ks.length cap2] 64)).alloc (.cells #[.int .i8 0, .bool false, .int .i64 0, .string ⟨#[]⟩, .slice none 0 0, .slice none 0 0] 64)) := by unfold KB; go_grown
    have bX : ((w.alloc (.cells #[.int .i8 kk, .bool b, .int .i64 n, .string s, .slice o l.length cap, .slice o2 ks.length cap2] 64)).alloc (.cells #[.int .i8 0, .bool false, .int .i64 0, .string ⟨#[]⟩, .slice none 0 0, .slice none 0 0] 64)).heap[w.heap.size]? = some (.cells #[.int .i8 kk, .bool b, .int .i64 n, .string s, .slice o l.length cap, .slice o2 ks.length cap2] 64 (0, 0)) := (Below.heap_alloc _ _ _ (by simp)).trans (World.alloc_heap_new w _)
    have bR := World.alloc_heap_new (w.alloc (.cells #[.int .i8 kk, .bool b, .int .i64 n, .string s, .slice o l.length cap, .slice o2 ks.length cap2] 64)) (.cells #[.int .i8 0, .bool false, .int .i64 0, .string ⟨#[]⟩, .slice none 0 0, .slice none 0 0] 64)
    have hsz : ((w.alloc (.cells #[.int .i8 kk, .bool b, .int .i64 n, .string s, .slice o l.length cap, .slice o2 ks.length cap2] 64)).alloc (.cells #[.int .i8 0, .bool false, .int .i64 0, .string ⟨#[]⟩, .slice none 0 0, .slice none 0 0] 64)).heap.size = w.heap.size + 2 := by simp
    rw [World.size_alloc] at bR
    have HV := Lib.hid hvs
    have HKS := Lib.hid hks
    have HOO := Lib.hid ho2
    have hF0 := Lib.hid hF
    have hok0 : Hid (okVs l) := Lib.hid (by unfold okV at hok; exact hok.2)
    clear hvs hks hw1 hw2 hw3 hkk hn ho2 hvas hBa hBk h
    go_enter Tryz.func111, Tryz.ntmps111
    go_wp2_with fail
    generalize hW1 : (w.alloc (.cells #[.int .i8 kk, .bool b, .int .i64 n, .string s, .slice o l.length cap, .slice o2 ks.length cap2] 64)).alloc (.cells #[.int .i8 0, .bool false, .int .i64 0, .string ⟨#[]⟩, .slice none 0 0, .slice none 0 0] 64) = W1 at *
    clear hW1
    obtain ⟨r0, r1, r2, r3, r4, r5⟩ := six_cells bX
    go_region_with (first
      | (go_at_call 82; refine (CL.out _ ?_).mono ?_; exact hB0.drew; rintro e w3 ⟨lv, rfl, hol, hb3⟩; have r5 := cell_below hb3 _ _ (show W1.drew.cell? ⟨w.heap.size, 5, none⟩ = _ from r5))
      | (go_at_call 83; refine (CK.out _ ?_).mono ?_; exact hB0.drew.trans (hb3.mono hB0.drew.size); rintro e w4 ⟨kv, rfl, hok4, hb4⟩))
    all_goals
      obtain ⟨ol, gL, capL, rfl, cl1, cl2, hL⟩ := clone_row hol
      obtain ⟨okk, gK, capK, rfl, cq1, cq2, hK⟩ := clone_row hok4
      have hbW3 : Below W1.heap.size W1 w3 := below_drew_of hb3
      have hb14 : Below W1.heap.size W1 w4 := hbW3.trans (hb4.mono hbW3.size)
      have bX4 := (hb14.block w.heap.size (by omega)).trans bX
      have bR4 := (hb14.block (w.heap.size + 1) (by omega)).trans bR
      have hz3 := hbW3.size
      have hz4 := hb4.size
      obtain ⟨r0, r1, r2, r3, r4, r5'⟩ := six_cells bX4
      have hB4 : KB w w4 := hB0.trans (hb14.mono hB0.size)
      have HL := Lib.hid hL
      have HK := Lib.hid hK
      have HB4 := Lib.hid hb4
      have BX4 := Lib.hid bX4
      have BR4 := Lib.hid bR4
      unfold maxLen at cl2 cq2
      clear hol hok4 hb3 hL hK bX bR r5 hb14 hbW3 hb4 bX4 bR4
      go_wp2_with fail
      refine (CO.out _ hB4).mono ?_
      clear CO CL CK r0 r1 r2 r3 r4 r5'
      rintro e w5 ⟨gP, ps, rfl, hgP, hord, hpl, hb5⟩
      have hps : ps.length = l.length := by have := hord.1.length_eq; simpa [V.list] using this
      have HORD := Lib.hid hord
      have hplw := Lib.hid hpl
      clear hord hpl
      go_wp2_with fail
      have hz5 := hb5.size
      have hfx : FX w #[.int .i8 kk, .bool b, .int .i64 n, .string s, .slice o l.length cap, .slice o2 ks.length cap2] #[.int .i8 0, .bool false, .int .i64 0, .string ⟨#[]⟩, .slice none 0 0, .slice none 0 0] gP ps w5 := ⟨hB4.trans (hb5.mono hB4.size), (hb5.block w.heap.size (by omega)).trans BX4.out, (hb5.block (w.heap.size + 1) (by omega)).trans BR4.out, hplw.out⟩
      have HFX := Lib.hid hfx
      have hlr : LR (fun q => B q ∨ w5.heap.size ≤ q) l ps gL capL 0 w5 := fun h0 => by
        obtain ⟨_, _, _, f, h4, _⟩ := HL.out h0
        exact ⟨f, rowIs_grown (rowIs_grown h4 (grown_bel HB4.out) (by simp)) (grown_bel hb5) (by simp), fun i hi => absurd hi (by omega)⟩
      have hkr : KR kk ks ps gK capK 0 w5 := fun h0 => by
        obtain ⟨_, _, _, f, h4, h5⟩ := HK.out h0
        rw [Nat.mul_one] at h4
        refine ⟨f, rowIs_grown h4 (grown_bel hb5) (by simp), ?_⟩
        split
        · exact fun i hi => absurd hi (by omega)
        · intro i hi
          rw [h5 i (.string (ks.getD i ⟨#[]⟩)) (by rw [List.getElem?_map, List.getElem?_eq_getElem hi]; simp [hi])]
      have HLR := Lib.hid hlr
      have HKR := Lib.hid hkr
      have HQ : Hid ((0 < l.length → ol = some ⟨gL, 0, none⟩ ∧ w.heap.size + 1 < gL ∧ gL ≠ gP ∧ gL < w3.heap.size) ∧ (0 < ks.length → okk = some ⟨gK, 0, none⟩ ∧ w.heap.size + 1 < gK ∧ gK ≠ gP ∧ w3.heap.size ≤ gK ∧ gK < w4.heap.size)) := Lib.hid ⟨fun h0 => by
        obtain ⟨h1, h2, h3, _⟩ := HL.out h0
        have h2' : W1.heap.size ≤ gL := h2
        exact ⟨h1, by omega, by omega, h3⟩, fun h0 => by
        obtain ⟨h1, h2, h3, _⟩ := HK.out h0
        exact ⟨h1, by omega, by omega, h2, h3⟩⟩
      have HZ5 : Hid (w.heap.size ≤ w5.heap.size ∧ w3.heap.size ≤ w4.heap.size ∧ w4.heap.size ≤ w5.heap.size) := Lib.hid ⟨by omega, by omega, by omega⟩
      clear hfx hlr hkr HL HK HB4 BX4 BR4 hplw hb5 hB4
      go_loopw [16] (fun i wr => ∃ j : Nat, j ≤ l.length ∧ i = .int .i64 j ∧ Hid (FX w #[.int .i8 kk, .bool b, .int .i64 n, .string s, .slice o l.length cap, .slice o2 ks.length cap2] #[.int .i8 0, .bool false, .int .i64 0, .string ⟨#[]⟩, .slice none 0 0, .slice none 0 0] gP ps wr ∧ w5.heap.size ≤ wr.heap.size) ∧ Hid (LR (fun q => B q ∨ w5.heap.size ≤ q) l ps gL capL j wr) ∧ Hid (KR kk ks ps gK capK j wr)) (fun i _ => l.length - (intOf i).toNat)
      case atStart => exact ⟨0, by omega, rfl, Lib.hid ⟨HFX.out, Nat.le_refl _⟩, HLR, HKR⟩
      case round =>
        obtain ⟨j, hj, rfl, hF, hLR, hKR⟩ := hrel
        by_cases hlt : j < l.length
        · obtain rfl := ho (by omega)
          obtain ⟨rfl, hg1, hg2, hg3⟩ := HQ.out.1 (by omega)
          have hpj : ps.getD j 0 < l.length := by
            have h1 : ps[j]'(by omega) ∈ ps := List.getElem_mem _
            have h2 := (HORD.out.1.mem_iff.1 h1)
            rw [getD_lt _ _ _ (by omega)]
            simpa [V.list] using h2
          have cp := hF.out.1.2.2.2 j (by omega)
          rw [show ps[j]'(by omega) = ps.getD j 0 from by rw [getD_lt _ _ _ (by omega)]] at cp
          obtain ⟨b0, b1, b2, b3, b4, b5⟩ := six_cells hF.out.1.2.1
          obtain ⟨k', b', n', s', o1, m1, p1, o3, m3, p3, g0, g1, g2, g3, g4, g5, hxe⟩ := isVas_sl l a (ps.getD j 0) hpj HVA.out
          have e0 := cell_below hF.out.1.1 _ _ g0
          have e1 := cell_below hF.out.1.1 _ _ g1
          have e2 := cell_below hF.out.1.1 _ _ g2
          have e3 := cell_below hF.out.1.1 _ _ g3
          have e4 := cell_below hF.out.1.1 _ _ g4
          have e5 := cell_below hF.out.1.1 _ _ g5
          have hzr := hF.out.1.1.size
          have HI := Lib.hid (psorted_any N l[ps.getD j 0] _ wr B (by have := sizeVs_get l _ hpj; rw [sizeV] at hN; omega) (by omega) (fun z hz => hF0.out z (walk_part (List.getElem_mem hpj) rfl z hz)) (okVs_get l _ hpj hok0.out) (isVa_keep (fun q c _ hc => cell_below hF.out.1.1 _ _ hc) _ _ hxe) (fun q hq => by have := hBq q hq; omega))
          have HGD : Hid (l[ps.getD j 0] = l.getD (ps.getD j 0) default) := Lib.hid (by rw [getD_lt _ _ _ hpj])
          clear g0 g1 g2 g3 g4 g5 hxe
          generalize l[ps.getD j 0] = xe at *
          obtain ⟨pj, hpje⟩ : ∃ pj, ps.getD j 0 = pj := ⟨_, rfl⟩
          rw [hpje] at cp e0 e1 e2 e3 e4 e5 hpj HGD
          have HPJ := Lib.hid hpje
          clear hpje
          go_wp2_with fail
          refine HI.out.mono ?_
          clear HI cp e0 e1 e2 e3 e4 e5 b0 b1 b2 b3 b4 b5
          rintro e w6 ⟨y, v6, rfl, hsr, hva, hb6⟩
          obtain ⟨k6, b6, n6, s6, o6, m6, p6, o7, m7, p7, rfl⟩ := isV_six (isV_of_a _ _ hva)
          obtain ⟨f, hf1, hf2⟩ := hLR.out (by omega)
          have hf6 := rowIs_grown hf1 (grown_bel hb6) (by simp)
          obtain ⟨x1, x2, x3, x4, x5, x6, f', ⟨⟨_, q1⟩, q1', q1''⟩, ⟨⟨_, q2⟩, q2', q2''⟩, ⟨⟨_, q3⟩, q3', q3''⟩, ⟨⟨_, q4⟩, q4', q4''⟩, ⟨⟨_, q5⟩, q5', q5''⟩, ⟨⟨_, q6⟩, q6', q6''⟩, hf7, hg7, e0, e1, e2, e3, e4, e5, hold⟩ := store_six hf6 (j * 6) (by omega) (.int .i8 k6) (.bool b6) (.int .i64 n6) (.string s6) (.slice o6 m6 p6) (.slice o7 m7 p7) (by intro u hu; simp only [List.mem_cons, List.not_mem_nil, or_false] at hu; rcases hu with rfl | rfl | rfl | rfl | rfl | rfl <;> rfl)
          have HF7 := Lib.hid (And.intro hf7 (And.intro hg7 (And.intro e0 (And.intro e1 (And.intro e2 (And.intro e3 (And.intro e4 (And.intro e5 hold))))))))
          clear hf7 hg7 e0 e1 e2 e3 e4 e5 hold
          have hzr6 := hb6.size
          have hF6 : FX w #[.int .i8 kk, .bool b, .int .i64 n, .string s, .slice (some a) l.length cap, .slice o2 ks.length cap2] #[.int .i8 0, .bool false, .int .i64 0, .string ⟨#[]⟩, .slice none 0 0, .slice none 0 0] gP ps x6 := (hF.out.1.grown (grown_bel hb6) (fun r e => by cases e)).grown HF7.out.2.1 (fun r e => by cases e; exact ⟨by omega, by omega⟩)
          have hLR6 : LR (fun q => B q ∨ w5.heap.size ≤ q) l ps gL capL (j + 1) x6 := by
            obtain ⟨hf7, hg7, e0, e1, e2, e3, e4, e5, hold⟩ := HF7.out
            refine LR.step (y := y) hf2 hb6 hg7 (fun q hq => ?_) hf7 (fun i hi => hold i hi) (by rw [HPJ.out, ← HGD.out]; exact hsr) ?_
            · have h1 := hF.out.2
              have h2 := HZ5.out
              rcases hq with hq | hq
              · have := hBq q hq; omega
              · omega
            · rw [e0, e1, e2, e3, e4, e5]
              exact isVa_mono (fun q hq => hq.imp id (fun h => Nat.le_trans hF.out.2 h)) _ _ hva
          have hKR6 : KR kk ks ps gK capK j x6 := fun h0 => by
            have hne : gK ≠ gL := by
              obtain ⟨_, _, _, h4, _⟩ := HQ.out.2 h0
              omega
            exact ((hKR.out.grown (grown_bel hb6) (by simp)).grown HF7.out.2.1 (fun e => hne (Option.some.inj e))) h0
          have hsz6 : w5.heap.size ≤ x6.heap.size := by
            have h1 := hF.out.2
            have h2 := HF7.out.2.1.size
            omega
          obtain ⟨b0, b1, b2, b3, b4, b5⟩ := six_cells hF6.2.1
          have HF6 := Lib.hid (And.intro hF6 hsz6)
          have HLR6 := Lib.hid hLR6
          have HKR6 := Lib.hid hKR6
          clear hf1 hf2 hf6 hva hsr hb6 hF6 hLR6 hKR6 hsz6 hzr6
          by_cases h5 : kk = 5
          · subst h5
            have hkl5 : ks.length = l.length := by unfold okV at hok; exact hok.1 rfl
            obtain ⟨rfl, hk1, hk2, hk3, hk4⟩ := HQ.out.2 (by omega)
            obtain rfl := HOO.out (by omega)
            obtain ⟨fk, hfk1, hfk2⟩ := HKR6.out (by omega)
            rw [if_pos rfl] at hfk2
            obtain ⟨key, hkey⟩ : ∃ key, ks[pj]'(by omega) = key := ⟨_, rfl⟩
            have ckey := cell_below HF6.out.1.1 _ _ (HKS.out pj (by omega)).1
            rw [hkey] at ckey
            have csk := hfk1.cell (show j < capK by omega)
            have fsk := hfk1.frozen j
            obtain ⟨x7, hx7⟩ : ∃ x7, x6.setCell ⟨gK, j, none⟩ (.string key) = x7 := ⟨_, rfl⟩
            have hg8 : x6.grownBy x7 (some gK) := by rw [← hx7]; exact grown_set _ _ _ _
            have hF7 : FX w #[.int .i8 5, .bool b, .int .i64 n, .string s, .slice (some a) l.length cap, .slice (some a2) ks.length cap2] #[.int .i8 0, .bool false, .int .i64 0, .string ⟨#[]⟩, .slice none 0 0, .slice none 0 0] gP ps x7 := HF6.out.1.grown hg8 (fun r e => by cases e; exact ⟨by omega, by omega⟩)
            have hLR7 : LR (fun q => B q ∨ w5.heap.size ≤ q) l ps gL capL (j + 1) x7 := HLR6.out.grown hg8 (fun e => by have := Option.some.inj e; omega) (fun q hq e => by
              have h1 := Option.some.inj e
              have h2 := HZ5.out
              rcases hq with hq | hq
              · have := hBq q hq; omega
              · omega)
            have hKR7 : KR 5 ks ps gK capK (j + 1) x7 := fun h0 => by
              refine ⟨_, by rw [← hx7]; exact hfk1.set j (.string key), ?_⟩
              rw [if_pos rfl]
              intro i hi
              by_cases e : i = j
              · subst e
                rw [if_pos rfl, HPJ.out, getD_lt _ _ _ (by omega), hkey]
              · rw [if_neg e]; exact hfk2 i (by omega)
            have hsz7 : w5.heap.size ≤ x7.heap.size := by
              have h1 := HF6.out.2
              have h2 := hg8.size
              omega
            have HF77 := Lib.hid (And.intro hF7 hsz7)
            have HLR7 := Lib.hid hLR7
            have HKR7 := Lib.hid hKR7
            clear hfk1 hfk2 hF7 hLR7 hKR7 hsz7 hg8 hok hF hkey
            have hpk : pj < ks.length := by omega
            have hjk : j < ks.length := by omega
            clear hkl5
            go_wp2_with fail
            go_roundw
            case rel => exact ⟨j + 1, by omega, by go_num, HF77, HLR7, HKR7⟩
            case measure => simp [intOf]; omega
          · have k5 : (kk == 5) = false := beqI h5
            have HKR7 : Hid (KR kk ks ps gK capK (j + 1) x6) := Lib.hid (fun h0 => by
              obtain ⟨fk, h1, h2⟩ := HKR6.out h0
              rw [if_neg h5] at h2
              exact ⟨fk, h1, by rw [if_neg h5]; exact h2⟩)
            clear h5
            go_wp2_with fail
            go_roundw
            case rel => exact ⟨j + 1, by omega, by go_num, HF6, HLR6, HKR7⟩
            case measure => simp [intOf]; omega
        · obtain rfl : j = l.length := by omega
          obtain ⟨b0, b1, b2, b3, b4, b5⟩ := six_cells hF.out.1.2.1
          obtain ⟨y1, y2, ⟨⟨_, q1⟩, q1', q1''⟩, ⟨⟨_, q2⟩, q2', q2''⟩, hy2, hgy⟩ := box_set (.slice ol l.length capL) (.slice okk ks.length capK) hF.out.1.2.1
          have hn1 := (hgy.block (w.heap.size + 1) (Array.getElem?_eq_some_iff.1 hF.out.1.2.2.1).1 (fun e => by have := Option.some.inj e; omega)).trans hF.out.1.2.2.1
          obtain ⟨m0, m1, m2, m3, m4, m5⟩ := six_cells hy2
          obtain ⟨x1, x2, x3, x4, x5, x6, f', ⟨⟨_, t1⟩, t1', t1''⟩, ⟨⟨_, t2⟩, t2', t2''⟩, ⟨⟨_, t3⟩, t3', t3''⟩, ⟨⟨_, t4⟩, t4', t4''⟩, ⟨⟨_, t5⟩, t5', t5''⟩, ⟨⟨_, t6⟩, t6', t6''⟩, hf7, hg7, e0, e1, e2, e3, e4, e5, -⟩ := store_six (rowIs_six hn1) 0 (by decide) (.int .i8 kk) (.bool b) (.int .i64 n) (.string s) (.slice ol l.length capL) (.slice okk ks.length capK) (by intro u hu; simp only [List.mem_cons, List.not_mem_nil, or_false] at hu; rcases hu with rfl | rfl | rfl | rfl | rfl | rfl <;> rfl)
          simp only [Nat.zero_add] at t2 t2' t2'' t3 t3' t3'' t4 t4' t4'' t5 t5' t5'' t6 t6' t6'' e1 e2 e3 e4 e5
          have d0 := hf7.cell (show 0 < 6 by decide)
          have d1 := hf7.cell (show 1 < 6 by decide)
          have d2 := hf7.cell (show 2 < 6 by decide)
          have d3 := hf7.cell (show 3 < 6 by decide)
          have d4 := hf7.cell (show 4 < 6 by decide)
          have d5 := hf7.cell (show 5 < 6 by decide)
          rw [e0] at d0
          rw [e1] at d1
          rw [e2] at d2
          rw [e3] at d3
          rw [e4] at d4
          rw [e5] at d5
          have HD := Lib.hid (And.intro d0 (And.intro d1 (And.intro d2 (And.intro d3 (And.intro d4 d5)))))
          have hbel : Below w.heap.size w x6 := (hF.out.1.1.grown hgy hF.out.1.1.size (fun r e => by cases e; exact Nat.le_refl _)).grown hg7 (by have h1 := hF.out.1.1.size; have h2 := hgy.size; omega) (fun r e => by cases e; omega)
          have hLR6 : LR (fun q => B q ∨ w5.heap.size ≤ q) l ps gL capL l.length x6 := fun h0 => by
            obtain ⟨_, hg1, hg2, hg3⟩ := HQ.out.1 h0
            have hB1 : ∀ q, (B q ∨ w5.heap.size ≤ q) → q < w.heap.size ∨ w5.heap.size ≤ q := fun q hq => hq.imp (hBq q) id
            have h2 := HZ5.out
            exact ((hLR.out.grown hgy (fun e => by have := Option.some.inj e; omega) (fun q hq e => by have := Option.some.inj e; have := hB1 q hq; omega)).grown hg7 (fun e => by have := Option.some.inj e; omega) (fun q hq e => by have := Option.some.inj e; have := hB1 q hq; omega)) h0
          have hKR6 : KR kk ks ps gK capK l.length x6 := fun h0 => by
            obtain ⟨_, hg1, hg2, hg3, _⟩ := HQ.out.2 h0
            exact ((hKR.out.grown hgy (fun e => by have := Option.some.inj e; omega)).grown hg7 (fun e => by have := Option.some.inj e; omega)) h0
          have HEND := Lib.hid (And.intro hbel (And.intro hLR6 hKR6))
          clear hbel hLR6 hKR6 hf7 hg7 hgy hy2 hn1 e0 e1 e2 e3 e4 e5 d0 d1 d2 d3 d4 d5 hF hLR hKR
          go_wp2_with fail
          obtain ⟨d0, d1, d2, d3, d4, d5⟩ := HD.out
          refine bodyPost_ret (v := .agg #[.int .i8 kk, .bool b, .int .i64 n, .string s, .slice ol l.length capL, .slice okk ks.length capK]) (by simp [results, Tryz.results111, go_sem, d0, d1, d2, d3, d4, d5]) rfl ?_
          obtain ⟨hbel, hLR6, hKR6⟩ := HEND.out
          clear d0 d1 d2 d3 d4 d5
          have hZ := HZ5.out
          have hM' : ∀ q, (B q ∨ w5.heap.size ≤ q) → (B q ∨ w.heap.size ≤ q) := fun q hq => hq.imp id (fun h => by omega)
          -- the parts
          have hlist : ∃ l' : List V, l'.length = l.length ∧ (∀ i (h : i < l'.length), SortR (l.getD (ps.getD i 0) default) l'[i]) ∧ isVas x6 (fun q => B q ∨ w.heap.size ≤ q) l' ⟨gL, 0, none⟩ := by
            rcases Nat.eq_zero_or_pos l.length with h0 | h0
            · exact ⟨[], by rw [h0]; rfl, fun i h => absurd h (by simp), by unfold isVas; trivial⟩
            · obtain ⟨f, hf1, hf2⟩ := hLR6 h0
              obtain ⟨l', hl1, hl2⟩ := list_of l.length (fun i y => SortR (l.getD (ps.getD i 0) default) y ∧ isVa x6 (fun q => B q ∨ w5.heap.size ≤ q) y (.agg #[f (i * 6), f (i * 6 + 1), f (i * 6 + 2), f (i * 6 + 3), f (i * 6 + 4), f (i * 6 + 5)])) hf2
              refine ⟨l', hl1, fun i h => (hl2 i h).1, isVas_mk l' _ (fun i h => ?_)⟩
              refine ⟨_, _, _, _, _, _, ?_, ?_, ?_, ?_, ?_, ?_, isVa_mono hM' _ _ (hl2 i h).2⟩
              all_goals rw [add_offs]; exact hf1.cell (by omega)
          obtain ⟨l', hl1, hl2, hl3⟩ := hlist
          -- the keys
          obtain ⟨ks', hks'⟩ : ∃ ks' : List ByteArray, ks' = if kk = 5 then ps.map (fun p => ks.getD p ⟨#[]⟩) else ks := ⟨_, rfl⟩
          have hkl5 : kk = 5 → ks.length = l.length := by unfold okV at hok; exact hok.1
          have hkl' : ks'.length = ks.length := by
            rw [hks']; split
            · rename_i h; rw [List.length_map, hps, hkl5 h]
            · rfl
          have hkeys : isKa x6 (fun q => B q ∨ w.heap.size ≤ q) ks' (.slice okk ks.length capK) := by
            refine ⟨⟨gK, 0, none⟩, capK, ⟨okk, by rw [hkl'], by rw [hkl']; exact cq1, by unfold maxLen; exact cq2, fun h => (HQ.out.2 (by omega)).1⟩, fun h => .inr ?_, fun i hi => ?_⟩
            · have := (HQ.out.2 (by omega)).2.1
              show w.heap.size ≤ gK
              omega
            · obtain ⟨f, hf1, hf2⟩ := hKR6 (by omega)
              have hki : f i = .string ks'[i] ∧ ∃ p, ∃ (h : p < ks.length), ks'[i] = ks[p] := by
                by_cases h5 : kk = 5
                · rw [if_pos h5] at hf2
                  have hil : i < l.length := by have := hkl5 h5; omega
                  have hp : ps.getD i 0 < ks.length := by
                    have h1 : ps[i]'(by omega) ∈ ps := List.getElem_mem _
                    have h2 := (HORD.out.1.mem_iff.1 h1)
                    rw [getD_lt _ _ _ (by omega), hkl5 h5]
                    simpa [V.list] using h2
                  have e : ks'[i] = ks.getD (ps.getD i 0) ⟨#[]⟩ := by
                    subst hks'
                    simp only [if_pos h5, List.getElem_map]
                    rw [getD_lt ps i 0 (by omega)]
                  exact ⟨by rw [hf2 i hil, e], _, hp, by rw [e, getD_lt _ _ _ hp]⟩
                · rw [if_neg h5] at hf2
                  have hik : i < ks.length := by omega
                  have e : ks'[i] = ks[i] := by subst hks'; simp only [if_neg h5]
                  exact ⟨by rw [hf2 i hik, e, getD_lt _ _ _ hik], i, hik, e⟩
              obtain ⟨hk1, p, hp, hk2⟩ := hki
              rw [add_offs, hf1.cell (show i < capK by omega), hk1]
              refine ⟨rfl, ?_⟩
              rw [hk2]
              exact (HKS.out p hp).2
          refine ⟨.mk kk b n s l' ks', _, rfl, SortR.mk kk b n s l ks l' ks' ps HORD.out (by omega) hl2 hks', ?_, hbel⟩
          unfold isVa
          obtain ⟨h1, h2, h3⟩ := HMK.out
          refine ⟨_, _, rfl, h1, h2, h3, ⟨⟨gL, 0, none⟩, capL, ⟨ol, by rw [hl1], by rw [hl1]; exact cl1, by unfold maxLen; exact cl2, fun h => (HQ.out.1 (by omega)).1⟩, fun h => .inr ?_, hl3⟩, hkeys⟩
          have := (HQ.out.1 (by omega)).2.1
          show w.heap.size ≤ gL
          omega
end Go.Proofs.YtoapaflcokhohaaGreatDoor

set_option linter.unusedVariables false
namespace Go.Proofs.YtoapaflcokhohaaGreatDoor
open Go.RowKit

def cmpI (x y : Int) : Int := if x < y then -1 else if y < x then 1 else 0
theorem blq_eq : ∀ (x y : List UInt8), Op.bytesLess x y = decide (x < y)
  | [], [] => by simp [Op.bytesLess]
  | _ :: _, [] => by simp [Op.bytesLess]
  | [], _ :: _ => by simp [Op.bytesLess]
  | a :: x, b :: y => by
    rw [Op.bytesLess, blq_eq x y, Bool.eq_iff_iff]
    simp [List.cons_lt_cons_iff]
theorem cmpB_m1 : ∀ a b : List UInt8, Lib.compareBytes a b < 0 → Lib.compareBytes a b = -1
  | [], [], h => by simp [Lib.compareBytes] at h
  | [], b :: tb, _ => rfl
  | a :: ta, [], h => by simp [Lib.compareBytes] at h
  | a :: ta, b :: tb, h => by
    rw [Lib.compareBytes] at h ⊢
    by_cases h1 : a < b
    · rw [if_pos h1]
    · rw [if_neg h1] at h ⊢
      by_cases h2 : b < a
      · rw [if_pos h2] at h; omega
      · rw [if_neg h2] at h ⊢; exact cmpB_m1 ta tb h
theorem cmpB_p1 : ∀ a b : List UInt8, b < a → Lib.compareBytes a b = 1
  | [], [], h => absurd h (List.lt_irrefl _)
  | [], b :: tb, h => absurd h (List.not_lt_nil _)
  | a :: ta, [], h => rfl
  | a :: ta, b :: tb, h => by
    rw [List.cons_lt_cons_iff] at h
    rw [Lib.compareBytes]
    rcases h with h | ⟨rfl, h⟩
    · rw [if_neg (UInt8.lt_asymm h), if_pos h]
    · rw [if_neg (UInt8.lt_irrefl _), if_neg (UInt8.lt_irrefl _)]; exact cmpB_p1 ta tb h
set_option maxHeartbeats 2000000 in
theorem cmp8_any (x y : Int) (w : World) : Calls Tryz.prog 120 #[.int .i8 x, .int .i8 y] w fun e w' => e = .returned (.int .i64 (cmpI x y)) ∧ w' = w := by
  have hn : ∀ (x : Int) (w : World), Calls Tryz.prog 135 #[.int .i8 x] w fun e w' => e = .returned (.bool false) ∧ w' = w := fun x w => by
    go_enter Tryz.func135, Tryz.ntmps135
    go_wp2
    go_ret
    exact ⟨by simp, rfl⟩
  have HN := Lib.hid hn
  clear hn
  unfold cmpI
  by_cases h1 : x < y
  · rw [if_pos h1]
    go_enter Tryz.func120, Tryz.ntmps120
    go_wp2_with (go_at_call 135; refine (HN.out _ _).mono ?_; rintro e w5 ⟨rfl, rfl⟩)
    go_ret
    exact ⟨rfl, rfl⟩
  · rw [if_neg h1]
    by_cases h2 : y < x
    · rw [if_pos h2]
      go_enter Tryz.func120, Tryz.ntmps120
      go_wp2_with (go_at_call 135; refine (HN.out _ _).mono ?_; rintro e w5 ⟨rfl, rfl⟩)
      go_ret
      exact ⟨rfl, rfl⟩
    · rw [if_neg h2]
      go_enter Tryz.func120, Tryz.ntmps120
      go_wp2_with (go_at_call 135; refine (HN.out _ _).mono ?_; rintro e w5 ⟨rfl, rfl⟩)
      go_ret
      exact ⟨rfl, rfl⟩
set_option maxHeartbeats 2000000 in
theorem cmp64_any (x y : Int) (w : World) : Calls Tryz.prog 122 #[.int .i64 x, .int .i64 y] w fun e w' => e = .returned (.int .i64 (cmpI x y)) ∧ w' = w := by
  have hn : ∀ (x : Int) (w : World), Calls Tryz.prog 136 #[.int .i64 x] w fun e w' => e = .returned (.bool false) ∧ w' = w := fun x w => by
    go_enter Tryz.func136, Tryz.ntmps136
    go_wp2
    go_ret
    exact ⟨by simp, rfl⟩
  have HN := Lib.hid hn
  clear hn
  unfold cmpI
  by_cases h1 : x < y
  · rw [if_pos h1]
    go_enter Tryz.func122, Tryz.ntmps122
    go_wp2_with (go_at_call 136; refine (HN.out _ _).mono ?_; rintro e w5 ⟨rfl, rfl⟩)
    go_ret
    exact ⟨rfl, rfl⟩
  · rw [if_neg h1]
    by_cases h2 : y < x
    · rw [if_pos h2]
      go_enter Tryz.func122, Tryz.ntmps122
      go_wp2_with (go_at_call 136; refine (HN.out _ _).mono ?_; rintro e w5 ⟨rfl, rfl⟩)
      go_ret
      exact ⟨rfl, rfl⟩
    · rw [if_neg h2]
      go_enter Tryz.func122, Tryz.ntmps122
      go_wp2_with (go_at_call 136; refine (HN.out _ _).mono ?_; rintro e w5 ⟨rfl, rfl⟩)
      go_ret
      exact ⟨rfl, rfl⟩
set_option maxHeartbeats 2000000 in
theorem cmpS_any (s t : ByteArray) (w : World) : Calls Tryz.prog 138 #[.string s, .string t] w fun e w' => e = .returned (.int .i64 (cmpK s t)) ∧ w' = w := by
  have hn : ∀ (x : ByteArray) (w : World), Calls Tryz.prog 145 #[.string x] w fun e w' => e = .returned (.bool false) ∧ w' = w := fun x w => by
    go_enter Tryz.func145, Tryz.ntmps145
    go_wp2
    go_ret
    exact ⟨by simp, rfl⟩
  have HN := Lib.hid hn
  clear hn
  have hg : ∀ w, (Go.binOp .gtr 9 (.string s) (.string t)).run Tryz.prog w = .ok (.bool (Op.bytesLess t.toList s.toList)) w := fun w => by
    have key : (!Op.bytesLess s.toList t.toList && !s.toList == t.toList) = Op.bytesLess t.toList s.toList := by
      rw [blq_eq, blq_eq]
      by_cases h1 : s.toList < t.toList
      · simp [h1, List.lt_asymm h1]
      · by_cases h2 : s.toList = t.toList
        · simp [h2, List.lt_irrefl]
        · have h3 : t.toList < s.toList := Classical.byContradiction fun h => h2 (List.le_antisymm (List.not_lt.1 h) (List.not_lt.1 h1))
          simp [h1, h2, h3]
    simp [Go.binOp, go_sem, Go.Op.stringOp]
    exact key
  have e1 : cmpK s t = if Op.bytesLess s.toList t.toList = true then -1 else if Op.bytesLess t.toList s.toList = true then 1 else 0 := by
    rw [blq_eq, blq_eq, Lib.toList_data, Lib.toList_data]
    have q1 := cmpK_neg s t
    have q0 := cmpK_zero s t
    by_cases h1 : s.data.toList < t.data.toList
    · rw [if_pos (decide_eq_true h1)]
      exact cmpB_m1 _ _ (q1.2 h1)
    · rw [if_neg (by simp [h1])]
      by_cases h2 : t.data.toList < s.data.toList
      · rw [if_pos (decide_eq_true h2)]
        exact cmpB_p1 _ _ h2
      · rw [if_neg (by simp [h2])]
        exact (cmpB_zero _ _).2 (List.le_antisymm (List.not_lt.1 h2) (List.not_lt.1 h1))
  rw [e1]
  clear e1
  generalize h1 : Op.bytesLess s.toList t.toList = b1
  generalize h2 : Op.bytesLess t.toList s.toList = b2 at hg ⊢
  cases b1 with
  | true =>
    go_enter Tryz.func138, Tryz.ntmps138
    go_wp2_with (go_at_call 145; refine (HN.out _ _).mono ?_; rintro e w5 ⟨rfl, rfl⟩)
    go_ret
    exact ⟨rfl, rfl⟩
  | false =>
    cases b2 with
    | true =>
      go_enter Tryz.func138, Tryz.ntmps138
      go_wp2_with (go_at_call 145; refine (HN.out _ _).mono ?_; rintro e w5 ⟨rfl, rfl⟩)
      go_ret
      exact ⟨rfl, rfl⟩
    | false =>
      go_enter Tryz.func138, Tryz.ntmps138
      go_wp2_with (go_at_call 145; refine (HN.out _ _).mono ?_; rintro e w5 ⟨rfl, rfl⟩)
      go_ret
      exact ⟨rfl, rfl⟩
def cmpBo (a b : Bool) : Int := if a = b then 0 else if b then -1 else 1
set_option maxHeartbeats 1000000 in
theorem cmpBo_any (a b : Bool) (w : World) : Calls Tryz.prog 121 #[.bool a, .bool b] w fun e w' => e = .returned (.int .i64 (cmpBo a b)) ∧ w' = w := by
  cases a <;> cases b
  all_goals
    go_enter Tryz.func121, Tryz.ntmps121
    go_wp2
    go_ret
    exact ⟨rfl, rfl⟩
end Go.Proofs.YtoapaflcokhohaaGreatDoor

set_option linter.unusedVariables false
namespace Go.Proofs.YtoapaflcokhohaaGreatDoor
open Go.RowKit

def cmpKs : List ByteArray → List ByteArray → Int
  | [], [] => 0
  | [], _ :: _ => -1
  | _ :: _, [] => 1
  | s :: ks, t :: ts => if cmpK s t = 0 then cmpKs ks ts else cmpK s t
mutual
/-- The program's order: of objects all keys go ahead of all values. -/
def pcmpV : V → V → Int
  | .mk k b n s l ks, .mk k' b' n' s' l' ks' => if k ≠ k' then cmpI k k' else if k = 1 then cmpBo b b' else if k = 2 then cmpI n n' else if k = 3 then cmpK s s' else if k = 5 then (if cmpKs ks ks' = 0 then pcmpVs l l' else cmpKs ks ks') else pcmpVs l l'
def pcmpVs : List V → List V → Int
  | [], [] => 0
  | [], _ :: _ => -1
  | _ :: _, [] => 1
  | x :: t, y :: t' => if pcmpV x y = 0 then pcmpVs t t' else pcmpV x y
end
theorem cmpKs_at (ks ts : List ByteArray) (j : Nat) (h : j < ks.length) (h' : j < ts.length) : cmpKs (ks.drop j) (ts.drop j) = if cmpK ks[j] ts[j] = 0 then cmpKs (ks.drop (j + 1)) (ts.drop (j + 1)) else cmpK ks[j] ts[j] := by
  rw [List.drop_eq_getElem_cons h, List.drop_eq_getElem_cons h', cmpKs]
theorem cmpKs_end1 (ks ts : List ByteArray) (j : Nat) (h : j < ks.length) (h' : ¬ j < ts.length) : cmpKs (ks.drop j) (ts.drop j) = 1 := by
  rw [List.drop_eq_getElem_cons h, List.drop_eq_nil_of_le (show ts.length ≤ j by omega), cmpKs]
theorem cmpKs_end2 (ks ts : List ByteArray) (h : ks.length < ts.length) : cmpKs (ks.drop ks.length) (ts.drop ks.length) = -1 := by
  rw [List.drop_length, List.drop_eq_getElem_cons h, cmpKs]
theorem cmpKs_end3 (ks ts : List ByteArray) (h : ¬ ks.length < ts.length) : cmpKs (ks.drop ks.length) (ts.drop ks.length) = 0 := by
  rw [List.drop_length, List.drop_eq_nil_of_le (by omega), cmpKs]
theorem pcmpVs_at (ks ts : List V) (j : Nat) (h : j < ks.length) (h' : j < ts.length) : pcmpVs (ks.drop j) (ts.drop j) = if pcmpV ks[j] ts[j] = 0 then pcmpVs (ks.drop (j + 1)) (ts.drop (j + 1)) else pcmpV ks[j] ts[j] := by
  rw [List.drop_eq_getElem_cons h, List.drop_eq_getElem_cons h', pcmpVs]
theorem pcmpVs_end1 (ks ts : List V) (j : Nat) (h : j < ks.length) (h' : ¬ j < ts.length) : pcmpVs (ks.drop j) (ts.drop j) = 1 := by
  rw [List.drop_eq_getElem_cons h, List.drop_eq_nil_of_le (show ts.length ≤ j by omega), pcmpVs]
theorem pcmpVs_end2 (ks ts : List V) (h : ks.length < ts.length) : pcmpVs (ks.drop ks.length) (ts.drop ks.length) = -1 := by
  rw [List.drop_length, List.drop_eq_getElem_cons h, pcmpVs]
theorem pcmpVs_end3 (ks ts : List V) (h : ¬ ks.length < ts.length) : pcmpVs (ks.drop ks.length) (ts.drop ks.length) = 0 := by
  rw [List.drop_length, List.drop_eq_nil_of_le (by omega), pcmpVs]

set_option maxRecDepth 100000 in
set_option maxHeartbeats 4000000 in
theorem cmpKs_any (ks ts : List ByteArray) (v u : Value) (w : World) (hl : ks.length ≤ 1000000) (h : isK w ks v) (h' : isK w ts u) :
    Calls Tryz.prog 124 #[v, u] w fun e w' => e = .returned (.int .i64 (cmpKs ks ts)) ∧ w' = w := by
  obtain ⟨a, cap, ⟨o, rfl, hc1, hc2, ho⟩, hks⟩ := h
  obtain ⟨a', cap', ⟨o', rfl, hc1', hc2', ho'⟩, hts⟩ := h'
  unfold maxLen at hc2 hc2'
  have HK := Lib.hid hks
  have HT := Lib.hid hts
  have HC := Lib.hid cmpS_any
  obtain ⟨r, hr⟩ : ∃ r, cmpKs ks ts = r := ⟨_, rfl⟩
  rw [hr]
  have HR := Lib.hid hr
  clear hks hts hr
  go_enter Tryz.func124, Tryz.ntmps124
  go_wp2_with fail
  go_loopw [11] (fun i wr => ∃ j : Nat, j ≤ ks.length ∧ i = .int .i64 j ∧ Hid (cmpKs (ks.drop j) (ts.drop j) = r) ∧ wr = w) (fun i _ => ks.length - (intOf i).toNat)
  case atStart => exact ⟨0, by omega, rfl, HR, rfl⟩
  case round =>
    obtain ⟨j, hj, rfl, hA, rfl⟩ := hrel
    by_cases hlt : j < ks.length
    · obtain rfl := ho (by omega)
      have c1 := (HK.out j hlt).1
      by_cases hlt' : j < ts.length
      · obtain rfl := ho' (by omega)
        have c2 := (HT.out j hlt').1
        have hat := cmpKs_at ks ts j hlt hlt'
        rw [hA.out] at hat
        generalize ks[j] = s at *
        generalize ts[j] = t at *
        have hcc := HC.out s t
        generalize cmpK s t = q at *
        have HCC := Lib.hid hcc
        have hnl : ¬ (ts.length : Int) ≤ (j : Int) := by omega
        clear hcc
        by_cases hq : q = 0
        · subst hq
          rw [if_pos rfl] at hat
          have HAT := Lib.hid hat.symm
          clear hat
          go_wp2_with (go_at_call 138; refine (HCC.out _).mono ?_; rintro e w5 ⟨rfl, rfl⟩)
          go_roundw
          case rel => exact ⟨j + 1, by omega, by go_num, HAT, trivial⟩
          case measure => simp [intOf]; omega
        · rw [if_neg hq] at hat
          have HAT := Lib.hid hat
          have q1 : (q != 0) = true := bne_iff_ne.2 hq
          have q2 : (q == 0) = false := beqI hq
          clear hat hq
          go_wp2_with (go_at_call 138; refine (HCC.out _).mono ?_; rintro e w5 ⟨rfl, rfl⟩)
          go_ret
          exact ⟨ret_int HAT.out.symm, rfl⟩
      · have hat := cmpKs_end1 ks ts j hlt hlt'
        rw [hA.out] at hat
        have HAT := Lib.hid hat
        have hnl : (ts.length : Int) ≤ (j : Int) := by omega
        clear hat
        go_wp2_with fail
        go_ret
        exact ⟨ret_int HAT.out.symm, rfl⟩
    · obtain rfl : j = ks.length := by omega
      by_cases hlt' : ks.length < ts.length
      · have hat := cmpKs_end2 ks ts hlt'
        rw [hA.out] at hat
        have HAT := Lib.hid hat
        have hnl : (ks.length : Int) < (ts.length : Int) := by omega
        clear hat
        go_wp2_with fail
        go_ret
        exact ⟨ret_int HAT.out.symm, rfl⟩
      · have hat := cmpKs_end3 ks ts hlt'
        rw [hA.out] at hat
        have HAT := Lib.hid hat
        have hnl : ¬ (ks.length : Int) < (ts.length : Int) := by omega
        clear hat
        go_wp2_with fail
        go_ret
        exact ⟨ret_int HAT.out.symm, rfl⟩

set_option maxRecDepth 100000 in
set_option maxHeartbeats 8000000 in
theorem cmpF_any (ks : List V) (hI0 : ∀ (x : V), x ∈ ks → ∀ (y : V) (v u : Value) (w1 : World), isV w1 x v → isV w1 y u → Calls Tryz.prog 110 #[v, u] w1 fun e w' => e = .returned (.int .i64 (pcmpV x y)) ∧ Below w1.heap.size w1 w')
    (ts : List V) (o o' : Option Addr) (a a' : Addr) (cap cap' : Nat) (ho : 0 < ks.length → o = some a) (ho' : 0 < ts.length → o' = some a') (w : World) (hl : ks.length ≤ 1000000) (hlt : ts.length ≤ maxLen) (h : isVs w ks a) (h' : isVs w ts a') :
    Calls Tryz.prog 125 #[.slice o ks.length cap, .slice o' ts.length cap', .func (.func 110) #[] #[]] w fun e w' => e = .returned (.int .i64 (pcmpVs ks ts)) ∧ Below w.heap.size w w' := by
  unfold maxLen at hlt
  have HK := Lib.hid h
  have HT := Lib.hid h'
  have HI := Lib.hid hI0
  obtain ⟨r, hr⟩ : ∃ r, pcmpVs ks ts = r := ⟨_, rfl⟩
  rw [hr]
  have HR := Lib.hid hr
  have ef : ∀ args w, (callFunc 110 args).run Tryz.prog w = .ok (.enter 110 args) w := enters_of Tryz.func110 (by kernel_rfl) rfl
  clear h h' hr hI0
  go_enter Tryz.func125, Tryz.ntmps125
  go_wp2_with fail
  go_loopw [13] (fun i wr => ∃ j : Nat, j ≤ ks.length ∧ i = .int .i64 j ∧ Hid (pcmpVs (ks.drop j) (ts.drop j) = r) ∧ Hid (Below w.heap.size w wr)) (fun i _ => ks.length - (intOf i).toNat)
  case atStart => exact ⟨0, by omega, rfl, HR, Lib.hid (Below.refl _ _)⟩
  case round =>
    obtain ⟨j, hj, rfl, hA, hB⟩ := hrel
    by_cases hlt1 : j < ks.length
    · obtain rfl := ho (by omega)
      obtain ⟨k', b', n', s', o1, m1, p1, o3, m3, p3, g0, g1, g2, g3, g4, g5, hx⟩ := isVs_sl ks a j hlt1 HK.out
      have g0 := cell_below hB.out _ _ g0
      have g1 := cell_below hB.out _ _ g1
      have g2 := cell_below hB.out _ _ g2
      have g3 := cell_below hB.out _ _ g3
      have g4 := cell_below hB.out _ _ g4
      have g5 := cell_below hB.out _ _ g5
      by_cases hlt2 : j < ts.length
      · obtain rfl := ho' (by omega)
        obtain ⟨k2, b2, n2, s2, o4, m4, p4, o5, m5, p5, f0, f1, f2, f3, f4, f5, hy⟩ := isVs_sl ts a' j hlt2 HT.out
        have f0 := cell_below ((hB.out.alloc hB.out.size (.cells #[.int .i8 k', .bool b', .int .i64 n', .string s', .slice o1 m1 p1, .slice o3 m3 p3] 64))) _ _ f0
        have f1 := cell_below ((hB.out.alloc hB.out.size (.cells #[.int .i8 k', .bool b', .int .i64 n', .string s', .slice o1 m1 p1, .slice o3 m3 p3] 64))) _ _ f1
        have f2 := cell_below ((hB.out.alloc hB.out.size (.cells #[.int .i8 k', .bool b', .int .i64 n', .string s', .slice o1 m1 p1, .slice o3 m3 p3] 64))) _ _ f2
        have f3 := cell_below ((hB.out.alloc hB.out.size (.cells #[.int .i8 k', .bool b', .int .i64 n', .string s', .slice o1 m1 p1, .slice o3 m3 p3] 64))) _ _ f3
        have f4 := cell_below ((hB.out.alloc hB.out.size (.cells #[.int .i8 k', .bool b', .int .i64 n', .string s', .slice o1 m1 p1, .slice o3 m3 p3] 64))) _ _ f4
        have f5 := cell_below ((hB.out.alloc hB.out.size (.cells #[.int .i8 k', .bool b', .int .i64 n', .string s', .slice o1 m1 p1, .slice o3 m3 p3] 64))) _ _ f5
        have hW : Below w.heap.size w ((wr.alloc (.cells #[.int .i8 k', .bool b', .int .i64 n', .string s', .slice o1 m1 p1, .slice o3 m3 p3] 64)).alloc (.cells #[.int .i8 k2, .bool b2, .int .i64 n2, .string s2, .slice o4 m4 p4, .slice o5 m5 p5] 64)) := (hB.out.alloc hB.out.size _).alloc (by have := hB.out.size; simp; omega) _
        have hat := pcmpVs_at ks ts j hlt1 hlt2
        rw [hA.out] at hat
        have hcc := HI.out ks[j] (List.getElem_mem _) ts[j] _ _ _ (isV_below hW hx) (isV_below hW hy)
        generalize pcmpV ks[j] ts[j] = q at *
        have HCC := Lib.hid hcc
        have HW := Lib.hid hW
        have hnl : ¬ (ts.length : Int) ≤ (j : Int) := by omega
        clear hcc hx hy hW
        by_cases hq : q = 0
        · subst hq
          rw [if_pos rfl] at hat
          have HAT := Lib.hid hat.symm
          clear hat
          go_wp2_with (go_at_fn 110; refine HCC.out.mono ?_; rintro e w5 ⟨rfl, hb5⟩)
          go_roundw
          case rel => exact ⟨j + 1, by omega, by go_num, HAT, Lib.hid (HW.out.trans (hb5.mono HW.out.size))⟩
          case measure => simp [intOf]; omega
        · rw [if_neg hq] at hat
          have HAT := Lib.hid hat
          have q1 : (q != 0) = true := bne_iff_ne.2 hq
          have q2 : (q == 0) = false := beqI hq
          clear hat hq
          go_wp2_with (go_at_fn 110; refine HCC.out.mono ?_; rintro e w5 ⟨rfl, hb5⟩)
          go_ret
          exact ⟨ret_int HAT.out.symm, HW.out.trans (hb5.mono HW.out.size)⟩
      · have hat := pcmpVs_end1 ks ts j hlt1 hlt2
        rw [hA.out] at hat
        have HAT := Lib.hid hat
        have hnl : (ts.length : Int) ≤ (j : Int) := by omega
        clear hat hx
        go_wp2_with fail
        go_ret
        exact ⟨ret_int HAT.out.symm, hB.out.alloc hB.out.size _⟩
    · obtain rfl : j = ks.length := by omega
      by_cases hlt2 : ks.length < ts.length
      · have hat := pcmpVs_end2 ks ts hlt2
        rw [hA.out] at hat
        have HAT := Lib.hid hat
        have hnl : (ks.length : Int) < (ts.length : Int) := by omega
        clear hat
        go_wp2_with fail
        go_ret
        exact ⟨ret_int HAT.out.symm, hB.out⟩
      · have hat := pcmpVs_end3 ks ts hlt2
        rw [hA.out] at hat
        have HAT := Lib.hid hat
        have hnl : ¬ (ks.length : Int) < (ts.length : Int) := by omega
        clear hat
        go_wp2_with fail
        go_ret
        exact ⟨ret_int HAT.out.symm, hB.out⟩

/-- No row is too long. -/
def wideV (x : V) : Prop := ∀ z ∈ walkV x, z.list.length ≤ 1000000 ∧ z.keys.length ≤ 3000
theorem pcmpV_mk (k k' : Int) (b b' : Bool) (n n' : Int) (s s' : ByteArray) (l l' : List V) (ks ks' : List ByteArray) : pcmpV (.mk k b n s l ks) (.mk k' b' n' s' l' ks') = if k ≠ k' then cmpI k k' else if k = 1 then cmpBo b b' else if k = 2 then cmpI n n' else if k = 3 then cmpK s s' else if k = 5 then (if cmpKs ks ks' = 0 then pcmpVs l l' else cmpKs ks ks') else pcmpVs l l' := by rw [pcmpV]
theorem two_boxes (w : World) (cs cs' : Array Value) (t : TypeId) : Below w.heap.size w ((w.alloc (.cells cs t)).alloc (.cells cs' t)) ∧ ((w.alloc (.cells cs t)).alloc (.cells cs' t)).heap[w.heap.size]? = some (.cells cs t (0, 0)) ∧ ((w.alloc (.cells cs t)).alloc (.cells cs' t)).heap[w.heap.size + 1]? = some (.cells cs' t (0, 0)) := by
  have h := World.alloc_heap_new (w.alloc (.cells cs t)) (.cells cs' t)
  rw [World.size_alloc] at h
  exact ⟨by go_grown, (Below.heap_alloc _ _ _ (by simp)).trans (World.alloc_heap_new w _), h⟩

set_option maxRecDepth 100000 in
set_option maxHeartbeats 16000000 in
theorem pcmp_any : ∀ (N : Nat) (x y : V) (v u : Value) (w : World), depthV x ≤ N → wideV x → isV w x v → isV w y u →
    Calls Tryz.prog 110 #[v, u] w fun e w' => e = .returned (.int .i64 (pcmpV x y)) ∧ Below w.heap.size w w'
  | 0, x, y, v, u, w, hN, _, _, _ => absurd (depthV_pos x) (by omega)
  | N + 1, x, y, v, u, w, hN, hF, h, h' => by
    obtain ⟨k, b, n, s, l, ks⟩ := x
    obtain ⟨k', b', n', s', l', ks'⟩ := y
    unfold isV at h h'
    obtain ⟨lv, kv, rfl, hk, hn, hs, ⟨a, cap, ⟨o, rfl, hc1, hc2, ho⟩, hvs⟩, hks⟩ := h
    obtain ⟨lv', kv', rfl, hk', hn', hs', ⟨a', cap', ⟨o', rfl, hc1', hc2', ho'⟩, hvs'⟩, hks'⟩ := h'
    have hks0 := hks
    have hks0' := hks'
    obtain ⟨a2, cap2, ⟨o2, rfl, hc3, hc4, ho2⟩, _⟩ := hks0
    obtain ⟨a2', cap2', ⟨o2', rfl, hc3', hc4', ho2'⟩, _⟩ := hks0'
    have hsl : depthVs l ≤ N := by rw [depthV] at hN; omega
    have hll : l.length ≤ 1000000 := (hF (.mk k b n s l ks) (by rw [walkV]; exact List.mem_cons_self)).1
    have hkl : ks.length ≤ 3000 := (hF (.mk k b n s l ks) (by rw [walkV]; exact List.mem_cons_self)).2
    have hW := two_boxes w #[.int .i8 k, .bool b, .int .i64 n, .string s, .slice o l.length cap, .slice o2 ks.length cap2] #[.int .i8 k', .bool b', .int .i64 n', .string s', .slice o' l'.length cap', .slice o2' ks'.length cap2'] 64
    have hmk := pcmpV_mk k k' b b' n n' s s' l l' ks ks'
    obtain ⟨r, hr⟩ : ∃ r, pcmpV (.mk k b n s l ks) (.mk k' b' n' s' l' ks') = r := ⟨_, rfl⟩
    rw [hr] at hmk ⊢
    have HF : Hid (∀ w1, KB w w1 → Calls Tryz.prog 125 #[.slice o l.length cap, .slice o' l'.length cap', .func (.func 110) #[] #[]] w1 fun e w' => e = .returned (.int .i64 (pcmpVs l l')) ∧ Below w1.heap.size w1 w') := Lib.hid fun w1 hK =>
      cmpF_any l (fun x hx y v u w1 h1 h2 => pcmp_any N x y v u w1 (by obtain ⟨i, hi, rfl⟩ := List.getElem_of_mem hx; have := depthVs_get l i hi; omega) (fun z hz => hF z (walk_part hx rfl z hz)) h1 h2) l' o o' a a' cap cap' ho ho' w1 hll (by unfold maxLen at *; omega) (isVs_keep (cell_below hK) l a hvs) (isVs_keep (cell_below hK) l' a' hvs')
    have HKs : Hid (∀ w1, KB w w1 → Calls Tryz.prog 124 #[.slice o2 ks.length cap2, .slice o2' ks'.length cap2'] w1 fun e w' => e = .returned (.int .i64 (cmpKs ks ks')) ∧ w' = w1) := Lib.hid fun w1 hK =>
      cmpKs_any ks ks' _ _ w1 (by omega) (isK_keep (cell_below hK) hks) (isK_keep (cell_below hK) hks')
    have C8 := Lib.hid cmp8_any
    have C64 := Lib.hid cmp64_any
    have CB := Lib.hid cmpBo_any
    have CS := Lib.hid Tryz.strings_Compare
    clear hk hn hs hvs hks hk' hn' hs' hvs' hks' ho ho' ho2 ho2' hr hF
    have HW := Lib.hid hW.1
    clear hW
    by_cases hkk : k ≠ k'
    · rw [if_pos hkk] at hmk
      have HR := Lib.hid hmk
      have z1 : (k != k') = true := bne_iff_ne.2 hkk
      have z2 : (k == k') = false := beqI hkk
      clear hmk hkk
      go_enter Tryz.func110, Tryz.ntmps110
      go_wp2_with (go_at_call 120; refine (C8.out _ _ _).mono ?_; rintro e w5 ⟨rfl, rfl⟩)
      go_ret
      exact ⟨ret_int HR.out.symm, HW.out⟩
    obtain rfl : k = k' := Decidable.not_not.1 hkk
    rw [if_neg hkk] at hmk
    clear hkk
    by_cases h1 : k = 1
    · subst h1
      rw [if_pos rfl] at hmk
      have HR := Lib.hid hmk
      clear hmk
      go_enter Tryz.func110, Tryz.ntmps110
      go_wp2_with (go_at_call 121; refine (CB.out _ _ _).mono ?_; rintro e w5 ⟨rfl, rfl⟩)
      go_ret
      exact ⟨ret_int HR.out.symm, HW.out⟩
    by_cases h2 : k = 2
    · subst h2
      rw [if_neg (by decide), if_pos rfl] at hmk
      have HR := Lib.hid hmk
      clear hmk
      go_enter Tryz.func110, Tryz.ntmps110
      go_wp2_with (go_at_call 122; refine (C64.out _ _ _).mono ?_; rintro e w5 ⟨rfl, rfl⟩)
      go_ret
      exact ⟨ret_int HR.out.symm, HW.out⟩
    by_cases h3 : k = 3
    · subst h3
      rw [if_neg (by decide), if_neg (by decide), if_pos rfl] at hmk
      have HR := Lib.hid hmk
      clear hmk
      go_enter Tryz.func110, Tryz.ntmps110
      go_wp2_with (go_at_call 123; refine (CS.out _ _ _).mono ?_; rintro e w5 ⟨rfl, rfl⟩)
      go_ret
      exact ⟨ret_int HR.out.symm, HW.out⟩
    by_cases h5 : k = 5
    · subst h5
      rw [if_neg (by decide), if_neg (by decide), if_neg (by decide), if_pos rfl] at hmk
      generalize cmpKs ks ks' = q at *
      by_cases hq : q = 0
      · subst hq
        rw [if_pos rfl] at hmk
        have HR := Lib.hid hmk
        clear hmk
        go_enter Tryz.func110, Tryz.ntmps110
        go_wp2_with (first
          | (go_at_call 124; refine (HKs.out _ HW.out).mono ?_; rintro e w5 ⟨rfl, rfl⟩)
          | (go_at_call 125; refine (HF.out _ HW.out).mono ?_; rintro e w5 ⟨rfl, hb5⟩))
        go_ret
        exact ⟨ret_int HR.out.symm, HW.out.trans (hb5.mono HW.out.size)⟩
      · rw [if_neg hq] at hmk
        have HR := Lib.hid hmk
        have q1 : (q != 0) = true := bne_iff_ne.2 hq
        have q2 : (q == 0) = false := beqI hq
        clear hmk hq
        go_enter Tryz.func110, Tryz.ntmps110
        go_wp2_with (go_at_call 124; refine (HKs.out _ HW.out).mono ?_; rintro e w5 ⟨rfl, rfl⟩)
        go_ret
        exact ⟨ret_int HR.out.symm, HW.out⟩
    · rw [if_neg h1, if_neg h2, if_neg h3, if_neg h5] at hmk
      have HR := Lib.hid hmk
      have q1 : (k == 1) = false := beqI h1
      have q2 : (k == 2) = false := beqI h2
      have q3 : (k == 3) = false := beqI h3
      have q5 : (k == 5) = false := beqI h5
      clear hmk h1 h2 h3 h5
      go_enter Tryz.func110, Tryz.ntmps110
      go_wp2_with (go_at_call 125; refine (HF.out _ HW.out).mono ?_; rintro e w5 ⟨rfl, hb5⟩)
      go_ret
      exact ⟨ret_int HR.out.symm, HW.out.trans (hb5.mono HW.out.size)⟩
end Go.Proofs.YtoapaflcokhohaaGreatDoor

set_option linter.unusedVariables false
namespace Go.Proofs.YtoapaflcokhohaaGreatDoor
open Go.RowKit Go.Shelf

/-- No key twice, and as many as the parts. -/
def onceV (x : V) : Prop := ∀ z ∈ walkV x, z.keys.Nodup ∧ (z.kind = 5 → z.keys.length = z.list.length)
theorem once_of_wrong {x : V} (h : wrongV x = 0) : onceV x := by
  rw [← firstNZ_walk] at h
  have hall : ∀ (l : List V), firstNZ (l.map ownW) = 0 → ∀ z ∈ l, ownW z = 0 := by
    intro l
    induction l with
    | nil => intro _ z hz; cases hz
    | cons a t ih =>
      intro h z hz
      rw [List.map_cons, firstNZ] at h
      by_cases ha : ownW a = 0
      · rw [if_pos ha] at h
        rcases List.mem_cons.1 hz with rfl | hz
        · exact ha
        · exact ih h z hz
      · rw [if_neg ha] at h; exact absurd h ha
  intro z hz
  have h0 := hall _ h z hz
  unfold ownW at h0
  by_cases h1 : plainB z = false
  · rw [if_pos h1] at h0; omega
  · rw [if_neg h1] at h0
    have hp : plainP z := plain_eq (by simpa using h1)
    split at h0
    · omega
    · split at h0
      · omega
      · split at h0
        · omega
        · split at h0
          · omega
          · rename_i ho
            refine ⟨?_, ?_⟩
            · apply Classical.byContradiction
              intro hn
              exact ho (once_no hn)
            · obtain ⟨k, b, n, s, l, ks⟩ := z
              exact hp.2.2.2.2.2.1

theorem part_in {x y : V} (h : y ∈ x.list) : ∀ z ∈ walkV y, z ∈ walkV x := walk_part h rfl
theorem self_in (x : V) : x ∈ walkV x := by obtain ⟨_, _, _, _, _, _⟩ := x; rw [walkV]; exact List.mem_cons_self
theorem getD_in {l : List V} {i : Nat} (h : i < l.length) : l.getD i default ∈ l := by rw [getD_lt _ _ _ h]; exact List.getElem_mem h
theorem ord_lt {x : V} {ps : List Nat} (h : isOrd x ps) {i : Nat} (hi : i < ps.length) : ps.getD i 0 < x.list.length := by
  rw [getD_lt _ _ _ hi]
  have := h.1.mem_iff.1 (List.getElem_mem hi)
  simpa using this
/-- The places are one way, where no key stands twice. -/
theorem ord_uniq {x : V} {ps qs : List Nat} (h : isOrd x ps) (h' : isOrd x qs) (ho : x.keys.Nodup) (hl : x.kind = 5 → x.keys.length = x.list.length) : ps = qs := by
  by_cases hk : x.kind = 5
  · obtain ⟨h1, _, h3⟩ := h
    obtain ⟨h1', _, h3'⟩ := h'
    have hlen := hl hk
    refine List.Perm.eq_of_pairwise (le := fun p q => ¬ cmpK (x.keys.getD q ⟨#[]⟩) (x.keys.getD p ⟨#[]⟩) < 0) ?_ ?_ ?_ (h1.trans h1'.symm)
    · intro a b ha hb hab hba
      have ha' : a < x.keys.length := by rw [hlen]; simpa using h1.mem_iff.1 ha
      have hb' : b < x.keys.length := by rw [hlen]; simpa using h1'.mem_iff.1 hb
      rw [getD_lt _ _ _ ha', getD_lt _ _ _ hb', cmpK_neg] at hab hba
      have e : x.keys[a] = x.keys[b] := by
        have := List.le_antisymm (List.not_lt.1 hab) (List.not_lt.1 hba)
        exact ByteArray.ext (by simpa using congrArg List.toArray this)
      rcases Nat.lt_trichotomy a b with hlt | rfl | hlt
      · exact absurd ho (not_nodup x.keys a b hlt hb' e)
      · rfl
      · exact absurd ho (not_nodup x.keys b a hlt ha' e.symm)
    · rw [List.pairwise_iff_getElem]
      intro i j hi hj hij
      exact h3 hk i j hij hj
    · rw [List.pairwise_iff_getElem]
      intro i j hi hj hij
      exact h3' hk i j hij hj
  · rw [h.2.1 hk, h'.2.1 hk]

theorem sort_uniq {x y : V} (h : SortR x y) : ∀ {y' : V}, onceV x → SortR x y' → y = y' := by
  induction h with
  | mk k b n s l ks l' ks' ps ho hl hs hk ih =>
    intro y' hx h'
    cases h' with
    | mk _ _ _ _ _ _ l2 ks2 qs ho2 hl2 hs2 hk2 =>
      obtain ⟨hx1, hx2⟩ := hx _ (self_in _)
      obtain rfl := ord_uniq ho ho2 hx1 hx2
      have e1 : l' = l2 := by
        apply List.ext_getElem (by omega)
        intro i h1 h2
        have hp : ps.getD i 0 < l.length := ord_lt ho (by omega)
        exact ih i h1 (fun z hz => hx z (part_in (getD_in hp) z hz)) (hs2 i h2)
      rw [e1, hk, hk2]
theorem walkVs_mem {z : V} : ∀ {l : List V}, z ∈ walkVs l → ∃ y ∈ l, z ∈ walkV y
  | [], h => by rw [walkVs] at h; cases h
  | a :: t, h => by
    rw [walkVs] at h
    rcases List.mem_append.1 h with h | h
    · exact ⟨a, by simp, h⟩
    · obtain ⟨y, hy, hz⟩ := walkVs_mem h
      exact ⟨y, by simp [hy], hz⟩
theorem sort_wide {x y : V} (h : SortR x y) : (onceV x → wideV x → wideV y) ∧ depthV y ≤ depthV x := by
  induction h with
  | mk k b n s l ks l' ks' ps ho hl hs hk ih =>
    have hpl : ps.length = l.length := by have := ho.1.length_eq; simpa [V.list] using this
    constructor
    · intro hO hx z hz
      rw [walkV] at hz
      rcases List.mem_cons.1 hz with rfl | hz
      · have h1 := hx _ (self_in _)
        have h1a : l.length ≤ 1000000 := h1.1
        have h1b : ks.length ≤ 3000 := h1.2
        refine ⟨by show l'.length ≤ _; omega, ?_⟩
        show ks'.length ≤ 3000
        rw [hk]
        split
        · rename_i h5
          have h6 : ks.length = l.length := (hO _ (self_in _)).2 h5
          rw [List.length_map, hpl]
          omega
        · exact h1b
      · obtain ⟨y, hy, hz⟩ := walkVs_mem hz
        obtain ⟨i, hi, rfl⟩ := List.getElem_of_mem hy
        have hp : ps.getD i 0 < l.length := ord_lt ho (by omega)
        exact (ih i hi).1 (fun q hq => hO q (part_in (getD_in hp) q hq)) (fun q hq => hx q (part_in (getD_in hp) q hq)) z hz
    · rw [depthV, depthV]
      have := depthVs_le (depthVs l) l' (fun y hy => by
        obtain ⟨i, hi, rfl⟩ := List.getElem_of_mem hy
        have hp : ps.getD i 0 < l.length := ord_lt ho (by omega)
        have h1 := (ih i hi).2
        have h2 := depthVs_get l _ hp
        rw [getD_lt _ _ _ hp] at h1
        omega)
      omega
/-- The sorted value, where there is just one. -/
noncomputable def psortV (x : V) : V := @Classical.epsilon V ⟨x⟩ (fun y => SortR x y)
theorem psort_eq {x y : V} (h : SortR x y) (ho : onceV x) : y = psortV x :=
  sort_uniq h ho (@Classical.epsilon_spec_aux V ⟨x⟩ (fun y => SortR x y) ⟨y, h⟩)

theorem pwrong_zero {x : V} (h : pwrongV x = 0) : wrongV x = 0 ∧ depthV x ≤ 24 := by
  unfold pwrongV at h
  split at h
  · omega
  · exact ⟨h, by omega⟩
/-- What compare answers. -/
noncomputable def cmpA (x y : V) : Int × Bool := if pwrongV x ≠ 0 ∨ pwrongV y ≠ 0 then (0, false) else (pcmpV (psortV x) (psortV y), true)

theorem wide_of {x : V} (h : sizeV x ≤ 1000000) (hF : fineV x) : wideV x := fun z hz => by
  refine ⟨?_, hF z hz⟩
  have hsz : ∀ (x : V), z ∈ walkV x → sizeV z ≤ sizeV x := by
    have aux : ∀ (N : Nat) (x : V), sizeV x ≤ N → z ∈ walkV x → sizeV z ≤ sizeV x := by
      intro N
      induction N with
      | zero => intro x hx; exact absurd (sizeV_pos x) (by omega)
      | succ N ih =>
        intro x hx hz
        obtain ⟨k, b, n, s, l, ks⟩ := x
        rw [walkV] at hz
        rcases List.mem_cons.1 hz with rfl | hz
        · exact Nat.le_refl _
        · obtain ⟨y, hy, hz⟩ := walkVs_mem hz
          obtain ⟨i, hi, rfl⟩ := List.getElem_of_mem hy
          have h1 := sizeVs_get l i hi
          rw [sizeV] at hx ⊢
          have := ih l[i] (by omega) hz
          omega
    exact fun x => aux _ x (Nat.le_refl _)
  have h1 := hsz x hz
  have h2 := sizeVs_len z.list
  obtain ⟨k, b, n, s, l, ks⟩ := z
  rw [sizeV] at h1
  show l.length ≤ _
  have : l.length ≤ sizeVs l := h2
  omega

set_option maxRecDepth 100000 in
set_option maxHeartbeats 8000000 in
theorem compare_any (x y : V) (v u : Value) (w : World) (hE : Env w) (hM : sizeV x ≤ 1000000) (hF : fineV x) (hM' : sizeV y ≤ 1000000) (hF' : fineV y) (h : isV w x v) (h' : isV w y u) :
    Calls Tryz.prog 98 #[v, u] w fun e w' => e = .returned (.tuple #[.int .i64 (cmpA x y).1, .bool (cmpA x y).2]) ∧ Below w.heap.size w w' := by
  have hHV := h
  have hHV' := h'
  obtain ⟨k, b, n, s, o, m, c, o2, m2, c2, rfl⟩ := isV_six h
  obtain ⟨k', b', n', s', o', m', c', o2', m2', c2', rfl⟩ := isV_six h'
  have W1 : Hid (∀ w1, KB w w1 → Calls Tryz.prog 109 #[.agg #[.int .i8 k, .bool b, .int .i64 n, .string s, .slice o m c, .slice o2 m2 c2]] w1 fun e w' => e = .returned (.int .i64 (pwrongV x)) ∧ Below w1.heap.size w1 w') := Lib.hid fun w1 hK => pwrong_any x _ w1 (hE.kb hK) hM hF (isV_below hK h)
  have W2 : Hid (∀ w1, KB w w1 → Calls Tryz.prog 109 #[.agg #[.int .i8 k', .bool b', .int .i64 n', .string s', .slice o' m' c', .slice o2' m2' c2']] w1 fun e w' => e = .returned (.int .i64 (pwrongV y)) ∧ Below w1.heap.size w1 w') := Lib.hid fun w1 hK => pwrong_any y _ w1 (hE.kb hK) hM' hF' (isV_below hK h')
  have hW := two_boxes w #[.int .i8 k, .bool b, .int .i64 n, .string s, .slice o m c, .slice o2 m2 c2] #[.int .i8 k', .bool b', .int .i64 n', .string s', .slice o' m' c', .slice o2' m2' c2'] 64
  by_cases hx : pwrongV x ≠ 0
  · have hA : cmpA x y = (0, false) := by unfold cmpA; rw [if_pos (.inl hx)]
    rw [hA]
    generalize pwrongV x = q at *
    have q1 : (q != 0) = true := bne_iff_ne.2 hx
    have q2 : (q == 0) = false := beqI hx
    clear h h' hHV hHV' hx hE hM hF hM' hF' hA
    obtain ⟨hB, _⟩ := hW
    have HB := Lib.hid hB
    clear hB
    go_enter Tryz.func98, Tryz.ntmps98
    go_wp2_with (go_at_call 109; refine (W1.out _ HB.out).mono ?_; rintro e w5 ⟨rfl, hb5⟩)
    refine bodyPost_ret (v := .tuple #[.int .i64 0, .bool false]) (by simp [results, Tryz.results98, go_sem]) rfl ?_
    exact ⟨rfl, HB.out.trans (hb5.mono HB.out.size)⟩
  · have hx0 : pwrongV x = 0 := Decidable.not_not.1 hx
    rw [hx0] at W1
    by_cases hy : pwrongV y ≠ 0
    · have hA : cmpA x y = (0, false) := by unfold cmpA; rw [if_pos (.inr hy)]
      rw [hA]
      generalize pwrongV y = q at *
      have q1 : (q != 0) = true := bne_iff_ne.2 hy
      have q2 : (q == 0) = false := beqI hy
      clear h h' hHV hHV' hx hy hE hM hF hM' hF' hA hx0
      go_enter Tryz.func98, Tryz.ntmps98
      go_wp2_with fail
      generalize hW1 : (w.alloc (.cells #[.int .i8 k, .bool b, .int .i64 n, .string s, .slice o m c, .slice o2 m2 c2] 64)).alloc (.cells #[.int .i8 k', .bool b', .int .i64 n', .string s', .slice o' m' c', .slice o2' m2' c2'] 64) = Wb at *
      clear hW1
      obtain ⟨hB, hbx, hby⟩ := hW
      refine (W1.out _ hB).mono ?_
      rintro e w5 ⟨rfl, hb5⟩
      have hK5 := hB.trans (hb5.mono hB.size)
      obtain ⟨s0, s1, s2, s3, s4, s5⟩ := six_cells ((hb5.block _ (Array.getElem?_eq_some_iff.1 hby).1).trans hby)
      clear hb5 hB hbx hby
      go_wp2_with fail
      refine (W2.out _ hK5).mono ?_
      rintro e w6 ⟨rfl, hb6⟩
      clear s0 s1 s2 s3 s4 s5
      have HE6 := Lib.hid (hK5.trans (hb6.mono hK5.size))
      clear hb6 hK5
      go_wp2_with fail
      refine bodyPost_ret (v := .tuple #[.int .i64 0, .bool false]) (by simp [results, Tryz.results98, go_sem]) rfl ?_
      exact ⟨rfl, HE6.out⟩
    · have hy0 : pwrongV y = 0 := Decidable.not_not.1 hy
      rw [hy0] at W2
      have hA : cmpA x y = (pcmpV (psortV x) (psortV y), true) := by unfold cmpA; rw [if_neg (by rintro (h | h) <;> contradiction)]
      rw [hA]
      obtain ⟨wx, dx⟩ := pwrong_zero hx0
      obtain ⟨wy, dy⟩ := pwrong_zero hy0
      have S1 : Hid (∀ w1, KB w w1 → Calls Tryz.prog 111 #[.agg #[.int .i8 k, .bool b, .int .i64 n, .string s, .slice o m c, .slice o2 m2 c2]] w1 fun e w' => ∃ v', e = .returned v' ∧ SortR x (psortV x) ∧ isV w' (psortV x) v' ∧ Below w1.heap.size w1 w') := Lib.hid fun w1 hK => (psorted_any 1000000 x _ w1 _ hM (Nat.le_refl _) hF (ok_of_wrong x wx) (isVa_of x _ (isV_below hK h)) (fun q hq => hq)).mono fun e w' ⟨z, v', he, hs, hv, hb⟩ => ⟨v', he, by rw [← psort_eq hs (once_of_wrong wx)]; exact hs, by rw [← psort_eq hs (once_of_wrong wx)]; exact isV_of_a _ _ hv, hb⟩
      have S2 : Hid (∀ w1, KB w w1 → Calls Tryz.prog 111 #[.agg #[.int .i8 k', .bool b', .int .i64 n', .string s', .slice o' m' c', .slice o2' m2' c2']] w1 fun e w' => ∃ v', e = .returned v' ∧ isV w' (psortV y) v' ∧ Below w1.heap.size w1 w') := Lib.hid fun w1 hK => (psorted_any 1000000 y _ w1 _ hM' (Nat.le_refl _) hF' (ok_of_wrong y wy) (isVa_of y _ (isV_below hK h')) (fun q hq => hq)).mono fun e w' ⟨z, v', he, hs, hv, hb⟩ => ⟨v', he, by rw [← psort_eq hs (once_of_wrong wy)]; exact isV_of_a _ _ hv, hb⟩
      have S3 : Hid (∀ (v' u' : Value) (w1 : World), (SortR x (psortV x)) → isV w1 (psortV x) v' → isV w1 (psortV y) u' → Calls Tryz.prog 110 #[v', u'] w1 fun e w' => e = .returned (.int .i64 (pcmpV (psortV x) (psortV y))) ∧ Below w1.heap.size w1 w') := Lib.hid fun v' u' w1 hs h1 h2 => pcmp_any 24 _ _ v' u' w1 (by have := (sort_wide hs).2; omega) ((sort_wide hs).1 (once_of_wrong wx) (wide_of hM hF)) h1 h2
      clear h h' hHV hHV' hx hy hE hM hF hM' hF' hA hx0 hy0
      go_enter Tryz.func98, Tryz.ntmps98
      go_wp2_with fail
      generalize hW1 : (w.alloc (.cells #[.int .i8 k, .bool b, .int .i64 n, .string s, .slice o m c, .slice o2 m2 c2] 64)).alloc (.cells #[.int .i8 k', .bool b', .int .i64 n', .string s', .slice o' m' c', .slice o2' m2' c2'] 64) = Wb at *
      clear hW1
      obtain ⟨hB, hbx, hby⟩ := hW
      refine (W1.out _ hB).mono ?_
      rintro e w5 ⟨rfl, hb5⟩
      have hK5 := hB.trans (hb5.mono hB.size)
      have hx5 := (hb5.block _ (Array.getElem?_eq_some_iff.1 hbx).1).trans hbx
      have hy5 := (hb5.block _ (Array.getElem?_eq_some_iff.1 hby).1).trans hby
      obtain ⟨s0, s1, s2, s3, s4, s5⟩ := six_cells hy5
      clear hb5 hB hbx hby W1
      go_wp2_with fail
      refine (W2.out _ hK5).mono ?_
      rintro e w6 ⟨rfl, hb6⟩
      have hK6 := hK5.trans (hb6.mono hK5.size)
      have hx6 := (hb6.block _ (Array.getElem?_eq_some_iff.1 hx5).1).trans hx5
      have hy6 := (hb6.block _ (Array.getElem?_eq_some_iff.1 hy5).1).trans hy5
      clear s0 s1 s2 s3 s4 s5 hb6 hK5 hx5 hy5 W2
      obtain ⟨r0, r1, r2, r3, r4, r5⟩ := six_cells hx6
      obtain ⟨s0, s1, s2, s3, s4, s5⟩ := six_cells hy6
      go_wp2_with fail
      go_region_with (first
        | (go_at_call_of 111 (Value.agg #[.int .i8 k, .bool b, .int .i64 n, .string s, .slice o m c, .slice o2 m2 c2]); refine (S1.out _ ?_).mono ?_; exact hK6.drew; rintro e w7 ⟨sv, rfl, hsr, hsv, hb7⟩; have hK7 : Below w.heap.size w w7 := hK6.trans ((below_drew_of hb7).mono hK6.size); have s0 := cell_below (below_drew_of hb7) _ _ s0; have s1 := cell_below (below_drew_of hb7) _ _ s1; have s2 := cell_below (below_drew_of hb7) _ _ s2; have s3 := cell_below (below_drew_of hb7) _ _ s3; have s4 := cell_below (below_drew_of hb7) _ _ s4; have s5 := cell_below (below_drew_of hb7) _ _ s5)
        | (go_at_call_of 111 (Value.agg #[.int .i8 k', .bool b', .int .i64 n', .string s', .slice o' m' c', .slice o2' m2' c2']); refine (S2.out _ ?_).mono ?_; exact hK7; rintro e w8 ⟨su, rfl, hsu, hb8⟩; have hK8 : Below w.heap.size w w8 := hK7.trans (hb8.mono hK7.size))
        | (go_at_call 110; refine (S3.out _ _ _ hsr (isV_below hb8 hsv) hsu).mono ?_; rintro e w9 ⟨rfl, hb9⟩))
      all_goals
        have HE9 := Lib.hid (hK8.trans (hb9.mono hK8.size))
        clear hsr hsv hsu hb7 hb8 hb9 hK6 hK7 hK8 s0 s1 s2 s3 s4 s5 r0 r1 r2 r3 r4 r5 S1 S2 S3
        go_wp2_with fail
        refine bodyPost_ret (v := .tuple #[.int .i64 (pcmpV (psortV x) (psortV y)), .bool true]) (by simp [results, Tryz.results98, go_sem]) rfl ?_
        exact ⟨rfl, HE9.out⟩

noncomputable def eqA (x y : V) : Bool := (cmpA x y).2 && ((cmpA x y).1 == 0)
set_option maxRecDepth 100000 in
set_option maxHeartbeats 4000000 in
theorem peq_any (x y : V) (v u : Value) (w : World) (hE : Env w) (hM : sizeV x ≤ 1000000) (hF : fineV x) (hM' : sizeV y ≤ 1000000) (hF' : fineV y) (h : isV w x v) (h' : isV w y u) :
    Calls Tryz.prog 81 #[v, u] w fun e w' => e = .returned (.bool (eqA x y)) ∧ Below w.heap.size w w' := by
  have HC : Hid (∀ w1, KB w w1 → Calls Tryz.prog 98 #[v, u] w1 fun e w' => e = .returned (.tuple #[.int .i64 (cmpA x y).1, .bool (cmpA x y).2]) ∧ Below w1.heap.size w1 w') := Lib.hid fun w1 hK => compare_any x y v u w1 (hE.kb hK) hM hF hM' hF' (isV_below hK h) (isV_below hK h')
  obtain ⟨k, b, n, s, o, m, c, o2, m2, c2, rfl⟩ := isV_six h
  obtain ⟨k', b', n', s', o', m', c', o2', m2', c2', rfl⟩ := isV_six h'
  unfold eqA
  have HB := Lib.hid (two_boxes w #[.int .i8 k, .bool b, .int .i64 n, .string s, .slice o m c, .slice o2 m2 c2] #[.int .i8 k', .bool b', .int .i64 n', .string s', .slice o' m' c', .slice o2' m2' c2'] 64).1
  generalize cmpA x y = r at *
  obtain ⟨q, ok⟩ := r
  dsimp only at HC ⊢
  clear h h' hE hM hF hM' hF'
  cases ok with
  | false =>
    go_enter Tryz.func81, Tryz.ntmps81
    go_wp2_with (go_at_call 98; refine (HC.out _ HB.out).mono ?_; rintro e w5 ⟨rfl, hb5⟩)
    go_ret
    exact ⟨rfl, HB.out.trans (hb5.mono HB.out.size)⟩
  | true =>
    go_enter Tryz.func81, Tryz.ntmps81
    go_wp2_with (go_at_call 98; refine (HC.out _ HB.out).mono ?_; rintro e w5 ⟨rfl, hb5⟩)
    go_ret
    exact ⟨ret_bool (by simp), HB.out.trans (hb5.mono HB.out.size)⟩

noncomputable def lessA (x y : V) : Bool := (cmpA x y).2 && decide ((cmpA x y).1 < 0)
end Go.Proofs.YtoapaflcokhohaaGreatDoor

set_option linter.unusedVariables false
namespace Go.Proofs.YtoapaflcokhohaaGreatDoor
open Go.RowKit Go.Shelf

def E0' : ByteArray := ⟨#[]⟩
def nV (n : Int) : V := .mk 2 false n ⟨#[]⟩ [] []
def tV (s : ByteArray) : V := .mk 3 false 0 s [] []
def wA : V := .mk 5 false 0 ⟨#[]⟩ [nV 1, nV 2] [⟨#[97]⟩, ⟨#[98]⟩]
def wB : V := .mk 5 false 0 ⟨#[]⟩ [nV 2, nV 1] [⟨#[98]⟩, ⟨#[97]⟩]
theorem own_zero {x : V} (h1 : plainP x) (h2 : -9007199254740992 ≤ x.num ∧ x.num ≤ 9007199254740992) (h3 : validS x.text = true) (h4 : x.keys.all validS = true) (h5 : x.keys.Nodup) : ownW x = 0 := by
  unfold ownW
  rw [plain_yes h1, if_neg (by simp), if_neg (by omega), h3, if_neg (by simp), h4, if_neg (by simp), once_yes h5, if_neg (by simp)]
theorem wrong_n (n : Int) (h : -9007199254740992 ≤ n ∧ n ≤ 9007199254740992) : wrongV (nV n) = 0 := by
  unfold nV
  rw [wrongV, own_zero (x := .mk 2 false n ⟨#[]⟩ [] []) ⟨by omega, (by intro h; cases h), (fun _ => rfl), (fun h => absurd rfl h), (fun h => absurd rfl h), (by intro h; cases h), (fun _ => rfl)⟩ h rfl rfl List.nodup_nil, if_pos rfl, wrongVs]
theorem wrong_t (s : ByteArray) (h : validS s = true) : wrongV (tV s) = 0 := by
  unfold tV
  rw [wrongV, own_zero (x := .mk 3 false 0 s [] []) ⟨by omega, (by intro h; cases h), (fun h => absurd rfl h), (fun _ => rfl), (fun h => absurd rfl h), (by intro h; cases h), (fun _ => rfl)⟩ (by show (-9007199254740992 : Int) ≤ 0 ∧ (0 : Int) ≤ 9007199254740992; omega) h rfl List.nodup_nil, if_pos rfl, wrongVs]
theorem wrong_obj (x y : V) (s t : ByteArray) (hs : validS s = true) (ht : validS t = true) (hne : s ≠ t) (hx : wrongV x = 0) (hy : wrongV y = 0) : wrongV (.mk 5 false 0 ⟨#[]⟩ [x, y] [s, t]) = 0 := by
  rw [wrongV, own_zero (x := .mk 5 false 0 ⟨#[]⟩ [x, y] [s, t]) ⟨by omega, (by intro h; cases h), (fun h => absurd rfl h), (fun h => absurd rfl h), (fun _ => .inr rfl), (fun _ => rfl), (fun h => absurd rfl h)⟩ (by show (-9007199254740992 : Int) ≤ 0 ∧ (0 : Int) ≤ 9007199254740992; omega) rfl (by simp [V.keys, hs, ht]) (by simp [V.keys, hne]), if_pos rfl, wrongVs, hx, if_pos rfl, wrongVs, hy, if_pos rfl, wrongVs]
theorem sort_leaf (k : Int) (b : Bool) (n : Int) (s : ByteArray) : SortR (.mk k b n s [] []) (.mk k b n s [] []) :=
  SortR.mk k b n s [] [] [] [] [] ⟨List.Perm.refl _, fun _ => rfl, fun _ i j _ hj => absurd hj (by simp)⟩ rfl (fun i h => absurd h (by simp)) (by simp)
theorem sort_wA : SortR wA wA :=
  SortR.mk 5 false 0 ⟨#[]⟩ [nV 1, nV 2] [⟨#[97]⟩, ⟨#[98]⟩] [nV 1, nV 2] [⟨#[97]⟩, ⟨#[98]⟩] [0, 1] ⟨List.Perm.refl _, fun h => absurd rfl h, fun _ i j hi hj => by
      obtain rfl : i = 0 := by simp at hj; omega
      obtain rfl : j = 1 := by simp at hj; omega
      show ¬ cmpK ⟨#[98]⟩ ⟨#[97]⟩ < 0
      decide⟩ rfl (fun i h => by
      match i, h with
      | 0, _ => exact sort_leaf _ _ _ _
      | 1, _ => exact sort_leaf _ _ _ _) rfl
theorem sort_wB : SortR wB wA :=
  SortR.mk 5 false 0 ⟨#[]⟩ [nV 2, nV 1] [⟨#[98]⟩, ⟨#[97]⟩] [nV 1, nV 2] [⟨#[97]⟩, ⟨#[98]⟩] [1, 0] ⟨List.Perm.swap _ _ _, fun h => absurd rfl h, fun _ i j hi hj => by
      obtain rfl : i = 0 := by simp at hj; omega
      obtain rfl : j = 1 := by simp at hj; omega
      show ¬ cmpK ⟨#[98]⟩ ⟨#[97]⟩ < 0
      decide⟩ rfl (fun i h => by
      match i, h with
      | 0, _ => exact sort_leaf _ _ _ _
      | 1, _ => exact sort_leaf _ _ _ _) rfl
theorem wrong_wA : wrongV wA = 0 := wrong_obj _ _ _ _ rfl rfl (by decide) (wrong_n 1 (by omega)) (wrong_n 2 (by omega))
theorem wrong_wB : wrongV wB = 0 := wrong_obj _ _ _ _ rfl rfl (by decide) (wrong_n 2 (by omega)) (wrong_n 1 (by omega))
theorem depth_wA : depthV wA = 2 := rfl
theorem depth_wB : depthV wB = 2 := rfl
theorem pw_of {x : V} (h : wrongV x = 0) (hd : depthV x ≤ 24) : pwrongV x = 0 := by unfold pwrongV; rw [if_neg (by omega), h]
theorem cmpA_of {x y sx sy : V} (hx : wrongV x = 0) (hy : wrongV y = 0) (dx : depthV x ≤ 24) (dy : depthV y ≤ 24) (sx' : SortR x sx) (sy' : SortR y sy) : cmpA x y = (pcmpV sx sy, true) := by
  unfold cmpA
  rw [if_neg (by rw [pw_of hx dx, pw_of hy dy]; simp), psort_eq sx' (once_of_wrong hx), psort_eq sy' (once_of_wrong hy)]
theorem wake_eq : eqA wA wB = true := by
  unfold eqA
  rw [cmpA_of wrong_wA wrong_wB (by decide) (by decide) sort_wA sort_wB]
  rfl
theorem wake_less : lessA (nV 2) (tV ⟨#[97]⟩) = true := by
  unfold lessA
  rw [cmpA_of (wrong_n 2 (by omega)) (wrong_t ⟨#[97]⟩ rfl) (by decide) (by decide) (sort_leaf _ _ _ _) (sort_leaf _ _ _ _)]
  rfl
theorem fine_wA : fineV wA := by unfold fineV; decide
theorem fine_wB : fineV wB := by unfold fineV; decide
end Go.Proofs.YtoapaflcokhohaaGreatDoor

set_option linter.unusedVariables false
namespace Go.Proofs.YtoapaflcokhohaaGreatDoor
open Go.RowKit Go.Shelf

theorem obj_isV {W : World} {gL gK : Nat} {t t' : TypeId} (n1 n2 : Int) (h1 : -9223372036854775808 ≤ n1 ∧ n1 ≤ 9223372036854775807) (h2 : -9223372036854775808 ≤ n2 ∧ n2 ≤ 9223372036854775807) (s1 s2 : ByteArray) (hs1 : s1.size ≤ maxLen) (hs2 : s2.size ≤ maxLen)
    (hL : W.heap[gL]? = some (.cells #[.int .i8 2, .bool false, .int .i64 n1, .string ⟨#[]⟩, .slice none 0 0, .slice none 0 0, .int .i8 2, .bool false, .int .i64 n2, .string ⟨#[]⟩, .slice none 0 0, .slice none 0 0] t (0, 0))) (hK : W.heap[gK]? = some (.cells #[.string s1, .string s2] t' (0, 0))) :
    isV W (.mk 5 false 0 ⟨#[]⟩ [nV n1, nV n2] [s1, s2]) (.agg #[.int .i8 5, .bool false, .int .i64 0, .string ⟨#[]⟩, .slice (some ⟨gL, 0, none⟩) 2 2, .slice (some ⟨gK, 0, none⟩) 2 2]) := by
  have cl : ∀ i, i < 12 → W.cell? ⟨gL, i, none⟩ = (#[.int .i8 2, .bool false, .int .i64 n1, .string ⟨#[]⟩, .slice none 0 0, .slice none 0 0, .int .i8 2, .bool false, .int .i64 n2, .string ⟨#[]⟩, .slice none 0 0, .slice none 0 0] : Array Value)[i]? := fun i _ => by unfold World.cell?; simp [hL]
  have ck : ∀ i, i < 2 → W.cell? ⟨gK, i, none⟩ = (#[.string s1, .string s2] : Array Value)[i]? := fun i _ => by unfold World.cell?; simp [hK]
  unfold isV
  refine ⟨_, _, rfl, by omega, by omega, by decide, ⟨⟨gL, 0, none⟩, 2, ⟨_, rfl, Nat.le_refl _, by unfold maxLen; decide, fun _ => rfl⟩, ?_⟩, ⟨⟨gK, 0, none⟩, 2, ⟨_, rfl, Nat.le_refl _, by unfold maxLen; decide, fun _ => rfl⟩, ?_⟩⟩
  · unfold isVs
    refine ⟨⟨_, _, _, _, _, _, cl 0 (by decide), cl 1 (by decide), cl 2 (by decide), cl 3 (by decide), cl 4 (by decide), cl 5 (by decide), isV_leaf _ 2 false n1 ⟨#[]⟩ (by omega) h1 (by decide)⟩, ?_⟩
    unfold isVs
    refine ⟨⟨_, _, _, _, _, _, cl 6 (by decide), cl 7 (by decide), cl 8 (by decide), cl 9 (by decide), cl 10 (by decide), cl 11 (by decide), isV_leaf _ 2 false n2 ⟨#[]⟩ (by omega) h2 (by decide)⟩, ?_⟩
    unfold isVs
    trivial
  · intro i hi
    match i, hi with
    | 0, _ => exact ⟨ck 0 (by decide), hs1⟩
    | 1, _ => exact ⟨ck 1 (by decide), hs2⟩

end Go.Proofs.YtoapaflcokhohaaGreatDoor

set_option linter.unusedVariables false
namespace Go.Proofs.YtoapaflcokhohaaGreatDoor
open Go.RowKit Go.Shelf

theorem wt_fine : ∀ (left : Nat) (x : V), wtV left x ≤ 5000 → fineV x
  | 0, x, h => by unfold wtV at h; omega
  | left + 1, x, h => by
    obtain ⟨k, b, n, s, l, ks⟩ := x
    unfold wtV at h
    split at h
    · omega
    · rename_i hc
      simp only [V.list, V.text, V.keys] at h hc
      have hf := fold_small (wtV left) l _ h
      rw [hf] at h
      intro z hz
      rw [walkV] at hz
      rcases List.mem_cons.1 hz with rfl | hz
      · simp only [V.keys]; omega
      · obtain ⟨y, hy, hzy⟩ := walkVs_mem hz
        exact wt_fine left y (by have := mem_sum_le (wtV left) l y hy; omega) z hzy
theorem great_fine {x : V} (h : greatB x = false) : fineV x := wt_fine 30 x (by
  have h1 : ¬ 5000 < wtV 30 x := of_decide_eq_false h
  omega)

noncomputable def pcheckV (x : V) : Int := if pwrongV x ≠ 0 then pwrongV x else if 4096 < countV x then 3 else 0

set_option maxRecDepth 100000 in
set_option maxHeartbeats 4000000 in
theorem pcheck_any (x : V) (v : Value) (w : World) (hE : Env w) (hM : sizeV x ≤ 1000000) (hF : fineV x) (h : isV w x v) :
    Calls Tryz.prog 103 #[v] w fun e w' => e = .returned (.int .i64 (pcheckV x)) ∧ Below w.heap.size w w' := by
  have hcle : countV x ≤ 1000000 := Nat.le_trans (count_le_size x) hM
  have hC : pcheckV x = if pwrongV x ≠ 0 then pwrongV x else if 4096 < countV x then 3 else 0 := rfl
  obtain ⟨k, b, n, s, o, m, c, o2, m2, c2, rfl⟩ := isV_six h
  have HB0 : Hid (KB w (w.alloc (.cells #[.int .i8 k, .bool b, .int .i64 n, .string s, .slice o m c, .slice o2 m2 c2] 64))) := Lib.hid kbA
  have P2 : Hid (∀ w1, KB (w.alloc (.cells #[.int .i8 k, .bool b, .int .i64 n, .string s, .slice o m c, .slice o2 m2 c2] 64)) w1 → Calls Tryz.prog 109 #[.agg #[.int .i8 k, .bool b, .int .i64 n, .string s, .slice o m c, .slice o2 m2 c2]] w1 fun e w' => e = .returned (.int .i64 (pwrongV x)) ∧ KB (w.alloc (.cells #[.int .i8 k, .bool b, .int .i64 n, .string s, .slice o m c, .slice o2 m2 c2] 64)) w') := Lib.hid fun w1 hK => Calls.kb hK (pwrong_any x _ w1 ((hE.kb kbA).kb hK) hM hF (isV_below hK (isV_below kbA h)))
  have P3 : Hid (∀ w1, KB (w.alloc (.cells #[.int .i8 k, .bool b, .int .i64 n, .string s, .slice o m c, .slice o2 m2 c2] 64)) w1 → Calls Tryz.prog 114 #[.agg #[.int .i8 k, .bool b, .int .i64 n, .string s, .slice o m c, .slice o2 m2 c2]] w1 fun e w' => e = .returned (.int .i64 (countV x)) ∧ KB (w.alloc (.cells #[.int .i8 k, .bool b, .int .i64 n, .string s, .slice o m c, .slice o2 m2 c2] 64)) w') := Lib.hid fun w1 hK => Calls.kb hK (pcount_any x _ w1 hM (isV_below hK (isV_below kbA h)))
  have HC : Hid (∀ w1, KB (w.alloc (.cells #[.int .i8 k, .bool b, .int .i64 n, .string s, .slice o m c, .slice o2 m2 c2] 64)) w1 → w1.cell? ⟨w.heap.size, 0, none⟩ = some (.int .i8 k) ∧ w1.cell? ⟨w.heap.size, 1, none⟩ = some (.bool b) ∧ w1.cell? ⟨w.heap.size, 2, none⟩ = some (.int .i64 n) ∧ w1.cell? ⟨w.heap.size, 3, none⟩ = some (.string s) ∧ w1.cell? ⟨w.heap.size, 4, none⟩ = some (.slice o m c) ∧ w1.cell? ⟨w.heap.size, 5, none⟩ = some (.slice o2 m2 c2)) := Lib.hid fun w1 hK =>
    ⟨cell_below hK _ _ (by simp), cell_below hK _ _ (by simp), cell_below hK _ _ (by simp), cell_below hK _ _ (by simp), cell_below hK _ _ (by simp), cell_below hK _ _ (by simp)⟩
  obtain ⟨y, hy⟩ : ∃ y, pcheckV x = y := ⟨_, rfl⟩
  rw [hy] at hC ⊢
  obtain ⟨E, hEE⟩ : ∃ E, pwrongV x = E := ⟨_, rfl⟩
  obtain ⟨C, hCC⟩ : ∃ C, countV x = C := ⟨_, rfl⟩
  rw [hEE, hCC] at hC
  rw [hEE] at P2
  rw [hCC] at P3 hcle
  clear h hE hM hF hy hEE hCC
  by_cases hE0 : E ≠ 0
  · have HY : Hid (y = E) := Lib.hid (hC.trans (if_pos hE0))
    have z1 : (E == 0) = false := beqI hE0
    have z2 : (E != 0) = true := bne_iff_ne.2 hE0
    clear hC hE0
    go_enter Tryz.func103, Tryz.ntmps103
    go_wp2_with fail
    refine (P2.out _ (Below.refl _ _)).mono ?_
    rintro e w5 ⟨rfl, hb5⟩
    go_wp2_with fail
    go_ret
    exact ⟨ret_int (by rw [HY.out]), HB0.out.trans (hb5.mono HB0.out.size)⟩
  · obtain rfl : E = 0 := Decidable.not_not.1 hE0
    rw [if_neg hE0] at hC
    have HY : Hid (y = if 4096 < C then 3 else 0) := Lib.hid hC
    clear hC hE0
    by_cases hc : 4096 < C
    · have c1 : decide ((4096 : Int) < (C : Int)) = true := decide_eq_true (by omega)
      have HZ : Hid (y = 3) := Lib.hid (HY.out.trans (if_pos hc))
      clear hc
      go_enter Tryz.func103, Tryz.ntmps103
      go_wp2_with fail
      refine (P2.out _ (Below.refl _ _)).mono ?_
      rintro e w5 ⟨rfl, hb5⟩
      obtain ⟨m0, m1, m2, m3, m4, m5⟩ := HC.out w5 hb5
      go_wp2_with (go_at_call 114; (refine (P3.out _ hb5).mono ?_); rintro e w6 ⟨rfl, hb6⟩)
      go_ret
      exact ⟨ret_int (by rw [HZ.out]), HB0.out.trans (hb6.mono HB0.out.size)⟩
    · have c1 : decide ((4096 : Int) < (C : Int)) = false := decide_eq_false (by omega)
      have HZ : Hid (y = 0) := Lib.hid (HY.out.trans (if_neg hc))
      clear hc
      go_enter Tryz.func103, Tryz.ntmps103
      go_wp2_with fail
      refine (P2.out _ (Below.refl _ _)).mono ?_
      rintro e w5 ⟨rfl, hb5⟩
      obtain ⟨m0, m1, m2, m3, m4, m5⟩ := HC.out w5 hb5
      go_wp2_with (go_at_call 114; (refine (P3.out _ hb5).mono ?_); rintro e w6 ⟨rfl, hb6⟩)
      go_ret
      exact ⟨ret_int (by rw [HZ.out]), HB0.out.trans (hb6.mono HB0.out.size)⟩

/-- There are places. -/
theorem ord_some (x : V) : ∃ ps, isOrd x ps := by
  by_cases hk : x.kind = 5
  · refine ⟨(List.range x.list.length).mergeSort (fun i j => !decide (cmpK (x.keys.getD j ⟨#[]⟩) (x.keys.getD i ⟨#[]⟩) < 0)), List.mergeSort_perm _ _, fun h => absurd hk h, fun _ i j hi hj => ?_⟩
    have hs := List.pairwise_mergeSort (le := fun i j => !decide (cmpK (x.keys.getD j ⟨#[]⟩) (x.keys.getD i ⟨#[]⟩) < 0)) (by
      intro a b c h1 h2
      simp only [Bool.not_eq_true', decide_eq_false_iff_not, cmpK_neg] at h1 h2 ⊢
      exact fun h3 => absurd (List.le_trans h1 h2) (by simpa using h3)) (by
      intro a b
      simp only [Bool.or_eq_true, Bool.not_eq_true', decide_eq_false_iff_not, cmpK_neg]
      rcases List.le_total (x.keys.getD a ⟨#[]⟩).data.toList (x.keys.getD b ⟨#[]⟩).data.toList with h | h
      · exact .inl h
      · exact .inr h) (List.range x.list.length)
    have := (List.pairwise_iff_getElem.1 hs) i j (by omega) hj hi
    simpa using this
  · exact ⟨List.range x.list.length, List.Perm.refl _, fun _ => rfl, fun h => absurd h hk⟩
theorem sort_some : ∀ (N : Nat) (x : V), sizeV x ≤ N → SortR x (psortV x)
  | 0, x, h => absurd (sizeV_pos x) (by omega)
  | N + 1, x, h => by
    obtain ⟨ps, hps⟩ := ord_some x
    have hlt : ∀ i, i < ps.length → ps.getD i 0 < x.list.length := fun i hi => ord_lt hps hi
    obtain ⟨k, b, n, s, l, ks⟩ := x
    simp only [V.list] at hlt
    refine Classical.epsilon_spec (p := fun y => SortR (.mk k b n s l ks) y) ⟨_, SortR.mk k b n s l ks (ps.map fun p => psortV (l.getD p default)) (if k = 5 then ps.map (fun p => ks.getD p ⟨#[]⟩) else ks) ps hps (by simp) (fun i hi => ?_) rfl⟩
    have hi' : i < ps.length := by simpa using hi
    rw [List.getElem_map, getD_lt ps i 0 hi']
    refine sort_some N _ ?_
    have hp := hlt i hi'
    rw [getD_lt ps i 0 hi'] at hp
    rw [getD_lt l _ _ hp]
    have := sizeVs_get l _ hp
    unfold sizeV at h
    omega
theorem sort_p (x : V) : SortR x (psortV x) := sort_some _ x (Nat.le_refl _)

def wrapL (x : V) : V := .mk 4 false 0 ⟨#[]⟩ [x] []
def wrapO (s : ByteArray) (x : V) : V := .mk 5 false 0 ⟨#[]⟩ [x] [s]
theorem sort_wrapL {x y : V} (h : SortR x y) : SortR (wrapL x) (wrapL y) :=
  SortR.mk 4 false 0 ⟨#[]⟩ [x] [] [y] [] [0] ⟨List.Perm.refl _, fun _ => rfl, fun h => absurd h (by show ¬ (4 : Int) = 5; decide)⟩ rfl (fun i hi => by
    obtain rfl : i = 0 := by simp at hi; exact hi
    exact h) rfl
theorem sort_wrapO (s : ByteArray) {x y : V} (h : SortR x y) : SortR (wrapO s x) (wrapO s y) :=
  SortR.mk 5 false 0 ⟨#[]⟩ [x] [s] [y] [s] [0] ⟨List.Perm.refl _, fun h => absurd rfl h, fun _ i j hi hj => absurd hj (by simp; omega)⟩ rfl (fun i hi => by
    obtain rfl : i = 0 := by simp at hi; exact hi
    exact h) rfl
theorem pcmp_wrapL (x y : V) : pcmpV (wrapL x) (wrapL y) = pcmpV x y := by
  unfold wrapL
  rw [pcmpV_mk, if_neg (by simp), if_neg (by decide), if_neg (by decide), if_neg (by decide), if_neg (by decide), pcmpVs]
  split
  · rename_i h; rw [pcmpVs, h]
  · rfl
theorem pcmp_wrapO (s : ByteArray) (x y : V) : pcmpV (wrapO s x) (wrapO s y) = pcmpV x y := by
  unfold wrapO
  rw [pcmpV_mk, if_neg (by simp), if_neg (by decide), if_neg (by decide), if_neg (by decide), if_pos rfl, if_pos (by rw [cmpKs, if_pos ((cmpK_zero s s).2 rfl), cmpKs]), pcmpVs]
  split
  · rename_i h; rw [pcmpVs, h]
  · rfl
theorem pcheck_zero {x : V} (h : pcheckV x = 0) : wrongV x = 0 ∧ depthV x ≤ 24 ∧ countV x ≤ 4096 := by
  unfold pcheckV at h
  by_cases h1 : pwrongV x ≠ 0
  · rw [if_pos h1] at h; exact absurd h h1
  · rw [if_neg h1] at h
    obtain ⟨h2, h3⟩ := pwrong_zero (Decidable.not_not.1 h1)
    refine ⟨h2, h3, ?_⟩
    by_cases hc : 4096 < countV x
    · rw [if_pos hc] at h; omega
    · omega
theorem pcheck_part {k n : Int} {b : Bool} {s : ByteArray} {x : V} {ks : List ByteArray} (h : pcheckV (.mk k b n s [x] ks) = 0) : pcheckV x = 0 := by
  obtain ⟨h1, h2, h3⟩ := pcheck_zero h
  have hw : wrongV x = 0 := by
    rw [wrongV] at h1
    by_cases h0 : ownW (.mk k b n s [x] ks) = 0
    · rw [if_pos h0, wrongVs] at h1
      by_cases h4 : wrongV x = 0
      · exact h4
      · rw [if_neg h4] at h1; exact h1
    · rw [if_neg h0] at h1; exact absurd h1 h0
  have hd : depthV x ≤ 24 := by simp only [depthV, depthVs] at h2; omega
  have hc : countV x ≤ 4096 := by simp only [countV, countVs] at h3; omega
  unfold pcheckV
  rw [if_neg (by rw [pw_of hw hd]; simp), if_neg (by omega)]
theorem cmpA_wrapL {x y : V} (hx : pcheckV (wrapL x) = 0) (hy : pcheckV (wrapL y) = 0) : cmpA (wrapL x) (wrapL y) = cmpA x y := by
  obtain ⟨a1, a2, _⟩ := pcheck_zero hx
  obtain ⟨b1, b2, _⟩ := pcheck_zero hy
  obtain ⟨c1, c2, _⟩ := pcheck_zero (pcheck_part hx)
  obtain ⟨d1, d2, _⟩ := pcheck_zero (pcheck_part hy)
  rw [cmpA_of a1 b1 a2 b2 (sort_wrapL (sort_p x)) (sort_wrapL (sort_p y)), cmpA_of c1 d1 c2 d2 (sort_p x) (sort_p y), pcmp_wrapL]
theorem cmpA_wrapO (s : ByteArray) {x y : V} (hx : pcheckV (wrapO s x) = 0) (hy : pcheckV (wrapO s y) = 0) : cmpA (wrapO s x) (wrapO s y) = cmpA x y := by
  obtain ⟨a1, a2, _⟩ := pcheck_zero hx
  obtain ⟨b1, b2, _⟩ := pcheck_zero hy
  obtain ⟨c1, c2, _⟩ := pcheck_zero (pcheck_part hx)
  obtain ⟨d1, d2, _⟩ := pcheck_zero (pcheck_part hy)
  rw [cmpA_of a1 b1 a2 b2 (sort_wrapO s (sort_p x)) (sort_wrapO s (sort_p y)), cmpA_of c1 d1 c2 d2 (sort_p x) (sort_p y), pcmp_wrapO]
theorem size_E : (⟨#[]⟩ : ByteArray).size = 0 := rfl
theorem size_wrapL (x : V) : sizeV (wrapL x) = sizeV x + 1 := by unfold wrapL; simp only [sizeV, sizeVs, keysS, size_E]; simp; omega
theorem size_wrapO (s : ByteArray) (x : V) : sizeV (wrapO s x) = sizeV x + s.size + 1 := by unfold wrapO; simp only [sizeV, sizeVs, keysS, size_E]; simp; omega
theorem count_wrapL (x : V) : countV (wrapL x) = countV x + 1 := by unfold wrapL; simp only [countV, countVs]; omega
theorem count_wrapO (s : ByteArray) (x : V) : countV (wrapO s x) = countV x + 1 := by unfold wrapO; simp only [countV, countVs]; omega
theorem depth_wrapL (x : V) : depthV (wrapL x) = depthV x + 1 := by unfold wrapL; simp only [depthV, depthVs]; omega
theorem depth_wrapO (s : ByteArray) (x : V) : depthV (wrapO s x) = depthV x + 1 := by unfold wrapO; simp only [depthV, depthVs]; omega
theorem fine_wrap {k n : Int} {b : Bool} {s : ByteArray} {x : V} {ks : List ByteArray} (hk : ks.length ≤ 1) (h : fineV x) : fineV (.mk k b n s [x] ks) := by
  intro z hz
  rw [walkV] at hz
  rcases List.mem_cons.1 hz with rfl | hz
  · simp only [V.keys]; omega
  · obtain ⟨y, hy, hzy⟩ := walkVs_mem hz
    obtain rfl : y = x := by simpa using hy
    exact h z hzy
end Go.Proofs.YtoapaflcokhohaaGreatDoor
