/-
  Lines and columns, the program's and the reference's. · parse.Value and the reference's Value at any place. · ParseValues: the law.
-/
import Derived.Test.YtgbagdfcdljleaaGreatDoorJA
import Derived.Test.YtgbagdfcdljleaaGreatDoorJB
import Derived.Test.YtgbagdfcdljleaaGreatDoorJV
import Derived.Test.YtgbagdfcdljleaaGreatDoorTB
set_option linter.unusedVariables false
set_option linter.unusedSimpArgs false
namespace Go.Proofs.YtgbagdfcdljleaaGreatDoor
open Go.RowKit Go.Maps

theorem lastIdx_same (s t : ByteArray) (c : Int) : ∀ k, (∀ j, j < k → s.data[j]! = t.data[j]!) → Lib.lastIdx s c k = Lib.lastIdx t c k
  | 0, _ => rfl
  | k + 1, h => by
    rw [Lib.lastIdx, Lib.lastIdx, h k (Nat.lt_succ_self k), lastIdx_same s t c k (fun j hj => h j (by omega))]
theorem lastIdx_lo (s : ByteArray) (c : Int) (k : Nat) : -1 ≤ Lib.lastIdx s c k ∧ Lib.lastIdx s c k < k := by
  rcases Lib.lastIdx_spec s c k with ⟨e, _⟩ | ⟨i, hi, e, _⟩
  · rw [e]; omega
  · rw [e]; omega
/-- The line and the column at a place. -/
def linN (s : ByteArray) (n : Nat) : Nat := (s.data.toList.take n).count 10 + 1
def colN (s : ByteArray) (n : Nat) : Int := (n : Int) - Lib.lastIdx s 10 n
theorem ext_take (s : ByteArray) (n : Nat) : (s.extract 0 n).data.toList = s.data.toList.take n := by
  rw [ByteArray.data_extract, Array.toList_extract]
  simp
theorem ext_last (s : ByteArray) {n : Nat} (h : n ≤ s.size) : Lib.lastIndexByte (s.extract 0 n) 10 = Lib.lastIdx s 10 n := by
  unfold Lib.lastIndexByte
  rw [ByteArray.size_extract, show min n s.size - 0 = n by omega]
  refine lastIdx_same _ _ _ _ fun j hj => ?_
  have h1 : j < s.data.size := by have : s.data.size = s.size := rfl; omega
  have h2 : j < (s.extract 0 n).data.size := by
    have : (s.extract 0 n).data.size = (s.extract 0 n).size := rfl
    rw [this, ByteArray.size_extract]; omega
  rw [getElem!_pos _ j h2, getElem!_pos _ j h1]
  have h3 : (s.extract 0 n).data[j]? = s.data[j]? := by
    rw [← Array.getElem?_toList, ← Array.getElem?_toList, ext_take, List.getElem?_take, if_pos hj]
  rw [Array.getElem?_eq_getElem h2, Array.getElem?_eq_getElem h1] at h3
  exact Option.some.inj h3
theorem linN_le (s : ByteArray) (n : Nat) : linN s n ≤ s.size + 1 := by
  unfold linN
  have h1 := List.count_le_length (a := (10 : UInt8)) (l := s.data.toList.take n)
  have h2 : (s.data.toList.take n).length ≤ s.data.toList.length := by rw [List.length_take]; omega
  rw [toList_length] at h2
  omega
set_option maxRecDepth 100000 in
set_option maxHeartbeats 1000000 in
theorem Line_any (s : ByteArray) (at_ : Int) (hs : s.size ≤ 1000000) (w : World) :
    Calls Tryz.prog 8 #[.string s, .int .i64 at_] w fun e w' => e = .returned (.tuple #[.int .i64 (linN s (wiN s.size at_) : Nat), .int .i64 (colN s (wiN s.size at_))]) ∧ w' = w := by
  obtain ⟨n, hn⟩ : ∃ n, wiN s.size at_ = n := ⟨_, rfl⟩
  have hns : n ≤ s.size := hn ▸ wiN_le _ _
  have HW : Hid (∀ w, Calls Tryz.prog 22 #[.string s, .int .i64 at_] w fun e w' => e = .returned (.int .i64 (n : Nat)) ∧ w' = w) := Lib.hid (fun w => by
    have := within_any s at_ (by omega) w
    rwa [hn] at this)
  rw [hn]
  obtain ⟨S, hS⟩ : ∃ S, s.extract 0 n = S := ⟨_, rfl⟩
  have hSz : S.size = n := by rw [← hS, ByteArray.size_extract]; omega
  obtain ⟨ct, hct⟩ : ∃ ct : Nat, Lib.countByte S.data.toList 10 = ct := ⟨_, rfl⟩
  have hlin : linN s n = ct + 1 := by
    unfold linN
    rw [← hct, ← hS, ext_take]
    rfl
  have hlinle := linN_le s n
  obtain ⟨li, hli⟩ : ∃ li, Lib.lastIdx s 10 n = li := ⟨_, rfl⟩
  have hlo := lastIdx_lo s 10 n
  have hlast := ext_last s hns
  rw [hS, hli] at hlast
  rw [hli] at hlo
  have hcol : colN s n = (n : Int) - li := by unfold colN; rw [hli]
  have HC : Hid (∀ w, Calls Tryz.prog 23 #[.string S, .string ⟨#[10]⟩] w fun e w' => e = .returned (.int .i64 (ct : Nat)) ∧ w' = w) := Lib.hid (fun w => by
    have := Tryz.strings_Count_one S 10 w
    rwa [hct] at this)
  have HL : Hid (∀ w, Calls Tryz.prog 24 #[.string S, .int .u8 10] w fun e w' => e = .returned (.int .i64 li) ∧ w' = w) := Lib.hid (fun w => by
    have := Tryz.strings_LastIndexByte S 10 (by omega) w
    rwa [hlast] at this)
  rw [hlin, hcol]
  rw [hlin] at hlinle
  rw [← hS] at HC HL hSz
  have hSz' : (((s.extract 0 n).size : Nat) : Int) = (n : Int) := by omega
  clear hn hS hct hlin hlast hcol hli
  go_enter Tryz.func8, Tryz.ntmps8
  go_wp2_with first | (go_at_call 22; refine (HW.out _).mono ?_; rintro e w' ⟨rfl, h0⟩; have h0 := h0.symm; subst h0) | (go_at_call 23; refine (HC.out _).mono ?_; rintro e w' ⟨rfl, h0⟩; have h0 := h0.symm; subst h0) | (go_at_call 24; refine (HL.out _).mono ?_; rintro e w' ⟨rfl, h0⟩; have h0 := h0.symm; subst h0)
  refine bodyPost_ret (v := .tuple #[.int .i64 ((ct : Int) + 1), .int .i64 ((n : Int) - li)]) (by simp [results, Tryz.results8, go_sem]) rfl ?_
  exact ⟨rfl, rfl⟩
set_option maxRecDepth 100000 in
set_option maxHeartbeats 1000000 in
theorem rLine_any (s : ByteArray) (at_ : Int) (hs : s.size ≤ 1000000) (w : World) :
    Calls Tryz.prog 9 #[.string s, .int .i64 at_] w fun e w' => e = .returned (.tuple #[.int .i64 (linN s (wiN s.size at_) : Nat), .int .i64 (colN s (wiN s.size at_))]) ∧ w' = w := by
  obtain ⟨n, hn⟩ : ∃ n, wiN s.size at_ = n := ⟨_, rfl⟩
  have hns : n ≤ s.size := hn ▸ wiN_le _ _
  have hmm : min (max at_ 0) (s.size : Int) = (n : Int) := by unfold wiN at hn; omega
  rw [hn]
  clear hn
  go_enter Tryz.func9, Tryz.ntmps9
  go_wp2_with fail
  go_loop [6, 7, 8] (fun a b i => ∃ (j l : Nat) (c : Int), j ≤ n ∧ i = .int .i64 j ∧ a = .int .i64 l ∧ b = .int .i64 c ∧ Hid (l = linN s j ∧ c = colN s j) ∧ l ≤ 1000001 ∧ 0 ≤ c ∧ c ≤ j + 1) (fun a b i => n - (intOf i).toNat)
  case atStart => exact ⟨0, 1, 1, Nat.zero_le _, rfl, rfl, rfl, Lib.hid ⟨rfl, rfl⟩, by decide, by decide, by decide⟩
  case round =>
    obtain ⟨j, l, c, hj, rfl, rfl, rfl, HLC, hl, hc0, hc1⟩ := hrel
    by_cases hlt : j < n
    · have hjs : j < s.size := by omega
      have hji : (j : Int) < (n : Int) := by omega
      have hb : s.data[j]! = s[j] := by rw [getElem!_pos s.data j (by simpa using hjs)]; rfl
      have htk : s.data.toList.take (j + 1) = s.data.toList.take j ++ [s[j]] := by
        rw [List.take_succ_eq_append_getElem (by rw [toList_length]; exact hjs)]; rfl
      by_cases h10 : ((s[j]).toNat : Int) = 10
      · have t1 : (((s[j]).toNat : Int) == 10) = true := beq_iff_eq.2 h10
        have h11 : s[j] = 10 := UInt8.toNat_inj.1 (by show _ = 10; omega)
        have HN : Hid (l + 1 = linN s (j + 1) ∧ (1 : Int) = colN s (j + 1)) := Lib.hid (by
          refine ⟨?_, ?_⟩
          · rw [HLC.out.1]
            unfold linN
            rw [htk, List.count_append, h11]
            simp
          · unfold colN
            rw [Lib.lastIdx_hit s 10 j (by rw [hb]; exact h10)]
            omega)
        have hl2 : l + 1 ≤ 1000001 := by
          rw [HN.out.1]
          have := linN_le s (j + 1)
          omega
        clear hb htk h10 h11
        go_wp2_with fail
        go_round
        case rel => exact ⟨j + 1, l + 1, 1, by omega, by go_num, by go_num, rfl, HN, hl2, by omega, by omega⟩
        case measure => simp [intOf]; omega
      · have t1 : (((s[j]).toNat : Int) == 10) = false := beq_eq_false_iff_ne.2 h10
        have h11 : s[j] ≠ 10 := fun e => h10 (by rw [e]; rfl)
        have HN : Hid (l = linN s (j + 1) ∧ c + 1 = colN s (j + 1)) := Lib.hid (by
          refine ⟨?_, ?_⟩
          · rw [HLC.out.1]
            unfold linN
            rw [htk, List.count_append]
            simp [List.count_cons, h11]
          · rw [HLC.out.2]
            unfold colN
            rw [Lib.lastIdx_miss s 10 j (by rw [hb]; exact h10)]
            omega)
        clear hb htk h10 h11
        go_wp2_with fail
        go_round
        case rel => exact ⟨j + 1, l, c + 1, by omega, by go_num, rfl, by go_num, HN, hl, by omega, by omega⟩
        case measure => simp [intOf]; omega
    · obtain rfl : j = n := by omega
      go_wp2_with fail
      refine bodyPost_ret (v := .tuple #[.int .i64 (l : Nat), .int .i64 c]) (by simp [results, Tryz.results9, go_sem]) rfl ?_
      exact ⟨by rw [← HLC.out.1, ← HLC.out.2], rfl⟩
end Go.Proofs.YtgbagdfcdljleaaGreatDoor

namespace Go.Proofs.YtgbagdfcdljleaaGreatDoor
open Go.RowKit Go.Maps

/-- Is a place none of the text's? -/
def offP (s : ByteArray) (k : Int) : Prop := k < 0 ∨ (s.size : Int) < k
set_option maxRecDepth 100000 in
set_option maxHeartbeats 4000000 in
theorem begin_off {W : World} {b : Nat} {s : ByteArray} {k d : Int} {u : Value} (c0 : W.cell? ⟨b, 0, none⟩ = some (.string s)) (c1 : W.cell? ⟨b, 1, none⟩ = some (.int .i64 k)) (hk : offP s k) (hs : s.size ≤ 200000) :
    Calls Tryz.prog 26 #[.pointer (some ⟨b, 0, none⟩)] W fun e W' => e = faulted s.size 40 ∧ Below W.heap.size W W' := by
  have kx : Below W.heap.size W (W.alloc (.cells #[.int .i8 0, .bool false, .int .i64 0, .string ⟨#[]⟩, .slice none 0 0, .slice none 0 0] 28)) := (Below.refl _ W).alloc (Nat.le_refl _) _
  have c0 := cell_below kx _ _ c0
  have c1 := cell_below kx _ _ c1
  have KX := Lib.hid kx
  clear kx
  unfold faulted
  by_cases h0 : k < 0
  · have g0 : decide (k < 0) = true := decide_eq_true h0
    clear hk h0
    go_enter Tryz.func26, Tryz.ntmps26
    go_wp2_with fail
    first | go_quiet (fail) | skip
    go_wp2_with fail
    first | exact ⟨rfl, rfl, KX.out⟩ | exact ⟨rfl, rfl, below_dN KX.out _⟩
  · have g0 : decide (k < 0) = false := decide_eq_false h0
    have g1 : decide ((s.size : Int) ≤ k) = true := decide_eq_true (by unfold offP at hk; omega)
    clear hk h0
    go_enter Tryz.func26, Tryz.ntmps26
    go_wp2_with fail
    first | go_quiet (fail) | skip
    go_wp2_with fail
    first | exact ⟨rfl, rfl, KX.out⟩ | exact ⟨rfl, rfl, below_dN KX.out _⟩
set_option maxRecDepth 100000 in
set_option maxHeartbeats 4000000 in
theorem value_off {W : World} {b : Nat} {s : ByteArray} {k : Int} (c0 : W.cell? ⟨b, 0, none⟩ = some (.string s)) (c1 : W.cell? ⟨b, 1, none⟩ = some (.int .i64 k)) (hk : offP s k) (hs : s.size ≤ 200000) :
    Calls Tryz.prog 15 #[.pointer (some ⟨b, 0, none⟩)] W fun e W' => e = faulted s.size 40 ∧ Below W.heap.size W W' := by
  have kx : Below W.heap.size W (W.alloc (.cells #[.int .i8 0, .bool false, .int .i64 0, .string ⟨#[]⟩, .slice none 0 0, .slice none 0 0] 28)) := (Below.refl _ W).alloc (Nat.le_refl _) _
  have HB := Lib.hid (begin_off (d := 0) (u := .bool false) (cell_below kx _ _ c0) (cell_below kx _ _ c1) hk hs)
  have KX := Lib.hid kx
  obtain ⟨W1, hW1⟩ : ∃ W1, W1 = W.alloc (.cells #[.int .i8 0, .bool false, .int .i64 0, .string ⟨#[]⟩, .slice none 0 0, .slice none 0 0] 28) := ⟨_, rfl⟩
  rw [← hW1] at HB KX
  have HW1 := Lib.hid hW1
  clear kx c0 c1 hk hs hW1
  go_enter Tryz.func15, Tryz.ntmps15
  go_wp2_with fail
  rw [← HW1.out]
  go_loopw [4] (fun w4 wr => wr = W1) (fun _ _ => 0)
  case atStart => rfl
  case round =>
    have hw := hrel
    subst hw
    go_wp2_with fail
    refine HB.out.mono ?_
    rintro e W2 ⟨rfl, hb2⟩
    exact ⟨rfl, rfl, KX.out.trans (hb2.mono KX.out.size)⟩
set_option maxRecDepth 100000 in
set_option maxHeartbeats 4000000 in
theorem Value_off (s : ByteArray) (k d : Int) (hk : offP s k) (hs : s.size ≤ 50000) (w : World) :
    Calls Tryz.prog 6 #[.string s, .int .i64 k, .int .i64 d] w fun e w' => AnsR w (.error (s.size, 40)) e w' := by
  have hmf : ∀ (fn : Fn) (first cap : Array Value) (w : World), (Instr.makeFunc fn first cap).run Tryz.prog w = .ok (.func fn first cap) w := fun _ _ _ _ => rfl
  obtain ⟨A3, hA3⟩ : ∃ A, A = (((w.alloc (.cells #[.int .i8 0, .bool false, .int .i64 0, .string ⟨#[]⟩, .slice none 0 0, .slice none 0 0] 28)).alloc (.cells #[.int .i64 0] 3)).alloc (.cells #[.int .i64 0] 29)) := ⟨_, rfl⟩
  have hs3 : A3.heap.size = w.heap.size + 3 := by rw [hA3]; simp
  have hb3 : Below w.heap.size w A3 := by rw [hA3]; exact (((Below.refl _ w).alloc (Nat.le_refl _) _).alloc (by simp) _).alloc (by simp; omega) _
  have bp : Bx A3 w.heap.size zeroC 28 := by rw [hA3]; exact ((Bx.new w _ _).alloc _).alloc _
  have bq : Bx A3 (w.heap.size + 1) #[.int .i64 0] 3 := by
    rw [hA3]
    have := Bx.new (w.alloc (.cells #[.int .i8 0, .bool false, .int .i64 0, .string ⟨#[]⟩, .slice none 0 0, .slice none 0 0] 28)) #[.int .i64 0] 3
    simp only [World.size_alloc] at this
    exact this.alloc _
  have br : Bx A3 (w.heap.size + 2) #[.int .i64 0] 29 := by
    rw [hA3]
    have := Bx.new ((w.alloc (.cells #[.int .i8 0, .bool false, .int .i64 0, .string ⟨#[]⟩, .slice none 0 0, .slice none 0 0] 28)).alloc (.cells #[.int .i64 0] 3)) #[.int .i64 0] 29
    simp only [World.size_alloc] at this
    exact this
  have bw : Bx (A3.alloc (.cells #[.string s, .int .i64 k, .int .i64 d, .slice none 0 0] 43)) (w.heap.size + 3) #[.string s, .int .i64 k, .int .i64 d, .slice none 0 0] 43 := by
    have := Bx.new A3 #[.string s, .int .i64 k, .int .i64 d, .slice none 0 0] 43
    rw [hs3] at this
    exact this
  have HV := Lib.hid (value_off (bw.cell 0) (bw.cell 1) hk (by omega))
  have kw : Below A3.heap.size A3 (A3.alloc (.cells #[.string s, .int .i64 k, .int .i64 d, .slice none 0 0] 43)) := (Below.refl _ _).alloc (Nat.le_refl _) _
  have KW := Lib.hid kw
  have HBX := Lib.hid (And.intro bp (And.intro bq br))
  have H3 := Lib.hid (And.intro hs3 hb3)
  clear bp bq br bw hs3 hb3 kw hk hs
  go_enter_defers Tryz.func6, Tryz.ntmps6
  go_wp2_with fail
  rw [← hA3]
  refine (show Calls _ _ _ _ _ from ?_)
  refine HV.out.mono ?_
  intro e W5 h5
  clear hA3
  obtain ⟨rfl, hb5'⟩ := h5
  have hb5 : Below A3.heap.size A3 W5 := KW.out.trans (hb5'.mono KW.out.size)
  have hlt := H3.out.1
  have cp := HBX.out.1.kp (hb5.block _ HBX.out.1.lt)
  have cq := HBX.out.2.1.kp (hb5.block _ HBX.out.2.1.lt)
  have cr := HBX.out.2.2.kp (hb5.block _ HBX.out.2.2.lt)
  have HB5 := Lib.hid (H3.out.2.trans (hb5.mono (by have := H3.out.1; omega)))
  have HFC := Lib.hid (catch_fault w.heap.size (w.heap.size + 1) (w.heap.size + 1 + 1) s.size 40 W5 _ _ _ _ _ _ 0 0 cp cq cr (by omega) (by omega) (by omega))
  have HL5 := Lib.hid (show w.heap.size + 3 ≤ W5.heap.size from by have := hb5.size; omega)
  clear cp cq cr hb5 hb5'
  unfold faulted
  refine leaves_cons (f := 14) (args := #[.pointer (some ⟨w.heap.size, 0, none⟩), .pointer (some ⟨w.heap.size + 1, 0, none⟩), .pointer (some ⟨w.heap.size + 1 + 1, 0, none⟩)]) (by simp) (by simp [go_sem]) ?_
  refine HFC.out.mono ?_
  rintro e u' w6 ⟨rfl, rfl, fw⟩
  obtain ⟨x1, x2, x3, x4, x5, x6, x7, x8⟩ := fw
  have y0 : w6.cell? ⟨w.heap.size, 0, none⟩ = some (.int .i8 0) := x1.cell 0
  have y1 : w6.cell? ⟨w.heap.size, 1, none⟩ = some (.bool false) := x1.cell 1
  have y2 : w6.cell? ⟨w.heap.size, 2, none⟩ = some (.int .i64 0) := x1.cell 2
  have y3 : w6.cell? ⟨w.heap.size, 3, none⟩ = some (.string ⟨#[]⟩) := x1.cell 3
  have y4 : w6.cell? ⟨w.heap.size, 4, none⟩ = some (.slice none 0 0) := x1.cell 4
  have y5 : w6.cell? ⟨w.heap.size, 5, none⟩ = some (.slice none 0 0) := x1.cell 5
  have y6 : w6.cell? ⟨w.heap.size + 1, 0, none⟩ = some (.int .i64 (s.size : Nat)) := x2.cell 0
  have y7 : w6.cell? ⟨w.heap.size + 1 + 1, 0, none⟩ = some (.int .i64 (40 : Nat)) := x3.cell 0
  have hfin : AnsR w (.error (s.size, 40)) (.returned (.tuple #[zeroV, .int .i64 (s.size : Nat), .int .i64 (40 : Nat)])) w6 := by
    refine ⟨rfl, HB5.out.trans ⟨x5, x6, x7, x4, fun j hj => x8 j ?_ ?_ ?_ ?_⟩⟩
    · have := HL5.out; omega
    · omega
    · omega
    · omega
  unfold zeroV at hfin
  simp [Leaves, settle, results, Tryz.results6, go_sem, y0, y1, y2, y3, y4, y5, y6, y7]
  exact hfin
theorem Value_all (s : ByteArray) (k d : Int) (hs : s.size ≤ 50000) (hd1 : -9223372036854775808 ≤ d) (hd2 : d ≤ 9223372036854775807) (w : World) (hE : Ru.Env w) :
    Calls Tryz.prog 6 #[.string s, .int .i64 k, .int .i64 d] w fun e w' => AnsR w (valI s.data.toList k d) e w' := by
  by_cases h : offP s k
  · have e : valI s.data.toList k d = .error (s.size, 40) := by
      unfold valI
      rw [if_pos (by unfold offP at h; rw [toList_length]; omega), toList_length]
    rw [e]
    exact Value_off s k d h hs w
  · obtain ⟨j, rfl⟩ : ∃ j : Nat, k = j := ⟨k.toNat, by unfold offP at h; omega⟩
    have hj : j ≤ s.size := by unfold offP at h; omega
    rw [valI_M (by rw [toList_length]; exact hj)]
    exact Value_any s j d hj hs hd1 hd2 w hE
set_option maxRecDepth 100000 in
set_option maxHeartbeats 4000000 in
theorem rValue_off (s : ByteArray) (k d : Int) (hk : offP s k) (w : World) :
    Calls Tryz.prog 7 #[.string s, .int .i64 k, .int .i64 d] w fun e w' => AnsR w (.error (s.size, 40)) e w' := by
  have HS := Lib.hid (LW.start w 0)
  unfold zeroC at HS
  by_cases h0 : k < 0
  all_goals
    first
    | have g0 : decide (k < 0) = true := decide_eq_true h0
    | (have g0 : decide (k < 0) = false := decide_eq_false h0
       have g1 : decide ((s.size : Int) ≤ k) = true := decide_eq_true (by unfold offP at hk; omega))
    clear hk h0
    go_enter Tryz.func7, Tryz.ntmps7
    go_upto_region 2 with fail
    obtain ⟨X, hX⟩ : ∃ X, X = ((w.alloc (.cells #[.int .i8 0, .bool false, .int .i64 0, .string ⟨#[]⟩, .slice none 0 0, .slice none 0 0] 28)).alloc (.cells #[.int .i8 0, .bool false, .int .i64 0, .string ⟨#[]⟩, .slice none 0 0, .slice none 0 0] 28)) := ⟨_, rfl⟩
    rw [← hX] at HS ⊢
    clear hX
    have bxe := HS.out.z6
    have bx9 := HS.out.z9
    unfold zeroC at bxe
    have q0 : X.cell? ⟨w.heap.size, 0, none⟩ = some (.int .i8 0) := bxe.cell 0
    have qf0 := bxe.frozen 0
    have q1 : X.cell? ⟨w.heap.size, 1, none⟩ = some (.bool false) := bxe.cell 1
    have qf1 := bxe.frozen 1
    have q2 : X.cell? ⟨w.heap.size, 2, none⟩ = some (.int .i64 0) := bxe.cell 2
    have qf2 := bxe.frozen 2
    have q3 : X.cell? ⟨w.heap.size, 3, none⟩ = some (.string ⟨#[]⟩) := bxe.cell 3
    have qf3 := bxe.frozen 3
    have q4 : X.cell? ⟨w.heap.size, 4, none⟩ = some (.slice none 0 0) := bxe.cell 4
    have qf4 := bxe.frozen 4
    have q5 : X.cell? ⟨w.heap.size, 5, none⟩ = some (.slice none 0 0) := bxe.cell 5
    have qf5 := bxe.frozen 5
    have p0 : X.cell? ⟨w.heap.size + 1, 0, none⟩ = some (.int .i8 0) := bx9.cell 0
    have p1 : X.cell? ⟨w.heap.size + 1, 1, none⟩ = some (.bool false) := bx9.cell 1
    have p2 : X.cell? ⟨w.heap.size + 1, 2, none⟩ = some (.int .i64 0) := bx9.cell 2
    have p3 : X.cell? ⟨w.heap.size + 1, 3, none⟩ = some (.string ⟨#[]⟩) := bx9.cell 3
    have p4 : X.cell? ⟨w.heap.size + 1, 4, none⟩ = some (.slice none 0 0) := bx9.cell 4
    have p5 : X.cell? ⟨w.heap.size + 1, 5, none⟩ = some (.slice none 0 0) := bx9.cell 5
    clear bxe bx9
    go_wp2_with fail
    refine bodyPost_ret (v := .tuple #[.agg #[.int .i8 0, .bool false, .int .i64 0, .string ⟨#[]⟩, .slice none 0 0, .slice none 0 0], .int .i64 (s.size : Nat), .int .i64 40]) (by simp [results, Tryz.results7, go_sem, q0, q1, q2, q3, q4, q5]) rfl ?_
    exact HS.out.err _ 40
theorem rValue_all (s : ByteArray) (k d : Int) (hs : s.size ≤ 20000) (hd1 : -9223372036854775808 ≤ d) (hd2 : d ≤ 9223372036854775807) (w : World) :
    Calls Tryz.prog 7 #[.string s, .int .i64 k, .int .i64 d] w fun e w' => AnsR w (valI s.data.toList k d) e w' := by
  by_cases h : offP s k
  · have e : valI s.data.toList k d = .error (s.size, 40) := by
      unfold valI
      rw [if_pos (by unfold offP at h; rw [toList_length]; omega), toList_length]
    rw [e]
    exact rValue_off s k d h w
  · obtain ⟨j, rfl⟩ : ∃ j : Nat, k = j := ⟨k.toNat, by unfold offP at h; omega⟩
    have hj : j ≤ s.size := by unfold offP at h; omega
    rw [valI_M (by rw [toList_length]; exact hj)]
    exact rValue_any s hs (s.size + 1) j d w hj (by omega) hd1 hd2
end Go.Proofs.YtgbagdfcdljleaaGreatDoor

namespace Go.Proofs.YtgbagdfcdljleaaGreatDoor
open Go.RowKit Go.Maps

theorem isV_nul' (W : World) : isV W nulV zeroV := isV_of_a _ _ (isVa_leaf 0 false 0 ⟨#[]⟩ (by decide) (by decide) (by decide))
/-- What both answer. -/
def BothV (w : World) (x : V) (a c : Nat) (e : Ending) (w' : World) : Prop := ∃ val, e = .returned (.tuple #[val, .int .i64 a, .int .i64 c]) ∧ isV w' x val ∧ Below w.heap.size w w'
theorem bothV (r : Except Er (V × Nat)) : ∃ x a c, ∀ w e w', AnsR w r e w' → BothV w x a c e w' := by
  cases r with
  | error q => exact ⟨nulV, q.1, q.2, fun w e w' h => ⟨zeroV, h.1, isV_nul' w', h.2⟩⟩
  | ok p =>
    obtain ⟨v, k⟩ := p
    exact ⟨v, k, 0, fun w e w' h => by
      obtain ⟨val, S, h1, h2, _, h3⟩ := h
      exact ⟨val, h1, isV_of_a _ _ h2, h3⟩⟩
set_option maxRecDepth 100000 in
set_option maxHeartbeats 4000000 in
theorem values_any (s : ByteArray) (k d : Int) (hd1 : -9223372036854775808 ≤ d) (hd2 : d ≤ 9223372036854775807) (w : World) (hE : Ru.Env w) :
    Calls Tryz.prog 3 #[.string s, .int .i64 k, .int .i64 d] w fun e w' => e = .returned (.bool true) ∧ Below w.heap.size w w' := by
  have HG := Lib.hid (great_any s w)
  cases hg : grB s.size with
  | true =>
    rw [hg] at HG
    have HW := Lib.hid (wakes_any w hE)
    clear hE hg
    go_enter Tryz.func3, Tryz.ntmps3
    go_wp2_with fail
    refine HG.out.mono ?_
    rintro e w1 ⟨rfl, rfl⟩
    go_wp2_with fail
    refine HW.out.mono ?_
    rintro e w2 ⟨rfl, hb⟩
    have HBB := Lib.hid hb
    clear hb
    go_wp2_with fail
    refine bodyPost_ret (v := .bool true) (by simp [results, Tryz.results3, go_sem]) rfl ?_
    exact ⟨rfl, HBB.out⟩
  | false =>
    rw [hg] at HG
    have hs : s.size ≤ 9000 := by
      unfold grB at hg
      simp only [Bool.or_eq_false_iff, decide_eq_false_iff_not] at hg
      omega
    obtain ⟨x, a, c, hx⟩ := bothV (valI s.data.toList k d)
    have HP : Hid (∀ w, Ru.Env w → Calls Tryz.prog 6 #[.string s, .int .i64 k, .int .i64 d] w fun e w' => BothV w x a c e w') := Lib.hid (fun w hE => (Value_all s k d (by omega) hd1 hd2 w hE).mono fun e w' h => hx w e w' h)
    have HR : Hid (∀ w, Calls Tryz.prog 7 #[.string s, .int .i64 k, .int .i64 d] w fun e w' => BothV w x a c e w') := Lib.hid (fun w => (rValue_all s k d (by omega) hd1 hd2 w).mono fun e w' h => hx w e w' h)
    obtain ⟨L, hL⟩ : ∃ L : Nat, linN s (wiN s.size k) = L := ⟨_, rfl⟩
    obtain ⟨C, hC⟩ : ∃ C : Int, colN s (wiN s.size k) = C := ⟨_, rfl⟩
    obtain ⟨Q, hQ⟩ : ∃ Q : Nat, bl s.data.toList (wiN s.size k) = Q := ⟨_, rfl⟩
    have HL1 : Hid (∀ w, Calls Tryz.prog 8 #[.string s, .int .i64 k] w fun e w' => e = .returned (.tuple #[.int .i64 (L : Nat), .int .i64 C]) ∧ w' = w) := Lib.hid (fun w => by have := Line_any s k (by omega) w; rwa [hL, hC] at this)
    have HL2 : Hid (∀ w, Calls Tryz.prog 9 #[.string s, .int .i64 k] w fun e w' => e = .returned (.tuple #[.int .i64 (L : Nat), .int .i64 C]) ∧ w' = w) := Lib.hid (fun w => by have := rLine_any s k (by omega) w; rwa [hL, hC] at this)
    have HB1 : Hid (∀ w, Calls Tryz.prog 11 #[.string s, .int .i64 k] w fun e w' => e = .returned (.int .i64 (Q : Nat)) ∧ w' = w) := Lib.hid (fun w => by have := Blanks_any s k (by omega) w; rwa [hQ] at this)
    have HB2 : Hid (∀ w, Calls Tryz.prog 12 #[.string s, .int .i64 k] w fun e w' => e = .returned (.int .i64 (Q : Nat)) ∧ w' = w) := Lib.hid (fun w => by have := rBlanks_any s k (by omega) w; rwa [hQ] at this)
    have HE := Lib.hid hE
    clear hg hs hx hE hL hC hQ hd1 hd2
    go_enter Tryz.func3, Tryz.ntmps3
    go_wp2_with fail
    refine HG.out.mono ?_
    rintro e w1 ⟨rfl, rfl⟩
    clear HG
    go_wp2_with fail
    refine (HP.out _ HE.out).mono ?_
    rintro e w2 ⟨val, rfl, hv2, hb2⟩
    obtain ⟨bo1, nu1, te1, o11, n11, m11, o21, n21, m21, rfl⟩ := isV_form hv2
    obtain ⟨kd1, hkd1⟩ : ∃ k, x.kind = k := ⟨_, rfl⟩
    rw [hkd1] at hv2 ⊢
    have HV2 := Lib.hid hv2
    have HB2' := Lib.hid hb2
    clear hv2 hb2 HP
    go_upto_region 4 with fail
    obtain ⟨X, hX⟩ : ∃ X, X = w2.alloc (.cells #[.int .i8 kd1, .bool bo1, .int .i64 nu1, .string te1, .slice o11 n11 m11, .slice o21 n21 m21] 28) := ⟨_, rfl⟩
    rw [← hX]
    have kX : Below w2.heap.size w2 X := by rw [hX]; exact (Below.refl _ _).alloc (Nat.le_refl _) _
    have b3 : Bx X w2.heap.size #[.int .i8 kd1, .bool bo1, .int .i64 nu1, .string te1, .slice o11 n11 m11, .slice o21 n21 m21] 28 := by rw [hX]; exact Bx.new _ _ _
    have HVX := Lib.hid (isV_below kX HV2.out)
    have HBX := Lib.hid (HB2'.out.trans (kX.mono HB2'.out.size))
    have HB3 := Lib.hid b3
    obtain ⟨q3, hq3⟩ : ∃ q, q = w2.heap.size := ⟨_, rfl⟩
    rw [← hq3] at HB3 ⊢
    clear hX kX b3 HV2 HB2' hq3
    go_wp2_with fail
    refine (HR.out X).mono ?_
    rintro e w4 ⟨val, rfl, hv4, hb4⟩
    obtain ⟨bo2, nu2, te2, o12, n12, m12, o22, n22, m22, rfl⟩ := isV_form hv4
    rw [hkd1] at hv4 ⊢
    have HV4 := Lib.hid hv4
    have HB4 := Lib.hid hb4
    clear hv4 hb4 HR
    go_upto_region 5 with fail
    obtain ⟨Y, hY⟩ : ∃ Y, Y = w4.alloc (.cells #[.int .i8 kd1, .bool bo2, .int .i64 nu2, .string te2, .slice o12 n12 m12, .slice o22 n22 m22] 28) := ⟨_, rfl⟩
    rw [← hY]
    have kY : Below w4.heap.size w4 Y := by rw [hY]; exact (Below.refl _ _).alloc (Nat.le_refl _) _
    have b6 : Bx Y w4.heap.size #[.int .i8 kd1, .bool bo2, .int .i64 nu2, .string te2, .slice o12 n12 m12, .slice o22 n22 m22] 28 := by rw [hY]; exact Bx.new _ _ _
    have kXY : Below X.heap.size X Y := HB4.out.trans (kY.mono HB4.out.size)
    have b3 := HB3.out.below kXY
    have hvY1 := isV_below kXY HVX.out
    have hvY2 := isV_below kY HV4.out
    have HWY := Lib.hid (HBX.out.trans (kXY.mono HBX.out.size))
    have HSM := Lib.hid (Tr.same_any (Tr.sizeV x) x x _ _ Y (Nat.le_refl _) hvY1 hvY2)
    rw [Tr.sm_yes rfl] at HSM
    have p0 : Y.cell? ⟨q3, 0, none⟩ = some (.int .i8 kd1) := b3.cell 0
    have p1 : Y.cell? ⟨q3, 1, none⟩ = some (.bool bo1) := b3.cell 1
    have p2 : Y.cell? ⟨q3, 2, none⟩ = some (.int .i64 nu1) := b3.cell 2
    have p3 : Y.cell? ⟨q3, 3, none⟩ = some (.string te1) := b3.cell 3
    have p4 : Y.cell? ⟨q3, 4, none⟩ = some (.slice o11 n11 m11) := b3.cell 4
    have p5 : Y.cell? ⟨q3, 5, none⟩ = some (.slice o21 n21 m21) := b3.cell 5
    have g0 : Y.cell? ⟨w4.heap.size, 0, none⟩ = some (.int .i8 kd1) := b6.cell 0
    have g1 : Y.cell? ⟨w4.heap.size, 1, none⟩ = some (.bool bo2) := b6.cell 1
    have g2 : Y.cell? ⟨w4.heap.size, 2, none⟩ = some (.int .i64 nu2) := b6.cell 2
    have g3 : Y.cell? ⟨w4.heap.size, 3, none⟩ = some (.string te2) := b6.cell 3
    have g4 : Y.cell? ⟨w4.heap.size, 4, none⟩ = some (.slice o12 n12 m12) := b6.cell 4
    have g5 : Y.cell? ⟨w4.heap.size, 5, none⟩ = some (.slice o22 n22 m22) := b6.cell 5
    have e1 : ((a : Int) == (a : Int)) = true := beq_self_eq_true _
    have e2 : ((c : Int) == (c : Int)) = true := beq_self_eq_true _
    have e3 : ((L : Int) == (L : Int)) = true := beq_self_eq_true _
    have e4 : (C == C) = true := beq_self_eq_true _
    have e5 : ((Q : Int) == (Q : Int)) = true := beq_self_eq_true _
    clear hY kY b6 kXY b3 hvY1 hvY2 HVX HBX HV4 HB4 HB3 hkd1
    go_wp2_with fail
    refine (HL1.out Y).mono ?_
    rintro e w0 ⟨rfl, h0⟩
    have h0 := h0.symm
    subst h0
    go_wp2_with fail
    refine (HL2.out Y).mono ?_
    rintro e w0 ⟨rfl, h0⟩
    have h0 := h0.symm
    subst h0
    clear HL1 HL2
    go_wp2_with fail
    refine HSM.out.mono ?_
    rintro e w6 ⟨rfl, hb6⟩
    have hw6 := HWY.out.trans (hb6.mono HWY.out.size)
    have HW := Lib.hid (wakes_any w6 (HE.out.below hw6 HE.out.1))
    have HW6 := Lib.hid hw6
    clear hb6 hw6 HSM
    go_wp2_with fail
    refine (HB1.out w6).mono ?_
    rintro e w0 ⟨rfl, h0⟩
    have h0 := h0.symm
    subst h0
    go_wp2_with fail
    refine (HB2.out w6).mono ?_
    rintro e w0 ⟨rfl, h0⟩
    have h0 := h0.symm
    subst h0
    go_wp2_with fail
    refine HW.out.mono ?_
    rintro e w7 ⟨rfl, hb7⟩
    have HB7 := Lib.hid (HW6.out.trans (hb7.mono HW6.out.size))
    clear hb7
    go_wp2_with fail
    refine bodyPost_ret (v := .bool true) (by simp [results, Tryz.results3, go_sem]) rfl ?_
    exact ⟨rfl, HB7.out⟩
end Go.Proofs.YtgbagdfcdljleaaGreatDoor
