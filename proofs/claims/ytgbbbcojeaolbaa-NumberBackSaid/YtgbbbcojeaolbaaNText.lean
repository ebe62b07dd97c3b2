/-
  Contracts of Fits, Digit, Text, Len, of package number.
-/
import Derived.Test.YtgbbbcojeaolbaaNPut
import Derived.Laws.EntriesVeiled
import Derived.IntWalk
set_option linter.unusedVariables false
namespace Go.Proofs.Ytgbbbcojeaolbaa
open Go.RowKit

theorem fits_yes (n : Int) (h : fitB n = true) (w : World) : Calls Try.prog 9 #[.int .i64 n] w fun e w' => e = .returned (.bool true) ∧ w = w' := by
  obtain ⟨h1, h2⟩ := fitB_iff.1 h
  clear h
  go_enter Try.func9, Try.ntmps9
  go_wp2
  go_ret
  exact ⟨by simp <;> omega, rfl⟩
theorem fits_no (n : Int) (h : fitB n = false) (w : World) : Calls Try.prog 9 #[.int .i64 n] w fun e w' => e = .returned (.bool false) ∧ w = w' := by
  have h' : ¬ (-9007199254740992 ≤ n ∧ n ≤ 9007199254740992) := fun e => by rw [fitB_iff.2 e] at h; cases h
  clear h
  by_cases h1 : -9007199254740992 ≤ n <;> by_cases h2 : n ≤ 9007199254740992 <;> first | (exfalso; omega) | skip
  all_goals
    clear h'
    go_enter Try.func9, Try.ntmps9
    go_wp2
    go_ret
    exact ⟨by simp <;> omega, rfl⟩
theorem digit_any (c : UInt8) (w : World) : Calls Try.prog 13 #[.int .u8 c.toNat] w fun e w' => e = .returned (.bool (isD c)) ∧ w = w' := by
  have e : isD c = (decide (48 ≤ c.toNat) && decide (c.toNat ≤ 57)) := rfl
  have E := Lib.hid e
  clear e
  by_cases h1 : 48 ≤ c.toNat <;> by_cases h2 : c.toNat ≤ 57 <;> first | (exfalso; omega) | skip
  all_goals
    go_enter Try.func13, Try.ntmps13
    go_wp2
    go_ret
    exact ⟨by rw [E.out]; simp [*] <;> omega, rfl⟩
theorem digit_yes (c : UInt8) (h : isD c = true) (w : World) : Calls Try.prog 13 #[.int .u8 c.toNat] w fun e w' => e = .returned (.bool true) ∧ w = w' := h ▸ digit_any c w
theorem digit_no (c : UInt8) (h : isD c = false) (w : World) : Calls Try.prog 13 #[.int .u8 c.toNat] w fun e w' => e = .returned (.bool false) ∧ w = w' := h ▸ digit_any c w

theorem ps_conv {N : Nat} {A : List UInt8} {w : World} (h : PS N A w) (hA : 0 < A.length) :
    ∃ g cap, w.cell? ⟨N, 0, none⟩ = some (.slice (some ⟨g, 0, none⟩) A.length cap) ∧ (convert 37 9 (.slice (some ⟨g, 0, none⟩) A.length cap)).run Try.prog w = .ok (.string ⟨A.toArray⟩) w := by
  obtain ⟨hp, v, hv, hown⟩ := h
  have hown0 := hown
  rcases hown.2 with ⟨rfl, h0⟩ | ⟨g, cap, cur, rfl, hg, hh, hnc, hcp, hcs, htake⟩
  · omega
  · refine ⟨g, cap, cell_of_one hv, run_convert_bytes_back (P := Try.prog) w 37 9 5 ⟨g, 0, none⟩ cap A Try.underlying37 Try.underlying5 Try.underlying9 (fun j hj => ?_)⟩
    rw [Addr.add_lit, Nat.zero_add, hown0.cellAt j (by omega)]
    simp [Lib.byteCells, hj]

set_option maxRecDepth 100000 in
set_option maxHeartbeats 2000000 in
theorem text_no (n : Int) (h : fitB n = false) (w : World) :
    Calls Try.prog 7 #[.int .i64 n] w fun e w' => e = .returned (.tuple #[.string ⟨#[]⟩, .int .i64 20]) ∧ w = w' := by
  have H := Lib.hid h
  clear h
  go_enter Try.func7, Try.ntmps7
  go_wp2_with (go_at_call 9; refine (fits_no _ H.out _).mono ?_; rintro e w' ⟨rfl, rfl⟩)
  go_ret2
  exact ⟨rfl, rfl⟩
theorem ps_start (w : World) : PS w.heap.size [] ((w.alloc (.cells #[.slice none 0 0] 37)).alloc (.cells #[fv w.heap.size] 38)) := by
  refine ⟨?_, .slice none 0 0, ?_, World.ownsRow_nil _ _ _ _⟩
  · have := heap_alloc_new (w.alloc (.cells #[.slice none 0 0] 37)) (.cells #[fv w.heap.size] 38)
    simpa using this
  · exact (Below.heap_alloc _ _ _ (by simp)).trans (heap_alloc_new w _)

set_option maxRecDepth 100000 in
set_option maxHeartbeats 2000000 in
theorem text_pos (n : Int) (h : fitB n = true) (h0 : ¬ n < 0) (w : World) :
    Calls Try.prog 7 #[.int .i64 n] w fun e w' => e = .returned (.tuple #[.string ⟨(txt n).toArray⟩, .int .i64 0]) ∧ Below w.heap.size w w' := by
  have HT := Lib.hid (txt_pos h h0)
  have hf := fitB_iff.1 h
  obtain ⟨k, hk⟩ : ∃ k : Nat, n = (k : Int) := ⟨n.toNat, by omega⟩
  subst hk
  have hk1 : k ≤ 9007199254740992 := by omega
  have hd := digs_len k 16 (by decide) (by omega)
  have hd0 := digs_pos k
  have H := Lib.hid h
  have HP := Lib.hid (put_any w.heap.size k k [] _ (Nat.le_refl _) hk1 (by simp; omega) (ps_start w))
  unfold fv at HP
  have HB : Hid (Below w.heap.size w ((w.alloc (.cells #[.slice none 0 0] 37)).alloc (.cells #[fv w.heap.size] 38))) := Lib.hid (((Below.refl _ _).alloc (Nat.le_refl _) _).alloc (by simp) _)
  unfold fv at HB
  clear h hf
  go_enter Try.func7, Try.ntmps7
  go_wp2_with (first | (go_at_call 9; refine (fits_yes _ H.out _).mono ?_; rintro e w' ⟨rfl, rfl⟩) | (go_at_call 20; refine HP.out.mono ?_))
  rintro e w2 ⟨rfl, hps, hbel⟩
  rw [List.nil_append] at hps
  obtain ⟨g, cap, cB, hcv⟩ := ps_conv hps (by omega)
  have HB2 := Lib.hid hbel
  clear hps hbel HP
  go_wp2_with fail
  go_ret2
  exact ⟨by rw [HT.out]; rfl, HB.out.trans HB2.out⟩
theorem ps_start_b (w : World) : ((w.alloc (.cells #[.slice none 0 0] 37)).alloc (.cells #[fv w.heap.size] 38)).heap[w.heap.size]? = some (.cells #[.slice none 0 0] 37 (0, 0)) :=
  (Below.heap_alloc _ _ _ (by simp)).trans (heap_alloc_new w _)
set_option maxRecDepth 100000 in
set_option maxHeartbeats 2000000 in
theorem text_neg (n : Int) (h : fitB n = true) (h0 : n < 0) (w : World) :
    Calls Try.prog 7 #[.int .i64 n] w fun e w' => e = .returned (.tuple #[.string ⟨(txt n).toArray⟩, .int .i64 0]) ∧ Below w.heap.size w w' := by
  obtain ⟨i0, hi, hz0, hz1, hz2⟩ := info_parts infoByte
  have HT := Lib.hid (txt_neg h h0)
  have hf := fitB_iff.1 h
  obtain ⟨k, hk⟩ : ∃ k : Nat, n = -(k : Int) := ⟨(-n).toNat, by omega⟩
  subst hk
  have hk1 : k ≤ 9007199254740992 := by omega
  have hd := digs_len k 16 (by decide) (by omega)
  have hd0 := digs_pos k
  have H := Lib.hid h
  have hneg : wrap64 (-(-(k : Int))) = (k : Int) := by rw [Int.neg_neg]; unfold wrap64; omega
  have h1 : IntKind.i64.wrap (-(-(k : Int))) = (k : Int) := by rw [Int.neg_neg]; exact IntWalk.i64_in _ (by omega)
  have h0k : 0 < k := by omega
  have hps0 := ps_start w
  have hpb0 := ps_start_b w
  have HB : Hid (Below w.heap.size w ((w.alloc (.cells #[.slice none 0 0] 37)).alloc (.cells #[fv w.heap.size] 38))) := Lib.hid (((Below.refl _ _).alloc (Nat.le_refl _) _).alloc (by simp) _)
  have HPS := Lib.hid hps0
  have HPB := Lib.hid hpb0
  have HO := Lib.hid ((World.ownsRow_nil ((w.alloc (.cells #[.slice none 0 0] 37)).alloc (.cells #[fv w.heap.size] 38)) (w.heap.size + 2) 5 1).alloc (.cells #[.int .u8 45] 5))
  unfold fv at HB HPS HPB HO
  clear h hf hps0 hpb0 h0
  go_enter Try.func7, Try.ntmps7
  go_wp2_with (first | (go_at_call 9; refine (fits_yes _ H.out _).mono ?_; rintro e w' ⟨rfl, rfl⟩) | (at_builtin; refine wpList_append_own _ rfl _ _ 37 rfl (w.heap.size + 2) 5 i0 (.int .u8 0) 1 1 Try.underlying37 hi hz0 hz1 hz2 rfl (by decide) _ _ _ rfl HO.out ⟨w.heap.size + 1 + 1, 0, none⟩ 1 1 [.int .u8 45] rfl rfl ?c1 ?c2 ?c3 ?c4 ?c5 ?_))
  case c1 =>
    intro j u hj
    match j, hj with
    | 0, hj =>
      simp at hj; subst hj
      have := cell_of_one (heap_alloc_new ((w.alloc (.cells #[.slice none 0 0] 37)).alloc (.cells #[.func (.func 20) #[] #[.pointer (some ⟨w.heap.size + 1, 0, none⟩), .pointer (some ⟨w.heap.size, 0, none⟩)]] 38)) (.cells #[.int .u8 45] 5))
      simpa [Addr.add] using this
  case c2 => intro u hu; simp at hu; subst hu; rfl
  case c3 => unfold maxLen; omega
  case c4 => omega
  case c5 => simp
  intro v' w1 hown' hgrow _
  obtain ⟨⟨g', cap', rfl⟩, cW, fW, hps, hbel⟩ := ps_push (N := w.heap.size) (A := []) (news := [45]) _ HPS.out HPB.out (World.ownsRow_nil _ _ _ _) hown' hgrow rfl (by decide) rfl
  have hps : PS w.heap.size [45] (w1.setCell ⟨w.heap.size, 0, none⟩ (.slice (some ⟨g', 0, none⟩) 1 cap')) := hps
  have HP := Lib.hid (put_any w.heap.size k k [45] _ (Nat.le_refl _) hk1 (by simp; omega) hps)
  have cP : (w1.setCell ⟨w.heap.size, 0, none⟩ (.slice (some ⟨g', 0, none⟩) 1 cap')).cell? ⟨w.heap.size + 1, 0, none⟩ = some (.func (.func 20) #[] #[.pointer (some ⟨w.heap.size + 1, 0, none⟩), .pointer (some ⟨w.heap.size, 0, none⟩)]) := cell_of_one hps.put
  have HB1 := Lib.hid (HB.out.trans hbel)
  clear hown' hgrow hps hbel HO HPS HPB
  go_wp2_with (go_at_call 20; refine HP.out.mono ?_)
  rintro e w2 ⟨rfl, hps, hbel⟩
  obtain ⟨A, hA⟩ : ∃ A, A = [45] ++ digs k := ⟨_, rfl⟩
  rw [← hA] at hps
  obtain ⟨g, cap, cB, hcv⟩ := ps_conv hps (by rw [hA]; simp)
  have HA := Lib.hid hA
  clear hA
  have HB2 := Lib.hid hbel
  clear hps hbel HP
  go_wp2_with fail
  go_ret2
  exact ⟨by rw [HT.out, HA.out, Int.natAbs_neg]; rfl, HB1.out.trans HB2.out⟩

/-- What Text answers. -/
def errN (b : Bool) : Int := if b then 0 else 20
theorem text_any (n : Int) (w : World) :
    Calls Try.prog 7 #[.int .i64 n] w fun e w' => e = .returned (.tuple #[.string ⟨(txt n).toArray⟩, .int .i64 (errN (fitB n))]) ∧ Below w.heap.size w w' := by
  cases h : fitB n with
  | false =>
    refine (text_no n h w).mono ?_
    rintro e w' ⟨rfl, rfl⟩
    exact ⟨by rw [txt_no h]; rfl, Below.refl _ _⟩
  | true =>
    by_cases h0 : n < 0
    · exact text_neg n h h0 w
    · exact text_pos n h h0 w
theorem size_arr (l : List UInt8) : ByteArray.size ⟨l.toArray⟩ = l.length := by simp [ByteArray.size]
set_option maxHeartbeats 1000000 in
theorem len_any (n : Int) (w : World) :
    Calls Try.prog 11 #[.int .i64 n] w fun e w' => e = .returned (.int .i64 (txt n).length) ∧ Below w.heap.size w w' := by
  have HT := Lib.hid (text_any n w)
  have hs := size_arr (txt n)
  obtain ⟨S, hS⟩ : ∃ S : ByteArray, S = ⟨(txt n).toArray⟩ := ⟨_, rfl⟩
  rw [← hS] at HT hs
  have HS := Lib.hid hs
  clear hs hS
  go_enter Try.func11, Try.ntmps11
  go_wp2_with (go_at_call 7; refine HT.out.mono ?_)
  rintro e w2 ⟨rfl, hb⟩
  have HB := Lib.hid hb
  clear hb
  go_wp2_with fail
  go_ret
  exact ⟨by rw [← HS.out]; rfl, HB.out⟩
end Go.Proofs.Ytgbbbcojeaolbaa
