/-
  The contract of the reference's Unquote.
-/
import Derived.Test.YtoojfgajlakonaaDoorREsc
import Derived.Test.YtoojfgajlakonaaDoorRQuote
import Derived.Laws.BytesArg
set_option linter.unusedVariables false
namespace Go.Proofs.YtoojfgajlakonaaDoor
open Go.RowKit Go.Shelf

theorem conv_row (W : World) (B : Nat) (v : Value) (acc : List UInt8) (h : W.ownsRow B 5 1 v acc.length (Lib.byteCells acc)) :
    (convert 38 9 v).run Tryd.prog W = .ok (.string ⟨acc.toArray⟩) W := by
  rcases h.2 with ⟨rfl, h0⟩ | ⟨g, cap, cur, rfl, _⟩
  · have e : acc = [] := List.eq_nil_of_length_eq_zero h0
    subst e
    exact run_convert_bytes_nil (P := Tryd.prog) (w := W) 38 5 Tryd.underlying38 Tryd.underlying5 0 0 9 Tryd.underlying9
  · exact run_convert_bytes_back (P := Tryd.prog) W 38 9 5 ⟨g, 0, none⟩ cap acc Tryd.underlying38 Tryd.underlying5 Tryd.underlying9 (fun j hj => by
      have := h.cells (g := g) rfl j _ (List.getElem?_eq_getElem (by simpa [Lib.byteCells] using hj))
      rw [this]
      simp only [Lib.byteCells, List.getElem_map])

/-- Between two rounds. -/
def RU (w : World) (acc : List UInt8) (v : Value) (W : World) : Prop := W.ownsRow w.heap.size 5 1 v acc.length (Lib.byteCells acc) ∧ Below w.heap.size w W
theorem RU.step {w W W' : World} {acc : List UInt8} {S : ByteArray} {v v' : Value} (h : RU w acc v W) (hown : W'.ownsRow w.heap.size 5 1 v' (acc.length + S.size) (Lib.byteCells acc ++ Lib.strCells S)) (hg : W.grownBy W' v.ownBlock) : RU w (acc ++ S.data.toList) v' W' := by
  refine ⟨?_, h.2.grown hg h.2.size (fun k hk => (h.1.lt k hk).1)⟩
  rw [List.length_append, toList_length, byteCells_append]
  exact hown
theorem RU.below {w W W' : World} {acc : List UInt8} {v : Value} (h : RU w acc v W) (hb : Below W.heap.size W W') : RU w acc v W' :=
  ⟨h.1.kept (grown_of_below hb) (by cases v.ownBlock <;> simp), h.2.trans (hb.mono h.2.size)⟩
theorem head_cons (s : ByteArray) (q : Nat) (h : q < s.size) : s.data.toList.drop q = s[q] :: s.data.toList.drop (q + 1) := by
  rw [List.drop_eq_getElem_cons (by rw [toList_length]; exact h)]; rfl
theorem dec_ascii (s : ByteArray) (q : Nat) (h : q < s.size) (hc : (s[q]'h).toNat < 128) : bad (s.data.toList.drop q) = false ∧ Lib.decodeL (s.data.toList.drop q) = ((s[q]'h).toNat, 1) := by
  rw [head_cons s q h]
  exact ⟨bad_ascii _ hc, Lib.decodeL_ascii _ _ hc⟩
theorem dec_big (s : ByteArray) (q : Nat) (h : q < s.size) (hc : ¬ (s[q]'h).toNat < 128) (hb : bad (s.data.toList.drop q) = false) : 128 ≤ (Lib.decodeL (s.data.toList.drop q)).1 := by
  obtain ⟨r, hr⟩ : ∃ r, (Lib.decodeL (s.data.toList.drop q)).1 = r := ⟨_, rfl⟩
  rw [hr]
  rcases Nat.lt_or_ge r 128 with h1 | h1
  · obtain ⟨t, ht, _⟩ := head_ascii (drop_ne s q h) hb hr h1
    rw [head_cons s q h] at ht
    have := (List.cons.inj ht).1
    rw [this, u8n _ (by omega)] at hc
    omega
  · exact h1
theorem ext_take (s : ByteArray) (q n : Nat) : (s.extract q (q + n)).data.toList = (s.data.toList.drop q).take n := by
  have := Lib.extract_toList s q (q + n)
  rw [show (s.extract q (q + n)).data.toList = (s.extract q (q + n)).toList from (Lib.toList_data _).symm, this, Nat.add_sub_cancel_left]

set_option maxRecDepth 100000 in
set_option maxHeartbeats 2000000 in
theorem runq_arg (s : ByteArray) (at' : Int) (h : at' < 0 ∨ (s.size : Int) < at') (hs : s.size ≤ 2000) (w : World) :
    Calls Tryd.prog 19 #[.string s, .int .i64 at'] w fun e w' => e = .returned (ansV ([], 0, 2)) ∧ Below w.heap.size w w' := by
  unfold ansV
  by_cases h0 : at' < 0
  · clear h
    go_enter Tryd.func19, Tryd.ntmps19
    go_wp2_with fail
    go_ret3
    exact ⟨rfl, Below.refl _ _⟩
  · have h1 : (s.size : Int) < at' := by omega
    clear h
    go_enter Tryd.func19, Tryd.ntmps19
    go_wp2_with fail
    go_ret3
    exact ⟨rfl, Below.refl _ _⟩

set_option maxRecDepth 100000 in
set_option maxHeartbeats 2000000 in
theorem runq_noquote (s : ByteArray) (p : Nat) (hp : p ≤ s.size) (h : p = s.size ∨ s.data.toList.getD p 0 ≠ 34) (hs : s.size ≤ 2000) (w : World) :
    Calls Tryd.prog 19 #[.string s, .int .i64 p] w fun e w' => e = .returned (ansV ([], p, 10)) ∧ Below w.heap.size w w' := by
  unfold ansV
  by_cases h0 : p = s.size
  · have h1 : ((p : Int) == (s.size : Int)) = true := by rw [beq_iff_eq]; omega
    clear h h0
    go_enter Tryd.func19, Tryd.ntmps19
    go_wp2_with fail
    go_ret3
    exact ⟨rfl, Below.refl _ _⟩
  · have h1 : ((p : Int) == (s.size : Int)) = false := by rw [beq_eq_false_iff_ne]; omega
    have hlt : p < s.size := by omega
    have h2 : (((s[p]'hlt).toNat : Int) != 34) = true := by
      have hne := h.resolve_left h0
      rw [List.getD, toList_getElem s p hlt] at hne
      rw [bne_iff_ne]
      intro e
      exact hne (UInt8.toNat_inj.1 (by simpa using (by omega : (s[p]'hlt).toNat = 34)))
    clear h h0
    go_enter Tryd.func19, Tryd.ntmps19
    go_wp2_with fail
    go_ret3
    exact ⟨rfl, Below.refl _ _⟩

set_option maxRecDepth 100000 in
set_option maxHeartbeats 8000000 in
theorem runq_yes (s : ByteArray) (p : Nat) (hp : p < s.size) (h : s[p]'hp = 34) (hs : s.size ≤ 2000) (w : World) :
    Calls Tryd.prog 19 #[.string s, .int .i64 p] w fun e w' => e = .returned (ansV (unqL s.data.toList p)) ∧ Below w.heap.size w w' := by
  obtain ⟨R, hR⟩ : ∃ R, unqL s.data.toList p = R := ⟨_, rfl⟩
  have hU := unqL_uqR s.data.toList p s.size (by rw [toList_length]; exact Nat.le_refl _)
  rw [hR] at hU ⊢
  have HU := Lib.hid hU.symm
  have h1 : ((p : Int) == (s.size : Int)) = false := by rw [beq_eq_false_iff_ne]; omega
  have h2 : (((s[p]'hp).toNat : Int) != 34) = false := by rw [h]; rfl
  have hp0 : decide ((p : Int) < 0) = false := decide_eq_false (by omega)
  have hp1 : decide (s.size < p) = false := decide_eq_false (by omega)
  clear hU hR h
  unfold ansV
  obtain ⟨i0, hi, hz0, hz1, hz2⟩ := info_parts infoByte
  go_enter Tryd.func19, Tryd.ntmps19
  go_wp2_with fail
  go_loopw [1, 7] (fun a v wr => ∃ (q f : Nat) (acc : List UInt8), q ≤ s.size ∧ a = .int .i64 q ∧ RU w acc v wr ∧ acc.length ≤ 4 * q ∧ s.size < q + f ∧ uqR f (s.data.toList.drop q) q acc = R) (fun a v _ => s.size - (intOf a).toNat)
  case atStart => exact ⟨p + 1, s.size + 1, [], by omega, by go_num, ⟨World.ownsRow_nil _ _ _ _, Below.refl _ _⟩, by simp, by omega, HU.out⟩
  case round =>
    obtain ⟨q, f, acc, hq, rfl, hown, hal, hf, hu⟩ := hrel
    by_cases hlt : q < s.size
    · obtain ⟨f, rfl⟩ : ∃ g, f = g + 1 := ⟨f - 1, by omega⟩
      have hne := drop_ne s q hlt
      rw [uqR, if_neg hne] at hu
      obtain ⟨c, hc⟩ : ∃ c, (s[q]'hlt).toNat = c := ⟨_, rfl⟩
      by_cases e34 : c = 34
      · obtain ⟨hb, hd⟩ := dec_ascii s q hlt (by omega)
        rw [hb, hd, hc] at hu
        simp only [Bool.false_eq_true, if_false, e34, if_true] at hu
        subst hu
        have hcv := conv_row _ _ _ acc hown.1
        have HB := Lib.hid hown.2
        subst e34
        clear hown hb hd hne
        go_wp2_with fail
        go_ret3
        exact ⟨rfl, HB.out⟩
      have n34 : ((c : Int) == 34) = false := by rw [beq_eq_false_iff_ne]; omega
      by_cases e92 : c = 92
      · obtain ⟨hb, hd⟩ := dec_ascii s q hlt (by omega)
        have hE := resc_any s q hlt hs (UInt8.toNat_inj.1 (by rw [hc, e92]; rfl)) wr
        rw [hb, hd, hc] at hu
        simp only [Bool.false_eq_true, if_false, e92, if_true] at hu
        rw [if_neg (by omega), if_neg (by omega)] at hu
        cases hL : escL (s.data.toList.drop q) with
        | none =>
          rw [hL] at hu hE
          simp only [escV] at hu hE
          subst hu
          have HE := Lib.hid hE
          have HB := Lib.hid hown.2
          subst e92
          clear hown hb hd hne hE hL
          go_wp2_with (go_at_call 36; refine HE.out.mono ?_; rintro e w' ⟨rfl, hb⟩)
          go_ret3
          exact ⟨rfl, HB.out.trans (hb.mono HB.out.size)⟩
        | some y =>
          rw [hL] at hu hE
          simp only [escV] at hu hE
          obtain ⟨y1, k⟩ := y
          have hy := escL_rune hL
          have hle := (escL_ascii hL (fun x hx => by
            rw [head_cons s q hlt] at hx
            simp only [List.take_succ_cons, List.take_zero, List.mem_cons, List.not_mem_nil, or_false] at hx
            subst hx; omega)).1
          rw [drop_len] at hle
          have hel := enc_le y1
          dsimp only at hu hE hy hle
          obtain ⟨S, hS⟩ : ∃ S : ByteArray, S = ⟨(Lib.encodeRune (y1 : Int)).toArray⟩ := ⟨_, rfl⟩
          rw [← hS] at hE
          have hSd : S.data.toList = Lib.encodeRune (y1 : Int) := by rw [hS]
          have hSz : S.size ≤ 4 := by rw [← toList_length, hSd]; exact hel
          rw [← hSd, List.drop_drop] at hu
          have HE := Lib.hid hE
          have HU2 := Lib.hid hu
          have hk0 : ((k : Int) == 0) = false := by rw [beq_eq_false_iff_ne]; omega
          have hk1 : 1 ≤ k := by omega
          have hk2 : q + k ≤ s.size := by omega
          subst e92
          clear hb hd hne hE hL hu hS hy hel hle
          go_wp2_with fail
          refine HE.out.mono ?_
          rintro e w5 ⟨rfl, hb5⟩
          have hown5 := hown.below hb5
          clear hown
          go_wp2_with (at_builtin; refine Lib.wpList_append_own_string _ rfl _ _ 38 9 rfl w.heap.size 5 i0 Tryd.underlying38 Tryd.underlying9 hi hz0 hz1 hz2 _ _ _ rfl hown5.1 S rfl ?c3 ?c4 ?c5 ?_)
          case c3 => unfold maxLen; omega
          case c4 => omega
          case c5 => exact hown5.2.size
          intro v' w1 hown' hgrow _
          have hR := hown5.step hown' hgrow
          have hSd' := toList_length S
          clear hown' hgrow hown5 hb5
          go_wp2_with fail
          go_roundw
          case rel => exact ⟨q + k, f, acc ++ S.data.toList, by omega, by go_num, hR, by rw [List.length_append]; omega, by omega, HU2.out⟩
          case measure => simp [intOf]; omega
      have n92 : ((c : Int) == 92) = false := by rw [beq_eq_false_iff_ne]; omega
      have hO := one_at s q hlt (by omega) wr
      cases hb : bad (s.data.toList.drop q) with
      | true =>
        rw [hb] at hu
        simp only [if_true] at hu
        subst hu
        rw [bad_size s q hlt hb] at hO
        have HO := Lib.hid hO
        have HB := Lib.hid hown.2
        clear hown hO hb hne e34 e92
        by_cases h32 : c < 32
        · have i32 : (c : Int) < 32 := by omega
          go_wp2_with (go_at_call 21; refine HO.out.mono ?_; rintro e w' ⟨rfl, rfl⟩; unfold pairV)
          go_ret3
          exact ⟨rfl, HB.out⟩
        · have i32 : ¬ (c : Int) < 32 := by omega
          go_wp2_with (go_at_call 21; refine HO.out.mono ?_; rintro e w' ⟨rfl, rfl⟩; unfold pairV)
          go_ret3
          exact ⟨rfl, HB.out⟩
      | false =>
        rw [hb] at hu
        simp only [Bool.false_eq_true, if_false] at hu
        rw [oneL_good hne hb] at hO
        have hw := Lib.decodeL_width (s.data.toList.drop q)
        have hl := Lib.decodeL_le (s.data.toList.drop q) hne
        rw [drop_len] at hl
        obtain ⟨te, tl⟩ := take_append_enc hne hb
        by_cases h32 : c < 32
        · obtain ⟨_, hd⟩ := dec_ascii s q hlt (by omega)
          rw [hd, hc] at hu
          rw [if_neg e34, if_pos h32] at hu
          subst hu
          obtain ⟨d1, d2⟩ := Lib.decodeL (s.data.toList.drop q)
          unfold pairV at hO
          have HO := Lib.hid hO
          have HB := Lib.hid hown.2
          have i32 : (c : Int) < 32 := by omega
          clear hown hO hb hne e34 e92 hd te tl hw hl
          go_wp2_with (go_at_call 21; refine HO.out.mono ?_; rintro e w' ⟨rfl, rfl⟩)
          go_ret3
          exact ⟨rfl, HB.out⟩
        · have hr : (Lib.decodeL (s.data.toList.drop q)).1 ≠ 34 ∧ ¬ (Lib.decodeL (s.data.toList.drop q)).1 < 32 ∧ (Lib.decodeL (s.data.toList.drop q)).1 ≠ 92 := by
            by_cases h128 : c < 128
            · obtain ⟨_, hd⟩ := dec_ascii s q hlt (by omega)
              rw [hd, hc]
              exact ⟨e34, h32, e92⟩
            · have := dec_big s q hlt (by omega) hb
              omega
          rw [if_neg hr.1, if_neg hr.2.1, if_neg hr.2.2, te, List.drop_drop] at hu
          generalize Lib.decodeL (s.data.toList.drop q) = d at *
          obtain ⟨r, k⟩ := d
          dsimp only at hu hw hl te tl hr hO
          unfold pairV at hO
          dsimp only at hO
          obtain ⟨S, hS⟩ : ∃ S : ByteArray, S = s.extract q (q + k) := ⟨_, rfl⟩
          have hSd : S.data.toList = (s.data.toList.drop q).take k := by rw [hS, ext_take]
          have hSl := toList_length S
          have hSz : S.size ≤ 4 := by
            have := enc_le r
            rw [te, ← hSd] at this
            omega
          rw [← hSd] at hu
          have HO := Lib.hid hO
          have HU2 := Lib.hid hu
          have hk0 : ((k : Int) == 0) = false := by rw [beq_eq_false_iff_ne]; omega
          have hk1 : 1 ≤ k := by omega
          have hk2 : q + k ≤ s.size := by omega
          have HSe := Lib.hid hS.symm
          have HkS : Hid (S.size = k) := Lib.hid (by rw [hS, ByteArray.size_extract]; omega)
          have i32 : decide ((c : Int) < 32) = false := decide_eq_false (by omega)
          have j1 : (q : Int) ≤ (q : Int) + (k : Int) := by omega
          have j2 : (q : Int) + (k : Int) ≤ (s.size : Int) := by omega
          have j3 : q ≤ q + k := by omega
          clear hO hb hne e34 e92 te tl hw hl hr hu hS hSd
          go_wp2_with fail
          refine HO.out.mono ?_
          rintro e w5 ⟨rfl, rfl⟩
          go_wp2_with (at_builtin; refine Lib.wpList_append_own_string _ rfl _ _ 38 9 rfl w.heap.size 5 i0 Tryd.underlying38 Tryd.underlying9 hi hz0 hz1 hz2 _ _ _ rfl hown.1 (s.extract q (q + k)) rfl ?d3 ?d4 ?d5 ?_)
          case d3 => rw [HSe.out]; unfold maxLen; omega
          case d4 => rw [HSe.out]; omega
          case d5 => exact hown.2.size
          intro v' w1 hown' hgrow _
          rw [HSe.out] at hown'
          have hR := hown.step (S := S) (by rw [HkS.out]; exact hown') hgrow
          clear hown' hgrow hown
          go_wp2_with fail
          go_roundw
          case rel => exact ⟨q + k, f, acc ++ S.data.toList, by omega, by go_num, hR, by rw [List.length_append]; omega, by omega, HU2.out⟩
          case measure => simp [intOf]; omega
    · have hke : q = s.size := by omega
      subst hke
      obtain ⟨f, rfl⟩ : ∃ g, f = g + 1 := ⟨f - 1, by omega⟩
      rw [uqR, if_pos (List.drop_eq_nil_of_le (by rw [toList_length]; omega))] at hu
      subst hu
      have HB := Lib.hid hown.2
      clear hown
      go_wp2_with fail
      go_ret3
      exact ⟨rfl, HB.out⟩

theorem runq_any (s : ByteArray) (at' : Int) (hs : s.size ≤ 2000) (w : World) :
    Calls Tryd.prog 19 #[.string s, .int .i64 at'] w fun e w' => e = .returned (ansV (unqI s.data.toList at')) ∧ Below w.heap.size w w' := by
  unfold unqI
  rw [toList_length]
  split
  · rename_i h
    exact runq_arg s at' h hs w
  · rename_i h
    obtain ⟨p, rfl⟩ : ∃ p : Nat, at' = p := ⟨at'.toNat, by omega⟩
    rw [Int.toNat_natCast]
    have hp : p ≤ s.size := by omega
    split
    · rename_i h2
      exact runq_noquote s p hp h2 hs w
    · rename_i h2
      have h3 : p < s.size := by omega
      refine runq_yes s p h3 ?_ hs w
      have h4 : s.data.toList.getD p 0 = 34 := Decidable.not_not.1 fun e => h2 (.inr e)
      rw [List.getD, toList_getElem s p h3] at h4
      exact h4
end Go.Proofs.YtoojfgajlakonaaDoor
