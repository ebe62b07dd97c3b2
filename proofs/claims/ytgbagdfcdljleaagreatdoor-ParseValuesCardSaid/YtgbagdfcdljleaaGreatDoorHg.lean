/-
  Parse's walk: numbers, texts, words.
-/
import Derived.Test.YtgbagdfcdljleaaGreatDoorHB
import Derived.Test.YtgbagdfcdljleaaGreatDoorWk
import Derived.Test.YtgbagdfcdljleaaGreatDoorNScan
import Derived.Test.YtgbagdfcdljleaaGreatDoorRn
set_option linter.unusedVariables false
set_option linter.unusedSimpArgs false
namespace Go.Proofs.YtgbagdfcdljleaaGreatDoor
open Go.RowKit Go.Maps

section
variable {W0 W : World} {b : Nat} {s : ByteArray} {d : Int} {k : Nat} {op : List Fm} {ov : Value} {ys : List Value} {B : Nat → Prop}
theorem PW.env (h : PW W0 b s d k op ov ys B W) (hE : Ru.Env W0) : Ru.Env W := hE.below h.kb hE.1
theorem scan_sign {s : List UInt8} {k : Nat} (hk : k < s.length) : ∃ (n : Int) (E X : Nat), Nu.scanL s k = (n, (E : Int), (X : Int)) ∧ -9007199254740992 ≤ n ∧ n ≤ 9007199254740992 ∧ E ≤ s.length := by
  have hB : ∀ (m : Bool) (f : Nat), f ≤ s.length → f ≤ k + 1 → ∃ (n : Int) (E X : Nat), Nu.scanB s k m f = (n, (E : Int), (X : Int)) ∧ -9007199254740992 ≤ n ∧ n ≤ 9007199254740992 ∧ E ≤ s.length := by
    intro m f hf hfk
    have hd := Nu.dig_le s f
    unfold Nu.scanB
    split
    · unfold Nu.misL at *
      split
      · exact ⟨0, f, 20, rfl, by decide, by decide, hf⟩
      · split
        · exact ⟨0, f + 1, 20, rfl, by decide, by decide, by rename_i h; omega⟩
        · split
          · exact ⟨0, f + (Nu.dig s f).length, 20, by simp, by decide, by decide, by omega⟩
          · exact ⟨0, 0, 20, rfl, by decide, by decide, by omega⟩
    · split
      · exact ⟨0, k, 20, rfl, by decide, by decide, by omega⟩
      · rename_i h
        refine ⟨if m = true then -(Nu.val (Nu.dig s f) : Int) else (Nu.val (Nu.dig s f) : Int), f + (Nu.dig s f).length, 0, by simp, ?_, ?_, by omega⟩
        · split <;> omega
        · split <;> omega
  rw [scanL_N (Nat.le_of_lt hk)]
  unfold Nu.scanN
  split
  · exact hB true (k + 1) hk (Nat.le_refl _)
  · exact hB false k (Nat.le_of_lt hk) (by omega)
/-- What number leaves. -/
def NumR (W0 : World) (b : Nat) (s : ByteArray) (d : Int) (k : Nat) (op : List Fm) (ov : Value) (ys : List Value) (B : Nat → Prop) (W : World) (r : Int × Int × Int) (e : Ending) (W' : World) : Prop :=
  if r.2.2 = 0 then e = .returned (.int .i64 r.1) ∧ PW W0 b s d r.2.1.toNat op ov ys B W' ∧ Kb b W W' else e = faulted r.2.1.toNat r.2.2.toNat ∧ Below W0.heap.size W0 W'
set_option maxRecDepth 100000 in
set_option maxHeartbeats 1000000 in
theorem number_any (h : PW W0 b s d k op ov ys B W) (hk : k < s.size) (hs : s.size ≤ 4294967296) :
    Calls Tryz.prog 37 #[.pointer (some ⟨b, 0, none⟩)] W fun e W' => NumR W0 b s d k op ov ys B W (Nu.scanL s.data.toList k) e W' := by
  have c0 := h.c0
  have c1 := h.c1
  have HB := Lib.hid (fun w => Nu.scan_any s (by unfold maxLen; omega) k w)
  obtain ⟨n, E, X, hr, _, _, _⟩ := scan_sign (s := s.data.toList) (k := k) (by rw [toList_length]; exact hk)
  rw [hr] at HB ⊢
  unfold NumR
  have HH := Lib.hid h
  clear h hr
  simp only
  have HQ : ∀ m, Calls Tryz.prog 51 #[.string s, .int .i64 k] (W.drewN m) fun e w'' => e = .returned (.tuple #[.int .i64 n, .int .i64 E, .int .i64 X]) ∧ ∃ m', w'' = W.drewN m' := fun m => by
    refine Calls.quiet_of_same ((HB.out _).mono ?_)
    rintro e w' ⟨rfl, rfl⟩
    exact ⟨rfl, rfl⟩
  have HQ := Lib.hid HQ
  by_cases h0 : X = 0
  · subst h0
    simp only [Int.toNat_natCast, Int.natCast_zero, if_true] at HQ ⊢
    clear HB
    go_enter Tryz.func37, Tryz.ntmps37
    go_wp2_with fail
    go_quiet (exact HQ.out _)
    have h1 := (HH.out.below (below_dN (Below.refl _ W) nq))
    have f1 := h1.fz 1
    have c1' := h1.c1
    have hkb := Lib.hid ((Kb.refl b W).drewN nq)
    generalize hW1 : W.drewN nq = W1 at *
    go_wp2
    go_ret
    exact ⟨rfl, h1.at E, hkb.out.set_b 1 _⟩
  · have h0' : ((X : Int) == 0) = false := by rw [beq_eq_false_iff_ne]; omega
    have h0'' : ((X : Int) != 0) = true := by rw [bne_iff_ne]; omega
    have h00 : ¬ (X : Int) = 0 := by omega
    simp only [Int.toNat_natCast, if_neg h00]
    clear HB
    go_enter Tryz.func37, Tryz.ntmps37
    go_wp2_with fail
    go_quiet (exact HQ.out _)
    go_wp2
    exact ⟨rfl, rfl, (HH.out.below (below_dN (Below.refl _ W) nq)).kb⟩
/-- What text leaves. -/
def TexR (W0 : World) (b : Nat) (s : ByteArray) (d : Int) (k : Nat) (op : List Fm) (ov : Value) (ys : List Value) (B : Nat → Prop) (W : World) (r : Ru.UAns) (e : Ending) (W' : World) : Prop :=
  if r.2.2 = 0 then e = .returned (.string ⟨r.1.toArray⟩) ∧ PW W0 b s d r.2.1 op ov ys B W' ∧ Kb b W W' else e = faulted r.2.1 r.2.2 ∧ Below W0.heap.size W0 W'
theorem unqI_L {L : List UInt8} {k : Nat} (h : L[k]? = some 34) : Ru.unqI L k = Ru.unqL L k := by
  have hk := lt_of_some h
  unfold Ru.unqI
  rw [if_neg (by omega), if_neg]
  · rfl
  · rw [Int.toNat_natCast, List.getD, h]
    rintro (e | e)
    · omega
    · exact e rfl
set_option maxRecDepth 100000 in
set_option maxHeartbeats 1000000 in
theorem text_any (h : PW W0 b s d k op ov ys B W) (hE : Ru.Env W0) (hk : s.data.toList[k]? = some 34) (hs : s.size ≤ 4294967296) :
    Calls Tryz.prog 39 #[.pointer (some ⟨b, 0, none⟩)] W fun e W' => TexR W0 b s d k op ov ys B W (Ru.unqL s.data.toList k) e W' := by
  have c0 := h.c0
  have c1 := h.c1
  have hE1 := h.env hE
  have HB := Lib.hid (fun w hw => Ru.unquote_any s k hs w hw)
  rw [unqI_L hk] at HB
  obtain ⟨t, E, X, hr⟩ : ∃ t E X, Ru.unqL s.data.toList k = (t, E, X) := ⟨_, _, _, rfl⟩
  rw [hr] at HB ⊢
  have HB := Lib.hid (show ∀ w, Ru.Env w → Calls Tryz.prog 52 #[.string s, .int .i64 k] w fun e w' => e = .returned (.tuple #[.string ⟨t.toArray⟩, .int .i64 E, .int .i64 X]) ∧ Below w.heap.size w w' from HB.out)
  unfold TexR
  have HH := Lib.hid h
  have HE' := Lib.hid (hE1.below (Below.refl W.heap.size W).drew hE1.1)
  clear h hr hk hE hE1
  simp only
  by_cases h0 : X = 0
  · subst h0
    simp only [if_true]
    go_enter Tryz.func39, Tryz.ntmps39
    go_wp2_with fail
    refine Rn.region_any (by kernel_rfl) ?_
    refine Rn.any_seg 0 8 (by kernel_rfl) rfl ?_
    simp only [List.take_succ_cons, List.take_zero, List.drop_zero]
    repeat (refine Rn.ws_one (fun KK hKK => ?_); go_simp; refine hKK _ ?_; clear hKK KK)
    refine Rn.ws_nil ?_
    intro K0 hK0
    go_simp
    refine .inl ((HB.out _ HE'.out).mono ?_)
    rintro e w' ⟨rfl, hb⟩
    have HK := Lib.hid hb
    clear hb
    refine hK0 _ _ ?_
    clear hK0 K0
    refine Rn.any_end 9 (by kernel_rfl) ?_
    simp only [List.drop_succ_cons, List.drop_zero]
    repeat (refine Rn.ws_one (fun KK hKK => ?_); go_simp; refine hKK _ ?_; clear hKK KK)
    refine Rn.ws_nil ?_
    all_goals
      have h1 := HH.out.below ((Below.refl _ W).drew.trans HK.out)
      have f1 := h1.fz 1
      have c1' := h1.c1
      go_wp2_with fail
      go_ret
      exact ⟨rfl, h1.at E, (Kb.of_below ((Below.refl _ W).drew.trans HK.out)).set_b 1 _⟩
  · have h0' : ((X : Int) == 0) = false := by rw [beq_eq_false_iff_ne]; omega
    have h0'' : ((X : Int) != 0) = true := by rw [bne_iff_ne]; omega
    have h00 : ¬ (X : Int) = 0 := by omega
    simp only [if_neg h0]
    go_enter Tryz.func39, Tryz.ntmps39
    go_wp2_with fail
    refine Rn.region_any (by kernel_rfl) ?_
    refine Rn.any_seg 0 8 (by kernel_rfl) rfl ?_
    simp only [List.take_succ_cons, List.take_zero, List.drop_zero]
    repeat (refine Rn.ws_one (fun KK hKK => ?_); go_simp; refine hKK _ ?_; clear hKK KK)
    refine Rn.ws_nil ?_
    intro K0 hK0
    go_simp
    refine .inl ((HB.out _ HE'.out).mono ?_)
    rintro e w' ⟨rfl, hb⟩
    have HK := Lib.hid hb
    clear hb
    refine hK0 _ _ ?_
    clear hK0 K0
    refine Rn.any_end 9 (by kernel_rfl) ?_
    simp only [List.drop_succ_cons, List.drop_zero]
    repeat (refine Rn.ws_one (fun KK hKK => ?_); go_simp; refine hKK _ ?_; clear hKK KK)
    refine Rn.ws_nil ?_
    all_goals
      have h1 := HH.out.below ((Below.refl _ W).drew.trans HK.out)
      go_wp2_with fail
      exact ⟨rfl, rfl, h1.kb⟩
end
end Go.Proofs.YtgbagdfcdljleaaGreatDoor
