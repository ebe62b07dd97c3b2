/-
  The reference's written.
-/
import Derived.Test.YtjnoomefppncoaaDoorMi
import Derived.Test.YtjnoomefppncoaaDoorLz
set_option linter.unusedVariables false
namespace Go.Proofs.YtjnoomefppncoaaDoor
open Go.RowKit Go.Shelf

theorem cutO_nil : cutO [] = none := rfl
theorem wrT_nil : wrT [] = some [] := rfl
theorem wrT_byte {c : UInt8} {t : List UInt8} (h : ¬ (c = 36 ∧ t.head? = some 123)) : wrT (c :: t) = (wrT t).map (c :: ·) := by
  cases hc : cutO t with
  | none =>
    have h2 : cutO (c :: t) = none := by unfold cutO; rw [if_neg h, hc]
    rw [wrT_none h2, wrT_none hc]; rfl
  | some q =>
    obtain ⟨x, y⟩ := q
    have h2 : cutO (c :: t) = some (c :: x, y) := by unfold cutO; rw [if_neg h, hc]
    rw [wrT_some h2, wrT_some hc]
    cases cutB 125 y with
    | none => rfl
    | some q =>
      obtain ⟨i, b⟩ := q
      simp only
      cases wrT b with
      | none => rfl
      | some z => rfl
theorem wrT_open {y : List UInt8} : wrT (36 :: 123 :: y) = match cutB 125 y with
    | none => none
    | some (i, b) => (wrT b).map (fun z => 36 :: 123 :: 33 :: (i ++ 125 :: z)) := by
  have h2 : cutO (36 :: 123 :: y) = some ([], y) := by unfold cutO; rw [if_pos ⟨rfl, rfl⟩]; rfl
  rw [wrT_some h2]
  cases cutB 125 y with
  | none => rfl
  | some q =>
    obtain ⟨i, b⟩ := q
    simp only
    cases wrT b with
    | none => rfl
    | some z => rfl
/-- What is written is T, and then the rest. -/
def catO (T : List UInt8) (o : Option (List UInt8)) : Option (List UInt8) := o.map (T ++ ·)
theorem catO_map (T a : List UInt8) (o : Option (List UInt8)) : catO T (o.map (a ++ ·)) = catO (T ++ a) o := by cases o <;> simp [catO]
theorem catO_nil (o : Option (List UInt8)) : catO [] o = o := by cases o <;> simp [catO]
def WrittenR (R : Option (List UInt8)) (w : World) (e : Ending) (w' : World) : Prop := (match R with
  | none => e = .returned (.tuple #[.string ⟨#[]⟩, .bool false])
  | some z => e = .returned (.tuple #[.string (bs z), .bool true])) ∧ Below w.heap.size w w'

set_option maxRecDepth 100000 in
set_option maxHeartbeats 8000000 in
theorem written_any (s : ByteArray) (w : World) (hs4 : s.size ≤ 4096) : Calls Tryd.prog 35 #[.string s] w (WrittenR (wrT s.data.toList) w) := by
  obtain ⟨iu, hu, hu0, hu1, hu2⟩ := info_parts infoU8
  obtain ⟨R, hR⟩ : ∃ R, wrT s.data.toList = R := ⟨_, rfl⟩
  rw [hR]
  have HR0 := Lib.hid hR
  clear hR
  go_enter Tryd.func35, Tryd.ntmps35
  go_wp2_with fail
  go_loopw [4, 5] (fun tv pv wr => ∃ (p : Nat) (T : List UInt8) (ot : Option Addr) (ct : Nat), p ≤ s.size ∧ T.length ≤ 2 * p ∧ pv = .int .i64 p ∧ tv = .slice ot T.length ct ∧ Hid (catO T (wrT (s.data.toList.drop p)) = R) ∧ Hid (RL w [] T none 0 ot ct wr)) (fun _ pv _ => s.size - (intOf pv).toNat)
  case atStart => exact ⟨0, [], none, 0, Nat.zero_le _, Nat.le_refl _, rfl, rfl, Lib.hid (by rw [catO_nil]; exact HR0.out), Lib.hid ⟨World.ownsRow_nil _ _ _ _, World.ownsRow_nil _ _ _ _, Below.refl _ _⟩⟩
  case round =>
    obtain ⟨p, T, ot, ct, hp, hTp, rfl, rfl, HX, HG⟩ := hrel
    have HR1 : Hid (∀ ob, RL w [] T none 0 ot ct (wr.alloc ob)) := Lib.hid fun ob => HG.out.below ((Below.refl _ _).alloc (Nat.le_refl _) _)
    have hwr : w.heap.size ≤ wr.heap.size := HG.out.be.size
    by_cases hlt : p < s.size
    · obtain ⟨t, hdt⟩ : ∃ t, s.data.toList.drop p = s[p] :: t := ⟨_, by rw [List.drop_eq_getElem_cons (by rw [toList_length]; exact hlt)]; rfl⟩
      have ht2 : t = s.data.toList.drop (p + 1) := (drop_next hdt).symm
      have hhead : t.head? = if h : p + 1 < s.size then some (s[p + 1]'h) else none := by
        rw [ht2]
        by_cases h1 : p + 1 < s.size
        · rw [dif_pos h1, List.head?_drop, toList_getElem s (p + 1) h1]
        · rw [dif_neg h1, List.drop_eq_nil_of_le (by rw [toList_length]; omega)]; rfl
      have hlti : (p : Int) < (s.size : Int) := by omega
      by_cases ho : s[p] = 36 ∧ t.head? = some 123
      · obtain ⟨h36, hh⟩ := ho
        have h1 : p + 1 < s.size := by
          rcases Nat.lt_or_ge (p + 1) s.size with h | h
          · exact h
          · rw [hhead, dif_neg (by omega)] at hh; cases hh
        have h123 : s[p + 1]'h1 = 123 := by rw [hhead, dif_pos h1] at hh; exact Option.some.inj hh
        have e36 : ((((s[p].toNat : Nat) : Int) != 36) = false) := by rw [h36]; rfl
        have e123 : (((((s[p + 1]'h1).toNat : Nat) : Int) != 123) = false) := by rw [h123]; rfl
        have hc1 : ¬ ((s.size : Int) ≤ (p : Int) + 1) := by omega
        obtain ⟨t', rfl⟩ : ∃ t', t = 123 :: t' := by
          cases t with
          | nil => cases hh
          | cons a b => simp only [List.head?_cons, Option.some.injEq] at hh; exact ⟨b, by rw [hh]⟩
        have ht3 : t' = s.data.toList.drop (p + 2) := by
          have := congrArg List.tail ht2
          rw [List.tail_cons, List.tail_drop] at this
          exact this
        have hlx := HX.out
        rw [hdt, h36, wrT_open, ht3] at hlx
        have hsh := fun W => shut_any s (p + 2) (by omega) W (by unfold maxLen; omega)
        rw [show (((p + 2 : Nat)) : Int) = (p : Int) + 2 by omega] at hsh
        cases hcut : cutB 125 (s.data.toList.drop (p + 2)) with
        | none =>
          rw [hcut] at hlx hsh
          simp only at hlx hsh
          obtain rfl : none = R := hlx
          have HSH := Lib.hid hsh
          have HBE := Lib.hid HG.out.be
          clear hsh HX HR0 h36 h123 hh hhead hdt ht2 ht3 hcut HR1 HG
          go_wp2_with (go_at_call 22; refine (HSH.out _).mono ?_; rintro e w5 ⟨rfl, rfl⟩)
          go_ret2
          exact ⟨rfl, HBE.out⟩
        | some q2 =>
          obtain ⟨i, r⟩ := q2
          rw [hcut] at hlx hsh
          simp only at hlx hsh
          obtain ⟨hdi, hni⟩ := cutB_some hcut
          have hil : p + 2 + i.length + 1 + r.length = s.size := by
            have := congrArg List.length hdi
            rw [List.length_drop, toList_length, List.length_append, List.length_cons] at this
            omega
          have hdr : s.data.toList.drop (p + 2 + i.length + 1) = r := by
            rw [show p + 2 + i.length + 1 = (p + 2) + (i.length + 1) by omega, ← List.drop_drop, hdi, show i ++ 125 :: r = (i ++ [125]) ++ r by simp]
            rw [show i.length + 1 = (i ++ [125]).length by simp, List.drop_left]
          obtain ⟨q, hq⟩ : ∃ q, p + 2 + i.length = q := ⟨_, rfl⟩
          rw [hq] at hsh hil hdr
          have HSH := Lib.hid hsh
          have hqs : (q : Int) + 1 ≤ (s.size : Int) := by omega
          have hq0 : ¬ ((q : Int) < 0) := by omega
          have hsub : s.extract (p + 2) (q + 1) = bs (i ++ [125]) := by
            rw [ext_sub, sub_of (l := s.data.toList) (a := p + 2) (b := q + 1) (i := i ++ [125]) (t := r) ?_ (by simp only [List.length_append, List.length_cons, List.length_nil] at hq ⊢; omega)]
            rw [hdi]
            simp
          have hX3 : Hid (catO ((T ++ [36, 123, 33]) ++ (i ++ [125])) (wrT (s.data.toList.drop (q + 1))) = R) := Lib.hid (by
            rw [hdr, ← hlx]
            cases wrT r <;> simp [catO])
          have hTq : (T ++ [36, 123, 33]).length + (i ++ [125]).length ≤ 2 * (q + 1) := by simp only [List.length_append, List.length_cons, List.length_nil]; omega
          have HSU := Lib.hid hsub
          have c3 : (0 : Int) ≤ (p : Int) + 2 := by omega
          have c4 : (p : Int) + 2 ≤ (q : Int) + 1 := by omega
          clear hsh hdr hlx HX HR0 h36 h123 hh hhead hdt ht2 ht3 hcut hdi hni hsub hil
          go_upto_region 11 with (first | (go_at_call 22; refine (HSH.out _).mono ?_; rintro e w5 ⟨rfl, rfl⟩) | (at_builtin; refine Lib.wpList_append_own_string _ rfl _ _ 38 9 rfl w.heap.size 5 iu Tryd.underlying38 Tryd.underlying9 hu hu0 hu1 hu2 _ T.length (Lib.byteCells T) rfl HG.out.pt ⟨#[36, 123, 33]⟩ rfl (by unfold maxLen; show T.length + 3 ≤ _; omega) (by show T.length + 3 ≤ _; omega) hwr ?_; intro v6 w6 own6 gr6 nil6; obtain ⟨o6, ad6, c6, rfl, -, -, -, -, -⟩ := own_form own6))
          have HG6 : Hid (RL w [] (T ++ [36, 123, 33]) none 0 o6 c6 w6) := Lib.hid (HG.out.text (T' := T ++ [36, 123, 33]) (by rw [byteCells_app, List.length_append]; exact own6) gr6)
          clear own6 gr6 nil6
          have hw6 := HG6.out.be.size
          have hT1 : (T ++ [36, 123, 33]).length = T.length + 3 := by simp
          have HP6 : Hid (w6.ownsRow w.heap.size 5 1 (.slice o6 (T.length + 3) c6) (T.length + 3) (Lib.byteCells (T ++ [36, 123, 33]))) := Lib.hid (by have := HG6.out.pt; rw [hT1] at this; exact this)
          have hTq2 : T.length + 3 + (s.extract (p + 2) (q + 1)).size ≤ 1000000 := by rw [HSU.out, bs_size]; simp only [List.length_append, List.length_cons, List.length_nil] at hq ⊢; omega
          go_wp2_with (at_builtin; refine Lib.wpList_append_own_string _ rfl _ _ 38 9 rfl w.heap.size 5 iu Tryd.underlying38 Tryd.underlying9 hu hu0 hu1 hu2 _ (T.length + 3) (Lib.byteCells (T ++ [36, 123, 33])) rfl HP6.out (s.extract (p + 2) (q + 1)) rfl (by unfold maxLen; omega) (by omega) hw6 ?_; intro v7 w7 own7 gr7 nil7; obtain ⟨o7, ad7, c7, rfl, -, -, -, -, -⟩ := own_form own7)
          have hT2 : T.length + 3 + (s.extract (p + 2) (q + 1)).size = ((T ++ [36, 123, 33]) ++ (i ++ [125])).length := by rw [HSU.out, bs_size]; simp only [List.length_append, List.length_cons, List.length_nil]; try omega
          have hT3 : T.length + 3 + (min (q + 1) s.size - (p + 2)) = ((T ++ [36, 123, 33]) ++ (i ++ [125])).length := by simp only [List.length_append, List.length_cons, List.length_nil] at hq ⊢; omega
          have HG7 : Hid (RL w [] ((T ++ [36, 123, 33]) ++ (i ++ [125])) none 0 o7 c7 w7) := Lib.hid (HG6.out.text (T' := (T ++ [36, 123, 33]) ++ (i ++ [125])) (by rw [byteCells_app, ← hT2]; rw [HSU.out] at own7 ⊢; exact own7) (by rw [hT1]; exact gr7))
          clear own7 gr7 nil7
          try go_roundw
          case rel => exact ⟨q + 1, (T ++ [36, 123, 33]) ++ (i ++ [125]), o7, c7, by omega, by rw [List.length_append]; exact hTq, by go_num, by rw [hT3], hX3, HG7⟩
          case measure => simp [intOf]; omega
      · have hX2 : Hid (catO (T ++ [s[p]]) (wrT (s.data.toList.drop (p + 1))) = R) := Lib.hid (by
          have := HX.out
          rw [hdt, wrT_byte ho, ht2] at this
          rw [← this]
          cases wrT (s.data.toList.drop (p + 1)) <;> simp [catO])
        have hways : ((((s[p].toNat : Nat) : Int) != 36) = true) ∨ ((((s[p].toNat : Nat) : Int) != 36) = false ∧ ((s.size : Int) ≤ (p : Int) + 1)) ∨ (∃ h : p + 1 < s.size, (((s[p].toNat : Nat) : Int) != 36) = false ∧ ¬ ((s.size : Int) ≤ (p : Int) + 1) ∧ ((((s[p + 1]'h).toNat : Nat) : Int) != 123) = true) := by
          by_cases h36 : s[p] = 36
          · have e36 : ((((s[p].toNat : Nat) : Int) != 36) = false) := by rw [h36]; rfl
            by_cases h1 : p + 1 < s.size
            · refine .inr (.inr ⟨h1, e36, by omega, ?_⟩)
              have : s[p + 1] ≠ 123 := fun e => ho ⟨h36, by rw [hhead, dif_pos h1, e]⟩
              have h2 : ((((s[p + 1]'h1).toNat : Nat) : Int) == 123) = false := beq_eq_false_iff_ne.2 (fun e => this (toNat_eq (n := 123) (by omega)))
              rw [bne, h2]; rfl
            · exact .inr (.inl ⟨e36, by omega⟩)
          · have h2 : (((s[p].toNat : Nat) : Int) == 36) = false := beq_eq_false_iff_ne.2 (fun e => h36 (toNat_eq (n := 36) (by omega)))
            exact .inl (by rw [bne, h2]; rfl)
        have HXa := hX2
        clear ho hX2 hhead HX hdt ht2
        rcases hways with h1 | ⟨h1, h2⟩ | ⟨h0, h1, h2, h3⟩
        all_goals
          go_wp2_with (at_builtin; refine wpList_append_row_at rfl _ _ 38 rfl w.heap.size 5 iu (.int .u8 0) 1 1 Tryd.underlying38 hu hu0 hu1 hu2 rfl (by decide) _ T.length (Lib.byteCells T) rfl (HR1.out _).pt (some ⟨wr.heap.size, 0, none⟩) ⟨wr.heap.size, 0, none⟩ 1 1 [.int .u8 (s[p].toNat : Int)] rfl (fun _ => rfl) rfl (news_u8 _) (by intro u hu; rw [List.mem_singleton.1 hu]; rfl) (by unfold maxLen; omega) (by omega) (by simp; omega) ?_; intro o6 c6 w6 own6 gr6 at6)
          have HG6 : Hid (RL w [] (T ++ [s[p]]) none 0 o6 c6 w6) := Lib.hid ((HR1.out _).text (by rw [byteCells_app, List.length_append]; exact own6) gr6)
          clear own6 gr6 at6
          go_wp2_with fail
          go_roundw
          case rel => exact ⟨p + 1, T ++ [s[p]], o6, c6, by omega, by rw [List.length_append]; simp; omega, by go_num, by simp, HXa, HG6⟩
          case measure => simp [intOf]; omega
    · obtain rfl : p = s.size := by omega
      have hR2 : R = some T := by
        have := HX.out
        rw [List.drop_eq_nil_of_le (by rw [toList_length]; exact Nat.le_refl _), wrT_nil] at this
        rw [← this]
        simp [catO]
      subst hR2
      have HBE := Lib.hid HG.out.be
      clear HX HR0
      have hcv0 := own_str HG.out.pt
      clear HG HR1
      go_wp2_with fail
      go_ret2
      exact ⟨rfl, HBE.out⟩
end Go.Proofs.YtjnoomefppncoaaDoor
