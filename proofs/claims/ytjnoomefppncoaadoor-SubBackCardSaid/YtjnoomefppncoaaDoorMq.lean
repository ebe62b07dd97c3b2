/-
  The statement SubBack: what Lex has read is what Write may write.
-/
import Derived.Test.YtjnoomefppncoaaDoorMp
set_option linter.unusedVariables false
namespace Go.Proofs.YtjnoomefppncoaaDoor
open Go.RowKit Go.Shelf

def okH : X → Prop
  | .text _ => True
  | .ref m => nameB m = true
  | .att m a => nameB m = true ∧ attrB a = true
theorem hole_okH {i : List UInt8} {x : X} (hx : holeP i = some x) : okH x := by
  unfold holeP at hx
  split at hx
  · split at hx
    · rename_i h; cases hx; exact h
    · cases hx
  · split at hx
    · rename_i h; cases hx; exact h
    · cases hx
theorem okH_text (t : List UInt8) : okH (.text t) := trivial
theorem addR_okH {x : X} {L : List X} (hx : okH x) (hL : ∀ y ∈ L, okH y) : ∀ y ∈ addR x L, okH y := by
  unfold addR
  split
  · rename_i t
    split
    · exact hL
    · split
      · rename_i u M
        intro y hy
        rcases List.mem_cons.1 hy with rfl | hy
        · exact okH_text _
        · exact hL y (List.mem_cons_of_mem _ hy)
      · intro y hy
        rcases List.mem_cons.1 hy with rfl | hy
        · exact okH_text _
        · exact hL y hy
  · intro y hy
    rcases List.mem_cons.1 hy with rfl | hy
    · exact hx
    · exact hL y hy
theorem lexS_okH : ∀ (n : Nat) (l : List UInt8) (p : Nat) (L M : List X), l.length ≤ n → (∀ y ∈ L, okH y) → lexS l p L = .inr M → ∀ y ∈ M, okH y
  | n, [], p, L, M, _, hL, h => by rw [lexS_nil] at h; cases h; exact hL
  | 0, c :: t, p, L, M, hn, _, _ => by simp at hn
  | n + 1, c :: t, p, L, M, hn, hL, h => by
    simp only [List.length_cons] at hn
    by_cases ho : c = 36 ∧ t.head? = some 123
    · obtain ⟨rfl, ht⟩ := ho
      cases t with
      | nil => cases ht
      | cons d t' =>
      simp only [List.head?_cons, Option.some.injEq] at ht
      subst ht
      rw [lexS_open] at h
      cases hc : cutB 125 t' with
      | none => rw [hc] at h; cases h
      | some q =>
        obtain ⟨i, r⟩ := q
        have hl := cutB_len hc
        rw [hc] at h
        simp only [List.length_cons] at hn
        simp only at h
        split at h
        · exact lexS_okH n r _ _ M (by omega) (addR_okH (okH_text _) hL) h
        · cases hx : holeP i with
          | none => rw [hx] at h; cases h
          | some x =>
            rw [hx] at h
            exact lexS_okH n r _ _ M (by omega) (addR_okH (hole_okH hx) hL) h
    · rw [lexS_byte _ _ ho] at h
      exact lexS_okH n t _ _ M (by omega) (addR_okH (okH_text _) hL) h
theorem wrT_unv : ∀ (n : Nat) (t w : List UInt8), t.length ≤ n → wrT t = some w → Lib.validD w = true → Lib.validD t = true
  | n, t, w, hn, hw, hv => by
    cases hc : cutO t with
    | none => rw [wrT_none hc] at hw; cases hw; exact hv
    | some q =>
      obtain ⟨a, y⟩ := q
      have hlen := cutO_len hc
      rw [wrT_some hc] at hw
      cases hb : cutB 125 y with
      | none => rw [hb] at hw; cases hw
      | some q2 =>
        obtain ⟨i, b⟩ := q2
        have hlen2 := cutB_len hb
        rw [hb] at hw
        simp only at hw
        cases hz : wrT b with
        | none => rw [hz] at hw; cases hw
        | some z =>
          rw [hz] at hw
          simp only [Option.some.injEq] at hw
          subst hw
          obtain ⟨v1, v2⟩ := valid_split (c := 36) (by decide) _ hv a _ rfl
          obtain ⟨_, v3⟩ := valid_split (c := 123) (by decide) _ v2 [] _ rfl
          obtain ⟨_, v4⟩ := valid_split (c := 33) (by decide) _ v3 [] _ rfl
          obtain ⟨v5, v6⟩ := valid_split (c := 125) (by decide) _ v4 i z rfl
          match n, hn with
          | 0, hn => omega
          | n + 1, hn =>
            have v7 := wrT_unv n b z (by omega) hz v6
            rw [cutO_some hc, (cutB_some hb).1]
            have : a ++ 36 :: 123 :: (i ++ 125 :: b) = a ++ ([36, 123] ++ (i ++ ([125] ++ b))) := by simp
            rw [this]
            exact valid_two v1 (valid_two (valid_a _ (by decide)) (valid_two v5 (valid_two (valid_a _ (by decide)) v7)))
theorem wr1_hole {x : X} (h : x.isT = false) : ∃ y, wr1 x = some (36 :: (y ++ [125])) := by
  cases x with
  | text t => cases h
  | ref m => exact ⟨123 :: m, rfl⟩
  | att m a => exact ⟨123 :: (m ++ 46 :: a), by show some _ = some _; simp⟩
theorem wrR_cons {x : X} {L : List X} {s : List UInt8} (h : wrR (x :: L) = some s) : ∃ a b, wrR L = some a ∧ wr1 x = some b ∧ s = a ++ b := by
  unfold wrR at h
  cases hL : wrR L with
  | none => rw [hL] at h; cases h
  | some a =>
    rw [hL] at h
    simp only at h
    cases hb : wr1 x with
    | none => rw [hb] at h; cases h
    | some b => rw [hb] at h; cases h; exact ⟨a, b, rfl, rfl, rfl⟩
theorem okX_back : ∀ (L : List X) (s : List UInt8), wrR L = some s → nice L → (∀ x ∈ L, okH x) → Lib.validD s = true → ∀ x ∈ L, okX x
  | [], _, _, _, _, _ => by intro x h; cases h
  | x :: L, s, h, hn, hh, hv => by
    obtain ⟨a, b, ha, hb, rfl⟩ := wrR_cons h
    have hhL : ∀ y ∈ L, okH y := fun y hy => hh y (List.mem_cons_of_mem _ hy)
    cases hT : x.isT with
    | false =>
      obtain ⟨y, hy⟩ := wr1_hole hT
      rw [hb] at hy
      cases hy
      have va := (valid_split (c := 36) (by decide) _ hv a _ rfl).1
      intro z hz
      rcases List.mem_cons.1 hz with rfl | hz
      · have := hh z (by simp)
        cases z with
        | text t => cases hT
        | ref m => exact this
        | att m a => exact this
      · exact okX_back L a ha hn.2 hhL va z hz
    | true =>
      have key : Lib.validD a = true ∧ Lib.validD b = true := by
        cases L with
        | nil => cases ha; exact ⟨valid_ascii [] (by simp), hv⟩
        | cons y M =>
          have hyT := (hn.1 hT).2 y rfl
          obtain ⟨c, d, hc, hd, rfl⟩ := wrR_cons ha
          obtain ⟨u, hu⟩ := wr1_hole hyT
          rw [hd] at hu
          cases hu
          have e : c ++ 36 :: (u ++ [125]) ++ b = (c ++ 36 :: u) ++ 125 :: b := by simp
          obtain ⟨v1, v2⟩ := valid_split (c := 125) (by decide) _ hv _ _ e
          refine ⟨?_, v2⟩
          have e2 : c ++ 36 :: (u ++ [125]) = (c ++ 36 :: u) ++ [125] := by simp
          rw [e2]
          exact valid_two v1 (valid_a _ (by decide))
      intro z hz
      rcases List.mem_cons.1 hz with rfl | hz
      · cases z with
        | text t => exact wrT_unv t.length t b (Nat.le_refl _) hb key.2
        | ref m => cases hT
        | att m a => cases hT
      · exact okX_back L a ha hn.2 hhL key.1 z hz
theorem wrR_mem : ∀ (L : List X) (s : List UInt8), wrR L = some s → ∀ x ∈ L, x.m.length + x.a.length ≤ s.length
  | [], _, _ => by intro x h; cases h
  | y :: L, s, h => by
    obtain ⟨a, b, ha, hb, rfl⟩ := wrR_cons h
    intro x hx
    rw [List.length_append]
    rcases List.mem_cons.1 hx with rfl | hx
    · cases x with
      | text t => show 0 + 0 ≤ _; omega
      | ref m => cases hb; show m.length + 0 ≤ _; simp only [List.length_cons, List.length_append]; omega
      | att m a => cases hb; show m.length + a.length ≤ _; simp only [List.length_cons, List.length_append]; omega
    · have := wrR_mem L a ha x hx
      omega
theorem nice_full : ∀ (L : List X), nice L → ∀ x ∈ L, x.isT = true → x.t ≠ []
  | [], _ => by intro x h; cases h
  | y :: L, h => by
    intro x hx hT
    rcases List.mem_cons.1 hx with rfl | hx
    · exact (h.1 hT).1
    · exact nice_full L h.2 x hx hT
theorem okP_back {l : List UInt8} {L : List X} (hv : Lib.validD l = true) (hR : lexS l 0 [] = .inr L) (hl : l.length ≤ 4096) : okP (L.reverse.map toE) (L.reverse.map toE).length := by
  have hn := nice_lex l.length l 0 [] L (Nat.le_refl _) trivial hR
  have hok := okX_back L l (back_wr hR) hn (lexS_okH l.length l 0 [] L (Nat.le_refl _) (fun y h => by cases h) hR) hv
  have hA : (ansL l).1 = L.reverse := by
    unfold ansL
    rw [if_neg (by rw [hv]; simp), if_neg (by omega), hR]
  intro i h _
  have hi : i < L.reverse.length := by rw [List.length_map] at h; exact h
  constructor
  · rw [List.getElem_map]
    have hm : L.reverse[i] ∈ L := List.mem_reverse.1 (List.getElem_mem hi)
    exact part_toE (hok _ hm) (nice_full L hn _ hm)
  · rintro k rfl ⟨h1, h2⟩
    rw [List.getElem_map] at h1 h2
    have hT : ∀ x : X, (toE x).kind = 0 → x.isT = true := fun x => by
      cases x with
      | text t => intro _; rfl
      | ref m => intro h; exact absurd (show (3 : Int) = 0 from h) (by decide)
      | att m a => intro h; exact absurd (show (4 : Int) = 0 from h) (by decide)
    have := ans_nice l L.reverse hA k hi (hT _ h1)
    rw [hT _ h2] at this
    cases this
theorem map_back (L : List X) : (L.map toE).map toX = L := by
  rw [List.map_map]
  have : toX ∘ toE = id := funext toX_toE
  rw [this, List.map_id]

theorem second_any (s : ByteArray) (w : World) (hE : Env w) (hs : s.size ≤ 1500) : SecondH s w := by
  have hlen : s.data.toList.length ≤ 1500 := by rw [toList_length]; exact hs
  rcases ans_form s.data.toList with ⟨h0, hne⟩ | ⟨L, hv, hl4, hR, e⟩
  · refine .inl fun W hb => (lex_any s W (hE.kb hb.out) (by omega)).mono ?_
    rintro e w' ⟨v, rfl, hx, hb'⟩
    exact ⟨v, _, _, rfl, beq_eq_false_iff_ne.2 (fun h => hne (by omega)), hb'⟩
  · refine .inr ⟨L.reverse, fun W hb => (lex_any s W (hE.kb hb.out) (by omega)).mono ?_, fun W v hb hx => ?_, fun W v v' h h' => sameAll_any L.reverse v v' W h.out h'.out⟩
    · rintro e' w' ⟨v, rfl, hx, hb'⟩
      rw [e] at hx ⊢
      exact ⟨v, rfl, hx, hb'⟩
    · have hLb := lexS_bound _ s.data.toList 0 [] L (Nat.le_refl _) hR
      have hLt := lexS_tx _ s.data.toList 0 [] L (Nat.le_refl _) hR
      have z0 : txS [] = 0 := rfl
      rw [z0] at hLt
      simp only [List.length_nil] at hLb
      have hbw := back_wr hR
      have hsz : ∀ x ∈ L.reverse, x.t.length ≤ 1500 ∧ x.m.length + x.a.length ≤ 1500 := fun x hx => by
        have hm := List.mem_reverse.1 hx
        have h1 := txS_mem hm
        have h2 := wrR_mem L _ hbw x hm
        exact ⟨by omega, by omega⟩
      have hel : isEl W (L.reverse.map toE) v := isEl_of hx.out fun x hx => by have := hsz x hx; exact ⟨by omega, by omega, by omega⟩
      refine (write_walk (L.reverse.map toE) v W (hE.kb hb.out) (by rw [List.length_map, List.length_reverse]; omega) (fun x hx => ?_) hel).mono ?_
      · obtain ⟨y, hy, rfl⟩ := List.mem_map.1 hx
        have := hsz y hy
        show (bs y.t).size + (bs y.m).size + (bs y.a).size ≤ 3000
        rw [bs_size, bs_size, bs_size]
        omega
      · rintro e' w' ⟨h1, -, hb'⟩
        have := h1 (okP_back hv hR hl4)
        rw [map_back, List.reverse_reverse, hbw] at this
        simp only at this
        rw [bs_self] at this
        exact ⟨this, hb'⟩
theorem first_any (l : List E) (v : Value) (w1 : World) (hE : Env w1) (hv : isEl w1 l v) (hsm : l.length ≤ 200 ∧ ∀ x ∈ l, smallE x) : FirstH l v w1 := by
  have W1 := write_walk l v w1 hE (by omega) hsm.2 hv
  by_cases hok : okP l l.length
  · cases hz : wrR (l.map toX).reverse with
    | none =>
      refine .inl ⟨⟨#[]⟩, 130, by decide, W1.mono ?_⟩
      rintro e w' ⟨h1, -, hb⟩
      have := h1 hok
      rw [hz] at this
      exact ⟨this, hb⟩
    | some z =>
      have hw : Calls Tryd.prog 17 #[v] w1 (RetC (.tuple #[.string (bs z), .int .i64 0]) w1) := W1.mono (by
        rintro e w' ⟨h1, -, hb⟩
        have := h1 hok
        rw [hz] at this
        exact ⟨this, hb⟩)
      by_cases hl : z.length ≤ 4096
      · refine .inr (.inr ⟨bs z, by rw [bs_size]; omega, hw, fun W hb => (lex_any (bs z) W (hE.kb hb.out) (by rw [bs_size]; omega)).mono ?_, fun W v' hb hx => sameAllE_any l v' v W (okP_nice hok).2 hx.out (hv.below hb.out)⟩)
        rintro e w' ⟨v', rfl, hx, hb'⟩
        rw [bs_list, ans_wr hok hz hl] at hx ⊢
        exact ⟨v', rfl, hx, hb'⟩
      · exact .inr (.inl ⟨bs z, by rw [bs_size]; omega, hw⟩)
  · refine .inl ⟨⟨#[]⟩, 2, by decide, W1.mono ?_⟩
    rintro e w' ⟨-, h2, hb⟩
    exact ⟨h2 hok, hb⟩

set_option maxRecDepth 100000 in
set_option maxHeartbeats 8000000 in
theorem subBack_any (l : List E) (v : Value) (s : ByteArray) (w : World) (hE : Env w) (hv : isEl w l v) (hs : s.size ≤ maxLen) :
    Calls Tryd.prog 5 #[v, .string s] w fun e w' => e = .returned (.bool true) ∧ Below w.heap.size w w' := by
  have HW : Hid (∀ W, Hid (Below w.heap.size w W) → Calls Tryd.prog 8 #[] W fun e w' => e = .returned (.bool true) ∧ Below W.heap.size W w') := Lib.hid fun W hb => wakes_any W (hE.kb hb.out)
  have HG := Lib.hid (great_any l v w hv)
  by_cases hbig : 1500 < s.size
  · have hc : (1500 : Int) < (s.size : Int) := by omega
    clear hE hs hv
    go_enter Tryd.func5, Tryd.ntmps5
    go_wp2_with fail
    go_at_call 16
    refine HG.out.mono ?_
    rintro e w1 ⟨r, rfl, -, hb1⟩
    have HB1 := Lib.hid hb1
    clear hb1 HG
    cases r
    all_goals
      go_wp2_with (go_at_call 8; refine (HW.out _ HB1).mono ?_; rintro e w6 ⟨rfl, hb6⟩)
      go_ret
      exact ⟨rfl, HB1.out.trans (hb6.mono HB1.out.size)⟩
  · exact subBack_core l v s w (by omega) HG (Lib.hid fun w1 hb h => first_any l v w1 (hE.kb hb.out) (hv.below hb.out) h) (Lib.hid (second_any s w hE (by omega))) HW
end Go.Proofs.YtjnoomefppncoaaDoor
