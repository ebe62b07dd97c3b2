/-
  JournalWhole: plain facts of what the acts leave; the rows that were told OK.
-/
import Derived.Test.YtbjdbphnccdpbaaJv
set_option linter.unusedVariables false
namespace Go.Proofs.Ytbjdbphnccdpbaa
open Go.RowKit Go.Shelf Go.Lib Go.Deep

theorem scan_behind : ∀ (L : List (List UInt8)) (t : List UInt8), (∀ x ∈ L, goodL x) → scanL (framesL L ++ t) = (L ++ (scanL t).1, (scanL t).2)
  | [], t, _ => rfl
  | x :: r, t, h => by
    show scanL ((frameL x ++ framesL r) ++ t) = _
    rw [List.append_assoc, scan_frame (h x (by simp)), scan_behind r t (fun y hy => h y (by simp [hy]))]
    rfl
theorem scan_short {x : List UInt8} (h : goodL x) (c : Nat) (hc : c < (frameL x).length) : scanL ((frameL x).take c) = ([], ((frameL x).take c).length) := by
  have := scan_cut [x] c (fun y hy => by simp at hy; subst hy; exact h) (by simp [framesL]; omega)
  have e : framesL [x] = frameL x := by simp [framesL]
  rw [e] at this
  rw [this]
  rw [frame_length] at hc
  unfold wholeL
  rw [if_neg (by omega), List.length_take, frame_length]
  simp
  omega
/-- The journal behind an act: the rows W that were told OK, with what it is armed (kp), the disk. -/
def MID (W : List (List UInt8)) (s : DS) (kp : Int) : Prop :=
  (∀ x ∈ W, goodL x) ∧ ((s.dn = false ∧ s.f = framesL W ∧ ∀ n, s.ar = some n → kp = (n : Int)) ∨ (s.dn = true ∧ s.ar = none ∧ ∃ t, s.f = framesL W ++ t ∧ scanL t = ([], t.length)))
/-- Between two rounds: the disk is up. -/
def UPW (W : List (List UInt8)) (s : DS) (kp : Int) : Prop := (∀ x ∈ W, goodL x) ∧ s.dn = false ∧ s.f = framesL W ∧ ∀ n, s.ar = some n → kp = (n : Int)
theorem UPW.torn {W : List (List UInt8)} {s : DS} {kp : Int} (h : UPW W s kp) : (scanL s.f).2 = 0 := by rw [h.2.2.1, scan_frames W h.1]
theorem UPW.mid {W : List (List UInt8)} {s : DS} {kp : Int} (h : UPW W s kp) : MID W s kp := ⟨h.1, .inl ⟨h.2.1, h.2.2.1, h.2.2.2⟩⟩
theorem MID.up {W : List (List UInt8)} {s : DS} {kp : Int} (h : MID W s kp) (hd : s.dn = false) : UPW W s kp := by
  rcases h.2 with ⟨h1, h2, h3⟩ | ⟨h1, _⟩
  · exact ⟨h.1, h1, h2, h3⟩
  · rw [hd] at h1; cases h1
/-- The rows behind an Append. -/
def appW (W : List (List UInt8)) (x : List UInt8) (i kp : Int) : List (List UInt8) := if i = 0 ∨ (i = 60 ∧ (x.length : Int) + 4 ≤ kp) then W ++ [x] else W
theorem app_mid {W : List (List UInt8)} {s : DS} {kp : Int} {x : List UInt8} {r : Int × DS} (h : UPW W s kp) (hr : AppR s x r) : MID (appW W x r.1 kp) r.2 kp := by
  obtain ⟨h1, h2, h3, h4⟩ := id h
  by_cases hE : frE x = 0
  · obtain ⟨hg, _⟩ := fr_ok hE
    rw [app_whole hr hg h2 h.torn]
    have hW : framesL (W ++ [x]) = framesL W ++ frameL x := by rw [frames_append]; simp [framesL]
    have hgW : ∀ y ∈ W ++ [x], goodL y := fun y hy => by
      rcases List.mem_append.1 hy with hy | hy
      · exact h1 y hy
      · simp at hy; subst hy; exact hg
    unfold appD
    rw [if_neg (by simp [h2])]
    by_cases hl : 1048576 < s.f.length + (frameL x).length
    · rw [if_pos hl]
      unfold appW
      rw [if_neg (by simp)]
      exact h.mid
    · rw [if_neg hl]
      cases ha : s.ar with
      | none =>
        unfold wrD appW
        rw [ha]
        dsimp only
        rw [if_pos (.inl rfl)]
        exact ⟨hgW, .inl ⟨rfl, by rw [hW, h3], fun n hn => by cases hn⟩⟩
      | some n =>
        have hkp := h4 n ha
        unfold wrD appW
        rw [ha]
        simp only [Option.getD_some]
        by_cases hn : (frameL x).length ≤ n
        · rw [if_pos (.inr ⟨trivial, by rw [frame_length] at hn; omega⟩)]
          exact ⟨hgW, .inr ⟨rfl, rfl, [], by rw [List.append_nil, hW, h3, List.take_of_length_le hn], rfl⟩⟩
        · rw [if_neg (by rw [frame_length] at hn; simp; omega)]
          exact ⟨h1, .inr ⟨rfl, rfl, (frameL x).take n, by rw [h3], scan_short hg n (by omega)⟩⟩
  · rcases hr with ⟨_, rfl⟩ | ⟨h0, _⟩ | ⟨h0, _⟩
    · have : appW W x (frE x) kp = W := by
        unfold appW
        rw [if_neg]
        unfold frE at hE ⊢
        by_cases h0 : x.length = 0
        · rw [if_pos h0]; simp
        · rw [if_neg h0] at hE ⊢
          by_cases h1 : 524288 < x.length
          · rw [if_pos h1]; simp
          · rw [if_neg h1] at hE; exact absurd rfl hE
      show MID (appW W x (frE x) kp) s kp
      rw [this]
      exact h.mid
    · exact absurd h0 hE
    · exact absurd h0 hE
/-- The rows behind a Snap. -/
def snapW (W L : List (List UInt8)) (i : Int) : List (List UInt8) := if i = 0 then L else W
theorem snap_mid {W L : List (List UInt8)} {s : DS} {kp : Int} {r : Int × DS} (h : UPW W s kp) (hr : SnapR s L r) : MID (snapW W L r.1) r.2 kp := by
  obtain ⟨h1, h2, h3, h4⟩ := id h
  unfold snapW
  rcases hr with ⟨h5, rfl⟩ | ⟨h5, h6, rfl⟩ | ⟨h5, h6, rfl⟩
  · rw [if_neg h5]; exact h.mid
  · rw [if_neg h6]; exact h.mid
  · have e : swapD s (framesL L) = wrD s (framesL L) s.f := by
      unfold swapD
      rw [if_neg (by simp [h2]), if_neg (by have := fit_le h6; omega)]
    rw [e]
    unfold wrD
    cases ha : s.ar with
    | none =>
      simp only
      rw [if_pos trivial]
      exact ⟨sound_good h5, .inl ⟨rfl, rfl, fun n hn => by cases hn⟩⟩
    | some n =>
      simp only
      rw [if_neg (by omega)]
      exact ⟨h1, .inr ⟨rfl, rfl, [], by rw [List.append_nil, h3], rfl⟩⟩
theorem arm_mid {W : List (List UInt8)} {s : DS} {kp n : Int} (h : UPW W s kp) : MID W (armD s n).2 (if (armD s n).1 = 0 then n else kp) := by
  obtain ⟨h1, h2, h3, h4⟩ := id h
  unfold armD
  rw [if_neg (by simp [h2])]
  by_cases hn : n < 0
  · rw [if_pos hn]
    simp only
    rw [if_neg (by omega)]
    exact h.mid
  · rw [if_neg hn]
    simp only
    rw [if_pos trivial]
    exact ⟨h1, .inl ⟨h2, h3, fun m hm => by cases hm; omega⟩⟩
theorem crash_mid {W : List (List UInt8)} {s : DS} {kp : Int} (h : UPW W s kp) : MID W (crashD s).2 kp := by
  obtain ⟨h1, h2, h3, h4⟩ := id h
  unfold crashD
  rw [if_neg (by simp [h2])]
  exact ⟨h1, .inr ⟨rfl, rfl, [], by rw [List.append_nil]; exact h3, rfl⟩⟩
/-- Behind a crash: up, open. -/
theorem open_mid {W : List (List UInt8)} {s : DS} {kp : Int} (h : MID W s kp) (hd : s.dn = true) : upD s = (0, ⟨s.f, false, none⟩) ∧ openD ⟨s.f, false, none⟩ = (0, ⟨framesL W, false, none⟩) ∧ opL ⟨s.f, false, none⟩ = W := by
  rcases h.2 with ⟨h1, _⟩ | ⟨h1, h2, t, h3, h4⟩
  · rw [hd] at h1; cases h1
  have hsc : scanL s.f = (W, t.length) := by rw [h3, scan_behind W t h.1, h4]; simp
  have hop : openD ⟨s.f, false, none⟩ = (0, ⟨framesL W, false, none⟩) := by
    unfold openD
    rw [if_neg (by simp), hsc]
    by_cases ht : t.length = 0
    · obtain rfl : t = [] := List.eq_nil_of_length_eq_zero ht
      rw [if_pos (by rfl), h3, List.append_nil]
    · rw [if_neg ht]
      have hln : s.f.length = (framesL W).length + t.length := by rw [h3, List.length_append]
      unfold cutD wrD
      rw [if_neg (by simp), if_neg (by simp only; omega)]
      simp only
      have : ((s.f.length : Int) - (t.length : Nat)).toNat = (framesL W).length := by omega
      rw [this, h3, List.take_left]
  refine ⟨by unfold upD; rw [if_pos hd, h2], hop, ?_⟩
  unfold opL
  rw [hop, if_pos rfl, hsc]
theorem open_again {W : List (List UInt8)} (h : ∀ x ∈ W, goodL x) : openD ⟨framesL W, false, none⟩ = (0, ⟨framesL W, false, none⟩) ∧ opL ⟨framesL W, false, none⟩ = W ∧ opT ⟨framesL W, false, none⟩ = 0 := by
  have hop : openD ⟨framesL W, false, none⟩ = (0, ⟨framesL W, false, none⟩) := by
    unfold openD
    rw [if_neg (by simp), scan_frames W h, if_pos rfl]
  refine ⟨hop, ?_, ?_⟩
  · unfold opL; rw [hop, if_pos rfl, scan_frames W h]
  · unfold opT; rw [hop, if_pos rfl, scan_frames W h]
theorem upw_again {W : List (List UInt8)} {kp : Int} (h : ∀ x ∈ W, goodL x) : UPW W ⟨framesL W, false, none⟩ kp := ⟨h, rfl, rfl, fun n hn => by cases hn⟩
theorem upw_rows {W : List (List UInt8)} {s : DS} {kp : Int} (h : UPW W s kp) : roL s = W ∧ beD s = 0 := by
  unfold roL byD beD
  rw [if_neg (by simp [h.2.1]), if_neg (by simp [h.2.1]), h.2.2.1, scan_frames W h.1]
  exact ⟨rfl, rfl⟩

/-- The row of rows stays while the disk turns. -/
theorem ownsRow_fr {W W' : World} {base n : Nat} {e : TypeId} {sz : Nat} {v : Value} {xs : List Value} {B : Nat → Prop} (h : W.ownsRow base e sz v n xs) (hF : Fr B W W') (hB : ∀ k, v.ownBlock = some k → ¬ B k) : W'.ownsRow base e sz v n xs := by
  obtain ⟨h1, h2⟩ := h
  rcases h2 with ⟨rfl, h0⟩ | ⟨g, cap, cur, rfl, q1, q2, q⟩
  · exact ⟨h1, .inl ⟨rfl, h0⟩⟩
  · exact ⟨h1, .inr ⟨g, cap, cur, rfl, q1, hF.2 g _ q2 (hB g (by simp [Value.ownBlock])), q⟩⟩
theorem RW.disk {W0 W W' : World} {b : Nat} {s : DS} {vd v : Value} {L : List (List UInt8)} (h : RW W0 W L v) (hk : Dk 52 W0.heap.size b s vd W) (hF : Fr (Fp b vd) W W') : RW W0 W' L v := by
  obtain ⟨xs, s1, s2, s3⟩ := h
  refine ⟨xs, ownsRow_fr s1 hF (fun k hv hf => ?_), s2, s3.trans (hF.below (fun k hk2 => (hk.fp k hk2).1) s3.size)⟩
  rcases s1.2 with ⟨rfl, _⟩ | ⟨g, cap, cur, rfl, _, hg, _⟩
  · cases hv
  · have : g = k := by simpa [Value.ownBlock] using hv
    subst this
    obtain ⟨_, _, _, ⟨m, hm, _⟩, ho⟩ := hk
    rcases hf with rfl | hf
    · rw [hg] at hm; cases hm
    · obtain ⟨_, _, c2, hc2⟩ := ho.lt g hf
      rw [hg] at hc2; cases hc2
end Go.Proofs.Ytbjdbphnccdpbaa
