/-
  JournalPlays: plain facts; between two rounds.
-/
import Derived.Test.YtbjdbphnccdpbaaKc
import Derived.Test.YtbjdbphnccdpbaaJx
set_option linter.unusedVariables false
namespace Go.Proofs.Ytbjdbphnccdpbaa
open Go.RowKit Go.Shelf Go.Lib Go.Deep

theorem atL_len : ∀ L : List (List UInt8), 4 * L.length ≤ atL L L.length
  | [] => by simp
  | l :: t => by
    have := atL_len t
    rw [List.length_cons, atL]
    omega
theorem scan_count (x : List UInt8) : 4 * (scanL x).1.length ≤ x.length := by
  have h1 := atL_len (scanL x).1
  have h2 := (at_end x).2
  omega
theorem scan_small (x : List UInt8) : ∀ y ∈ (scanL x).1, y.length ≤ 4000000 := by
  intro y hy
  obtain ⟨i, hi, rfl⟩ := List.mem_iff_getElem.1 hy
  have := (at_load x i hi).2.2.2.1
  rw [lk_get hi] at this
  omega
theorem modL (n : Int) (N : Nat) (h0 : 0 < N) (hN : N ≤ 1000000) : ∃ C : Nat, C < N ∧ wrap64 (n.tmod (N : Int) + (N : Int)) = n.tmod (N : Int) + (N : Int) ∧ (n.tmod (N : Int) + (N : Int)).tmod (N : Int) = (C : Int) := by
  have h1 : n.tmod (N : Int) < (N : Int) := Int.tmod_lt_of_pos n (by omega)
  have h2 : -(N : Int) < n.tmod (N : Int) := Int.lt_tmod_of_pos n (by omega)
  generalize n.tmod (N : Int) = r at *
  have h3 : (r + (N : Int)).tmod (N : Int) = (r + (N : Int)) % (N : Int) := Int.tmod_eq_emod_of_nonneg (by omega)
  have h4 := Int.emod_nonneg (r + (N : Int)) (show (N : Int) ≠ 0 by omega)
  have h5 := Int.emod_lt_of_pos (r + (N : Int)) (show 0 < (N : Int) by omega)
  exact ⟨((r + (N : Int)) % (N : Int)).toNat, by omega, by rw [wrap64]; omega, by rw [h3]; omega⟩
theorem own_some {base : Nat} {W : World} {o : Option Addr} {c : Nat} {x : List UInt8} (h : ow base W (.slice o x.length c) x) (h0 : 0 < x.length) : ∃ g, o = some ⟨g, 0, none⟩ := by
  rcases h with ⟨_, rfl⟩ | ⟨g, cap, cur, hv, _⟩
  · exact absurd h0 (by simp)
  · cases hv; exact ⟨g, rfl⟩
/-- One byte of an own row is another one: what lies elsewhere stays. -/
theorem own_flip {base g cap j : Nat} {x : List UInt8} {W : World} (h1 : ow base W (.slice (some ⟨g, 0, none⟩) x.length cap) x) (hj : j < x.length) :
    ∃ b : UInt8, W.cell? ⟨g, j, none⟩ = some (.int .u8 b.toNat) ∧ W.frozen? ⟨g, j, none⟩ = false ∧ base ≤ g ∧ ∀ z : Int, 0 ≤ z → z ≤ 255 → ∃ y : List UInt8, y.length = x.length ∧ rd (W.setCell ⟨g, j, none⟩ (.int .u8 z)) y (.slice (some ⟨g, 0, none⟩) x.length cap) ∧ Fr (fun k => k = g) W (W.setCell ⟨g, j, none⟩ (.int .u8 z)) := by
  rcases h1 with ⟨hv, _⟩ | ⟨g', cap', cur, hv, hb, hg, r1, r2, r3, r4⟩
  · cases hv
  · cases hv
    have hc : cur[j]? = some (.int .u8 (x[j]).toNat) := by
      have := congrArg (fun l => l[j]?) r4
      simp only [List.getElem?_take, if_pos hj, Lib.byteCells, List.getElem?_map, List.getElem?_eq_getElem hj, Option.map_some] at this
      simpa using this
    refine ⟨x[j], by rw [cell_of_row W g j cur _ _ hg]; exact hc, by simp [World.frozen?, hg], hb, fun z h0 h9 => ?_⟩
    obtain ⟨c, rfl⟩ : ∃ c : UInt8, z = (c.toNat : Int) := ⟨UInt8.ofNat z.toNat, by rw [UInt8.toNat_ofNat']; omega⟩
    have how : ow base (W.setCell ⟨g, j, none⟩ (.int .u8 c.toNat)) (.slice (some ⟨g, 0, none⟩) x.length cap) (x.set j c) := by
      refine .inr ⟨g, cap, cur.set! j (.int .u8 c.toNat), by simp, hb, ?_, by simpa using r1, r2, by simpa using r3, ?_⟩
      · simp [World.setCell, Array.getElem?_modify, hg]
      · rw [List.length_set, Array.set!_eq_setIfInBounds, Array.toList_setIfInBounds, List.take_set, r4]
        simp only [Lib.byteCells, List.map_set]
    exact ⟨x.set j c, by simp, how.rd, Fr.set _ _ _ _ rfl⟩
theorem rscan_tell (x : List UInt8) (v : Value) (w : World) (hx : rd w x v) (hl : x.length ≤ 4000000) : Calls Try.prog 16 #[v] w fun e w' => ∃ o c, e = .returned (.tuple #[.slice o (scanL x).1.length c, .int .i64 ((scanL x).2 : Nat)]) ∧ Hid (rds w' (scanL x).1 (.slice o (scanL x).1.length c) ∧ Below w.heap.size w w') := by
  refine (rscan_any x v w hx hl).mono ?_
  rintro e w' ⟨v', L', rfl, hq⟩
  obtain ⟨rfl, rest, bv, hsc⟩ := hq.out
  obtain ⟨o5, a5, c5, rfl, q⟩ := hsc.rds
  exact ⟨o5, c5, rfl, Lib.hid ⟨hsc.rds, by obtain ⟨_, _, _, h, _⟩ := hsc; exact h⟩⟩
theorem rdz_fit {base : Nat} {W : World} {L : List (List UInt8)} {v : Value} (h : rdz base W L v) : fit v := by
  obtain ⟨o, a, cap, rfl, _, _, h4, h5, _⟩ := h
  rcases Nat.eq_zero_or_pos L.length with h0 | h0
  · rcases h5 h0 with h | rfl
    · exact .inl h
    · exact .inr ⟨_, _, _, rfl⟩
  · obtain ⟨rfl, _⟩ := h4 h0
    exact .inr ⟨_, _, _, rfl⟩
/-- Between two rounds. -/
def PI (w : World) (nb : Nat) (W : World) : Prop := ∃ s vd, Dk 52 w.heap.size nb s vd W ∧ Below w.heap.size w W
theorem PI.fr {w W W' : World} {nb : Nat} {s s' : DS} {vd v' : Value} (h : Dk 52 w.heap.size nb s vd W) (hb : Below w.heap.size w W) (hk : Dk 52 w.heap.size nb s' v' W') (hF : Fr (Fp nb vd) W W') : PI w nb W' :=
  ⟨s', v', hk, hb.trans (hF.below (fun k hk2 => (h.fp k hk2).1) hb.size)⟩
theorem PI.q {w W W' : World} {nb : Nat} {s : DS} {vd : Value} {r : Int × DS} {e : Ending} (h : Dk 52 w.heap.size nb s vd W) (hb : Below w.heap.size w W) (hq : DQ 52 w.heap.size nb vd W r e W') : PI w nb W' := by
  obtain ⟨_, v', h1, _, h3⟩ := hq
  exact PI.fr h hb h1 h3
theorem byD_le {s : DS} (h : s.f.length ≤ 1048576) : (byD s).length ≤ 1048576 := by
  unfold byD
  split
  · simp
  · exact h
/-- An Open that tells OK. -/
theorem open_ok {s : DS} (h : (openD s).1 = 0) : s.dn = false ∧ byD s = s.f ∧ opL s = (scanL s.f).1 ∧ opT s = (scanL s.f).2 ∧ beD (openD s).2 = 0 ∧ byD (openD s).2 = s.f.take (s.f.length - (scanL s.f).2) := by
  have hd : s.dn = false := by
    cases hd : s.dn
    · rfl
    · unfold openD at h
      rw [if_pos hd] at h
      exact absurd (show (60 : Int) = 0 from h) (by decide)
  have ht := (at_end s.f).2
  refine ⟨hd, by unfold byD; rw [if_neg (by simp [hd])], by unfold opL; rw [if_pos h], by unfold opT; rw [if_pos h], ?_⟩
  unfold openD at h ⊢
  rw [if_neg (by simp [hd])] at h ⊢
  by_cases h0 : (scanL s.f).2 = 0
  · rw [if_pos h0]
    exact ⟨by unfold beD; rw [if_neg (by simp [hd])], by unfold byD; rw [if_neg (by simp [hd]), h0, Nat.sub_zero, List.take_length]⟩
  · rw [if_neg h0] at h ⊢
    unfold cutD at h ⊢
    rw [if_neg (by simp [hd]), if_neg (by omega)] at h ⊢
    unfold wrD at h ⊢
    cases ha : s.ar with
    | some n => rw [ha] at h; exact absurd (show (60 : Int) = 0 from h) (by decide)
    | none =>
      rw [ha] at h
      simp only
      refine ⟨by simp [beD], ?_⟩
      simp only [byD]
      rw [if_neg (by simp), show ((s.f.length : Int) - ((scanL s.f).2 : Nat)).toNat = s.f.length - (scanL s.f).2 by omega]
end Go.Proofs.Ytbjdbphnccdpbaa
