/-
  The bound on rows of given properties; a type's properties. · Cells that hold given properties, one behind another: from memory into lists, and back.
-/
import Derived.Test.YtdckldfekepopaaGreatDoorZV
set_option linter.unusedVariables false
set_option linter.unusedSimpArgs false
namespace Go.Proofs.YtdckldfekepopaaGreatDoor
open Go.RowKit Go.Maps Go.ChangeMaps Go.WideMaps

def greatG (L : List G) : Bool := decide (60 < L.length) || L.any (fun g => decide (200 < g.nm.size) || greatB g.v)
theorem greatG_no {L : List G} (h : greatG L = false) : L.length ≤ 60 ∧ ∀ g ∈ L, g.nm.size ≤ 200 ∧ sizeV g.v ≤ 1000000 ∧ fineV g.v := by
  unfold greatG at h
  rw [Bool.or_eq_false_iff] at h
  have h1 := of_decide_eq_false h.1
  refine ⟨by omega, fun g hg => ?_⟩
  have h2 := List.any_eq_false.1 h.2 g hg
  have h3 : (decide (200 < g.nm.size) || greatB g.v) = false := by simpa using h2
  rw [Bool.or_eq_false_iff] at h3
  have h4 := of_decide_eq_false h3.1
  exact ⟨by omega, Nat.le_trans (great_no h3.2).1 (by omega), great_fine h3.2⟩

set_option maxRecDepth 100000 in
set_option maxHeartbeats 4000000 in
theorem great9_any (L : List G) (v : Value) (w : World) (h : isGs w L v) :
    Calls Tryz.prog 24 #[v] w fun e w' => e = .returned (.bool (greatG L)) ∧ Below w.heap.size w w' := by
  obtain ⟨a, cap, ⟨o, rfl, hc1, hc2, ho⟩, hgs⟩ := h
  unfold maxLen at hc2
  have HK := Lib.hid hgs
  clear hgs
  by_cases h60 : 60 < L.length
  · have hr : greatG L = true := by unfold greatG; rw [decide_eq_true h60, Bool.true_or]
    rw [hr]
    have y : decide ((60 : Int) < (L.length : Int)) = true := decide_eq_true (by omega)
    clear hr HK
    generalize L.length = n at *
    go_enter Tryz.func24, Tryz.ntmps24
    go_wp2_with fail
    go_ret
    exact ⟨rfl, Below.refl _ _⟩
  · have hr : greatG L = L.any (fun g => decide (200 < g.nm.size) || greatB g.v) := by unfold greatG; rw [decide_eq_false h60, Bool.false_or]
    rw [hr]
    obtain ⟨r, hr2⟩ : ∃ r, L.any (fun g => decide (200 < g.nm.size) || greatB g.v) = r := ⟨_, rfl⟩
    rw [hr2]
    have HR := Lib.hid hr2
    have y : decide ((60 : Int) < (L.length : Int)) = false := decide_eq_false (by omega)
    clear hr hr2
    go_enter Tryz.func24, Tryz.ntmps24
    go_wp2_with fail
    go_loopw [3] (fun i wr => ∃ (j : Nat), j ≤ L.length ∧ i = .int .i64 j ∧ Hid ((L.take j).any (fun g => decide (200 < g.nm.size) || greatB g.v) = false) ∧ Hid (Below w.heap.size w wr)) (fun i _ => L.length - (intOf i).toNat)
    case atStart => exact ⟨0, by omega, rfl, Lib.hid rfl, Lib.hid (Below.refl _ _)⟩
    case round =>
      obtain ⟨j, hj, rfl, hA, hB⟩ := hrel
      by_cases hlt : j < L.length
      · obtain rfl := ho (by omega)
        obtain ⟨k, b1, n, s, o1, m, c, o2, m2, c2, q0, q1, q2, q3, q4, q5, q6, q7, hg⟩ := isGat_eight (isGat_below hB.out (HK.out j hlt))
        obtain ⟨c0, c1, c2', c3, c4, c5, e, hv, hnl⟩ := hg
        simp only [Value.agg.injEq, Array.mk.injEq, List.cons.injEq, and_true, true_and] at e
        obtain ⟨rfl, rfl, rfl, rfl, rfl, rfl⟩ := e
        have HN := Lib.hid (great_any L[j].v _ wr hv)
        have hst : (L.take (j + 1)).any (fun g => decide (200 < g.nm.size) || greatB g.v) = (decide (200 < L[j].nm.size) || greatB L[j].v) := by
          rw [List.take_succ_eq_append_getElem hlt, List.any_append, hA.out]
          simp
        have hup : (decide (200 < L[j].nm.size) || greatB L[j].v) = true → r = true := fun h => by
          rw [← HR.out, List.any_eq_true]
          exact ⟨L[j], List.getElem_mem hlt, h⟩
        by_cases hb : 200 < L[j].nm.size
        · have HR2 := Lib.hid (hup (by rw [decide_eq_true hb, Bool.true_or]))
          have y1 : decide ((200 : Int) < (L[j].nm.size : Int)) = true := decide_eq_true (by omega)
          clear hup hst hv HN hb hnl
          generalize L[j] = g at *
          go_wp2_with fail
          go_ret
          exact ⟨ret_bool HR2.out.symm, hB.out⟩
        · have y1 : decide ((200 : Int) < (L[j].nm.size : Int)) = false := decide_eq_false (by omega)
          rw [decide_eq_false hb, Bool.false_or] at hst hup
          cases hgr : greatB L[j].v with
          | true =>
            rw [hgr] at HN
            have HR2 := Lib.hid (hup hgr)
            clear hup hst hv hb hnl hgr
            generalize L[j] = g at *
            go_wp2_with (go_at_call 47; refine HN.out.mono ?_; rintro e w5 ⟨rfl, hb5⟩)
            go_ret
            exact ⟨ret_bool HR2.out.symm, hB.out.trans (hb5.mono hB.out.size)⟩
          | false =>
            rw [hgr] at HN hst
            have HS := Lib.hid hst
            clear hup hst hv hb hnl hgr
            generalize L[j] = g at *
            go_wp2_with (go_at_call 47; refine HN.out.mono ?_; rintro e w5 ⟨rfl, hb5⟩)
            go_roundw
            case rel => exact ⟨j + 1, by omega, by go_num, HS, Lib.hid (hB.out.trans (hb5.mono hB.out.size))⟩
            case measure => simp [intOf]; omega
      · obtain rfl : j = L.length := by omega
        have HRES : Hid (r = false) := Lib.hid (by
          have := hA.out
          rw [List.take_of_length_le (Nat.le_refl _)] at this
          rw [← HR.out, this])
        go_wp2_with fail
        go_ret
        exact ⟨ret_bool HRES.out.symm, hB.out⟩

theorem infoSpec : (Tryz.prog.info? 93).map (fun i => (i.zero, i.size, i.bytes)) = some (some (.agg #[.string ⟨#[]⟩, .int .i8 0, .bool false]), 3, 24) := by kernel_rfl

end Go.Proofs.YtdckldfekepopaaGreatDoor

namespace Go.Proofs.YtdckldfekepopaaGreatDoor
open Go.RowKit

/-- Cells that hold such properties, one behind another. -/
def isGL (W : World) : List G → List Value → Prop
  | [], xs => xs = []
  | g :: t, xs => ∃ c0 c1 c2 c3 c4 c5 rest, xs = .string g.nm :: .bool g.unk :: c0 :: c1 :: c2 :: c3 :: c4 :: c5 :: rest ∧ isV W g.v (.agg #[c0, c1, c2, c3, c4, c5]) ∧ g.nm.size ≤ maxLen ∧ isGL W t rest
theorem isGL_app {W : World} : ∀ (l m : List G) (xs ys : List Value), isGL W l xs → isGL W m ys → isGL W (l ++ m) (xs ++ ys)
  | [], m, xs, ys, h, h' => by
    unfold isGL at h
    subst h
    exact h'
  | x :: t, m, xs, ys, h, h' => by
    unfold isGL at h
    obtain ⟨c0, c1, c2, c3, c4, c5, rest, rfl, hx, hn, ht⟩ := h
    rw [List.cons_append]
    unfold isGL
    exact ⟨c0, c1, c2, c3, c4, c5, rest ++ ys, rfl, hx, hn, isGL_app t m rest ys ht h'⟩
theorem isGL_len {W : World} : ∀ (l : List G) (xs : List Value), isGL W l xs → xs.length = l.length * 8
  | [], xs, h => by unfold isGL at h; subst h; rfl
  | x :: t, xs, h => by
    unfold isGL at h
    obtain ⟨c0, c1, c2, c3, c4, c5, rest, rfl, hx, hn, ht⟩ := h
    have := isGL_len t rest ht
    simp only [List.length_cons]; omega
theorem isGL_one {W : World} : ∀ (l : List G) (xs : List Value), isGL W l xs → ∀ u ∈ xs, u.oneCell' = true
  | [], xs, h, u, hu => by unfold isGL at h; subst h; cases hu
  | x :: t, xs, h, u, hu => by
    unfold isGL at h
    obtain ⟨c0, c1, c2, c3, c4, c5, rest, rfl, hx, hn, ht⟩ := h
    rcases List.mem_cons.1 hu with rfl | hu
    · rfl
    rcases List.mem_cons.1 hu with rfl | hu
    · rfl
    rw [show c0 :: c1 :: c2 :: c3 :: c4 :: c5 :: rest = [c0, c1, c2, c3, c4, c5] ++ rest from rfl] at hu
    rcases List.mem_append.1 hu with hu | hu
    · exact isV_one hx u hu
    · exact isGL_one t rest ht u hu
theorem isGL_below {W W' : World} (hb : Below W.heap.size W W') : ∀ (l : List G) (xs : List Value), isGL W l xs → isGL W' l xs
  | [], xs, h => by unfold isGL at h ⊢; exact h
  | x :: t, xs, h => by
    unfold isGL at h ⊢
    obtain ⟨c0, c1, c2, c3, c4, c5, rest, e, hx, hn, ht⟩ := h
    exact ⟨c0, c1, c2, c3, c4, c5, rest, e, isV_below hb hx, hn, isGL_below hb t rest ht⟩
theorem cell_spot {W : World} {a : Addr} {c : Value} (h : W.cell? a = some c) : a.spot = none := by
  unfold World.cell? at h
  split at h
  · split at h
    · cases h
    · rename_i hs
      cases hh : a.spot with
      | none => rfl
      | some x => rw [hh] at hs; simp at hs
  · cases h
theorem at_add {a : Addr} {i : Nat} (h : a.spot = none) (k : Nat) : (⟨(a.add i).block, (a.add i).off + k, none⟩ : Addr) = a.add (i + k) := by
  obtain ⟨b, o, s⟩ := a
  dsimp only at h
  subst h
  simp only [Addr.add]
  by_cases h1 : i = 0
  · subst h1
    by_cases h2 : k = 0
    · subst h2; simp
    · simp [h2]
  · rw [if_neg h1, if_neg (by omega)]
    simp only [Nat.add_assoc]
theorem isGL_of {W : World} : ∀ (l : List G) (a : Addr), (∀ i (h : i < l.length), isGat W l[i] (a.add (i * 8))) → ∃ xs, isGL W l xs ∧ ∀ j u, xs[j]? = some u → W.cell? (a.add j) = some u
  | [], a, _ => ⟨[], by unfold isGL; rfl, fun j u h => by simp at h⟩
  | g :: t, a, h => by
    obtain ⟨xs, h1, h2⟩ := isGL_of t (a.add 8) (fun i hi => by
      have := h (i + 1) (by simpa using hi)
      rw [show (i + 1) * 8 = 8 + i * 8 by omega, ← add_add] at this
      simpa using this)
    obtain ⟨c0, c1, c2, c3, c4, c5, g0, g1, g2, g3, g4, g5, g6, g7, h3, h4⟩ := h 0 (by simp)
    simp only [List.getElem_cons_zero] at g0 g1 h3 h4
    have hs : a.spot = none := cell_spot g0
    simp only [at_add hs, Nat.zero_mul, Nat.zero_add] at g0 g1 g2 g3 g4 g5 g6 g7
    refine ⟨.string g.nm :: .bool g.unk :: c0 :: c1 :: c2 :: c3 :: c4 :: c5 :: xs, by unfold isGL; exact ⟨c0, c1, c2, c3, c4, c5, xs, rfl, h3, h4, h1⟩, fun j u hj => ?_⟩
    match j, hj with
    | 0, hj => obtain rfl := Option.some.inj hj; exact g0
    | 1, hj => obtain rfl := Option.some.inj hj; exact g1
    | 2, hj => obtain rfl := Option.some.inj hj; exact g2
    | 3, hj => obtain rfl := Option.some.inj hj; exact g3
    | 4, hj => obtain rfl := Option.some.inj hj; exact g4
    | 5, hj => obtain rfl := Option.some.inj hj; exact g5
    | 6, hj => obtain rfl := Option.some.inj hj; exact g6
    | 7, hj => obtain rfl := Option.some.inj hj; exact g7
    | j + 8, hj =>
      have := h2 j u (by simpa using hj)
      rwa [add_add, Nat.add_comm 8 j] at this
theorem isGL_at {W : World} : ∀ (l : List G) (xs : List Value) (a : Addr), a.spot = none → isGL W l xs → (∀ j u, xs[j]? = some u → W.cell? (a.add j) = some u) → ∀ i (h : i < l.length), isGat W l[i] (a.add (i * 8))
  | [], xs, a, hs, h, hc, i, hi => absurd hi (by simp)
  | g :: t, xs, a, hs, h, hc, i, hi => by
    unfold isGL at h
    obtain ⟨c0, c1, c2, c3, c4, c5, rest, rfl, hx, hn, ht⟩ := h
    match i, hi with
    | 0, hi =>
      refine ⟨c0, c1, c2, c3, c4, c5, ?_, ?_, ?_, ?_, ?_, ?_, ?_, ?_, hx, hn⟩
      · exact hc 0 _ rfl
      all_goals (rw [at_add hs]; apply hc; rfl)
    | i + 1, hi =>
      have := isGL_at t rest (a.add 8) (by simp [Addr.add]) ht (fun j u hj => by
        rw [add_add, Nat.add_comm 8 j]
        exact hc (j + 8) u (by simpa using hj)) i (by simpa using hi)
      rw [add_add, show 8 + i * 8 = (i + 1) * 8 by omega] at this
      simpa using this
end Go.Proofs.YtdckldfekepopaaGreatDoor
