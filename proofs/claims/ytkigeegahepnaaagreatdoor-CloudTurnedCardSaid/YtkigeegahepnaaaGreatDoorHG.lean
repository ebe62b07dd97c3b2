/-
  The bound on rows of given properties; a type's properties. · Cells that hold given properties, one behind another: from memory into lists, and back. · The order of trees, in plain mathematics: it is one; what is sorted may be, is sorted already, is as great and as deep. · Rows that may be, in plain mathematics: what differs; what is the same; what becomes known.
-/
import Derived.Test.YtkigeegahepnaaaGreatDoorGK
import Derived.Test.YtkigeegahepnaaaGreatDoorGD
set_option linter.unusedVariables false
set_option linter.unusedSimpArgs false
namespace Go.Proofs.YtkigeegahepnaaaGreatDoor
open Go.RowKit Go.Maps Go.ChangeMaps Go.WideMaps

def greatG (L : List G) : Bool := decide (60 < L.length) || L.any (fun g => decide (200 < g.nm.size) || greatB g.v)
theorem greatG_no {L : List G} (h : greatG L = false) : L.length ≤ 60 ∧ ∀ g ∈ L, g.nm.size ≤ 200 ∧ sizeV g.v ≤ 1000000 ∧ fineV g.v := by
  unfold greatG at h
  rw [Bool.or_eq_false_iff] at h
  have h1 := of_decide_eq_false h.1
  refine ⟨by omega, fun g hg => ?_⟩
  have h2 := List.any_eq_false.1 h.2 g hg
  have h3 : (decide (200 < g.nm.size) || greatB g.v) = false := by simpa using h2
  rw [Bool.or_eq_false_iff] at h3
  have h4 := of_decide_eq_false h3.1
  exact ⟨by omega, Nat.le_trans (great_no h3.2).1 (by omega), great_fine h3.2⟩

set_option maxRecDepth 100000 in
set_option maxHeartbeats 4000000 in
theorem great9_any (L : List G) (v : Value) (w : World) (h : isGs w L v) :
    Calls Tryz.prog 34 #[v] w fun e w' => e = .returned (.bool (greatG L)) ∧ Below w.heap.size w w' := by
  obtain ⟨a, cap, ⟨o, rfl, hc1, hc2, ho⟩, hgs⟩ := h
  unfold maxLen at hc2
  have HK := Lib.hid hgs
  clear hgs
  by_cases h60 : 60 < L.length
  · have hr : greatG L = true := by unfold greatG; rw [decide_eq_true h60, Bool.true_or]
    rw [hr]
    have y : decide ((60 : Int) < (L.length : Int)) = true := decide_eq_true (by omega)
    clear hr HK
    generalize L.length = n at *
    go_enter Tryz.func34, Tryz.ntmps34
    go_wp2_with fail
    go_ret
    exact ⟨rfl, Below.refl _ _⟩
  · have hr : greatG L = L.any (fun g => decide (200 < g.nm.size) || greatB g.v) := by unfold greatG; rw [decide_eq_false h60, Bool.false_or]
    rw [hr]
    obtain ⟨r, hr2⟩ : ∃ r, L.any (fun g => decide (200 < g.nm.size) || greatB g.v) = r := ⟨_, rfl⟩
    rw [hr2]
    have HR := Lib.hid hr2
    have y : decide ((60 : Int) < (L.length : Int)) = false := decide_eq_false (by omega)
    clear hr hr2
    go_enter Tryz.func34, Tryz.ntmps34
    go_wp2_with fail
    go_loopw [3] (fun i wr => ∃ (j : Nat), j ≤ L.length ∧ i = .int .i64 j ∧ Hid ((L.take j).any (fun g => decide (200 < g.nm.size) || greatB g.v) = false) ∧ Hid (Below w.heap.size w wr)) (fun i _ => L.length - (intOf i).toNat)
    case atStart => exact ⟨0, by omega, rfl, Lib.hid rfl, Lib.hid (Below.refl _ _)⟩
    case round =>
      obtain ⟨j, hj, rfl, hA, hB⟩ := hrel
      by_cases hlt : j < L.length
      · obtain rfl := ho (by omega)
        obtain ⟨k, b1, n, s, o1, m, c, o2, m2, c2, q0, q1, q2, q3, q4, q5, q6, q7, hg⟩ := isGat_eight (isGat_below hB.out (HK.out j hlt))
        obtain ⟨c0, c1, c2', c3, c4, c5, e, hv, hnl⟩ := hg
        simp only [Value.agg.injEq, Array.mk.injEq, List.cons.injEq, and_true, true_and] at e
        obtain ⟨rfl, rfl, rfl, rfl, rfl, rfl⟩ := e
        have HN := Lib.hid (great_any L[j].v _ wr hv)
        have hst : (L.take (j + 1)).any (fun g => decide (200 < g.nm.size) || greatB g.v) = (decide (200 < L[j].nm.size) || greatB L[j].v) := by
          rw [List.take_succ_eq_append_getElem hlt, List.any_append, hA.out]
          simp
        have hup : (decide (200 < L[j].nm.size) || greatB L[j].v) = true → r = true := fun h => by
          rw [← HR.out, List.any_eq_true]
          exact ⟨L[j], List.getElem_mem hlt, h⟩
        by_cases hb : 200 < L[j].nm.size
        · have HR2 := Lib.hid (hup (by rw [decide_eq_true hb, Bool.true_or]))
          have y1 : decide ((200 : Int) < (L[j].nm.size : Int)) = true := decide_eq_true (by omega)
          clear hup hst hv HN hb hnl
          generalize L[j] = g at *
          go_wp2_with fail
          go_ret
          exact ⟨ret_bool HR2.out.symm, hB.out⟩
        · have y1 : decide ((200 : Int) < (L[j].nm.size : Int)) = false := decide_eq_false (by omega)
          rw [decide_eq_false hb, Bool.false_or] at hst hup
          cases hgr : greatB L[j].v with
          | true =>
            rw [hgr] at HN
            have HR2 := Lib.hid (hup hgr)
            clear hup hst hv hb hnl hgr
            generalize L[j] = g at *
            go_wp2_with (go_at_call 48; refine HN.out.mono ?_; rintro e w5 ⟨rfl, hb5⟩)
            go_ret
            exact ⟨ret_bool HR2.out.symm, hB.out.trans (hb5.mono hB.out.size)⟩
          | false =>
            rw [hgr] at HN hst
            have HS := Lib.hid hst
            clear hup hst hv hb hnl hgr
            generalize L[j] = g at *
            go_wp2_with (go_at_call 48; refine HN.out.mono ?_; rintro e w5 ⟨rfl, hb5⟩)
            go_roundw
            case rel => exact ⟨j + 1, by omega, by go_num, HS, Lib.hid (hB.out.trans (hb5.mono hB.out.size))⟩
            case measure => simp [intOf]; omega
      · obtain rfl : j = L.length := by omega
        have HRES : Hid (r = false) := Lib.hid (by
          have := hA.out
          rw [List.take_of_length_le (Nat.le_refl _)] at this
          rw [← HR.out, this])
        go_wp2_with fail
        go_ret
        exact ⟨ret_bool HRES.out.symm, hB.out⟩

theorem infoSpec : (Tryz.prog.info? 125).map (fun i => (i.zero, i.size, i.bytes)) = some (some (.agg #[.string ⟨#[]⟩, .int .i8 0, .bool false]), 3, 24) := by kernel_rfl

end Go.Proofs.YtkigeegahepnaaaGreatDoor

namespace Go.Proofs.YtkigeegahepnaaaGreatDoor
open Go.RowKit

/-- Cells that hold such properties, one behind another. -/
def isGL (W : World) : List G → List Value → Prop
  | [], xs => xs = []
  | g :: t, xs => ∃ c0 c1 c2 c3 c4 c5 rest, xs = .string g.nm :: .bool g.unk :: c0 :: c1 :: c2 :: c3 :: c4 :: c5 :: rest ∧ isV W g.v (.agg #[c0, c1, c2, c3, c4, c5]) ∧ g.nm.size ≤ maxLen ∧ isGL W t rest
theorem isGL_app {W : World} : ∀ (l m : List G) (xs ys : List Value), isGL W l xs → isGL W m ys → isGL W (l ++ m) (xs ++ ys)
  | [], m, xs, ys, h, h' => by
    unfold isGL at h
    subst h
    exact h'
  | x :: t, m, xs, ys, h, h' => by
    unfold isGL at h
    obtain ⟨c0, c1, c2, c3, c4, c5, rest, rfl, hx, hn, ht⟩ := h
    rw [List.cons_append]
    unfold isGL
    exact ⟨c0, c1, c2, c3, c4, c5, rest ++ ys, rfl, hx, hn, isGL_app t m rest ys ht h'⟩
theorem isGL_len {W : World} : ∀ (l : List G) (xs : List Value), isGL W l xs → xs.length = l.length * 8
  | [], xs, h => by unfold isGL at h; subst h; rfl
  | x :: t, xs, h => by
    unfold isGL at h
    obtain ⟨c0, c1, c2, c3, c4, c5, rest, rfl, hx, hn, ht⟩ := h
    have := isGL_len t rest ht
    simp only [List.length_cons]; omega
theorem isGL_one {W : World} : ∀ (l : List G) (xs : List Value), isGL W l xs → ∀ u ∈ xs, u.oneCell' = true
  | [], xs, h, u, hu => by unfold isGL at h; subst h; cases hu
  | x :: t, xs, h, u, hu => by
    unfold isGL at h
    obtain ⟨c0, c1, c2, c3, c4, c5, rest, rfl, hx, hn, ht⟩ := h
    rcases List.mem_cons.1 hu with rfl | hu
    · rfl
    rcases List.mem_cons.1 hu with rfl | hu
    · rfl
    rw [show c0 :: c1 :: c2 :: c3 :: c4 :: c5 :: rest = [c0, c1, c2, c3, c4, c5] ++ rest from rfl] at hu
    rcases List.mem_append.1 hu with hu | hu
    · exact isV_one hx u hu
    · exact isGL_one t rest ht u hu
theorem isGL_below {W W' : World} (hb : Below W.heap.size W W') : ∀ (l : List G) (xs : List Value), isGL W l xs → isGL W' l xs
  | [], xs, h => by unfold isGL at h ⊢; exact h
  | x :: t, xs, h => by
    unfold isGL at h ⊢
    obtain ⟨c0, c1, c2, c3, c4, c5, rest, e, hx, hn, ht⟩ := h
    exact ⟨c0, c1, c2, c3, c4, c5, rest, e, isV_below hb hx, hn, isGL_below hb t rest ht⟩
theorem cell_spot {W : World} {a : Addr} {c : Value} (h : W.cell? a = some c) : a.spot = none := by
  unfold World.cell? at h
  split at h
  · split at h
    · cases h
    · rename_i hs
      cases hh : a.spot with
      | none => rfl
      | some x => rw [hh] at hs; simp at hs
  · cases h
theorem at_add {a : Addr} {i : Nat} (h : a.spot = none) (k : Nat) : (⟨(a.add i).block, (a.add i).off + k, none⟩ : Addr) = a.add (i + k) := by
  obtain ⟨b, o, s⟩ := a
  dsimp only at h
  subst h
  simp only [Addr.add]
  by_cases h1 : i = 0
  · subst h1
    by_cases h2 : k = 0
    · subst h2; simp
    · simp [h2]
  · rw [if_neg h1, if_neg (by omega)]
    simp only [Nat.add_assoc]
theorem isGL_of {W : World} : ∀ (l : List G) (a : Addr), (∀ i (h : i < l.length), isGat W l[i] (a.add (i * 8))) → ∃ xs, isGL W l xs ∧ ∀ j u, xs[j]? = some u → W.cell? (a.add j) = some u
  | [], a, _ => ⟨[], by unfold isGL; rfl, fun j u h => by simp at h⟩
  | g :: t, a, h => by
    obtain ⟨xs, h1, h2⟩ := isGL_of t (a.add 8) (fun i hi => by
      have := h (i + 1) (by simpa using hi)
      rw [show (i + 1) * 8 = 8 + i * 8 by omega, ← add_add] at this
      simpa using this)
    obtain ⟨c0, c1, c2, c3, c4, c5, g0, g1, g2, g3, g4, g5, g6, g7, h3, h4⟩ := h 0 (by simp)
    simp only [List.getElem_cons_zero] at g0 g1 h3 h4
    have hs : a.spot = none := cell_spot g0
    simp only [at_add hs, Nat.zero_mul, Nat.zero_add] at g0 g1 g2 g3 g4 g5 g6 g7
    refine ⟨.string g.nm :: .bool g.unk :: c0 :: c1 :: c2 :: c3 :: c4 :: c5 :: xs, by unfold isGL; exact ⟨c0, c1, c2, c3, c4, c5, xs, rfl, h3, h4, h1⟩, fun j u hj => ?_⟩
    match j, hj with
    | 0, hj => obtain rfl := Option.some.inj hj; exact g0
    | 1, hj => obtain rfl := Option.some.inj hj; exact g1
    | 2, hj => obtain rfl := Option.some.inj hj; exact g2
    | 3, hj => obtain rfl := Option.some.inj hj; exact g3
    | 4, hj => obtain rfl := Option.some.inj hj; exact g4
    | 5, hj => obtain rfl := Option.some.inj hj; exact g5
    | 6, hj => obtain rfl := Option.some.inj hj; exact g6
    | 7, hj => obtain rfl := Option.some.inj hj; exact g7
    | j + 8, hj =>
      have := h2 j u (by simpa using hj)
      rwa [add_add, Nat.add_comm 8 j] at this
theorem isGL_at {W : World} : ∀ (l : List G) (xs : List Value) (a : Addr), a.spot = none → isGL W l xs → (∀ j u, xs[j]? = some u → W.cell? (a.add j) = some u) → ∀ i (h : i < l.length), isGat W l[i] (a.add (i * 8))
  | [], xs, a, hs, h, hc, i, hi => absurd hi (by simp)
  | g :: t, xs, a, hs, h, hc, i, hi => by
    unfold isGL at h
    obtain ⟨c0, c1, c2, c3, c4, c5, rest, rfl, hx, hn, ht⟩ := h
    match i, hi with
    | 0, hi =>
      refine ⟨c0, c1, c2, c3, c4, c5, ?_, ?_, ?_, ?_, ?_, ?_, ?_, ?_, hx, hn⟩
      · exact hc 0 _ rfl
      all_goals (rw [at_add hs]; apply hc; rfl)
    | i + 1, hi =>
      have := isGL_at t rest (a.add 8) (by simp [Addr.add]) ht (fun j u hj => by
        rw [add_add, Nat.add_comm 8 j]
        exact hc (j + 8) u (by simpa using hj)) i (by simpa using hi)
      rw [add_add, show 8 + i * 8 = (i + 1) * 8 by omega] at this
      simpa using this
end Go.Proofs.YtkigeegahepnaaaGreatDoor

namespace Go.Proofs.YtkigeegahepnaaaGreatDoor
open Go.RowKit

theorem ltI_cases (c : Bool) : ltI c = -1 ∨ ltI c = 1 := by cases c <;> simp [ltI]
theorem ltI_ne (c : Bool) : ltI c ≠ 0 := by cases c <;> simp [ltI]
theorem ltI_not (c : Bool) : ltI (!c) = - ltI c := by cases c <;> simp [ltI]
theorem bl_eq : ∀ (x y : List UInt8), Op.bytesLess x y = decide (x < y)
  | [], [] => by simp [Op.bytesLess]
  | _ :: _, [] => by simp [Op.bytesLess]
  | [], _ :: _ => by simp [Op.bytesLess]
  | a :: x, b :: y => by
    rw [Op.bytesLess, bl_eq x y, Bool.eq_iff_iff]
    simp [List.cons_lt_cons_iff]
theorem bl_lt (s t : ByteArray) : bl s t = decide (s.data.toList < t.data.toList) := by
  unfold bl; rw [bl_eq, Lib.toList_data, Lib.toList_data]
theorem bytes_ext {s t : ByteArray} (h : s.data.toList = t.data.toList) : s = t := ByteArray.ext (by simpa using congrArg List.toArray h)
theorem lt_irr (a : List UInt8) : ¬ a < a := List.lt_irrefl a
theorem lt_tri (a b : List UInt8) (h : a ≠ b) : a < b ∨ b < a := by
  rcases List.le_total a b with h1 | h1
  · exact .inl (Classical.byContradiction fun hc => h (List.le_antisymm h1 hc))
  · exact .inr (Classical.byContradiction fun hc => h (List.le_antisymm hc h1))
theorem lt_asy {a b : List UInt8} (h : a < b) : ¬ b < a := List.lt_asymm h
theorem lt_tra {a b c : List UInt8} (h : a < b) (h' : b < c) : a < c := List.lt_trans h h'
theorem bl_not {s t : ByteArray} (h : s ≠ t) : bl t s = !bl s t := by
  rw [bl_lt, bl_lt]
  have hn : s.data.toList ≠ t.data.toList := fun e => h (bytes_ext e)
  rcases lt_tri _ _ hn with h1 | h1
  · rw [decide_eq_true h1, decide_eq_false (lt_asy h1)]; rfl
  · rw [decide_eq_true h1, decide_eq_false (lt_asy h1)]; rfl

mutual
theorem cmp_anti : ∀ (x y : V), cmpV y x = - cmpV x y
  | .mk k b n s l ks, .mk k' b' n' s' l' ks' => by
    rw [cmpV_mk, cmpV_mk]
    by_cases q1 : k = k'
    · subst q1
      simp only [ne_eq, not_true_eq_false, if_false]
      by_cases q2 : b = b'
      · subst q2
        simp only [not_true_eq_false, if_false]
        by_cases q3 : n = n'
        · subst q3
          simp only [not_true_eq_false, if_false]
          by_cases q4 : s = s'
          · subst q4
            simp only [not_true_eq_false, if_false]
            exact cmps_anti k l ks l' ks'
          · rw [if_pos q4, if_pos (Ne.symm q4), bl_not q4, ltI_not]
        · rw [if_pos q3, if_pos (Ne.symm q3)]
          rcases Int.lt_or_gt_of_ne q3 with h | h
          · rw [decide_eq_true h, decide_eq_false (by omega)]; rfl
          · rw [decide_eq_true h, decide_eq_false (by omega)]; rfl
      · rw [if_pos q2, if_pos (Ne.symm q2)]
        cases b <;> cases b' <;> simp_all [ltI]
    · rw [if_pos q1, if_pos (Ne.symm q1)]
      rcases Int.lt_or_gt_of_ne q1 with h | h
      · rw [decide_eq_true h, decide_eq_false (by omega)]; rfl
      · rw [decide_eq_true h, decide_eq_false (by omega)]; rfl
theorem cmps_anti (k : Int) : ∀ (l : List V) (ks : List ByteArray) (l' : List V) (ks' : List ByteArray), cmpVs k l' ks' l ks = - cmpVs k l ks l' ks'
  | [], ks, [], ks' => by simp [cmpVs]
  | [], ks, y :: t', ks' => by simp [cmpVs]
  | x :: t, ks, [], ks' => by simp [cmpVs]
  | x :: t, ks, y :: t', ks' => by
    rw [cmpVs, cmpVs]
    by_cases q : k = 5 ∧ ks.headD E0 ≠ ks'.headD E0
    · rw [if_pos q, if_pos ⟨q.1, Ne.symm q.2⟩, bl_not q.2, ltI_not]
    · rw [if_neg q, if_neg (fun h => q ⟨h.1, Ne.symm h.2⟩), cmp_anti x y]
      by_cases h : cmpV x y = 0
      · rw [h, if_neg (by simp), if_neg (by simp)]
        exact cmps_anti k t ks.tail t' ks'.tail
      · rw [if_pos (by omega), if_pos h]
end

/-- What compare reads of a tree is all there is: keys just in objects, one for each part. -/
def keyV : V → Prop := fun x => ∀ k b n s l ks, x = V.mk k b n s l ks → (k ≠ 5 → ks = []) ∧ (k = 5 → ks.length = l.length)
mutual
def okW : V → Prop | .mk k b n s l ks => ((k ≠ 5 → ks = []) ∧ (k = 5 → ks.length = l.length)) ∧ okWs l
def okWs : List V → Prop | [] => True | x :: t => okW x ∧ okWs t
end
mutual
theorem cmp_zero : ∀ (x y : V), okW x → okW y → cmpV x y = 0 → x = y
  | .mk k b n s l ks, .mk k' b' n' s' l' ks', hx, hy, h => by
    rw [cmpV_mk] at h
    by_cases q1 : k = k'
    · subst q1
      simp only [ne_eq, not_true_eq_false, if_false] at h
      by_cases q2 : b = b'
      · subst q2
        simp only [not_true_eq_false, if_false] at h
        by_cases q3 : n = n'
        · subst q3
          simp only [not_true_eq_false, if_false] at h
          by_cases q4 : s = s'
          · subst q4
            simp only [not_true_eq_false, if_false] at h
            unfold okW at hx hy
            by_cases h5 : k = 5
            · obtain ⟨e1, e2⟩ := cmps_zero k l ks l' ks' hx.2 hy.2 (fun _ => hx.1.2 h5) (fun _ => hy.1.2 h5) h
              rw [e1, e2 h5]
            · obtain ⟨e1, _⟩ := cmps_zero k l ks l' ks' hx.2 hy.2 (fun h => absurd h h5) (fun h => absurd h h5) h
              rw [e1, hx.1.1 h5, hy.1.1 h5]
          · rw [if_pos q4] at h; exact absurd h (ltI_ne _)
        · rw [if_pos q3] at h; exact absurd h (ltI_ne _)
      · rw [if_pos q2] at h; exact absurd h (ltI_ne _)
    · rw [if_pos q1] at h; exact absurd h (ltI_ne _)
theorem cmps_zero (k : Int) : ∀ (l : List V) (ks : List ByteArray) (l' : List V) (ks' : List ByteArray), okWs l → okWs l' → (k = 5 → ks.length = l.length) → (k = 5 → ks'.length = l'.length) → cmpVs k l ks l' ks' = 0 → l = l' ∧ (k = 5 → ks = ks')
  | [], ks, [], ks', _, _, h1, h2, _ => ⟨rfl, fun h => by
      have a := h1 h; have b := h2 h
      rw [List.eq_nil_of_length_eq_zero a, List.eq_nil_of_length_eq_zero b]⟩
  | [], ks, y :: t', ks', _, _, _, _, h => by simp [cmpVs] at h
  | x :: t, ks, [], ks', _, _, _, _, h => by simp [cmpVs] at h
  | x :: t, ks, y :: t', ks', hx, hy, h1, h2, h => by
    rw [cmpVs] at h
    unfold okWs at hx hy
    by_cases q : k = 5 ∧ ks.headD E0 ≠ ks'.headD E0
    · rw [if_pos q] at h; exact absurd h (ltI_ne _)
    · rw [if_neg q] at h
      by_cases hz : cmpV x y = 0
      · rw [if_neg (fun c => c hz)] at h
        have e0 := cmp_zero x y hx.1 hy.1 hz
        obtain ⟨e1, e2⟩ := cmps_zero k t ks.tail t' ks'.tail hx.2 hy.2 (fun h5 => by have := h1 h5; simp at this ⊢; omega) (fun h5 => by have := h2 h5; simp at this ⊢; omega) h
        refine ⟨by rw [e0, e1], fun h5 => ?_⟩
        have hk : ks.headD E0 = ks'.headD E0 := Classical.byContradiction fun c => q ⟨h5, c⟩
        have l1 := h1 h5
        have l2 := h2 h5
        match ks, ks', l1, l2 with
        | a :: p, b :: r, _, _ =>
          have := e2 h5
          simp only [List.headD_cons, List.tail_cons] at hk this
          rw [hk, this]
      · rw [if_pos hz] at h; exact absurd h hz
end
theorem cmp_self (x : V) : cmpV x x = 0 := by have := cmp_anti x x; omega
mutual
theorem cmp_range : ∀ (x y : V), cmpV x y = -1 ∨ cmpV x y = 0 ∨ cmpV x y = 1
  | .mk k b n s l ks, .mk k' b' n' s' l' ks' => by
    rw [cmpV_mk]
    have h := fun c => ltI_cases c
    split
    · rcases h (decide (k < k')) with e | e <;> rw [e] <;> simp
    · split
      · rcases h b' with e | e <;> rw [e] <;> simp
      · split
        · rcases h (decide (n < n')) with e | e <;> rw [e] <;> simp
        · split
          · rcases h (bl s s') with e | e <;> rw [e] <;> simp
          · exact cmps_range k l ks l' ks'
theorem cmps_range (k : Int) : ∀ (l : List V) (ks : List ByteArray) (l' : List V) (ks' : List ByteArray), cmpVs k l ks l' ks' = -1 ∨ cmpVs k l ks l' ks' = 0 ∨ cmpVs k l ks l' ks' = 1
  | [], ks, [], ks' => by simp [cmpVs]
  | [], ks, y :: t', ks' => by simp [cmpVs]
  | x :: t, ks, [], ks' => by simp [cmpVs]
  | x :: t, ks, y :: t', ks' => by
    rw [cmpVs]
    split
    · rcases ltI_cases (bl (ks.headD E0) (ks'.headD E0)) with e | e <;> rw [e] <;> simp
    · split
      · exact cmp_range x y
      · exact cmps_range k t ks.tail t' ks'.tail
end
theorem bl_tra {s t u : ByteArray} (h : bl s t = true) (h' : bl t u = true) : bl s u = true := by
  rw [bl_lt] at h h' ⊢
  exact decide_eq_true (lt_tra (of_decide_eq_true h) (of_decide_eq_true h'))
theorem bl_ne {s t : ByteArray} (h : bl s t = true) : s ≠ t := by
  rintro rfl
  rw [bl_lt] at h
  exact lt_irr _ (of_decide_eq_true h)
theorem ltI_m1 {c : Bool} (h : ltI c = -1) : c = true := by cases c <;> simp_all [ltI]
/-- Below the head: the same branch of the order of rows of parts. -/
theorem cmps_cons (k : Int) (x y : V) (t t' : List V) (ks ks' : List ByteArray) : cmpVs k (x :: t) ks (y :: t') ks' = -1 ↔ (k = 5 ∧ bl (ks.headD E0) (ks'.headD E0) = true) ∨ (¬ (k = 5 ∧ ks.headD E0 ≠ ks'.headD E0) ∧ (cmpV x y = -1 ∨ cmpV x y = 0 ∧ cmpVs k t ks.tail t' ks'.tail = -1)) := by
  rw [cmpVs]
  by_cases q : k = 5 ∧ ks.headD E0 ≠ ks'.headD E0
  · rw [if_pos q]
    constructor
    · exact fun h => .inl ⟨q.1, ltI_m1 h⟩
    · rintro (⟨_, h⟩ | ⟨h, _⟩)
      · rw [h]; rfl
      · exact absurd q h
  · rw [if_neg q]
    by_cases hz : cmpV x y = 0
    · rw [if_neg (fun c => c hz)]
      constructor
      · exact fun h => .inr ⟨q, .inr ⟨hz, h⟩⟩
      · rintro (⟨h5, h⟩ | ⟨_, h | ⟨_, h⟩⟩)
        · exact absurd ⟨h5, bl_ne h⟩ q
        · omega
        · exact h
    · rw [if_pos hz]
      constructor
      · exact fun h => .inr ⟨q, .inl h⟩
      · rintro (⟨h5, h⟩ | ⟨_, h | ⟨h, _⟩⟩)
        · exact absurd ⟨h5, bl_ne h⟩ q
        · exact h
        · exact absurd h hz
mutual
theorem cmp_tra : ∀ (x y z : V), okW x → okW y → okW z → cmpV x y = -1 → cmpV y z = -1 → cmpV x z = -1
  | .mk k b n s l ks, .mk k' b' n' s' l' ks', .mk k2 b2 n2 s2 l2 ks2, hx, hy, hz, h, h' => by
    rw [cmpV_mk] at h h' ⊢
    by_cases q1 : k = k'
    · subst q1
      by_cases r1 : k = k2
      · subst r1
        simp only [ne_eq, not_true_eq_false, if_false] at h h' ⊢
        by_cases q2 : b = b'
        · subst q2
          by_cases r2 : b = b2
          · subst r2
            simp only [not_true_eq_false, if_false] at h h' ⊢
            by_cases q3 : n = n'
            · subst q3
              by_cases r3 : n = n2
              · subst r3
                simp only [not_true_eq_false, if_false] at h h' ⊢
                by_cases q4 : s = s'
                · subst q4
                  by_cases r4 : s = s2
                  · subst r4
                    simp only [not_true_eq_false, if_false] at h h' ⊢
                    unfold okW at hx hy hz
                    exact cmps_tra k l ks l' ks' l2 ks2 hx.2 hy.2 hz.2 h h'
                  · rw [if_pos r4] at h' ⊢
                    exact h'
                · rw [if_pos q4] at h
                  by_cases r4 : s' = s2
                  · subst r4
                    rw [if_pos q4]; exact h
                  · rw [if_pos r4] at h'
                    have := bl_tra (ltI_m1 h) (ltI_m1 h')
                    rw [if_pos (bl_ne this), this]; rfl
              · rw [if_pos r3] at h' ⊢; exact h'
            · rw [if_pos q3] at h
              have a := of_decide_eq_true (ltI_m1 h)
              by_cases r3 : n' = n2
              · subst r3
                rw [if_pos q3]; exact h
              · rw [if_pos r3] at h'
                have c := of_decide_eq_true (ltI_m1 h')
                rw [if_pos (by omega), decide_eq_true (by omega)]; rfl
          · rw [if_pos r2] at h' ⊢; exact h'
        · rw [if_pos q2] at h
          have a := ltI_m1 h
          subst a
          by_cases r2 : (true : Bool) = b2
          · subst r2
            rw [if_pos q2]; exact h
          · rw [if_pos r2] at h'
            have c := ltI_m1 h'
            exact absurd c.symm r2
      · rw [if_pos r1] at h' ⊢; exact h'
    · rw [if_pos q1] at h
      have a := of_decide_eq_true (ltI_m1 h)
      by_cases r1 : k' = k2
      · subst r1
        rw [if_pos q1]; exact h
      · rw [if_pos r1] at h'
        have c := of_decide_eq_true (ltI_m1 h')
        rw [if_pos (by omega), decide_eq_true (by omega)]; rfl
theorem cmps_tra (k : Int) : ∀ (l : List V) (ks : List ByteArray) (l' : List V) (ks' : List ByteArray) (l2 : List V) (ks2 : List ByteArray), okWs l → okWs l' → okWs l2 → cmpVs k l ks l' ks' = -1 → cmpVs k l' ks' l2 ks2 = -1 → cmpVs k l ks l2 ks2 = -1
  | [], ks, [], ks', l2, ks2, _, _, _, h, _ => by simp [cmpVs] at h
  | [], ks, y :: t', ks', [], ks2, _, _, _, _, h' => by simp [cmpVs] at h'
  | [], ks, y :: t', ks', z :: t2, ks2, _, _, _, _, _ => by simp [cmpVs]
  | x :: t, ks, [], ks', l2, ks2, _, _, _, h, _ => by simp [cmpVs] at h
  | x :: t, ks, y :: t', ks', [], ks2, _, _, _, _, h' => by simp [cmpVs] at h'
  | x :: t, ks, y :: t', ks', z :: t2, ks2, hx, hy, hz, h, h' => by
    rw [cmps_cons] at h h' ⊢
    unfold okWs at hx hy hz
    rcases h with ⟨h5, h⟩ | ⟨hq, h⟩
    · rcases h' with ⟨_, h'⟩ | ⟨hq', _⟩
      · exact .inl ⟨h5, bl_tra h h'⟩
      · have e : ks'.headD E0 = ks2.headD E0 := Classical.byContradiction fun c => hq' ⟨h5, c⟩
        exact .inl ⟨h5, e ▸ h⟩
    · rcases h' with ⟨h5, h'⟩ | ⟨hq', h'⟩
      · have e : ks.headD E0 = ks'.headD E0 := Classical.byContradiction fun c => hq ⟨h5, c⟩
        exact .inl ⟨h5, e.symm ▸ h'⟩
      · refine .inr ⟨fun c => ?_, ?_⟩
        · have e1 : ks.headD E0 = ks'.headD E0 := Classical.byContradiction fun d => hq ⟨c.1, d⟩
          have e2 : ks'.headD E0 = ks2.headD E0 := Classical.byContradiction fun d => hq' ⟨c.1, d⟩
          exact c.2 (e1.trans e2)
        · rcases h with h | ⟨h0, h⟩
          · rcases h' with h' | ⟨h0', _⟩
            · exact .inl (cmp_tra x y z hx.1 hy.1 hz.1 h h')
            · have e := cmp_zero y z hy.1 hz.1 h0'
              exact .inl (e ▸ h)
          · have e := cmp_zero x y hx.1 hy.1 h0
            subst e
            rcases h' with h' | ⟨h0', h'⟩
            · exact .inl h'
            · exact .inr ⟨h0', cmps_tra k t ks.tail t' ks'.tail t2 ks2.tail hx.2 hy.2 hz.2 h h'⟩
end
mutual
theorem okw_of_wrong : ∀ x : V, wrongV x = 0 → okW x
  | .mk k b n s l ks, h => by
    have ho : ownW (.mk k b n s l ks) = 0 := by
      refine Classical.byContradiction fun hc => ?_
      rw [wrongV, if_neg hc] at h
      exact hc h
    rw [wrongV, if_pos ho] at h
    have hp : plainB (.mk k b n s l ks) = true := by
      cases e : plainB (.mk k b n s l ks) with
      | true => rfl
      | false => rw [ownW_mk, e, if_pos rfl] at ho; omega
    have hq := plain_eq hp
    unfold okW
    exact ⟨⟨fun h5 => List.eq_nil_of_length_eq_zero (hq.2.2.2.2.2.2 h5), hq.2.2.2.2.2.1⟩, okws_of_wrong l h⟩
theorem okws_of_wrong : ∀ l : List V, wrongVs l = 0 → okWs l
  | [], _ => by unfold okWs; trivial
  | x :: t, h => by
    have h1 : wrongV x = 0 := by
      refine Classical.byContradiction fun hc => ?_
      rw [wrongVs, if_neg hc] at h
      exact hc h
    rw [wrongVs, if_pos h1] at h
    unfold okWs
    exact ⟨okw_of_wrong x h1, okws_of_wrong t h⟩
end

/-- A pair put among pairs whose keys rise. -/
def ins (key : ByteArray) (x : V) : List (ByteArray × V) → List (ByteArray × V)
  | [] => [(key, x)]
  | p :: r => if bl p.1 key then p :: ins key x r else (key, x) :: p :: r
/-- Pairs put one after another among those that are there. -/
def insAll : List (ByteArray × V) → List (ByteArray × V) → List (ByteArray × V)
  | acc, [] => acc
  | acc, p :: r => insAll (ins p.1 p.2 acc) r
mutual
/-- Sorted: objects' keys rising, at every depth. -/
def sortV : V → V
  | .mk k b n s l ks => if k = 4 then .mk k b n s (sortVs l) [] else .mk k b n s ((insAll [] (ks.zip (sortVs l))).map (·.2)) ((insAll [] (ks.zip (sortVs l))).map (·.1))
def sortVs : List V → List V | [] => [] | x :: t => sortV x :: sortVs t
end
def rises : List (ByteArray × V) → Prop
  | [] => True
  | p :: r => (∀ q ∈ r, bl p.1 q.1 = true) ∧ rises r
theorem ins_mem (key : ByteArray) (x : V) : ∀ (l : List (ByteArray × V)) (q : ByteArray × V), q ∈ ins key x l ↔ q = (key, x) ∨ q ∈ l
  | [], q => by simp [ins]
  | p :: r, q => by
    rw [ins]
    split
    · rw [List.mem_cons, ins_mem key x r q, List.mem_cons]
      constructor
      · rintro (h | h | h)
        · exact .inr (.inl h)
        · exact .inl h
        · exact .inr (.inr h)
      · rintro (h | h | h)
        · exact .inr (.inl h)
        · exact .inl h
        · exact .inr (.inr h)
    · rw [List.mem_cons]
theorem ins_rises (key : ByteArray) (x : V) : ∀ (l : List (ByteArray × V)), rises l → (∀ q ∈ l, q.1 ≠ key) → rises (ins key x l)
  | [], _, _ => by simp [ins, rises]
  | p :: r, h, hn => by
    rw [ins]
    unfold rises at h
    by_cases hb : bl p.1 key = true
    · rw [if_pos hb]
      unfold rises
      refine ⟨fun q hq => ?_, ins_rises key x r h.2 (fun q hq => hn q (List.mem_cons_of_mem _ hq))⟩
      rcases (ins_mem key x r q).1 hq with rfl | hq
      · exact hb
      · exact h.1 q hq
    · rw [if_neg hb]
      have hpk := hn p List.mem_cons_self
      have hk : bl key p.1 = true := by
        rw [bl_not hpk]
        cases e : bl p.1 key with
        | true => exact absurd e hb
        | false => rfl
      unfold rises
      refine ⟨fun q hq => ?_, ?_⟩
      · rcases List.mem_cons.1 hq with rfl | hq
        · exact hk
        · exact bl_tra hk (h.1 q hq)
      · unfold rises; exact h
/-- Rising pairs put one after another stay as they are. -/
theorem ins_last (key : ByteArray) (x : V) : ∀ (l : List (ByteArray × V)), (∀ q ∈ l, bl q.1 key = true) → ins key x l = l ++ [(key, x)]
  | [], _ => rfl
  | p :: r, h => by
    rw [ins, if_pos (h p List.mem_cons_self), ins_last key x r (fun q hq => h q (List.mem_cons_of_mem _ hq))]; rfl
theorem insAll_rises : ∀ (l acc : List (ByteArray × V)), rises l → (∀ p ∈ acc, ∀ q ∈ l, bl p.1 q.1 = true) → insAll acc l = acc ++ l
  | [], acc, _, _ => by simp [insAll]
  | p :: r, acc, h, ha => by
    unfold rises at h
    rw [insAll, ins_last p.1 p.2 acc (fun q hq => ha q hq p List.mem_cons_self)]
    rw [insAll_rises r _ h.2 (fun a hm q hq => ?_)]
    · simp
    · rcases List.mem_append.1 hm with hm | hm
      · exact ha a hm q (List.mem_cons_of_mem _ hq)
      · simp only [List.mem_singleton] at hm
        subst hm
        exact h.1 q hq
theorem insAll_mem : ∀ (l acc : List (ByteArray × V)) (q : ByteArray × V), q ∈ insAll acc l ↔ q ∈ acc ∨ q ∈ l
  | [], acc, q => by simp [insAll]
  | p :: r, acc, q => by
    rw [insAll, insAll_mem r _ q, ins_mem, List.mem_cons]
    constructor
    · rintro ((h | h) | h)
      · exact .inr (.inl h)
      · exact .inl h
      · exact .inr (.inr h)
    · rintro (h | h | h)
      · exact .inl (.inr h)
      · exact .inl (.inl h)
      · exact .inr h
theorem insAll_all : ∀ (l acc : List (ByteArray × V)), rises acc → (l.map (·.1)).Nodup → (∀ p ∈ acc, ∀ q ∈ l, p.1 ≠ q.1) → rises (insAll acc l)
  | [], acc, h, _, _ => by simpa [insAll] using h
  | p :: r, acc, h, hn, ha => by
    rw [List.map_cons, List.nodup_cons] at hn
    rw [insAll]
    refine insAll_all r _ (ins_rises p.1 p.2 acc h (fun q hq => ha q hq p List.mem_cons_self)) hn.2 (fun a hm q hq => ?_)
    rcases (ins_mem p.1 p.2 acc a).1 hm with rfl | hm
    · exact fun e => hn.1 (List.mem_map.2 ⟨q, hq, e.symm⟩)
    · exact ha a hm q (List.mem_cons_of_mem _ hq)
theorem ins_len (key : ByteArray) (x : V) : ∀ (l : List (ByteArray × V)), (ins key x l).length = l.length + 1
  | [] => rfl
  | p :: r => by
    rw [ins]
    split
    · rw [List.length_cons, ins_len key x r, List.length_cons]
    · simp
theorem insAll_len : ∀ (l acc : List (ByteArray × V)), (insAll acc l).length = acc.length + l.length
  | [], acc => by simp [insAll]
  | p :: r, acc => by rw [insAll, insAll_len r, ins_len, List.length_cons]; omega
theorem sortVs_map : ∀ l : List V, sortVs l = l.map sortV
  | [] => by rw [sortVs]; rfl
  | x :: t => by rw [sortVs, sortVs_map t]; rfl
theorem zip_unzip : ∀ (P : List (ByteArray × V)), (P.map (·.1)).zip (P.map (·.2)) = P
  | [] => rfl
  | p :: r => by simp only [List.map_cons, List.zip_cons_cons, zip_unzip r]
/-- What is not wrong: the whole's own part. -/
theorem own_of_wrong {k : Int} {b : Bool} {n : Int} {s : ByteArray} {l : List V} {ks : List ByteArray} (h : wrongV (.mk k b n s l ks) = 0) : plainP (.mk k b n s l ks) ∧ (-9007199254740992 ≤ n ∧ n ≤ 9007199254740992) ∧ validS s = true ∧ ks.all validS = true ∧ ks.Nodup ∧ wrongVs l = 0 := by
  have ho : ownW (.mk k b n s l ks) = 0 := by
    refine Classical.byContradiction fun hc => ?_
    rw [wrongV, if_neg hc] at h
    exact hc h
  rw [wrongV, if_pos ho] at h
  rw [ownW_mk] at ho
  cases hp : plainB (.mk k b n s l ks) with
  | false => rw [hp, if_pos rfl] at ho; omega
  | true =>
    rw [hp, if_neg (by simp)] at ho
    by_cases hn : n < -9007199254740992 ∨ 9007199254740992 < n
    · rw [if_pos hn] at ho; omega
    rw [if_neg hn] at ho
    cases hv : validS s with
    | false => rw [hv, if_pos rfl] at ho; omega
    | true =>
      rw [hv, if_neg (by simp)] at ho
      cases ha : ks.all validS with
      | false => rw [ha, if_pos rfl] at ho; omega
      | true =>
        rw [ha, if_neg (by simp)] at ho
        cases hd : onceB ks with
        | false => rw [hd, if_pos rfl] at ho; omega
        | true => exact ⟨plain_eq hp, by omega, rfl, rfl, @of_decide_eq_true _ (Classical.propDecidable _) hd, h⟩
theorem wrongVs_mem : ∀ (l : List V), wrongVs l = 0 → ∀ y ∈ l, wrongV y = 0
  | x :: t, h, y, hy => by
    have h1 : wrongV x = 0 := by
      refine Classical.byContradiction fun hc => ?_
      rw [wrongVs, if_neg hc] at h
      exact hc h
    rw [wrongVs, if_pos h1] at h
    rcases List.mem_cons.1 hy with rfl | hy
    · exact h1
    · exact wrongVs_mem t h y hy
theorem zip_keys {ks : List ByteArray} {l : List V} (h : ks.length = l.length) : (ks.zip l).map (·.1) = ks := by
  rw [List.map_fst_zip]; omega
theorem zip_vals {ks : List ByteArray} {l : List V} (h : ks.length = l.length) : (ks.zip l).map (·.2) = l := by
  rw [List.map_snd_zip]; omega
/-- The sorted pairs of an object that may be: rising. -/
theorem sort_rises {ks : List ByteArray} {l : List V} (h : ks.length = l.length) (hd : ks.Nodup) : rises (insAll [] (ks.zip l)) :=
  insAll_all _ _ (by unfold rises; trivial) (by rw [zip_keys h]; exact hd) (fun p hp => by cases hp)
theorem insAll_nil : insAll [] [] = [] := rfl
/-- Sorting again leaves it as it is. -/
theorem sort_again_aux : ∀ (N : Nat) (x : V), sizeV x ≤ N → wrongV x = 0 → sortV (sortV x) = sortV x
  | 0, x, h, _ => absurd (sizeV_pos x) (by omega)
  | N + 1, .mk k b n s l ks, hN, h => by
    obtain ⟨hp, _, _, _, hd, hl⟩ := own_of_wrong h
    have hsz : sizeV (.mk k b n s l ks) = 1 + s.size + keysS ks + sizeVs l := by rw [sizeV]
    have hfix : ∀ y ∈ sortVs l, sortV y = y := fun y hy => by
      rw [sortVs_map] at hy
      obtain ⟨z, hz, rfl⟩ := List.mem_map.1 hy
      obtain ⟨q, hq, rfl⟩ := List.getElem_of_mem hz
      exact sort_again_aux N _ (by have := sizeVs_get l q hq; omega) (wrongVs_mem l hl _ (List.getElem_mem hq))
    by_cases h4 : k = 4
    · rw [sortV, if_pos h4, sortV, if_pos h4, sortVs_map (sortVs l)]
      congr 1
      rw [List.map_congr_left hfix, List.map_id']
    · have hlen : ks.length = l.length := by
        by_cases h5 : k = 5
        · exact hp.2.2.2.2.2.1 h5
        · have h0 : l = [] := Classical.byContradiction fun hc => by
            rcases hp.2.2.2.2.1 hc with h | h
            · exact h4 h
            · exact h5 h
          rw [hp.2.2.2.2.2.2 h5, h0]; rfl
      have hlen2 : ks.length = (sortVs l).length := by rw [sortVs_map, List.length_map]; exact hlen
      have hr := sort_rises hlen2 hd
      rw [sortV, if_neg h4]
      obtain ⟨P, hP⟩ : ∃ P, insAll [] (ks.zip (sortVs l)) = P := ⟨_, rfl⟩
      have hmem : ∀ p ∈ P, sortV p.2 = p.2 := fun p hp' => by
        rw [← hP, insAll_mem] at hp'
        rcases hp' with hp' | hp'
        · cases hp'
        · exact hfix _ (List.of_mem_zip hp').2
      rw [hP] at hr ⊢
      rw [sortV, if_neg h4, sortVs_map, List.map_map]
      have hm : P.map (sortV ∘ fun p => p.2) = P.map (·.2) := List.map_congr_left hmem
      rw [hm, zip_unzip, insAll_rises P [] hr (fun p hp => by cases hp), List.nil_append]
theorem sort_again {x : V} (h : wrongV x = 0) : sortV (sortV x) = sortV x := sort_again_aux _ x (Nat.le_refl _) h
theorem wrong_of_own {k : Int} {b : Bool} {n : Int} {s : ByteArray} {l : List V} {ks : List ByteArray} (h1 : plainP (.mk k b n s l ks)) (h2 : -9007199254740992 ≤ n ∧ n ≤ 9007199254740992) (h3 : validS s = true) (h4 : ks.all validS = true) (h5 : ks.Nodup) (h6 : wrongVs l = 0) : wrongV (.mk k b n s l ks) = 0 := by
  have hn : ¬ (n < -9007199254740992 ∨ 9007199254740992 < n) := by omega
  have ho : ownW (.mk k b n s l ks) = 0 := by
    rw [ownW_mk, plain_yes h1, h3, h4, once_yes h5]
    simp only [Bool.true_eq_false, if_false, hn]
  rw [wrongV, if_pos ho]
  exact h6
theorem wrongVs_of_mem (l : List V) (h : ∀ y ∈ l, wrongV y = 0) : wrongVs l = 0 := wrongVs_none l (fun q hq => h _ (List.getElem_mem hq))
theorem rises_nodup : ∀ (P : List (ByteArray × V)), rises P → (P.map (·.1)).Nodup
  | [], _ => by simp
  | p :: r, h => by
    unfold rises at h
    rw [List.map_cons, List.nodup_cons]
    refine ⟨fun hm => ?_, rises_nodup r h.2⟩
    obtain ⟨q, hq, e⟩ := List.mem_map.1 hm
    exact bl_ne (h.1 q hq) e.symm
/-- Of what may be there are as many keys as parts, but for a list. -/
theorem keys_as_parts {k : Int} {b : Bool} {n : Int} {s : ByteArray} {l : List V} {ks : List ByteArray} (hp : plainP (.mk k b n s l ks)) (h4 : k ≠ 4) : ks.length = l.length := by
  by_cases h5 : k = 5
  · exact hp.2.2.2.2.2.1 h5
  · have h0 : l = [] := Classical.byContradiction fun hc => by
      rcases hp.2.2.2.2.1 hc with h | h
      · exact h4 h
      · exact h5 h
    rw [hp.2.2.2.2.2.2 h5, h0]; rfl
theorem sort_ok_aux : ∀ (N : Nat) (x : V), sizeV x ≤ N → wrongV x = 0 → wrongV (sortV x) = 0
  | 0, x, h, _ => absurd (sizeV_pos x) (by omega)
  | N + 1, .mk k b n s l ks, hN, h => by
    obtain ⟨hp, hn, hv, ha, hd, hl⟩ := own_of_wrong h
    have hsz : sizeV (.mk k b n s l ks) = 1 + s.size + keysS ks + sizeVs l := by rw [sizeV]
    have hin : ∀ y ∈ sortVs l, wrongV y = 0 := fun y hy => by
      rw [sortVs_map] at hy
      obtain ⟨z, hz, rfl⟩ := List.mem_map.1 hy
      obtain ⟨q, hq, rfl⟩ := List.getElem_of_mem hz
      exact sort_ok_aux N _ (by have := sizeVs_get l q hq; omega) (wrongVs_mem l hl _ (List.getElem_mem hq))
    obtain ⟨p1, p2, p3, p4, p5, p6, p7⟩ := hp
    have hp0 : plainP (.mk k b n s l ks) := ⟨p1, p2, p3, p4, p5, p6, p7⟩
    by_cases h4 : k = 4
    · rw [sortV, if_pos h4]
      refine wrong_of_own ⟨p1, p2, p3, p4, fun _ => .inl h4, fun h5 => by omega, fun _ => rfl⟩ hn hv (by simp) (by simp) (wrongVs_of_mem _ hin)
    · have hlen := keys_as_parts hp0 h4
      have hlen2 : ks.length = (sortVs l).length := by rw [sortVs_map, List.length_map]; exact hlen
      have hr := sort_rises hlen2 hd
      have hPl : (insAll [] (ks.zip (sortVs l))).length = l.length := by
        rw [insAll_len, List.length_zip, ← hlen2, hlen]; simp
      have hmem : ∀ p ∈ insAll [] (ks.zip (sortVs l)), p.1 ∈ ks ∧ p.2 ∈ sortVs l := fun p hp' => by
        rw [insAll_mem] at hp'
        rcases hp' with hp' | hp'
        · cases hp'
        · exact List.of_mem_zip hp'
      rw [sortV, if_neg h4]
      generalize insAll [] (ks.zip (sortVs l)) = P at *
      have hk0 : k ≠ 5 → P.length = 0 := fun h5 => by
        have := p7 h5; omega
      refine wrong_of_own ⟨p1, p2, p3, p4, fun hc => ?_, fun _ => by simp, fun h5 => by rw [List.length_map]; exact hk0 h5⟩ hn hv ?_ (rises_nodup P hr) (wrongVs_of_mem _ (fun y hy => ?_))
      · by_cases h5 : k = 5
        · exact .inr h5
        · have := List.eq_nil_of_length_eq_zero (hk0 h5)
          subst this
          exact absurd rfl hc
      · rw [List.all_eq_true]
        intro K hK
        obtain ⟨p, hp', rfl⟩ := List.mem_map.1 hK
        exact List.all_eq_true.1 ha _ (hmem p hp').1
      · obtain ⟨p, hp', rfl⟩ := List.mem_map.1 hy
        exact hin _ (hmem p hp').2
/-- What is sorted may be. -/
theorem sort_ok {x : V} (h : wrongV x = 0) : wrongV (sortV x) = 0 := sort_ok_aux _ x (Nat.le_refl _) h

def totP (l : List (ByteArray × V)) : Nat := (l.map fun p => countV p.2).sum
theorem ins_tot (key : ByteArray) (x : V) : ∀ (l : List (ByteArray × V)), totP (ins key x l) = countV x + totP l
  | [] => by simp [ins, totP]
  | p :: r => by
    rw [ins]
    split
    · have := ins_tot key x r
      simp only [totP, List.map_cons, List.sum_cons] at this ⊢
      omega
    · simp [totP]
theorem insAll_tot : ∀ (l acc : List (ByteArray × V)), totP (insAll acc l) = totP acc + totP l
  | [], acc => by simp [insAll, totP]
  | p :: r, acc => by
    rw [insAll, insAll_tot r, ins_tot]
    simp only [totP, List.map_cons, List.sum_cons]; omega
theorem countVs_sumO : ∀ l : List V, countVs l = (l.map countV).sum
  | [] => by rw [countVs]; rfl
  | x :: t => by rw [countVs, countVs_sumO t]; simp
theorem totP_vals (P : List (ByteArray × V)) : totP P = countVs (P.map (·.2)) := by rw [countVs_sumO, List.map_map]; rfl
theorem sort_count_aux : ∀ (N : Nat) (x : V), sizeV x ≤ N → wrongV x = 0 → countV (sortV x) = countV x
  | 0, x, h, _ => absurd (sizeV_pos x) (by omega)
  | N + 1, .mk k b n s l ks, hN, h => by
    obtain ⟨hp, _, _, _, _, hl⟩ := own_of_wrong h
    have hsz : sizeV (.mk k b n s l ks) = 1 + s.size + keysS ks + sizeVs l := by rw [sizeV]
    have hin : countVs (sortVs l) = countVs l := by
      rw [sortVs_map, countVs_sumO, countVs_sumO, List.map_map]
      congr 1
      refine List.map_congr_left (fun y hy => ?_)
      obtain ⟨q, hq, rfl⟩ := List.getElem_of_mem hy
      exact sort_count_aux N _ (by have := sizeVs_get l q hq; omega) (wrongVs_mem l hl _ (List.getElem_mem hq))
    by_cases h4 : k = 4
    · rw [sortV, if_pos h4, countV, countV, hin]
    · have hlen2 : ks.length = (sortVs l).length := by rw [sortVs_map, List.length_map]; exact keys_as_parts hp h4
      rw [sortV, if_neg h4, countV, countV, ← totP_vals, insAll_tot, totP_vals (ks.zip (sortVs l)), zip_vals hlen2, hin]
      simp [totP]
theorem sort_count {x : V} (h : wrongV x = 0) : countV (sortV x) = countV x := sort_count_aux _ x (Nat.le_refl _) h
def depO : List (ByteArray × V) → Nat | [] => 0 | p :: r => max (depthV p.2) (depO r)
theorem ins_dep (key : ByteArray) (x : V) : ∀ (l : List (ByteArray × V)), depO (ins key x l) = max (depthV x) (depO l)
  | [] => by simp [ins, depO]
  | p :: r => by
    rw [ins]
    split
    · have := ins_dep key x r
      simp only [depO] at this ⊢
      omega
    · simp only [depO]
theorem insAll_dep : ∀ (l acc : List (ByteArray × V)), depO (insAll acc l) = max (depO acc) (depO l)
  | [], acc => by simp [insAll, depO]
  | p :: r, acc => by
    rw [insAll, insAll_dep r, ins_dep]
    simp only [depO]; omega
theorem depP_vals : ∀ (P : List (ByteArray × V)), depO P = depthVs (P.map (·.2))
  | [] => by simp [depO, depthVs]
  | p :: r => by simp only [depO, List.map_cons, depthVs, depP_vals r]
theorem depthVs_map_eq (f : V → V) : ∀ (l : List V), (∀ y ∈ l, depthV (f y) = depthV y) → depthVs (l.map f) = depthVs l
  | [], _ => rfl
  | x :: t, h => by
    simp only [List.map_cons, depthVs]
    rw [h x List.mem_cons_self, depthVs_map_eq f t (fun y hy => h y (List.mem_cons_of_mem _ hy))]
theorem sort_depth_aux : ∀ (N : Nat) (x : V), sizeV x ≤ N → wrongV x = 0 → depthV (sortV x) = depthV x
  | 0, x, h, _ => absurd (sizeV_pos x) (by omega)
  | N + 1, .mk k b n s l ks, hN, h => by
    obtain ⟨hp, _, _, _, _, hl⟩ := own_of_wrong h
    have hsz : sizeV (.mk k b n s l ks) = 1 + s.size + keysS ks + sizeVs l := by rw [sizeV]
    have hin : depthVs (sortVs l) = depthVs l := by
      rw [sortVs_map]
      refine depthVs_map_eq sortV l (fun y hy => ?_)
      obtain ⟨q, hq, rfl⟩ := List.getElem_of_mem hy
      exact sort_depth_aux N _ (by have := sizeVs_get l q hq; omega) (wrongVs_mem l hl _ (List.getElem_mem hq))
    by_cases h4 : k = 4
    · rw [sortV, if_pos h4, depthV, depthV, hin]
    · have hlen2 : ks.length = (sortVs l).length := by rw [sortVs_map, List.length_map]; exact keys_as_parts hp h4
      rw [sortV, if_neg h4, depthV, depthV, ← depP_vals, insAll_dep, depP_vals (ks.zip (sortVs l)), zip_vals hlen2, hin]
      simp [depO]
theorem sort_depth {x : V} (h : wrongV x = 0) : depthV (sortV x) = depthV x := sort_depth_aux _ x (Nat.le_refl _) h
theorem check_zero {x : V} (h : checkV x = 0) : depthV x ≤ 24 ∧ wrongV x = 0 ∧ countV x ≤ 4096 := by
  unfold checkV at h
  by_cases h1 : 24 < depthV x
  · rw [if_pos h1] at h; omega
  rw [if_neg h1] at h
  by_cases h2 : wrongV x ≠ 0
  · rw [if_pos h2] at h; exact absurd h h2
  rw [if_neg h2] at h
  by_cases h3 : 4096 < countV x
  · rw [if_pos h3] at h; omega
  exact ⟨by omega, Decidable.not_not.1 h2, by omega⟩
theorem check_of {x : V} (h1 : depthV x ≤ 24) (h2 : wrongV x = 0) (h3 : countV x ≤ 4096) : checkV x = 0 := by
  unfold checkV
  rw [if_neg (by omega), if_neg (fun c => c h2), if_neg (by omega)]
/-- What is sorted may be, whole. -/
theorem check_sort {x : V} (h : checkV x = 0) : checkV (sortV x) = 0 := by
  obtain ⟨h1, h2, h3⟩ := check_zero h
  exact check_of (by rw [sort_depth h2]; exact h1) (sort_ok h2) (by rw [sort_count h2]; exact h3)
/-- Two values that may be are equal just if they are the same, sorted. -/
theorem equal_iff {x y : V} (hx : wrongV x = 0) (hy : wrongV y = 0) : cmpV (sortV x) (sortV y) = 0 ↔ sortV x = sortV y :=
  ⟨cmp_zero _ _ (okw_of_wrong _ (sort_ok hx)) (okw_of_wrong _ (sort_ok hy)), fun e => by rw [e]; exact cmp_self _⟩
end Go.Proofs.YtkigeegahepnaaaGreatDoor

namespace Go.Proofs.YtkigeegahepnaaaGreatDoor
open Go.RowKit

def lV (l : List V) : V := .mk 4 false 0 ⟨#[]⟩ l []
theorem leaf_form {u : V} (h : leafB u = true) : u = tV u.text := by
  unfold leafB at h
  simp only [Bool.and_eq_true, decide_eq_true_eq] at h
  obtain ⟨⟨hk, hp⟩, _⟩ := h
  obtain ⟨hw, _⟩ := pcheck_zero hp
  obtain ⟨k, b, n, s, l, ks⟩ := u
  simp only [V.kind] at hk
  subst hk
  obtain ⟨⟨_, p1, p2, p3, p4, p5, p6⟩, _⟩ := own_of_wrong hw
  have e1 : b = false := by cases b with | false => rfl | true => exact absurd (p1 rfl) (by decide)
  have e2 : n = 0 := Classical.byContradiction fun hc => absurd (p2 hc) (by decide)
  have e3 : l = [] := Classical.byContradiction fun hc => absurd (p4 hc) (by decide)
  have e4 : ks = [] := List.eq_nil_of_length_eq_zero (p6 (by decide))
  subst e1; subst e2; subst e3; subst e4
  rfl
/-- A number, a text, or a list of texts. -/
def heldP (x : V) : Prop := x = nV x.num ∨ x = tV x.text ∨ (x = lV x.list ∧ ∀ u ∈ x.list, u = tV u.text)
theorem held_form {x : V} {q : Int} (hq : q = 2 ∨ q = 3 ∨ q = 4) (h : holdsB x q = true) : heldP x ∧ wrongV x = 0 ∧ depthV x ≤ 24 := by
  unfold holdsB at h
  simp only [Bool.and_eq_true, decide_eq_true_eq] at h
  obtain ⟨⟨hk, hp⟩, hr⟩ := h
  obtain ⟨hw, hd, _⟩ := pcheck_zero hp
  refine ⟨?_, hw, hd⟩
  obtain ⟨k, b, n, s, l, ks⟩ := x
  simp only [V.kind] at hk
  subst hk
  obtain ⟨⟨_, p1, p2, p3, p4, p5, p6⟩, _⟩ := own_of_wrong hw
  have e1 : b = false := by cases b with | false => rfl | true => have := p1 rfl; omega
  have e4 : ks = [] := List.eq_nil_of_length_eq_zero (p6 (by omega))
  subst e1; subst e4
  rcases hq with rfl | rfl | rfl
  · have e3 : l = [] := Classical.byContradiction fun hc => absurd (p4 hc) (by decide)
    have e5 : s = ⟨#[]⟩ := Classical.byContradiction fun hc => absurd (p3 hc) (by decide)
    subst e3; subst e5
    exact .inl rfl
  · have e3 : l = [] := Classical.byContradiction fun hc => absurd (p4 hc) (by decide)
    have e2 : n = 0 := Classical.byContradiction fun hc => absurd (p2 hc) (by decide)
    subst e3; subst e2
    exact .inr (.inl rfl)
  · have e2 : n = 0 := Classical.byContradiction fun hc => absurd (p2 hc) (by decide)
    have e5 : s = ⟨#[]⟩ := Classical.byContradiction fun hc => absurd (p3 hc) (by decide)
    subst e2; subst e5
    rw [if_neg (by decide), if_pos rfl] at hr
    simp only [Bool.and_eq_true, List.all_eq_true] at hr
    exact .inr (.inr ⟨rfl, fun u hu => leaf_form (hr.2 u hu)⟩)
theorem sort_lV (l : List V) (h : ∀ u ∈ l, u = tV u.text) : SortR (lV l) (lV l) :=
  SortR.mk 4 false 0 ⟨#[]⟩ l [] l [] (List.range l.length) ⟨List.Perm.refl _, fun _ => rfl, fun h => absurd (show (4 : Int) = 5 from h) (by decide)⟩ (by simp) (fun i hi => by
    have e1 : (List.range l.length).getD i 0 = i := by rw [getD_lt _ _ _ (by simpa using hi)]; simp
    rw [e1, getD_lt _ _ _ hi, h _ (List.getElem_mem hi)]
    exact sort_leaf _ _ _ _) rfl
theorem sort_held {x : V} (h : heldP x) : SortR x x := by
  rcases h with h | h | ⟨h, h'⟩
  · rw [h]; exact sort_leaf _ _ _ _
  · rw [h]; exact sort_leaf _ _ _ _
  · rw [h]; exact sort_lV _ h'
theorem cmpI_zero {x y : Int} : cmpI x y = 0 ↔ x = y := by unfold cmpI; split <;> (try split) <;> omega
theorem pcmp_tt (s t : ByteArray) : pcmpV (tV s) (tV t) = cmpK s t := by
  unfold tV
  rw [pcmpV_mk, if_neg (by simp), if_neg (by decide), if_neg (by decide), if_pos rfl]
theorem pcmps_t : ∀ (l m : List V), (∀ u ∈ l, u = tV u.text) → (∀ u ∈ m, u = tV u.text) → (pcmpVs l m = 0 ↔ l = m)
  | [], [], _, _ => by simp [pcmpVs]
  | [], _ :: _, _, _ => by simp [pcmpVs]
  | _ :: _, [], _, _ => by simp [pcmpVs]
  | x :: l, y :: m, h, h' => by
    have ih := pcmps_t l m (fun u hu => h u (by simp [hu])) (fun u hu => h' u (by simp [hu]))
    have hx := h x (by simp)
    have hy := h' y (by simp)
    rw [pcmpVs, hx, hy, pcmp_tt]
    by_cases e : x.text = y.text
    · rw [if_pos ((cmpK_zero _ _).2 e), ih, e]
      simp
    · have hc : cmpK x.text y.text ≠ 0 := fun hc => e ((cmpK_zero _ _).1 hc)
      rw [if_neg hc]
      constructor
      · exact fun hh => absurd hh hc
      · intro hh
        have := (List.cons.inj hh).1
        unfold tV at this
        injection this
        contradiction
theorem pcmp_held {x y : V} (hx : heldP x) (hy : heldP y) : pcmpV x y = 0 ↔ x = y := by
  have key : ∀ (k k' : Int) (b b' : Bool) (n n' : Int) (s s' : ByteArray) (l l' : List V) (ks ks' : List ByteArray), k ≠ k' → (pcmpV (.mk k b n s l ks) (.mk k' b' n' s' l' ks') = 0 ↔ V.mk k b n s l ks = V.mk k' b' n' s' l' ks') := fun k k' b b' n n' s s' l l' ks ks' hk => by
    rw [pcmpV_mk, if_pos hk, cmpI_zero]
    constructor
    · exact fun h => absurd h hk
    · intro h; injection h
  rcases hx with hx | hx | ⟨hx, hx'⟩ <;> rcases hy with hy | hy | ⟨hy, hy'⟩
  · rw [hx, hy]
    unfold nV
    rw [pcmpV_mk, if_neg (by simp), if_neg (by decide), if_pos rfl, cmpI_zero]
    simp
  · rw [hx, hy]; exact key _ _ _ _ _ _ _ _ _ _ _ _ (by decide)
  · rw [hx, hy]; exact key _ _ _ _ _ _ _ _ _ _ _ _ (by decide)
  · rw [hx, hy]; exact key _ _ _ _ _ _ _ _ _ _ _ _ (by decide)
  · rw [hx, hy, pcmp_tt, cmpK_zero]
    unfold tV
    simp
  · rw [hx, hy]; exact key _ _ _ _ _ _ _ _ _ _ _ _ (by decide)
  · rw [hx, hy]; exact key _ _ _ _ _ _ _ _ _ _ _ _ (by decide)
  · rw [hx, hy]; exact key _ _ _ _ _ _ _ _ _ _ _ _ (by decide)
  · rw [hx, hy]
    have := pcmps_t _ _ hx' hy'
    unfold lV
    rw [pcmpV_mk, if_neg (by simp), if_neg (by decide), if_neg (by decide), if_neg (by decide), if_neg (by decide), this]
    simp
theorem eqA_held {x y : V} {q q' : Int} (hq : q = 2 ∨ q = 3 ∨ q = 4) (hq' : q' = 2 ∨ q' = 3 ∨ q' = 4) (hx : holdsB x q = true) (hy : holdsB y q' = true) : eqA x y = true ↔ x = y := by
  obtain ⟨fx, wx, dx⟩ := held_form hq hx
  obtain ⟨fy, wy, dy⟩ := held_form hq' hy
  rw [eqA_of wx wy dx dy (sort_held fx) (sort_held fy), beq_iff_eq]
  exact pcmp_held fx fy

theorem check_ok {K : ByteArray} {L : List G} (h : checkL K L = 0) : known K = true ∧ okRow K L = true := by
  unfold checkL at h
  cases hk : known K with
  | false => rw [hk, if_neg (by simp)] at h; omega
  | true =>
    rw [hk, if_pos rfl] at h
    cases ho : okRow K L with
    | false => rw [ho, if_neg (by simp)] at h; omega
    | true => exact ⟨rfl, rfl⟩
theorem row_at {K : ByteArray} {L : List G} (h : checkL K L = 0) {i : Nat} (hi : i < L.length) : (∃ x, spec K L[i].nm = some x ∧ mayB L[i] x.q = true) ∧ (0 < i → bl (L[i - 1]'(by omega)).nm L[i].nm = true) := by
  have hs := okRow_iff.1 (check_ok h).2 i hi
  unfold stepB at hs
  rw [getD_g hi] at hs
  cases hx : spec K L[i].nm with
  | none => rw [hx] at hs; cases hs
  | some x =>
    rw [hx] at hs
    simp only [Bool.and_eq_true, Bool.or_eq_true, decide_eq_true_eq] at hs
    refine ⟨⟨x, rfl, hs.2⟩, fun h0 => ?_⟩
    rcases hs.1 with h1 | h1
    · omega
    · rw [getD_g (show i - 1 < L.length by omega)] at h1
      exact h1
theorem row_mem {K : ByteArray} {L : List G} (h : checkL K L = 0) {g : G} (hg : g ∈ L) : ∃ x, spec K g.nm = some x ∧ mayB g x.q = true := by
  obtain ⟨i, hi, rfl⟩ := List.getElem_of_mem hg
  exact (row_at h hi).1
theorem row_rise {K : ByteArray} {L : List G} (h : checkL K L = 0) : ∀ (d i : Nat) (hi : i + d + 1 < L.length), bl (L[i]'(by omega)).nm L[i + d + 1].nm = true
  | 0, i, hi => (row_at h hi).2 (by omega)
  | d + 1, i, hi => bl_tra (row_rise h d i (by omega)) ((row_at h hi).2 (by omega))
theorem row_inj {K : ByteArray} {L : List G} (h : checkL K L = 0) {i j : Nat} (hi : i < L.length) (hj : j < L.length) (e : L[i].nm = L[j].nm) : i = j := by
  have key : ∀ i j (hi : i < L.length) (hj : j < L.length), L[i].nm = L[j].nm → ¬ i < j := fun i j hi hj e hlt => by
    obtain ⟨d, rfl⟩ : ∃ d, j = i + d + 1 := ⟨j - i - 1, by omega⟩
    exact bl_ne (row_rise h d i hj) e
  have h1 := key i j hi hj e
  have h2 := key j i hj hi e.symm
  omega
theorem lastG_of {K : ByteArray} {L : List G} (h : checkL K L = 0) {g : G} (hg : g ∈ L) : lastG L g.nm = some g := by
  cases hl : lastG L g.nm with
  | none =>
    unfold lastG at hl
    have := List.find?_eq_none.1 hl g (List.mem_reverse.2 hg)
    simp at this
  | some g' =>
    obtain ⟨hm, hn⟩ := lastG_mem hl
    obtain ⟨i, hi, rfl⟩ := List.getElem_of_mem hg
    obtain ⟨j, hj, rfl⟩ := List.getElem_of_mem hm
    have := row_inj h hj hi hn
    subst this
    rfl
theorem gg_of {K : ByteArray} {L : List G} (h : checkL K L = 0) {g : G} (hg : g ∈ L) : gg L g.nm = g := by unfold gg; rw [lastG_of h hg]; rfl
theorem spec_ne {K s : ByteArray} {x : RwS} (h : spec K s = some x) : s ≠ ⟨#[]⟩ := by
  obtain ⟨_, hn, _, hm⟩ := spec_facts h
  have key : ∀ y ∈ rowsL, y.nm ≠ ⟨#[]⟩ := by decide
  rw [← hn]
  exact key x hm
theorem unk_no {L : List G} (h : L.any (·.unk) = false) {g : G} (hg : g ∈ L) : g.unk = false := by
  have := List.any_eq_false.1 h g hg
  simpa using this
theorem held_of {K : ByteArray} {L : List G} (h : checkL K L = 0) (hu : L.any (·.unk) = false) {g : G} (hg : g ∈ L) : ∃ q, (q = 2 ∨ q = 3 ∨ q = 4) ∧ holdsB g.v q = true := by
  obtain ⟨x, hx, hm⟩ := row_mem h hg
  unfold mayB at hm
  rw [unk_no hu hg, if_neg (by simp)] at hm
  exact ⟨x.q, (spec_facts hx).2.2.1, hm⟩
theorem turn_eq {K : ByteArray} {A B : List G} (hA : checkL K A = 0) (hB : checkL K B = 0) (uA : A.any (·.unk) = false) (uB : B.any (·.unk) = false) {s : ByteArray} {x : RwS} (hs : spec K s = some x) :
    turnsB (gg A s) (gg B s) = false ↔ gg A s = gg B s := by
  have hne := spec_ne hs
  unfold gg
  cases ha : lastG A s with
  | none =>
    cases hb : lastG B s with
    | none =>
      simp only [Option.getD_none, iff_true]
      unfold turnsB zG
      simp [eqA_zz]
    | some g =>
      obtain ⟨hm, hn⟩ := lastG_mem hb
      have e : ¬ zG.nm = g.nm := fun e => hne (by rw [← hn, ← e]; rfl)
      simp only [Option.getD_none, Option.getD_some]
      unfold turnsB
      rw [if_neg e]
      constructor
      · intro h; cases h
      · intro h; exact absurd (congrArg G.nm h) e
  | some g =>
    obtain ⟨hm, hn⟩ := lastG_mem ha
    cases hb : lastG B s with
    | none =>
      have e : ¬ g.nm = zG.nm := fun e => hne (by rw [← hn, e]; rfl)
      simp only [Option.getD_none, Option.getD_some]
      unfold turnsB
      rw [if_neg e]
      constructor
      · intro h; cases h
      · intro h; exact absurd (congrArg G.nm h) e
    | some g' =>
      obtain ⟨hm', hn'⟩ := lastG_mem hb
      simp only [Option.getD_some]
      unfold turnsB
      rw [if_pos (hn.trans hn'.symm), unk_no uB hm', Bool.false_or, Bool.not_eq_false']
      obtain ⟨q, hq, h1⟩ := held_of hA uA hm
      obtain ⟨q', hq', h2⟩ := held_of hB uB hm'
      rw [eqA_held hq hq' h1 h2]
      constructor
      · intro h
        have u1 := unk_no uA hm
        have u2 := unk_no uB hm'
        obtain ⟨nm, unk, v⟩ := g
        obtain ⟨nm', unk', v'⟩ := g'
        simp only at h u1 u2 hn hn'
        subst h; subst u1; subst u2; subst hn; subst hn'
        rfl
      · intro h; rw [h]
theorem turn_sym {K : ByteArray} {A B : List G} (hA : checkL K A = 0) (hB : checkL K B = 0) (uA : A.any (·.unk) = false) (uB : B.any (·.unk) = false) {s : ByteArray} {x : RwS} (hs : spec K s = some x) :
    turnsB (gg A s) (gg B s) = turnsB (gg B s) (gg A s) := by
  have h1 := turn_eq hA hB uA uB hs
  have h2 := turn_eq hB hA uB uA hs
  cases e1 : turnsB (gg A s) (gg B s) with
  | false => exact (h2.2 (h1.1 e1).symm).symm
  | true =>
    cases e2 : turnsB (gg B s) (gg A s) with
    | true => rfl
    | false => rw [h1.2 (h2.1 e2).symm] at e1; cases e1
theorem anyT_sym {K : ByteArray} {A B : List G} (hA : checkL K A = 0) (hB : checkL K B = 0) (uA : A.any (·.unk) = false) (uB : B.any (·.unk) = false) (rep : Bool) : anyT K A B rep = anyT K B A rep := by
  rw [Bool.eq_iff_iff, anyT_iff, anyT_iff]
  constructor
  · rintro ⟨s, x, h1, h2, h3⟩
    exact ⟨s, x, h1, by rw [← turn_sym hA hB uA uB h1]; exact h2, h3⟩
  · rintro ⟨s, x, h1, h2, h3⟩
    exact ⟨s, x, h1, by rw [turn_sym hA hB uA uB h1]; exact h2, h3⟩
theorem chg_sym {K : ByteArray} {A B : List G} (hA : checkL K A = 0) (hB : checkL K B = 0) (uA : A.any (·.unk) = false) (uB : B.any (·.unk) = false) : chg K B A = chg K A B := by
  unfold chg
  rw [anyT_sym hA hB uA uB, anyT_sym hA hB uA uB]
theorem chg_zero {K : ByteArray} {A B : List G} : chg K A B = 0 ↔ ∀ s x, spec K s = some x → turnsB (gg A s) (gg B s) = false := by
  unfold chg
  constructor
  · intro h s x hs
    cases ht : turnsB (gg A s) (gg B s) with
    | false => rfl
    | true =>
      have h1 : anyT K A B false = true := anyT_iff.2 ⟨s, x, hs, ht, fun h => by cases h⟩
      rw [h1, if_pos rfl] at h
      split at h <;> omega
  · intro h
    have h1 : ∀ rep, anyT K A B rep = false := fun rep => by
      rw [Bool.eq_false_iff]
      intro hc
      obtain ⟨s, x, hs, ht, _⟩ := anyT_iff.1 hc
      rw [h s x hs] at ht
      cases ht
    rw [h1, h1]
    rfl
theorem mem_of_gg {K : ByteArray} {A B : List G} (hA : checkL K A = 0) (h : ∀ s x, spec K s = some x → gg A s = gg B s) {g : G} (hg : g ∈ A) : g ∈ B := by
  obtain ⟨x, hx, _⟩ := row_mem hA hg
  have e := h _ x hx
  rw [gg_of hA hg] at e
  unfold gg at e
  cases hb : lastG B g.nm with
  | none =>
    rw [hb] at e
    exact absurd (congrArg G.nm e) (spec_ne hx)
  | some g' =>
    rw [hb] at e
    rw [e]
    exact (lastG_mem hb).1
theorem rise_eq : ∀ (A B : List G), A.Pairwise (fun a b => bl a.nm b.nm = true) → B.Pairwise (fun a b => bl a.nm b.nm = true) → (∀ g, g ∈ A ↔ g ∈ B) → A = B
  | [], [], _, _, _ => rfl
  | [], b :: B, _, _, h => absurd ((h b).2 (by simp)) (by simp)
  | a :: A, [], _, _, h => absurd ((h a).1 (by simp)) (by simp)
  | a :: A, b :: B, ha, hb, h => by
    have ha' := List.pairwise_cons.1 ha
    have hb' := List.pairwise_cons.1 hb
    have asy : ∀ {s t : ByteArray}, bl s t = true → bl t s = true → False := fun h1 h2 => bl_ne (bl_tra h1 h2) rfl
    have hab : a = b := by
      rcases List.mem_cons.1 ((h a).1 (by simp)) with e | e
      · exact e
      · rcases List.mem_cons.1 ((h b).2 (by simp)) with e' | e'
        · exact e'.symm
        · exact absurd (asy (hb'.1 a e) (ha'.1 b e')) (by simp)
    subst hab
    refine congrArg (a :: ·) (rise_eq A B ha'.2 hb'.2 fun g => ?_)
    constructor
    · intro hg
      rcases List.mem_cons.1 ((h g).1 (by simp [hg])) with e | e
      · subst e; exact absurd (ha'.1 g hg) (fun hc => bl_ne hc rfl)
      · exact e
    · intro hg
      rcases List.mem_cons.1 ((h g).2 (by simp [hg])) with e | e
      · subst e; exact absurd (hb'.1 g hg) (fun hc => bl_ne hc rfl)
      · exact e
theorem row_pw {K : ByteArray} {L : List G} (h : checkL K L = 0) : L.Pairwise (fun a b => bl a.nm b.nm = true) :=
  List.pairwise_iff_getElem.2 fun i j hi hj hij => by
    obtain ⟨d, rfl⟩ : ∃ d, j = i + d + 1 := ⟨j - i - 1, by omega⟩
    exact row_rise h d i hj
theorem chg_same {K : ByteArray} {A B : List G} (hA : checkL K A = 0) (hB : checkL K B = 0) (uA : A.any (·.unk) = false) (uB : B.any (·.unk) = false) : chg K A B = 0 ↔ A = B := by
  rw [chg_zero]
  constructor
  · intro h
    have h1 : ∀ s x, spec K s = some x → gg A s = gg B s := fun s x hs => (turn_eq hA hB uA uB hs).1 (h s x hs)
    exact rise_eq A B (row_pw hA) (row_pw hB) fun g => ⟨fun hg => mem_of_gg hA h1 hg, fun hg => mem_of_gg hB (fun s x hs => (h1 s x hs).symm) hg⟩
  · intro h s x hs
    exact (turn_eq hA hB uA uB hs).2 (by rw [h])
theorem differ_known {K : ByteArray} {A B : List G} (uA : A.any (·.unk) = false) (uB : B.any (·.unk) = false) :
    ((differL K A B).2 ≠ 0 ∧ (differL K B A).2 ≠ 0) ∨ (checkL K A = 0 ∧ checkL K B = 0 ∧ differL K A B = (chg K A B, 0) ∧ differL K B A = (chg K A B, 0)) := by
  unfold differL
  rw [uA, uB]
  by_cases hA : checkL K A = 0
  · by_cases hB : checkL K B = 0
    · refine .inr ⟨hA, hB, ?_, ?_⟩
      · rw [if_neg (by simpa using hA), if_neg (by simpa using hB), if_neg (by simp)]
      · rw [if_neg (by simpa using hB), if_neg (by simpa using hA), if_neg (by simp), chg_sym hA hB uA uB]
    · left
      rw [if_neg (by simpa using hA), if_pos hB, if_pos hB]
      exact ⟨hB, hB⟩
  · left
    rw [if_pos hA]
    refine ⟨hA, ?_⟩
    by_cases hB : checkL K B = 0
    · rw [if_neg (by simpa using hB), if_pos hA]; exact hA
    · rw [if_pos hB]; exact hB

theorem lastG_cons (g : G) (t : List G) (s : ByteArray) : lastG (g :: t) s = match lastG t s with | some h => some h | none => if g.nm = s then some g else none := by
  unfold lastG
  rw [List.reverse_cons, List.find?_append]
  cases hf : List.find? (fun g => decide (g.nm = s)) t.reverse with
  | some h => rfl
  | none =>
    simp only [Option.none_or]
    by_cases e : g.nm = s
    · simp [e]
    · simp [e]
theorem lastG_set : ∀ (L : List G) (w : Nat) (hw : w < L.length) (g : G) (s : ByteArray), g.nm = L[w].nm → s ≠ g.nm → lastG (L.set w g) s = lastG L s
  | a :: t, 0, hw, g, s, hn, hs => by
    rw [List.set_cons_zero, lastG_cons, lastG_cons]
    simp only [List.getElem_cons_zero] at hn
    rw [if_neg (Ne.symm hs), if_neg (by rw [← hn]; exact Ne.symm hs)]
  | a :: t, w + 1, hw, g, s, hn, hs => by
    rw [List.set_cons_succ, lastG_cons, lastG_cons, lastG_set t w (by simpa using hw) g s (by simpa using hn) hs]
theorem known_math {K : ByteArray} {A B : List G} {w : Nat} (hw : w < B.length) (x : V) (hB : checkL K B = 0) (hu : B[w].unk = true) :
    (chg K A B = 3 ∨ chg K A B = 2) ∧ (chg K A B = 2 → chg K A (B.set w ⟨B[w].nm, false, x⟩) = 2 ∨ chg K A (B.set w ⟨B[w].nm, false, x⟩) = 0) := by
  obtain ⟨y, hy, _⟩ := row_mem hB (List.getElem_mem hw)
  have hT : turnsB (gg A B[w].nm) (gg B B[w].nm) = true := by
    rw [gg_of hB (List.getElem_mem hw)]
    unfold turnsB
    rw [hu]
    split <;> simp
  have h1 : anyT K A B false = true := anyT_iff.2 ⟨_, y, hy, hT, fun h => by cases h⟩
  constructor
  · unfold chg
    rw [h1, if_pos rfl]
    split <;> simp
  · intro h2
    have h3 : anyT K A B true = false := by
      unfold chg at h2
      cases e : anyT K A B true with
      | false => rfl
      | true => rw [e, if_pos rfl] at h2; omega
    have h4 : anyT K A (B.set w ⟨B[w].nm, false, x⟩) true = false := by
      rw [Bool.eq_false_iff]
      intro hc
      obtain ⟨s, z, hs, ht, hr⟩ := anyT_iff.1 hc
      have : anyT K A B true = true := by
        by_cases e : s = B[w].nm
        · subst e; exact anyT_iff.2 ⟨_, z, hs, hT, hr⟩
        · refine anyT_iff.2 ⟨s, z, hs, ?_, hr⟩
          have e2 : gg (B.set w ⟨B[w].nm, false, x⟩) s = gg B s := by unfold gg; rw [lastG_set B w hw ⟨B[w].nm, false, x⟩ s rfl e]
          rw [← e2]; exact ht
      rw [h3] at this
      cases this
    unfold chg
    rw [h4, if_neg (by simp)]
    split <;> simp
theorem differ_two {K : ByteArray} {A B : List G} (h : (differL K A B).2 = 0) : checkL K A = 0 ∧ checkL K B = 0 ∧ differL K A B = (chg K A B, 0) := by
  unfold differL at h ⊢
  by_cases hA : checkL K A = 0
  · rw [if_neg (by simpa using hA)] at h ⊢
    by_cases hB : checkL K B = 0
    · rw [if_neg (by simpa using hB)] at h ⊢
      by_cases hu : A.any (·.unk) = true
      · rw [if_pos hu] at h; cases h
      · rw [if_neg hu] at h ⊢
        exact ⟨hA, hB, rfl⟩
    · rw [if_pos hB] at h; exact absurd h hB
  · rw [if_pos hA] at h; exact absurd h hA
end Go.Proofs.YtkigeegahepnaaaGreatDoor
