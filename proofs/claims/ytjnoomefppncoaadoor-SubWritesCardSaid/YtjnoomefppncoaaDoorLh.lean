/-
  Lex and Holes of package sub.
-/
import Derived.Test.YtjnoomefppncoaaDoorLg
set_option linter.unusedVariables false
namespace Go.Proofs.YtjnoomefppncoaaDoor
open Go.RowKit Go.Shelf

/-- What Lex tells of a text: the parts, where it is wrong, the error. -/
def ansL (l : List UInt8) : List X × Nat × Nat :=
  if Lib.validD l = false then ([], 0, 10) else if 4096 < l.length then ([], 0, 3) else match lexS l 0 [] with
    | .inl p => ([], p, 130)
    | .inr L => (L.reverse, 0, 0)
def nt (x : X) : Bool := !x.isT
/-- How many parts are no texts. -/
def cntX (l : List X) : Nat := (l.filter nt).length
/-- What the parts are, where the text is wrong, the error. -/
def LexC (l : List UInt8) (w : World) (e : Ending) (w' : World) : Prop :=
  ∃ v, e = .returned (.tuple #[v, .int .i64 (ansL l).2.1, .int .i64 (ansL l).2.2]) ∧ isXr w' (ansL l).1 v ∧ Below w.heap.size w w'

set_option maxRecDepth 100000 in
set_option maxHeartbeats 4000000 in
theorem lex_any (s : ByteArray) (w : World) (hE : Env w) (hs : s.size ≤ 1000000) : Calls Tryd.prog 9 #[.string s] w (LexC s.data.toList w) := by
  have HV := Lib.hid (valid_any s (by unfold maxLen; omega) w hE)
  cases hv : Lib.validD s.data.toList with
  | false =>
    have ha : ansL s.data.toList = ([], 0, 10) := by unfold ansL; rw [if_pos hv]
    rw [hv] at HV
    unfold LexC
    rw [ha]
    clear hv ha hE hs
    go_enter Tryd.func9, Tryd.ntmps9
    go_wp2_with (go_at_call 19; refine HV.out.mono ?_; rintro e w1 ⟨rfl, hb1⟩)
    go_ret3
    exact ⟨_, rfl, isXr_nil _, hb1⟩
  | true =>
    rw [hv] at HV
    by_cases hlen : 4096 < s.size
    · have ha : ansL s.data.toList = ([], 0, 3) := by unfold ansL; rw [if_neg (by rw [hv]; simp), if_pos (by rw [toList_length]; exact hlen)]
      unfold LexC
      rw [ha]
      have hc : (4096 : Int) < (s.size : Int) := by omega
      clear hv ha hE hs
      go_enter Tryd.func9, Tryd.ntmps9
      go_wp2_with (go_at_call 19; refine HV.out.mono ?_; rintro e w1 ⟨rfl, hb1⟩)
      go_ret3
      exact ⟨_, rfl, isXr_nil _, hb1⟩
    · have HX : Hid (∀ W, Below w.heap.size w W → Calls Tryd.prog 20 #[.string s] W (LexR W (lexS s.data.toList 0 []))) := Lib.hid fun W hb => plex_any s W (hE.kb hb) (by omega)
      have ha : ansL s.data.toList = match lexS s.data.toList 0 [] with
          | .inl p => ([], p, 130)
          | .inr L => (L.reverse, 0, 0) := by unfold ansL; rw [if_neg (by rw [hv]; simp), if_neg (by rw [toList_length]; exact hlen)]
      unfold LexC
      rw [ha]
      clear hv ha hE hs
      have hc : ¬ (4096 : Int) < (s.size : Int) := by omega
      cases hR : lexS s.data.toList 0 [] with
      | inl p =>
        rw [hR] at HX
        clear hR hlen
        go_enter Tryd.func9, Tryd.ntmps9
        go_wp2_with (first | (go_at_call 19; refine HV.out.mono ?_; rintro e w1 ⟨rfl, hb1⟩) | (go_at_call 20; refine (HX.out _ hb1).mono ?_; rintro e w2 ⟨rfl, hb2⟩))
        go_ret3
        exact ⟨_, rfl, isXr_nil _, hb1.trans (hb2.mono hb1.size)⟩
      | inr L =>
        rw [hR] at HX
        clear hR hlen
        go_enter Tryd.func9, Tryd.ntmps9
        go_wp2_with (first | (go_at_call 19; refine HV.out.mono ?_; rintro e w1 ⟨rfl, hb1⟩) | (go_at_call 20; refine (HX.out _ hb1).mono ?_; rintro e w2 ⟨v2, rfl, hx2, hb2⟩))
        go_ret3
        exact ⟨_, rfl, hx2, hb1.trans (hb2.mono hb1.size)⟩

theorem xcells_at : ∀ (l : List X) (i : Nat) (h : i < l.length) (j : Nat), j < 6 → (xcells l)[i * 6 + j]? = (l[i].cs)[j]?
  | [], i, h, _, _ => by simp at h
  | x :: t, 0, _, j, hj => by
    have : xcells (x :: t) = x.cs ++ xcells t := rfl
    rw [this, List.getElem?_append_left (by show _ < 6; omega)]
    simp
  | x :: t, i + 1, h, j, hj => by
    have : xcells (x :: t) = x.cs ++ xcells t := rfl
    have hl : x.cs.length = 6 := rfl
    rw [this, List.getElem?_append_right (by omega), show (i + 1) * 6 + j - x.cs.length = i * 6 + j by omega, xcells_at t i (by simpa using h) j hj]
    rfl
/-- The cells of a part that a slice leads to. -/
theorem xr_six {W : World} {l : List X} {g : Nat} (hc : ∀ j u, (xcells l)[j]? = some u → W.cell? ⟨g, j, none⟩ = some u) (i : Nat) (h : i < l.length) :
    W.cell? ⟨g, i * 6, none⟩ = some (.int .i8 l[i].k) ∧ W.cell? ⟨g, i * 6 + 1, none⟩ = some (.string (bs l[i].t)) ∧ W.cell? ⟨g, i * 6 + 2, none⟩ = some (.int .i64 0) ∧ W.cell? ⟨g, i * 6 + 3, none⟩ = some (.string (bs l[i].m)) ∧ W.cell? ⟨g, i * 6 + 4, none⟩ = some (.string (bs l[i].a)) ∧ W.cell? ⟨g, i * 6 + 5, none⟩ = some (.slice none 0 0) :=
  ⟨hc _ _ (xcells_at l i h 0 (by omega)), hc _ _ (xcells_at l i h 1 (by omega)), hc _ _ (xcells_at l i h 2 (by omega)), hc _ _ (xcells_at l i h 3 (by omega)), hc _ _ (xcells_at l i h 4 (by omega)), hc _ _ (xcells_at l i h 5 (by omega))⟩
theorem cnt_succ (l : List X) (j : Nat) (h : j < l.length) : cntX (l.take (j + 1)) = cntX (l.take j) + (if nt l[j] = true then 1 else 0) := by
  unfold cntX
  rw [List.take_succ_eq_append_getElem h, List.filter_append, List.length_append]
  congr 1
  by_cases hn : nt l[j] = true <;> simp [List.filter, hn]
theorem cnt_le (l : List X) (j : Nat) : cntX (l.take j) ≤ j := by
  unfold cntX
  exact Nat.le_trans (List.length_filter_le _ _) (by rw [List.length_take]; omega)
theorem lexS_bound : ∀ (n : Nat) (l : List UInt8) (p : Nat) (L M : List X), l.length ≤ n → lexS l p L = .inr M → M.length ≤ L.length + l.length
  | n, [], p, L, M, _, h => by
    rw [lexS_nil] at h; cases h; simp
  | 0, c :: t, p, L, M, hn, _ => by simp at hn
  | n + 1, c :: t, p, L, M, hn, h => by
    simp only [List.length_cons] at hn
    by_cases ho : c = 36 ∧ t.head? = some 123
    · obtain ⟨rfl, ht⟩ := ho
      obtain ⟨t', rfl⟩ : ∃ t', t = 123 :: t' := by
        cases t with
        | nil => cases ht
        | cons a b => simp only [List.head?_cons, Option.some.injEq] at ht; exact ⟨b, by rw [ht]⟩
      rw [lexS_open] at h
      cases hc : cutB 125 t' with
      | none => rw [hc] at h; cases h
      | some q =>
        obtain ⟨i, r⟩ := q
        have hl := cutB_len hc
        rw [hc] at h
        simp only [List.length_cons] at hn ⊢
        simp only at h
        split at h
        · have := lexS_bound n r _ _ M (by omega) h
          have := (addR_len (.text (36 :: 123 :: (i.tail ++ [125]))) L).1
          omega
        · cases hx : holeP i with
          | none => rw [hx] at h; cases h
          | some x =>
            rw [hx] at h
            have := lexS_bound n r _ _ M (by omega) h
            have := (addR_len x L).1
            omega
    · rw [lexS_byte _ _ ho] at h
      have := lexS_bound n t _ _ M (by omega) h
      have := (addR_len (.text [c]) L).1
      simp only [List.length_cons]
      omega
theorem ans_len (l : List UInt8) : (ansL l).1.length ≤ 4096 := by
  unfold ansL
  split
  · simp
  split
  · simp
  cases h : lexS l 0 [] with
  | inl p => simp
  | inr L =>
    have := lexS_bound l.length l 0 [] L (Nat.le_refl _) h
    simp at this ⊢
    omega

set_option maxRecDepth 100000 in
set_option maxHeartbeats 4000000 in
theorem holes_any (s : ByteArray) (w : World) (hE : Env w) (hs : s.size ≤ 1000000) :
    Calls Tryd.prog 12 #[.string s] w fun e w' => e = .returned (.int .i64 (cntX (ansL s.data.toList).1)) ∧ Below w.heap.size w w' := by
  have HL := Lib.hid (lex_any s w hE hs)
  have hlen := ans_len s.data.toList
  unfold LexC at HL
  generalize (ansL s.data.toList).2.1 = at1 at HL
  generalize (ansL s.data.toList).2.2 = e1 at HL
  generalize (ansL s.data.toList).1 = l at *
  clear hE hs
  go_enter Tryd.func12, Tryd.ntmps12
  go_wp2_with fail
  go_at_call 9
  refine HL.out.mono ?_
  rintro e w1 ⟨v, rfl, ⟨o, g, c, rfl, hc1, hc2, hc3, hc4⟩, hb1⟩
  have HC := Lib.hid hc4
  have HO := Lib.hid hc3
  have HB := Lib.hid hb1
  clear hc4 hc3 hb1 HL
  go_wp2_with fail
  go_loopw [6, 17] (fun nv iv wr => ∃ j : Nat, j ≤ l.length ∧ iv = .int .i64 j ∧ nv = .int .i64 (cntX (l.take j)) ∧ Hid (Below w1.heap.size w1 wr)) (fun _ iv _ => l.length - (intOf iv).toNat)
  case atStart => exact ⟨0, Nat.zero_le _, rfl, rfl, Lib.hid (Below.refl _ _)⟩
  case round =>
    obtain ⟨j, hj, rfl, rfl, hbr⟩ := hrel
    by_cases hlt : j < l.length
    · obtain rfl := HO.out (by omega)
      have hcw : ∀ i u, (xcells l)[i]? = some u → wr.cell? ⟨g, i, none⟩ = some u := fun i u hi => (hbr.out.cell (p := ⟨g, i, none⟩) (World.block_lt_of_cell? w1 _ (HC.out i u hi))).trans (HC.out i u hi)
      obtain ⟨d0, d1, d2, d3, d4, d5⟩ := xr_six hcw j hlt
      have hcs := cnt_succ l j hlt
      have hcl := cnt_le l j
      have hk : ((l[j].k : Int) == 0) = l[j].isT := by cases l[j] <;> rfl
      have hlti : (j : Int) < (l.length : Int) := by omega
      clear hcw
      generalize l[j] = x at *
      generalize cntX (l.take j) = n at *
      have HCS := Lib.hid hcs
      clear hcs
      cases hT : x.isT with
      | true =>
        rw [hT] at hk
        have hn : nt x = false := by unfold nt; rw [hT]; rfl
        have HN := Lib.hid hn
        clear hT hn
        go_wp2_with (go_at_call 25; refine (pisText_any _ _ _ _ _ _ _).mono ?_; rintro e w5 ⟨rfl, hb5⟩; rw [hk])
        have hb6 : Below w1.heap.size w1 w5 := (hbr.out.alloc hbr.out.size _).trans (hb5.mono (by have := hbr.out.size; simp; omega))
        go_roundw
        case rel => exact ⟨j + 1, by omega, by go_num, by rw [HCS.out, HN.out]; rfl, Lib.hid hb6⟩
        case measure => simp [intOf]; omega
      | false =>
        rw [hT] at hk
        have hn : nt x = true := by unfold nt; rw [hT]; rfl
        have HN := Lib.hid hn
        clear hT hn
        go_wp2_with (go_at_call 25; refine (pisText_any _ _ _ _ _ _ _).mono ?_; rintro e w5 ⟨rfl, hb5⟩; rw [hk])
        have hb6 : Below w1.heap.size w1 w5 := (hbr.out.alloc hbr.out.size _).trans (hb5.mono (by have := hbr.out.size; simp; omega))
        go_roundw
        case rel => exact ⟨j + 1, by omega, by go_num, by rw [HCS.out, HN.out]; go_num, Lib.hid hb6⟩
        case measure => simp [intOf]; omega
    · obtain rfl : j = l.length := by omega
      have ht : l.take l.length = l := List.take_of_length_le (Nat.le_refl _)
      rw [ht]
      clear ht
      go_wp2_with fail
      go_ret
      exact ⟨rfl, HB.out.trans (hbr.out.mono HB.out.size)⟩
end Go.Proofs.YtjnoomefppncoaaDoor
