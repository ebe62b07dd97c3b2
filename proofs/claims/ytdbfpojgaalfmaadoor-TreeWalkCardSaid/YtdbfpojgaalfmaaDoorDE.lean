/-
  The program's compare, Equal, Less.
-/
import Derived.Test.YtdbfpojgaalfmaaDoorDQ2
import Derived.Deep.RegionWith
set_option linter.unusedVariables false
namespace Go.Proofs.YtdbfpojgaalfmaaDoor
open Go.RowKit Go.Shelf

/-- No key twice, and as many as the parts. -/
def onceV (x : V) : Prop := ∀ z ∈ walkV x, z.keys.Nodup ∧ (z.kind = 5 → z.keys.length = z.list.length)
theorem once_of_wrong {x : V} (h : wrongV x = 0) : onceV x := by
  rw [← firstNZ_walk] at h
  have hall : ∀ (l : List V), firstNZ (l.map ownW) = 0 → ∀ z ∈ l, ownW z = 0 := by
    intro l
    induction l with
    | nil => intro _ z hz; cases hz
    | cons a t ih =>
      intro h z hz
      rw [List.map_cons, firstNZ] at h
      by_cases ha : ownW a = 0
      · rw [if_pos ha] at h
        rcases List.mem_cons.1 hz with rfl | hz
        · exact ha
        · exact ih h z hz
      · rw [if_neg ha] at h; exact absurd h ha
  intro z hz
  have h0 := hall _ h z hz
  unfold ownW at h0
  by_cases h1 : plainB z = false
  · rw [if_pos h1] at h0; omega
  · rw [if_neg h1] at h0
    have hp : plainP z := plain_eq (by simpa using h1)
    split at h0
    · omega
    · split at h0
      · omega
      · split at h0
        · omega
        · split at h0
          · omega
          · rename_i ho
            refine ⟨?_, ?_⟩
            · apply Classical.byContradiction
              intro hn
              exact ho (once_no hn)
            · obtain ⟨k, b, n, s, l, ks⟩ := z
              exact hp.2.2.2.2.2.1

theorem part_in {x y : V} (h : y ∈ x.list) : ∀ z ∈ walkV y, z ∈ walkV x := walk_part h rfl
theorem self_in (x : V) : x ∈ walkV x := by obtain ⟨_, _, _, _, _, _⟩ := x; rw [walkV]; exact List.mem_cons_self
theorem getD_in {l : List V} {i : Nat} (h : i < l.length) : l.getD i default ∈ l := by rw [getD_lt _ _ _ h]; exact List.getElem_mem h
theorem ord_lt {x : V} {ps : List Nat} (h : isOrd x ps) {i : Nat} (hi : i < ps.length) : ps.getD i 0 < x.list.length := by
  rw [getD_lt _ _ _ hi]
  have := h.1.mem_iff.1 (List.getElem_mem hi)
  simpa using this
/-- The places are one way, where no key stands twice. -/
theorem ord_uniq {x : V} {ps qs : List Nat} (h : isOrd x ps) (h' : isOrd x qs) (ho : x.keys.Nodup) (hl : x.kind = 5 → x.keys.length = x.list.length) : ps = qs := by
  by_cases hk : x.kind = 5
  · obtain ⟨h1, _, h3⟩ := h
    obtain ⟨h1', _, h3'⟩ := h'
    have hlen := hl hk
    refine List.Perm.eq_of_pairwise (le := fun p q => ¬ cmpK (x.keys.getD q ⟨#[]⟩) (x.keys.getD p ⟨#[]⟩) < 0) ?_ ?_ ?_ (h1.trans h1'.symm)
    · intro a b ha hb hab hba
      have ha' : a < x.keys.length := by rw [hlen]; simpa using h1.mem_iff.1 ha
      have hb' : b < x.keys.length := by rw [hlen]; simpa using h1'.mem_iff.1 hb
      rw [getD_lt _ _ _ ha', getD_lt _ _ _ hb', cmpK_neg] at hab hba
      have e : x.keys[a] = x.keys[b] := by
        have := List.le_antisymm (List.not_lt.1 hab) (List.not_lt.1 hba)
        exact ByteArray.ext (by simpa using congrArg List.toArray this)
      rcases Nat.lt_trichotomy a b with hlt | rfl | hlt
      · exact absurd ho (not_nodup x.keys a b hlt hb' e)
      · rfl
      · exact absurd ho (not_nodup x.keys b a hlt ha' e.symm)
    · rw [List.pairwise_iff_getElem]
      intro i j hi hj hij
      exact h3 hk i j hij hj
    · rw [List.pairwise_iff_getElem]
      intro i j hi hj hij
      exact h3' hk i j hij hj
  · rw [h.2.1 hk, h'.2.1 hk]

theorem sort_uniq {x y : V} (h : SortR x y) : ∀ {y' : V}, onceV x → SortR x y' → y = y' := by
  induction h with
  | mk k b n s l ks l' ks' ps ho hl hs hk ih =>
    intro y' hx h'
    cases h' with
    | mk _ _ _ _ _ _ l2 ks2 qs ho2 hl2 hs2 hk2 =>
      obtain ⟨hx1, hx2⟩ := hx _ (self_in _)
      obtain rfl := ord_uniq ho ho2 hx1 hx2
      have e1 : l' = l2 := by
        apply List.ext_getElem (by omega)
        intro i h1 h2
        have hp : ps.getD i 0 < l.length := ord_lt ho (by omega)
        exact ih i h1 (fun z hz => hx z (part_in (getD_in hp) z hz)) (hs2 i h2)
      rw [e1, hk, hk2]
theorem walkVs_mem {z : V} : ∀ {l : List V}, z ∈ walkVs l → ∃ y ∈ l, z ∈ walkV y
  | [], h => by rw [walkVs] at h; cases h
  | a :: t, h => by
    rw [walkVs] at h
    rcases List.mem_append.1 h with h | h
    · exact ⟨a, by simp, h⟩
    · obtain ⟨y, hy, hz⟩ := walkVs_mem h
      exact ⟨y, by simp [hy], hz⟩
theorem sort_wide {x y : V} (h : SortR x y) : (onceV x → wideV x → wideV y) ∧ depthV y ≤ depthV x := by
  induction h with
  | mk k b n s l ks l' ks' ps ho hl hs hk ih =>
    have hpl : ps.length = l.length := by have := ho.1.length_eq; simpa [V.list] using this
    constructor
    · intro hO hx z hz
      rw [walkV] at hz
      rcases List.mem_cons.1 hz with rfl | hz
      · have h1 := hx _ (self_in _)
        have h1a : l.length ≤ 1000000 := h1.1
        have h1b : ks.length ≤ 3000 := h1.2
        refine ⟨by show l'.length ≤ _; omega, ?_⟩
        show ks'.length ≤ 3000
        rw [hk]
        split
        · rename_i h5
          have h6 : ks.length = l.length := (hO _ (self_in _)).2 h5
          rw [List.length_map, hpl]
          omega
        · exact h1b
      · obtain ⟨y, hy, hz⟩ := walkVs_mem hz
        obtain ⟨i, hi, rfl⟩ := List.getElem_of_mem hy
        have hp : ps.getD i 0 < l.length := ord_lt ho (by omega)
        exact (ih i hi).1 (fun q hq => hO q (part_in (getD_in hp) q hq)) (fun q hq => hx q (part_in (getD_in hp) q hq)) z hz
    · rw [depthV, depthV]
      have := depthVs_le (depthVs l) l' (fun y hy => by
        obtain ⟨i, hi, rfl⟩ := List.getElem_of_mem hy
        have hp : ps.getD i 0 < l.length := ord_lt ho (by omega)
        have h1 := (ih i hi).2
        have h2 := depthVs_get l _ hp
        rw [getD_lt _ _ _ hp] at h1
        omega)
      omega
/-- The sorted value, where there is just one. -/
noncomputable def psortV (x : V) : V := @Classical.epsilon V ⟨x⟩ (fun y => SortR x y)
theorem psort_eq {x y : V} (h : SortR x y) (ho : onceV x) : y = psortV x :=
  sort_uniq h ho (@Classical.epsilon_spec_aux V ⟨x⟩ (fun y => SortR x y) ⟨y, h⟩)

theorem pwrong_zero {x : V} (h : pwrongV x = 0) : wrongV x = 0 ∧ depthV x ≤ 24 := by
  unfold pwrongV at h
  split at h
  · omega
  · exact ⟨h, by omega⟩
/-- What compare answers. -/
noncomputable def cmpA (x y : V) : Int × Bool := if pwrongV x ≠ 0 ∨ pwrongV y ≠ 0 then (0, false) else (pcmpV (psortV x) (psortV y), true)

theorem wide_of {x : V} (h : sizeV x ≤ 1000000) (hF : fineV x) : wideV x := fun z hz => by
  refine ⟨?_, hF z hz⟩
  have hsz : ∀ (x : V), z ∈ walkV x → sizeV z ≤ sizeV x := by
    have aux : ∀ (N : Nat) (x : V), sizeV x ≤ N → z ∈ walkV x → sizeV z ≤ sizeV x := by
      intro N
      induction N with
      | zero => intro x hx; exact absurd (sizeV_pos x) (by omega)
      | succ N ih =>
        intro x hx hz
        obtain ⟨k, b, n, s, l, ks⟩ := x
        rw [walkV] at hz
        rcases List.mem_cons.1 hz with rfl | hz
        · exact Nat.le_refl _
        · obtain ⟨y, hy, hz⟩ := walkVs_mem hz
          obtain ⟨i, hi, rfl⟩ := List.getElem_of_mem hy
          have h1 := sizeVs_get l i hi
          rw [sizeV] at hx ⊢
          have := ih l[i] (by omega) hz
          omega
    exact fun x => aux _ x (Nat.le_refl _)
  have h1 := hsz x hz
  have h2 := sizeVs_len z.list
  obtain ⟨k, b, n, s, l, ks⟩ := z
  rw [sizeV] at h1
  show l.length ≤ _
  have : l.length ≤ sizeVs l := h2
  omega

set_option maxRecDepth 100000 in
set_option maxHeartbeats 8000000 in
theorem compare_any (x y : V) (v u : Value) (w : World) (hE : Env w) (hM : sizeV x ≤ 1000000) (hF : fineV x) (hM' : sizeV y ≤ 1000000) (hF' : fineV y) (h : isV w x v) (h' : isV w y u) :
    Calls Tryd.prog 51 #[v, u] w fun e w' => e = .returned (.tuple #[.int .i64 (cmpA x y).1, .bool (cmpA x y).2]) ∧ Below w.heap.size w w' := by
  have hHV := h
  have hHV' := h'
  obtain ⟨k, b, n, s, o, m, c, o2, m2, c2, rfl⟩ := isV_six h
  obtain ⟨k', b', n', s', o', m', c', o2', m2', c2', rfl⟩ := isV_six h'
  have W1 : Hid (∀ w1, KB w w1 → Calls Tryd.prog 45 #[.agg #[.int .i8 k, .bool b, .int .i64 n, .string s, .slice o m c, .slice o2 m2 c2]] w1 fun e w' => e = .returned (.int .i64 (pwrongV x)) ∧ Below w1.heap.size w1 w') := Lib.hid fun w1 hK => pwrong_any x _ w1 (hE.kb hK) hM hF (isV_below hK h)
  have W2 : Hid (∀ w1, KB w w1 → Calls Tryd.prog 45 #[.agg #[.int .i8 k', .bool b', .int .i64 n', .string s', .slice o' m' c', .slice o2' m2' c2']] w1 fun e w' => e = .returned (.int .i64 (pwrongV y)) ∧ Below w1.heap.size w1 w') := Lib.hid fun w1 hK => pwrong_any y _ w1 (hE.kb hK) hM' hF' (isV_below hK h')
  have hW := two_boxes w #[.int .i8 k, .bool b, .int .i64 n, .string s, .slice o m c, .slice o2 m2 c2] #[.int .i8 k', .bool b', .int .i64 n', .string s', .slice o' m' c', .slice o2' m2' c2'] 26
  by_cases hx : pwrongV x ≠ 0
  · have hA : cmpA x y = (0, false) := by unfold cmpA; rw [if_pos (.inl hx)]
    rw [hA]
    generalize pwrongV x = q at *
    have q1 : (q != 0) = true := bne_iff_ne.2 hx
    have q2 : (q == 0) = false := beqI hx
    clear h h' hHV hHV' hx hE hM hF hM' hF' hA
    obtain ⟨hB, _⟩ := hW
    have HB := Lib.hid hB
    clear hB
    go_enter Tryd.func51, Tryd.ntmps51
    go_wp2_with (go_at_call 45; refine (W1.out _ HB.out).mono ?_; rintro e w5 ⟨rfl, hb5⟩)
    refine bodyPost_ret (v := .tuple #[.int .i64 0, .bool false]) (by simp [results, Tryd.results51, go_sem]) rfl ?_
    exact ⟨rfl, HB.out.trans (hb5.mono HB.out.size)⟩
  · have hx0 : pwrongV x = 0 := Decidable.not_not.1 hx
    rw [hx0] at W1
    by_cases hy : pwrongV y ≠ 0
    · have hA : cmpA x y = (0, false) := by unfold cmpA; rw [if_pos (.inr hy)]
      rw [hA]
      generalize pwrongV y = q at *
      have q1 : (q != 0) = true := bne_iff_ne.2 hy
      have q2 : (q == 0) = false := beqI hy
      clear h h' hHV hHV' hx hy hE hM hF hM' hF' hA hx0
      go_enter Tryd.func51, Tryd.ntmps51
      go_wp2_with fail
      generalize hW1 : (w.alloc (.cells #[.int .i8 k, .bool b, .int .i64 n, .string s, .slice o m c, .slice o2 m2 c2] 26)).alloc (.cells #[.int .i8 k', .bool b', .int .i64 n', .string s', .slice o' m' c', .slice o2' m2' c2'] 26) = Wb at *
      clear hW1
      obtain ⟨hB, hbx, hby⟩ := hW
      refine (W1.out _ hB).mono ?_
      rintro e w5 ⟨rfl, hb5⟩
      have hK5 := hB.trans (hb5.mono hB.size)
      obtain ⟨s0, s1, s2, s3, s4, s5⟩ := six_cells ((hb5.block _ (Array.getElem?_eq_some_iff.1 hby).1).trans hby)
      clear hb5 hB hbx hby
      go_wp2_with fail
      refine (W2.out _ hK5).mono ?_
      rintro e w6 ⟨rfl, hb6⟩
      clear s0 s1 s2 s3 s4 s5
      have HE6 := Lib.hid (hK5.trans (hb6.mono hK5.size))
      clear hb6 hK5
      go_wp2_with fail
      refine bodyPost_ret (v := .tuple #[.int .i64 0, .bool false]) (by simp [results, Tryd.results51, go_sem]) rfl ?_
      exact ⟨rfl, HE6.out⟩
    · have hy0 : pwrongV y = 0 := Decidable.not_not.1 hy
      rw [hy0] at W2
      have hA : cmpA x y = (pcmpV (psortV x) (psortV y), true) := by unfold cmpA; rw [if_neg (by rintro (h | h) <;> contradiction)]
      rw [hA]
      obtain ⟨wx, dx⟩ := pwrong_zero hx0
      obtain ⟨wy, dy⟩ := pwrong_zero hy0
      have S1 : Hid (∀ w1, KB w w1 → Calls Tryd.prog 54 #[.agg #[.int .i8 k, .bool b, .int .i64 n, .string s, .slice o m c, .slice o2 m2 c2]] w1 fun e w' => ∃ v', e = .returned v' ∧ SortR x (psortV x) ∧ isV w' (psortV x) v' ∧ Below w1.heap.size w1 w') := Lib.hid fun w1 hK => (psorted_any 1000000 x _ w1 _ hM (Nat.le_refl _) hF (ok_of_wrong x wx) (isVa_of x _ (isV_below hK h)) (fun q hq => hq)).mono fun e w' ⟨z, v', he, hs, hv, hb⟩ => ⟨v', he, by rw [← psort_eq hs (once_of_wrong wx)]; exact hs, by rw [← psort_eq hs (once_of_wrong wx)]; exact isV_of_a _ _ hv, hb⟩
      have S2 : Hid (∀ w1, KB w w1 → Calls Tryd.prog 54 #[.agg #[.int .i8 k', .bool b', .int .i64 n', .string s', .slice o' m' c', .slice o2' m2' c2']] w1 fun e w' => ∃ v', e = .returned v' ∧ isV w' (psortV y) v' ∧ Below w1.heap.size w1 w') := Lib.hid fun w1 hK => (psorted_any 1000000 y _ w1 _ hM' (Nat.le_refl _) hF' (ok_of_wrong y wy) (isVa_of y _ (isV_below hK h')) (fun q hq => hq)).mono fun e w' ⟨z, v', he, hs, hv, hb⟩ => ⟨v', he, by rw [← psort_eq hs (once_of_wrong wy)]; exact isV_of_a _ _ hv, hb⟩
      have S3 : Hid (∀ (v' u' : Value) (w1 : World), (SortR x (psortV x)) → isV w1 (psortV x) v' → isV w1 (psortV y) u' → Calls Tryd.prog 70 #[v', u'] w1 fun e w' => e = .returned (.int .i64 (pcmpV (psortV x) (psortV y))) ∧ Below w1.heap.size w1 w') := Lib.hid fun v' u' w1 hs h1 h2 => pcmp_any 24 _ _ v' u' w1 (by have := (sort_wide hs).2; omega) ((sort_wide hs).1 (once_of_wrong wx) (wide_of hM hF)) h1 h2
      clear h h' hHV hHV' hx hy hE hM hF hM' hF' hA hx0 hy0
      go_enter Tryd.func51, Tryd.ntmps51
      go_wp2_with fail
      generalize hW1 : (w.alloc (.cells #[.int .i8 k, .bool b, .int .i64 n, .string s, .slice o m c, .slice o2 m2 c2] 26)).alloc (.cells #[.int .i8 k', .bool b', .int .i64 n', .string s', .slice o' m' c', .slice o2' m2' c2'] 26) = Wb at *
      clear hW1
      obtain ⟨hB, hbx, hby⟩ := hW
      refine (W1.out _ hB).mono ?_
      rintro e w5 ⟨rfl, hb5⟩
      have hK5 := hB.trans (hb5.mono hB.size)
      have hx5 := (hb5.block _ (Array.getElem?_eq_some_iff.1 hbx).1).trans hbx
      have hy5 := (hb5.block _ (Array.getElem?_eq_some_iff.1 hby).1).trans hby
      obtain ⟨s0, s1, s2, s3, s4, s5⟩ := six_cells hy5
      clear hb5 hB hbx hby W1
      go_wp2_with fail
      refine (W2.out _ hK5).mono ?_
      rintro e w6 ⟨rfl, hb6⟩
      have hK6 := hK5.trans (hb6.mono hK5.size)
      have hx6 := (hb6.block _ (Array.getElem?_eq_some_iff.1 hx5).1).trans hx5
      have hy6 := (hb6.block _ (Array.getElem?_eq_some_iff.1 hy5).1).trans hy5
      clear s0 s1 s2 s3 s4 s5 hb6 hK5 hx5 hy5 W2
      obtain ⟨r0, r1, r2, r3, r4, r5⟩ := six_cells hx6
      obtain ⟨s0, s1, s2, s3, s4, s5⟩ := six_cells hy6
      go_wp2_with fail
      go_region_with (first
        | (go_at_call_of 54 (Value.agg #[.int .i8 k, .bool b, .int .i64 n, .string s, .slice o m c, .slice o2 m2 c2]); refine (S1.out _ ?_).mono ?_; exact hK6.drew; rintro e w7 ⟨sv, rfl, hsr, hsv, hb7⟩; have hK7 : Below w.heap.size w w7 := hK6.trans ((below_drew_of hb7).mono hK6.size); have s0 := cell_below (below_drew_of hb7) _ _ s0; have s1 := cell_below (below_drew_of hb7) _ _ s1; have s2 := cell_below (below_drew_of hb7) _ _ s2; have s3 := cell_below (below_drew_of hb7) _ _ s3; have s4 := cell_below (below_drew_of hb7) _ _ s4; have s5 := cell_below (below_drew_of hb7) _ _ s5)
        | (go_at_call_of 54 (Value.agg #[.int .i8 k', .bool b', .int .i64 n', .string s', .slice o' m' c', .slice o2' m2' c2']); refine (S2.out _ ?_).mono ?_; exact hK7; rintro e w8 ⟨su, rfl, hsu, hb8⟩; have hK8 : Below w.heap.size w w8 := hK7.trans (hb8.mono hK7.size))
        | (go_at_call 70; refine (S3.out _ _ _ hsr (isV_below hb8 hsv) hsu).mono ?_; rintro e w9 ⟨rfl, hb9⟩))
      all_goals
        have HE9 := Lib.hid (hK8.trans (hb9.mono hK8.size))
        clear hsr hsv hsu hb7 hb8 hb9 hK6 hK7 hK8 s0 s1 s2 s3 s4 s5 r0 r1 r2 r3 r4 r5 S1 S2 S3
        go_wp2_with fail
        refine bodyPost_ret (v := .tuple #[.int .i64 (pcmpV (psortV x) (psortV y)), .bool true]) (by simp [results, Tryd.results51, go_sem]) rfl ?_
        exact ⟨rfl, HE9.out⟩

noncomputable def eqA (x y : V) : Bool := (cmpA x y).2 && ((cmpA x y).1 == 0)
set_option maxRecDepth 100000 in
set_option maxHeartbeats 4000000 in
theorem peq_any (x y : V) (v u : Value) (w : World) (hE : Env w) (hM : sizeV x ≤ 1000000) (hF : fineV x) (hM' : sizeV y ≤ 1000000) (hF' : fineV y) (h : isV w x v) (h' : isV w y u) :
    Calls Tryd.prog 23 #[v, u] w fun e w' => e = .returned (.bool (eqA x y)) ∧ Below w.heap.size w w' := by
  have HC : Hid (∀ w1, KB w w1 → Calls Tryd.prog 51 #[v, u] w1 fun e w' => e = .returned (.tuple #[.int .i64 (cmpA x y).1, .bool (cmpA x y).2]) ∧ Below w1.heap.size w1 w') := Lib.hid fun w1 hK => compare_any x y v u w1 (hE.kb hK) hM hF hM' hF' (isV_below hK h) (isV_below hK h')
  obtain ⟨k, b, n, s, o, m, c, o2, m2, c2, rfl⟩ := isV_six h
  obtain ⟨k', b', n', s', o', m', c', o2', m2', c2', rfl⟩ := isV_six h'
  unfold eqA
  have HB := Lib.hid (two_boxes w #[.int .i8 k, .bool b, .int .i64 n, .string s, .slice o m c, .slice o2 m2 c2] #[.int .i8 k', .bool b', .int .i64 n', .string s', .slice o' m' c', .slice o2' m2' c2'] 26).1
  generalize cmpA x y = r at *
  obtain ⟨q, ok⟩ := r
  dsimp only at HC ⊢
  clear h h' hE hM hF hM' hF'
  cases ok with
  | false =>
    go_enter Tryd.func23, Tryd.ntmps23
    go_wp2_with (go_at_call 51; refine (HC.out _ HB.out).mono ?_; rintro e w5 ⟨rfl, hb5⟩)
    go_ret
    exact ⟨rfl, HB.out.trans (hb5.mono HB.out.size)⟩
  | true =>
    go_enter Tryd.func23, Tryd.ntmps23
    go_wp2_with (go_at_call 51; refine (HC.out _ HB.out).mono ?_; rintro e w5 ⟨rfl, hb5⟩)
    go_ret
    exact ⟨ret_bool (by simp), HB.out.trans (hb5.mono HB.out.size)⟩

noncomputable def lessA (x y : V) : Bool := (cmpA x y).2 && decide ((cmpA x y).1 < 0)
set_option maxRecDepth 100000 in
set_option maxHeartbeats 4000000 in
theorem pless_any (x y : V) (v u : Value) (w : World) (hE : Env w) (hM : sizeV x ≤ 1000000) (hF : fineV x) (hM' : sizeV y ≤ 1000000) (hF' : fineV y) (h : isV w x v) (h' : isV w y u) :
    Calls Tryd.prog 25 #[v, u] w fun e w' => e = .returned (.bool (lessA x y)) ∧ Below w.heap.size w w' := by
  have HC : Hid (∀ w1, KB w w1 → Calls Tryd.prog 51 #[v, u] w1 fun e w' => e = .returned (.tuple #[.int .i64 (cmpA x y).1, .bool (cmpA x y).2]) ∧ Below w1.heap.size w1 w') := Lib.hid fun w1 hK => compare_any x y v u w1 (hE.kb hK) hM hF hM' hF' (isV_below hK h) (isV_below hK h')
  obtain ⟨k, b, n, s, o, m, c, o2, m2, c2, rfl⟩ := isV_six h
  obtain ⟨k', b', n', s', o', m', c', o2', m2', c2', rfl⟩ := isV_six h'
  unfold lessA
  have HB := Lib.hid (two_boxes w #[.int .i8 k, .bool b, .int .i64 n, .string s, .slice o m c, .slice o2 m2 c2] #[.int .i8 k', .bool b', .int .i64 n', .string s', .slice o' m' c', .slice o2' m2' c2'] 26).1
  generalize cmpA x y = r at *
  obtain ⟨q, ok⟩ := r
  dsimp only at HC ⊢
  clear h h' hE hM hF hM' hF'
  cases ok with
  | false =>
    go_enter Tryd.func25, Tryd.ntmps25
    go_wp2_with (go_at_call 51; refine (HC.out _ HB.out).mono ?_; rintro e w5 ⟨rfl, hb5⟩)
    go_ret
    exact ⟨rfl, HB.out.trans (hb5.mono HB.out.size)⟩
  | true =>
    go_enter Tryd.func25, Tryd.ntmps25
    go_wp2_with (go_at_call 51; refine (HC.out _ HB.out).mono ?_; rintro e w5 ⟨rfl, hb5⟩)
    go_ret
    exact ⟨ret_bool (by simp), HB.out.trans (hb5.mono HB.out.size)⟩
end Go.Proofs.YtdbfpojgaalfmaaDoor
