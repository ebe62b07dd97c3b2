/-
  Plain facts of what is printed: a sorted value is as right as it was; how long a text may be. · How long a printed text may be. · The program's Sorted, of a value that may be; Print. · The program's Print, and Len. · The program's Len; the statements' helper 'wakes'. · The statement on objects: walked.
-/
import Derived.Test.YtllkcldckehipaaGreatDoorGI
import Derived.Test.YtllkcldckehipaaGreatDoorHD
import Derived.Deep.RegionWith
set_option linter.unusedVariables false
set_option linter.unusedSimpArgs false
namespace Go.Proofs.YtllkcldckehipaaGreatDoor
open Go.RowKit Go.Shelf

theorem own_parts {z : V} (h0 : ownW z = 0) : plainP z ∧ (-9007199254740992 ≤ z.num ∧ z.num ≤ 9007199254740992) ∧ validS z.text = true ∧ z.keys.all validS = true ∧ z.keys.Nodup := by
  unfold ownW at h0
  by_cases h1 : plainB z = false
  · rw [if_pos h1] at h0; omega
  · rw [if_neg h1] at h0
    have hp : plainP z := plain_eq (by simpa using h1)
    split at h0
    · omega
    · split at h0
      · omega
      · split at h0
        · omega
        · split at h0
          · omega
          · rename_i h2 h3 h4 h5
            refine ⟨hp, by omega, by simpa using h3, by simpa using h4, ?_⟩
            apply Classical.byContradiction
            intro hn
            exact h5 (once_no hn)
theorem first_all : ∀ (l : List V), firstNZ (l.map ownW) = 0 → ∀ z ∈ l, ownW z = 0
  | [], _, z, hz => by cases hz
  | a :: t, h, z, hz => by
    rw [List.map_cons, firstNZ] at h
    by_cases ha : ownW a = 0
    · rw [if_pos ha] at h
      rcases List.mem_cons.1 hz with rfl | hz
      · exact ha
      · exact first_all t h z hz
    · rw [if_neg ha] at h; exact absurd h ha
theorem all_first : ∀ (l : List V), (∀ z ∈ l, ownW z = 0) → firstNZ (l.map ownW) = 0
  | [], _ => rfl
  | a :: t, h => by
    rw [List.map_cons, firstNZ, if_pos (h a (by simp))]
    exact all_first t fun z hz => h z (by simp [hz])
theorem wrong_iff {x : V} : wrongV x = 0 ↔ ∀ z ∈ walkV x, ownW z = 0 := by
  rw [← firstNZ_walk]
  exact ⟨first_all _, all_first _⟩
theorem walk_sz : ∀ (N : Nat) (x z : V), sizeV x ≤ N → z ∈ walkV x → sizeV z ≤ sizeV x
  | 0, x, _, hx, _ => absurd (sizeV_pos x) (by omega)
  | N + 1, x, z, hx, hz => by
    obtain ⟨k, b, n, s, l, ks⟩ := x
    rw [walkV] at hz
    rcases List.mem_cons.1 hz with rfl | hz
    · exact Nat.le_refl _
    · obtain ⟨y, hy, hz⟩ := walkVs_mem hz
      obtain ⟨i, hi, rfl⟩ := List.getElem_of_mem hy
      have h1 := sizeVs_get l i hi
      rw [sizeV] at hx ⊢
      have := walk_sz N l[i] z (by omega) hz
      omega
theorem keysS_mem {ks : List ByteArray} {k : ByteArray} (h : k ∈ ks) : k.size ≤ keysS ks := by
  unfold keysS
  induction ks with
  | nil => cases h
  | cons a t ih =>
    rw [List.map_cons, List.sum_cons]
    rcases List.mem_cons.1 h with rfl | h
    · omega
    · have := ih h; omega
theorem okP_of {x : V} (h : wrongV x = 0) (hM : sizeV x ≤ 1000000) : okP x := fun z hz => by
  have h1 := own_parts (wrong_iff.1 h z hz)
  have h2 := walk_sz _ x z (Nat.le_refl _) hz
  obtain ⟨k, b, n, s, l, ks⟩ := z
  obtain ⟨⟨p1, _, _, _, _, p6, _⟩, _, h3, h4, _⟩ := h1
  simp only [V.text, V.keys] at h3 h4
  have h5 := sizeVs_len l
  rw [sizeV] at h2
  refine ⟨p1, h3, by show s.size ≤ _; omega, by show l.length ≤ _; omega, p6, fun q hq => ⟨(List.all_eq_true.1 h4) q hq, ?_⟩⟩
  have : q.size ≤ keysS ks := keysS_mem hq
  omega

theorem range_getD (ks : List ByteArray) : (List.range ks.length).map (fun p => ks.getD p ⟨#[]⟩) = ks := by
  apply List.ext_getElem
  · simp
  · intro i h1 h2
    rw [List.getElem_map, List.getElem_range, getD_lt _ _ _ h2]
theorem keys_perm {k n : Int} {b : Bool} {s : ByteArray} {l : List V} {ks ks' : List ByteArray} {ps : List Nat} (ho : isOrd (.mk k b n s l ks) ps) (hk : ks' = if k = 5 then ps.map (fun p => ks.getD p ⟨#[]⟩) else ks) (hl : k = 5 → ks.length = l.length) : ks'.Perm ks := by
  by_cases h5 : k = 5
  · rw [if_pos h5] at hk
    have h1 : ps.Perm (List.range ks.length) := by rw [hl h5]; exact ho.1
    have h2 := h1.map (fun p => ks.getD p ⟨#[]⟩)
    rw [range_getD] at h2
    rw [hk]
    exact h2
  · rw [if_neg h5] at hk
    rw [hk]
theorem countVs_sum : ∀ l : List V, countVs l = (l.map countV).sum
  | [] => rfl
  | x :: t => by rw [countVs, List.map_cons, List.sum_cons, countVs_sum t]
theorem range_getV (l : List V) : (List.range l.length).map (fun p => countV (l.getD p default)) = l.map countV := by
  apply List.ext_getElem
  · simp
  · intro i h1 h2
    rw [List.getElem_map, List.getElem_range, List.getElem_map, getD_lt _ _ _ (by simpa using h2)]
theorem perm_sum {a b : List Nat} (h : a.Perm b) : a.sum = b.sum := by
  induction h with
  | nil => rfl
  | cons x _ ih => rw [List.sum_cons, List.sum_cons, ih]
  | swap x y l => simp only [List.sum_cons]; omega
  | trans _ _ ih1 ih2 => rw [ih1, ih2]
/-- A sorted value is as right as it was, and has as many parts. -/
theorem sort_own {x y : V} (h : SortR x y) : (∀ z ∈ walkV x, ownW z = 0) → (∀ z ∈ walkV y, ownW z = 0) ∧ countV y = countV x := by
  induction h with
  | mk k b n s l ks l' ks' ps ho hl hs hk ih =>
    intro hx
    have hpl : ps.length = l.length := by have := ho.1.length_eq; simpa [V.list] using this
    have h0 := own_parts (hx _ (self_in _))
    obtain ⟨⟨p1, p2, p3, p4, p5, p6, p7⟩, h2, h3, h4, h5⟩ := h0
    have hkp := keys_perm ho hk p6
    have hparts : ∀ i (h : i < l'.length), (∀ z ∈ walkV l'[i], ownW z = 0) ∧ countV l'[i] = countV (l.getD (ps.getD i 0) default) := fun i hi => ih i hi (fun z hz => hx z (part_in (getD_in (ord_lt ho (by omega))) z hz))
    refine ⟨fun z hz => ?_, ?_⟩
    · rw [walkV] at hz
      rcases List.mem_cons.1 hz with rfl | hz
      · refine own_zero ⟨p1, p2, p3, p4, fun hne => p5 (fun e => hne ?_), fun e5 => ?_, fun e5 => ?_⟩ h2 h3 ?_ ?_
        · subst e; exact List.eq_nil_of_length_eq_zero (by rw [hl, hpl]; rfl)
        · rw [hkp.length_eq, p6 e5, hl, hpl]
        · rw [hkp.length_eq, p7 e5]
        · rw [List.all_eq_true] at h4 ⊢
          intro q hq
          exact h4 q (hkp.mem_iff.1 hq)
        · exact (hkp.nodup_iff).2 h5
      · obtain ⟨y, hy, hz⟩ := walkVs_mem hz
        obtain ⟨i, hi, rfl⟩ := List.getElem_of_mem hy
        exact (hparts i hi).1 z hz
    · rw [countV, countV, countVs_sum, countVs_sum]
      have e : l'.map countV = ps.map (fun p => countV (l.getD p default)) := by
        apply List.ext_getElem
        · simp [hl]
        · intro i h1 h2
          have hi : i < l'.length := by simpa using h1
          have hi2 : i < ps.length := by simpa using h2
          rw [List.getElem_map, List.getElem_map, (hparts i hi).2, getD_lt ps i 0 hi2]
      have hp := perm_sum (ho.1.map (fun p => countV (l.getD p default)))
      simp only [V.list] at hp
      rw [e, hp, range_getV]
theorem sort_wrong {x y : V} (h : SortR x y) (hw : wrongV x = 0) : wrongV y = 0 ∧ countV y = countV x ∧ depthV y ≤ depthV x := by
  have := sort_own h (wrong_iff.1 hw)
  exact ⟨wrong_iff.2 this.1, this.2, (sort_wide h).2⟩
theorem range_get0 {n i : Nat} (h : i < n) : (List.range n).getD i 0 = i := by
  rw [List.getD, List.getElem?_range h]; rfl
/-- What is sorted is sorted as it is. -/
theorem sort_self {x y : V} (h : SortR x y) : onceV x → SortR y y := by
  induction h with
  | mk k b n s l ks l' ks' ps ho hl hs hk ih =>
    intro hx
    have hpl : ps.length = l.length := by have := ho.1.length_eq; simpa [V.list] using this
    have h5 := (hx _ (self_in _)).2
    have hkl : k = 5 → ks'.length = l'.length := fun e => by
      have := (keys_perm ho hk h5).length_eq
      have h6 : ks.length = l.length := h5 e
      omega
    refine SortR.mk k b n s l' ks' l' ks' (List.range l'.length) ⟨List.Perm.refl _, fun _ => rfl, fun e i j hi hj => ?_⟩ (by simp) (fun i hi => ?_) ?_
    · have hj' : j < l'.length := by simpa using hj
      have e5 : k = 5 := e
      have h7 := ho.2.2 e i j hi (by omega)
      have hk2 : ks' = ps.map (fun p => ks.getD p ⟨#[]⟩) := by rw [hk, if_pos e5]
      simp only [List.getElem_range, V.keys]
      have g : ∀ q (hq : q < ps.length), ks'.getD q ⟨#[]⟩ = ks.getD ps[q] ⟨#[]⟩ := fun q hq => by
        rw [hk2, getD_lt _ _ _ (by simpa using hq), List.getElem_map]
      rw [g j (by omega), g i (by omega)]
      exact h7
    · rw [range_get0 hi, getD_lt _ _ _ hi]
      exact ih i hi (fun z hz => hx z (part_in (getD_in (ord_lt ho (by omega))) z hz))
    · by_cases e : k = 5
      · rw [if_pos e, ← hkl e, range_getD]
      · rw [if_neg e]
theorem psort_self {x y : V} (h : SortR x y) (hw : wrongV x = 0) : psortV y = y :=
  (psort_eq (sort_self h (once_of_wrong hw)) (once_of_wrong (sort_wrong h hw).1)).symm
theorem pcheck_of {x : V} (h1 : wrongV x = 0) (h2 : depthV x ≤ 24) (h3 : countV x ≤ 4096) : pcheckV x = 0 := by
  unfold pcheckV
  rw [if_neg (by rw [pw_of h1 h2]; simp), if_neg (by omega)]
theorem sort_check {x y : V} (h : SortR x y) (hc : pcheckV x = 0) : pcheckV y = 0 := by
  obtain ⟨h1, h2, h3⟩ := pcheck_zero hc
  obtain ⟨g1, g2, g3⟩ := sort_wrong h h1
  exact pcheck_of g1 (by omega) (by omega)
theorem part_check {x y : V} (hy : y ∈ x.list) (hc : pcheckV x = 0) : pcheckV y = 0 := by
  obtain ⟨h1, h2, h3⟩ := pcheck_zero hc
  obtain ⟨k, b, n, s, l, ks⟩ := x
  have hd := depth_part (l := l) hy
  have hcnt : countV y ≤ countVs l := by
    have hy : y ∈ l := hy
    rw [countVs_sum]
    have : ∀ (m : List V), y ∈ m → countV y ≤ (m.map countV).sum := by
      intro m hm
      induction m with
      | nil => cases hm
      | cons a t ih =>
        rw [List.map_cons, List.sum_cons]
        rcases List.mem_cons.1 hm with rfl | hm
        · omega
        · have := ih hm; omega
    exact this l hy
  rw [depthV] at h2
  rw [countV] at h3
  exact pcheck_of (wrong_iff.2 fun z hz => wrong_iff.1 h1 z (part_in hy z hz)) (by omega) (by omega)
end Go.Proofs.YtllkcldckehipaaGreatDoor

namespace Go.Proofs.YtllkcldckehipaaGreatDoor
open Go.RowKit Go.Shelf

theorem rowsT_bound (A : List UInt8) (T : Nat → List UInt8) (F : Nat → Nat) : ∀ j, (∀ i, i < j → F i + (A.length + (T i).length + 1) ≤ F (i + 1)) → (rowsT A T j).length ≤ F j
  | 0, _ => Nat.zero_le _
  | j + 1, h => by
    have h1 := rowsT_bound A T F j (fun i hi => h i (by omega))
    have h2 := h j (by omega)
    rw [rowsT, List.length_append, List.length_append, List.length_append]
    have : (if j = 0 then ([] : List UInt8) else [44]).length ≤ 1 := by split <;> simp
    omega
theorem quote_len (l : List UInt8) : (Ru.quoteL l).length ≤ 6 * l.length + 2 := by
  have h1 := Ru.flat_le (fun x : Nat × Nat => Ru.qRune x.2) 6 (fun x => Ru.qRune_le x.2) (steps l)
  have h2 := steps_length l
  unfold Ru.quoteL
  simp only [List.length_append, List.length_cons, List.length_nil]
  omega
theorem sizeVs_snoc (l : List V) (j : Nat) (h : j < l.length) : sizeVs (l.take (j + 1)) = sizeVs (l.take j) + sizeV l[j] := by
  rw [List.take_succ_eq_append_getElem h, sizeVs_app]; simp [sizeVs]
theorem keysS_snoc (l : List ByteArray) (j : Nat) (h : j < l.length) : keysS (l.take (j + 1)) = keysS (l.take j) + l[j].size := by
  unfold keysS
  rw [List.take_succ_eq_append_getElem h, List.map_append, List.sum_append]; simp
theorem rowT_len (A0 A1 : List UInt8) (o c : UInt8) (n : Nat) (T : Nat → List UInt8) : (rowT A0 A1 o c n T).length ≤ 2 + ((rowsT A1 T n).length + A0.length) := by
  rw [rowT]
  split
  · simp
  · simp only [List.length_append, List.length_singleton]; omega
theorem ft_bound {C : List UInt8} {I : Nat → List UInt8} (hC : C.length ≤ 2) (hI : ∀ d, d ≤ 200 → (I d).length ≤ 450) : ∀ (N : Nat) (x : V) (d : Nat), sizeV x ≤ N → d + depthV x ≤ 200 → okP x → (ft C I d x).length + 1000 ≤ 3000 * sizeV x
  | 0, x, _, hx, _, _ => absurd (sizeV_pos x) (by omega)
  | N + 1, x, d, hx, hd, hok => by
    have hq := okP_self hok
    have hpart : ∀ y ∈ x.list, (ft C I (d + 1) y).length + 1000 ≤ 3000 * sizeV y := fun y hy => by
      refine ft_bound hC hI N y (d + 1) ?_ ?_ (okP_part hok hy)
      · obtain ⟨k, b, n, s, l, ks⟩ := x
        obtain ⟨i, hi, rfl⟩ := List.getElem_of_mem hy
        have : sizeV l[i] ≤ sizeVs l := sizeVs_get l i hi
        rw [sizeV] at hx
        show sizeV l[i] ≤ N
        omega
      · obtain ⟨k, b, n, s, l, ks⟩ := x
        have := depth_part (l := l) hy
        rw [depthV] at hd
        omega
    obtain ⟨k, b, n, s, l, ks⟩ := x
    obtain ⟨⟨hk0, hk5⟩, q1, q2, q3, q4, q5⟩ := hq
    simp only [V.kind, V.list, V.keys] at hk0 hk5 q4 hpart
    have hsl : s.data.toList.length = s.size := by rw [Array.length_toList]; rfl
    have hA0 : (I d).length ≤ 450 := hI d (by omega)
    have hA1 : (I (d + 1)).length ≤ 450 := hI (d + 1) (by have := depthV_pos (.mk k b n s l ks); omega)
    rw [ft, sizeV]
    split
    · simp only [List.length_cons, List.length_nil]; omega
    · split
      · have : (boolL b).length ≤ 5 := by cases b <;> decide
        omega
      · split
        · have := Nu.txt_len n; omega
        · split
          · have := quote_len s.data.toList; omega
          · split
            · have h1 := rowT_len (I d) (I (d + 1)) 91 93 l.length (fun i => (fts C I (d + 1) l).getD i [])
              have h2 := rowsT_bound (I (d + 1)) (fun i => (fts C I (d + 1) l).getD i []) (fun j => 3000 * sizeVs (l.take j)) l.length (fun i hi => by
                have h3 := hpart _ (List.getElem_mem hi)
                show 3000 * sizeVs (l.take i) + ((I (d + 1)).length + ((fts C I (d + 1) l).getD i []).length + 1) ≤ 3000 * sizeVs (l.take (i + 1))
                rw [fts_get C I (d + 1) l i hi, sizeVs_snoc l i hi]
                omega)
              simp only [List.take_length] at h2
              omega
            · have hk : k = 5 := by omega
              have hkl := q4 hk
              have h1 := rowT_len (I d) (I (d + 1)) 123 125 l.length (fun i => keyT C (ks.getD i ⟨#[]⟩) ((fts C I (d + 1) l).getD i []))
              have h2 := rowsT_bound (I (d + 1)) (fun i => keyT C (ks.getD i ⟨#[]⟩) ((fts C I (d + 1) l).getD i [])) (fun j => 3000 * sizeVs (l.take j) + 6 * keysS (ks.take j)) l.length (fun i hi => by
                have h3 := hpart _ (List.getElem_mem hi)
                have hik : i < ks.length := by omega
                show 3000 * sizeVs (l.take i) + 6 * keysS (ks.take i) + ((I (d + 1)).length + (keyT C (ks.getD i ⟨#[]⟩) ((fts C I (d + 1) l).getD i [])).length + 1) ≤ 3000 * sizeVs (l.take (i + 1)) + 6 * keysS (ks.take (i + 1))
                rw [fts_get C I (d + 1) l i hi, sizeVs_snoc l i hi, keysS_snoc ks i hik, getD_lt _ _ _ hik]
                have h4 := quote_len ks[i].data.toList
                rw [show ks[i].data.toList.length = ks[i].size by rw [Array.length_toList]; rfl] at h4
                rw [keyT, List.length_append, List.length_append]
                omega)
              have e : ks.take l.length = ks := by rw [← hkl, List.take_length]
              simp only [List.take_length, e] at h2
              omega
end Go.Proofs.YtllkcldckehipaaGreatDoor

namespace Go.Proofs.YtllkcldckehipaaGreatDoor
open Go.RowKit Go.Shelf

set_option maxRecDepth 100000 in
set_option maxHeartbeats 4000000 in
theorem psortT_any (x : V) (v : Value) (w : World) (B : Nat → Prop) (hE : Env w) (hM : sizeV x ≤ 1000000) (hF : fineV x) (hc : pcheckV x = 0) (ha : isVa w B x v) (hBq : ∀ q, B q → q < w.heap.size) :
    Calls Tryz.prog 33 #[v] w fun e w' => ∃ v', e = .returned v' ∧ isVa w' (fun q => B q ∨ w.heap.size ≤ q) (psortV x) v' ∧ Below w.heap.size w w' := by
  have h := isV_of_a x v ha
  have hw := pcheck_zero hc
  have hpw : pwrongV x = 0 := pw_of hw.1 hw.2.1
  obtain ⟨k, b, n, s, o, m, c, o2, m2, c2, rfl⟩ := isV_six h
  obtain ⟨hb, hb0, hb1⟩ := two_boxes w #[.int .i8 k, .bool b, .int .i64 n, .string s, .slice o m c, .slice o2 m2 c2] #[.int .i8 0, .bool false, .int .i64 0, .string ⟨#[]⟩, .slice none 0 0, .slice none 0 0] 26
  have HW : Hid (∀ w1, KB w w1 → Calls Tryz.prog 45 #[.agg #[.int .i8 k, .bool b, .int .i64 n, .string s, .slice o m c, .slice o2 m2 c2]] w1 fun e w' => e = .returned (.int .i64 0) ∧ Below w1.heap.size w1 w') := Lib.hid fun w1 hK => by
    have := pwrong_any x _ w1 (hE.kb hK) hM hF (isV_below hK h)
    rw [hpw] at this
    exact this
  have HS : Hid (∀ w1, KB w w1 → Calls Tryz.prog 49 #[.agg #[.int .i8 k, .bool b, .int .i64 n, .string s, .slice o m c, .slice o2 m2 c2]] w1 fun e w' => ∃ v', e = .returned v' ∧ isVa w' (fun q => B q ∨ w1.heap.size ≤ q) (psortV x) v' ∧ Below w1.heap.size w1 w') := Lib.hid fun w1 hK => by
    refine (psorted_any _ x _ w1 B (Nat.le_refl _) hM hF (ok_of_wrong x hw.1) (isVa_keep (fun a c hB hc => cell_below hK a c hc) x _ ha) (fun q hq => Nat.lt_of_lt_of_le (hBq q hq) hK.size)).mono ?_
    rintro e w' ⟨y, v', rfl, hs, hv', hb'⟩
    obtain rfl := psort_eq hs (once_of_wrong hw.1)
    exact ⟨v', rfl, hv', hb'⟩
  have HBQ := Lib.hid hBq
  have hz : (w.alloc (.cells #[.int .i8 k, .bool b, .int .i64 n, .string s, .slice o m c, .slice o2 m2 c2] 26)).heap.size = w.heap.size + 1 := by simp
  clear h ha hpw hw hc hE hM hF hBq
  go_enter Tryz.func33, Tryz.ntmps33
  go_wp2_with fail
  generalize (w.alloc (.cells #[.int .i8 k, .bool b, .int .i64 n, .string s, .slice o m c, .slice o2 m2 c2] 26)).alloc (.cells #[.int .i8 0, .bool false, .int .i64 0, .string ⟨#[]⟩, .slice none 0 0, .slice none 0 0] 26) = W1 at *
  obtain ⟨r0, r1, r2, r3, r4, r5⟩ := six_cells hb0
  have HB := Lib.hid hb
  have H0 := Lib.hid hb0
  have H1 := Lib.hid hb1
  clear hb hb0 hb1 hz
  go_wp2_with fail
  refine (HW.out _ HB.out).mono ?_
  rintro e w2 ⟨rfl, hb2⟩
  have hk2 := (hb2.block _ (Array.getElem?_eq_some_iff.1 H0.out).1).trans H0.out
  have hk2' := (hb2.block _ (Array.getElem?_eq_some_iff.1 H1.out).1).trans H1.out
  have HB2 := Lib.hid (HB.out.trans (hb2.mono HB.out.size))
  obtain ⟨r0, r1, r2, r3, r4, r5⟩ := six_cells hk2
  have H2 := Lib.hid hk2'
  clear hb2 hk2 hk2'
  go_wp2_with fail
  refine (HS.out _ HB2.out).mono ?_
  rintro e w3 ⟨v', rfl, hv', hb3⟩
  obtain ⟨k', b', n', s', o', m', c', o2', m2', c2', rfl⟩ := isV_six (isV_of_a _ _ hv')
  have hk3 := (hb3.block _ (Array.getElem?_eq_some_iff.1 H2.out).1).trans H2.out
  obtain ⟨x1, x2, x3, x4, x5, x6, f', ⟨⟨_, t1⟩, t1', t1''⟩, ⟨⟨_, t2⟩, t2', t2''⟩, ⟨⟨_, t3⟩, t3', t3''⟩, ⟨⟨_, t4⟩, t4', t4''⟩, ⟨⟨_, t5⟩, t5', t5''⟩, ⟨⟨_, t6⟩, t6', t6''⟩, hf7, hg7, e0, e1, e2, e3, e4, e5, -⟩ := store_six (rowIs_six hk3) 0 (by decide) (.int .i8 k') (.bool b') (.int .i64 n') (.string s') (.slice o' m' c') (.slice o2' m2' c2') (by intro u hu; simp only [List.mem_cons, List.not_mem_nil, or_false] at hu; rcases hu with rfl | rfl | rfl | rfl | rfl | rfl <;> rfl)
  simp only [Nat.zero_add] at t2 t2' t2'' t3 t3' t3'' t4 t4' t4'' t5 t5' t5'' t6 t6' t6'' e1 e2 e3 e4 e5
  have d0 := hf7.cell (show 0 < 6 by decide)
  have d1 := hf7.cell (show 1 < 6 by decide)
  have d2 := hf7.cell (show 2 < 6 by decide)
  have d3 := hf7.cell (show 3 < 6 by decide)
  have d4 := hf7.cell (show 4 < 6 by decide)
  have d5 := hf7.cell (show 5 < 6 by decide)
  rw [e0] at d0
  rw [e1] at d1
  rw [e2] at d2
  rw [e3] at d3
  rw [e4] at d4
  rw [e5] at d5
  have HD := Lib.hid (And.intro d0 (And.intro d1 (And.intro d2 (And.intro d3 (And.intro d4 d5)))))
  have hsz2 : w.heap.size + 2 ≤ w2.heap.size := by have := (Array.getElem?_eq_some_iff.1 H2.out).1; omega
  have HEND : Hid (isVa x6 (fun q => B q ∨ w.heap.size ≤ q) (psortV x) (.agg #[.int .i8 k', .bool b', .int .i64 n', .string s', .slice o' m' c', .slice o2' m2' c2']) ∧ Below w.heap.size w x6) := Lib.hid ⟨isVa_mono (fun q hq => Or.imp id (fun h => by omega) hq) _ _ (isVa_grown hg7 (fun q hq e => by
    have h1 := Option.some.inj e
    rcases hq with hq | hq
    · have := HBQ.out q hq; omega
    · omega) hv'), (HB2.out.trans (hb3.mono HB2.out.size)).grown hg7 (HB2.out.trans (hb3.mono HB2.out.size)).size (fun r e => by cases e; omega)⟩
  clear hf7 hg7 hk3 e0 e1 e2 e3 e4 e5 d0 d1 d2 d3 d4 d5 hv' hb3 HS HW hsz2
  go_wp2_with fail
  obtain ⟨d0, d1, d2, d3, d4, d5⟩ := HD.out
  refine bodyPost_ret (v := .agg #[.int .i8 k', .bool b', .int .i64 n', .string s', .slice o' m' c', .slice o2' m2' c2']) (by simp [results, Tryz.results33, go_sem, d0, d1, d2, d3, d4, d5]) rfl ?_
  exact ⟨_, rfl, HEND.out.1, HEND.out.2⟩

/-- What Print and Broad answer. -/
noncomputable def outT (C : List UInt8) (I : Nat → List UInt8) (x : V) : List UInt8 := ft C I 0 (psortV x)
noncomputable def outS (C : List UInt8) (I : Nat → List UInt8) (x : V) : List UInt8 := if pcheckV x ≠ 0 then [] else if 32768 < (outT C I x).length then [] else outT C I x
noncomputable def outE (C : List UInt8) (I : Nat → List UInt8) (x : V) : Int := if pcheckV x ≠ 0 then pcheckV x else if 32768 < (outT C I x).length then 3 else 0
theorem outT_ne {C : List UInt8} {I : Nat → List UInt8} {x : V} (hc : pcheckV x = 0) (hM : sizeV x ≤ 1000000) : outT C I x ≠ [] := by
  obtain ⟨h1, _, _⟩ := pcheck_zero hc
  have hs := sort_p x
  have hy := sort_wrong hs h1
  unfold outT
  generalize psortV x = y at *
  have h0 := own_parts (wrong_iff.1 hy.1 y (self_in y))
  obtain ⟨k, b, n, s, l, ks⟩ := y
  by_cases hk : k = 2
  · subst hk
    rw [ft, if_neg (by decide), if_neg (by decide), if_pos rfl]
    have hn : -9007199254740992 ≤ n ∧ n ≤ 9007199254740992 := h0.2.1
    have hf : Nu.fitB n = true := Nu.fitB_iff.2 hn
    by_cases h0 : n < 0
    · rw [Nu.txt_neg hf h0]; simp
    · rw [Nu.txt_pos hf h0]
      have := Nu.digs_pos n.natAbs
      intro e
      rw [e] at this
      simp at this
  · rw [ft]
    split
    · simp
    · split
      · cases b <;> simp [boolL]
      · split
        · unfold Ru.quoteL; simp
        · split
          · unfold rowT; simp
          · unfold rowT; simp
end Go.Proofs.YtllkcldckehipaaGreatDoor

namespace Go.Proofs.YtllkcldckehipaaGreatDoor
open Go.RowKit Go.Shelf

mutual
/-- A value lies below the heap's size. -/
theorem isVa_lt {W : World} {B : Nat → Prop} : ∀ (x : V) (v : Value), isVa W B x v → isVa W (fun q => B q ∧ q < W.heap.size) x v
  | .mk k b n s l ks, v, h => by
    unfold isVa at h ⊢
    obtain ⟨lv, kv, h1, h2, h3, h4, ⟨a, cap, h5, h6, h7⟩, ⟨a2, cap2, k1, k2, k3⟩⟩ := h
    refine ⟨lv, kv, h1, h2, h3, h4, ⟨a, cap, h5, fun h0 => ⟨h6 h0, ?_⟩, isVas_lt l a h7⟩, ⟨a2, cap2, k1, fun h0 => ⟨k2 h0, ?_⟩, k3⟩⟩
    · obtain ⟨c0, _, _, _, _, _, g0, _⟩ := isVs_at l a 0 h0 (isVs_of_a l a h7)
      have := World.block_lt_of_cell? W _ g0
      rw [add_block] at this
      exact this
    · have := World.block_lt_of_cell? W _ (k3 0 h0).1
      rw [add_block] at this
      exact this
theorem isVas_lt {W : World} {B : Nat → Prop} : ∀ (l : List V) (a : Addr), isVas W B l a → isVas W (fun q => B q ∧ q < W.heap.size) l a
  | [], _, _ => by unfold isVas; trivial
  | x :: t, a, h => by
    unfold isVas at h ⊢
    obtain ⟨⟨c0, c1, c2, c3, c4, c5, g0, g1, g2, g3, g4, g5, hx⟩, ht⟩ := h
    exact ⟨⟨c0, c1, c2, c3, c4, c5, g0, g1, g2, g3, g4, g5, isVa_lt x _ hx⟩, isVas_lt t _ ht⟩
end
theorem sizeVs_sum2 : ∀ l : List V, sizeVs l = (l.map sizeV).sum
  | [] => rfl
  | x :: t => by rw [sizeVs, List.map_cons, List.sum_cons, sizeVs_sum2 t]
theorem range_getZ (l : List V) : (List.range l.length).map (fun p => sizeV (l.getD p default)) = l.map sizeV := by
  apply List.ext_getElem
  · simp
  · intro i h1 h2
    rw [List.getElem_map, List.getElem_range, List.getElem_map, getD_lt _ _ _ (by simpa using h2)]
/-- A sorted value is as great as it was. -/
theorem sort_size {x y : V} (h : SortR x y) : onceV x → sizeV y = sizeV x := by
  induction h with
  | mk k b n s l ks l' ks' ps ho hl hs hk ih =>
    intro hx
    have hpl : ps.length = l.length := by have := ho.1.length_eq; simpa [V.list] using this
    have hkp := keys_perm ho hk (hx _ (self_in _)).2
    have hparts : ∀ i (h : i < l'.length), sizeV l'[i] = sizeV (l.getD (ps.getD i 0) default) := fun i hi => ih i hi (fun z hz => hx z (part_in (getD_in (ord_lt ho (by omega))) z hz))
    have e : l'.map sizeV = ps.map (fun p => sizeV (l.getD p default)) := by
      apply List.ext_getElem
      · simp [hl]
      · intro i h1 h2
        have hi : i < l'.length := by simpa using h1
        have hi2 : i < ps.length := by simpa using h2
        rw [List.getElem_map, List.getElem_map, hparts i hi, getD_lt ps i 0 hi2]
    have hp := perm_sum (ho.1.map (fun p => sizeV (l.getD p default)))
    simp only [V.list] at hp
    have e2 : sizeVs l' = sizeVs l := by rw [sizeVs_sum2, sizeVs_sum2, e, hp, range_getZ]
    have e3 : keysS ks' = keysS ks := by unfold keysS; exact perm_sum (hkp.map _)
    rw [sizeV, sizeV, e2, e3]
theorem pctx_at {H b D gl : Nat} {C : ByteArray} {lb : Array Value} {I : Nat → List UInt8} {St : Nat → World → Prop} (h : Pctx H b D C gl lb I St) : 2 ≤ b ∧ 2 ≤ D ∧ D < H ∧ ∀ k W W', St k W → FK H b b W W' → St k W' := ⟨h.1, h.2.1, h.2.2.1, h.2.2.2.2.2⟩

set_option maxRecDepth 100000 in
set_option maxHeartbeats 8000000 in
/-- printed, on an empty page in block b. -/
theorem printed_any {b D lo gl : Nat} {C : ByteArray} {lb : Array Value} {I : Nat → List UInt8} {St : Nat → World → Prop} (x : V) (v : Value) (w : World) (hE : Env w) (hM : sizeV x ≤ 1000000) (hF : fineV x)
    (hctx : ∀ H, w.heap.size ≤ H → Pctx H b D C gl lb I St) (hC : C.size ≤ 2) (hI : ∀ d, d ≤ 200 → (I d).length ≤ 450) (hlo : lo ≤ b ∧ lo ≤ D) (hbw : b < w.heap.size)
    (ha : isVa w (fun q => q < w.heap.size ∧ q ≠ b ∧ q ≠ D) x v) (hpg : w.heap[b]? = some (.cells #[.pointer none, .slice none 0 0, .string C, .func (.func gl) #[] lb, .bool false] 46 (0, 0))) (hst : St 0 w) :
    Calls Tryz.prog 19 #[v, .pointer (some ⟨b, 0, none⟩)] w fun e w' => e = .returned (.tuple #[.string ⟨(outS C.data.toList I x).toArray⟩, .int .i64 (outE C.data.toList I x)]) ∧ Below lo w w' := by
  have h := isV_of_a x v ha
  obtain ⟨k, bb, n, s, o, m, c, o2, m2, c2, rfl⟩ := isV_six h
  have hS : outS C.data.toList I x = if pcheckV x ≠ 0 then [] else if 32768 < (outT C.data.toList I x).length then [] else outT C.data.toList I x := rfl
  have hEr : outE C.data.toList I x = if pcheckV x ≠ 0 then pcheckV x else if 32768 < (outT C.data.toList I x).length then 3 else 0 := rfl
  have HB0 : Hid (KB w (w.alloc (.cells #[.int .i8 k, .bool bb, .int .i64 n, .string s, .slice o m c, .slice o2 m2 c2] 26))) := Lib.hid kbA
  have HCK : Hid (∀ w1, KB w w1 → Calls Tryz.prog 31 #[.agg #[.int .i8 k, .bool bb, .int .i64 n, .string s, .slice o m c, .slice o2 m2 c2]] w1 fun e w' => e = .returned (.int .i64 (pcheckV x)) ∧ Below w1.heap.size w1 w') := Lib.hid fun w1 hK => pcheck_any x _ w1 (hE.kb hK) hM hF (isV_below hK h)
  have HSO : Hid (pcheckV x = 0 → ∀ w1, KB w w1 → Calls Tryz.prog 33 #[.agg #[.int .i8 k, .bool bb, .int .i64 n, .string s, .slice o m c, .slice o2 m2 c2]] w1 fun e w' => ∃ v', e = .returned v' ∧ isVa w' (fun q => (q < w.heap.size ∧ q ≠ b ∧ q ≠ D) ∨ w1.heap.size ≤ q) (psortV x) v' ∧ Below w1.heap.size w1 w') := Lib.hid fun hc w1 hK =>
    psortT_any x _ w1 _ (hE.kb hK) hM hF hc (isVa_keep (fun a c hB hc => cell_below hK a c hc) x _ ha) (fun q hq => Nat.lt_of_lt_of_le hq.1 hK.size)
  have HN := Lib.hid (World.alloc_heap_new w (.cells #[.int .i8 k, .bool bb, .int .i64 n, .string s, .slice o m c, .slice o2 m2 c2] 26))
  have HPG := Lib.hid hpg
  have HCTX := Lib.hid hctx
  have HEN := Lib.hid hE
  have HST := Lib.hid hst
  have HOUT := Lib.hid (And.intro hS hEr)
  have HLO := Lib.hid hlo
  have HMM := Lib.hid hM
  have HIB := Lib.hid (And.intro hC hI)
  obtain ⟨E, hEE⟩ : ∃ E, pcheckV x = E := ⟨_, rfl⟩
  rw [hEE] at HCK
  clear h ha hS hEr hE hF hctx hpg hst hlo hC hI hM
  by_cases hE0 : E ≠ 0
  · have HRES : Hid (outS C.data.toList I x = [] ∧ outE C.data.toList I x = E) := Lib.hid ⟨by rw [HOUT.out.1, hEE, if_pos hE0], by rw [HOUT.out.2, hEE, if_pos hE0]⟩
    have z1 : (E == 0) = false := beqI hE0
    have z2 : (E != 0) = true := bne_iff_ne.2 hE0
    clear hEE hE0
    go_enter Tryz.func19, Tryz.ntmps19
    go_wp2_with fail
    refine (HCK.out _ HB0.out).mono ?_
    rintro e w2 ⟨rfl, hb2⟩
    have HB2 := Lib.hid (HB0.out.trans (hb2.mono HB0.out.size))
    clear hb2
    go_wp2_with fail
    go_ret2
    have hl := HLO.out
    exact ⟨by rw [HRES.out.1, HRES.out.2]; rfl, HB2.out.mono (by omega)⟩
  · obtain rfl : E = 0 := Decidable.not_not.1 hE0
    have HW0 := Lib.hid hEE
    have HSO := Lib.hid (HSO.out hEE)
    have HSTR := Lib.hid (show outS C.data.toList I x = (if 32768 < (outT C.data.toList I x).length then [] else outT C.data.toList I x) ∧ outE C.data.toList I x = (if 32768 < (outT C.data.toList I x).length then 3 else 0) from ⟨by rw [HOUT.out.1, hEE, if_neg (by simp)], by rw [HOUT.out.2, hEE, if_neg (by simp)]⟩)
    clear hEE hE0
    go_enter Tryz.func19, Tryz.ntmps19
    go_wp2_with fail
    refine (HCK.out _ HB0.out).mono ?_
    rintro e w2 ⟨rfl, hb2⟩
    have HB2 := Lib.hid (HB0.out.trans (hb2.mono HB0.out.size))
    have hn2 := (hb2.block _ (Array.getElem?_eq_some_iff.1 HN.out).1).trans HN.out
    obtain ⟨r0, r1, r2, r3, r4, r5⟩ := six_cells hn2
    clear hb2 hn2
    go_wp2_with fail
    refine (HSO.out _ HB2.out).mono ?_
    rintro e w3 ⟨v', rfl, hv', hb3⟩
    have HB3 := Lib.hid (HB2.out.trans (hb3.mono HB2.out.size))
    obtain ⟨hlob, hloD⟩ := HLO.out
    obtain ⟨hb2', hD2', hDw, -⟩ := pctx_at (HCTX.out w.heap.size (Nat.le_refl _))
    have hw := pcheck_zero HW0.out
    have hsr := sort_p x
    have hsw := sort_wrong hsr hw.1
    have hz2 := HB2.out.size
    have hz3 := hb3.size
    have hv3 : isVa w3 (bq w3.heap.size b D) (psortV x) v' := isVa_mono (fun q hq => by
      obtain ⟨hq1, hq2⟩ := hq
      rcases hq1 with hq1 | hq1
      · exact ⟨hq2, hq1.2.1, hq1.2.2⟩
      · exact ⟨hq2, by omega, by omega⟩) _ _ (isVa_lt _ _ hv')
    have hsz : sizeV (psortV x) ≤ 1000000 := by rw [sort_size hsr (once_of_wrong hw.1)]; exact HMM.out
    have hok := okP_of hsw.1 hsz
    have hftb := ft_bound (C := C.data.toList) (I := I) (by rw [show C.data.toList.length = C.size by rw [Array.length_toList]; rfl]; exact HIB.out.1) HIB.out.2 _ (psortV x) 0 (Nat.le_refl _) (by omega) hok
    have hpg3 : PG w3.heap.size b C (.func (.func gl) #[] lb) [] false w3 := ⟨_, _, .inl rfl, Nat.lt_of_lt_of_le hbw HB3.out.size, Nat.le_refl _, (HB3.out.block b hbw).trans HPG.out, World.ownsRowF_nil _ _ _ _⟩
    have hst3 : St 0 w3 := (pctx_at (HCTX.out w3.heap.size HB3.out.size)).2.2.2 0 w w3 HST.out (FK.of_below HB3.out)
    have HPUT := Lib.hid (put_any (HCTX.out w3.heap.size HB3.out.size) 24 (psortV x) 0 (by omega) (by omega) hok v' [] false w3 hv3 (HEN.out.kb HB3.out) hpg3 hst3 (by simp only [List.length_nil]; omega))
    have HNE := Lib.hid (outT_ne (C := C.data.toList) (I := I) HW0.out HMM.out)
    have HTB : Hid ((outT C.data.toList I x).length ≤ 3000000000) := Lib.hid (by unfold outT; omega)
    obtain ⟨T, hT⟩ : ∃ T, outT C.data.toList I x = T := ⟨_, rfl⟩
    have hT2 : ft C.data.toList I 0 (psortV x) = T := hT
    rw [hT2] at HPUT
    rw [hT] at HSTR HNE HTB
    obtain ⟨k', b', n', s', o', m', c', o2', m2', c2', rfl⟩ := isV_six (isV_of_a _ _ hv')
    have HZ := Lib.hid (show lo ≤ w3.heap.size by omega)
    clear hv' hb3 hw hsr hsw hv3 hsz hok hftb hpg3 hst3 hT hT2 hz2 hz3 HSO HCK r0 r1 r2 r3 r4 r5
    go_wp2_with fail
    refine HPUT.out.mono ?_
    rintro e w4 ⟨rfl, cs4, ov4, h4, hs4, hk4, hw4⟩
    have HB4 := Lib.hid (HB3.out.mono (show lo ≤ w.heap.size by omega) |>.trans (hk4.below hlob hloD HZ.out HZ.out))
    have HP4 := Lib.hid h4
    obtain ⟨p, vv, hp, h4v⟩ := h4
    obtain ⟨c0, c1, c2, c3, c4⟩ := pgv_cells h4v
    have HW4 := Lib.hid hw4
    clear h4v hp hs4 hk4 hw4
    cases ov4 with
    | true =>
      have HLT : Hid (32768 < T.length) := Lib.hid (by have := HW4.out.2.2.2 rfl rfl; simpa using this)
      go_wp2_with fail
      go_ret2
      exact ⟨by rw [HSTR.out.1, HSTR.out.2, if_pos HLT.out, if_pos HLT.out]; rfl, HB4.out⟩
    | false =>
      obtain rfl : cs4 = T := by have := HW4.out.2.2.1 rfl; simpa using this
      have HLEN := Lib.hid (pg_len _ HP4.out)
      obtain ⟨m, hm⟩ : ∃ m, cs4.length = m := ⟨_, rfl⟩
      rw [hm] at HLEN HSTR HTB
      have hm2 : m ≤ 3000000000 := HTB.out
      clear hm HW4
      by_cases hlt : 32768 < m
      · have z1 : decide ((32768 : Int) < (m : Int)) = true := decide_eq_true (by omega)
        have z2 : decide (32768 < m) = true := decide_eq_true hlt
        have HLT := Lib.hid hlt
        go_wp2_with fail
        refine HLEN.out.mono ?_
        rintro e w5 ⟨rfl, rfl⟩
        go_wp2_with fail
        go_ret2
        exact ⟨by rw [HSTR.out.1, HSTR.out.2, if_pos HLT.out, if_pos HLT.out]; rfl, HB4.out⟩
      · have z1 : decide ((32768 : Int) < (m : Int)) = false := decide_eq_false (by omega)
        have z2 : decide (32768 < m) = false := decide_eq_false hlt
        have HLT := Lib.hid hlt
        go_wp2_with fail
        refine HLEN.out.mono ?_
        rintro e w5 ⟨rfl, rfl⟩
        go_wp2_with fail
        refine (pg_str _ HP4.out HNE.out).mono ?_
        rintro e w6 ⟨rfl, hb6⟩
        have HB6 := Lib.hid (HB4.out.trans (hb6.mono HZ.out))
        clear hb6
        go_wp2_with fail
        go_ret2
        exact ⟨by rw [HSTR.out.1, HSTR.out.2, if_neg HLT.out, if_neg HLT.out]; rfl, HB6.out⟩

def C1 : ByteArray := ⟨#[58]⟩
def I0 : Nat → List UInt8 := fun _ => []
theorem one_any (k : Int) (w : World) : Calls Tryz.prog 20 #[.int .i64 k] w fun e w' => e = .returned (.string ⟨#[]⟩) ∧ w' = w := by
  go_enter Tryz.func20, Tryz.ntmps20
  go_wp2_with fail
  go_ret
  exact ⟨rfl, rfl⟩
theorem pctx0 (H b : Nat) (hb : 2 ≤ b) (hH : b < H) : Pctx H b b C1 20 #[] I0 (fun _ _ => True) :=
  ⟨hb, hb, hH, enters_of Tryz.func20 (by kernel_rfl) rfl, fun d _ => ⟨fun W _ _ => (one_any 1 W).mono (by rintro e w' ⟨rfl, rfl⟩; exact ⟨rfl, trivial, FK.refl _ _ _ _, fun _ _ _ h => h⟩), fun W _ _ => (one_any (-1) W).mono (by rintro e w' ⟨rfl, rfl⟩; exact ⟨rfl, trivial, FK.refl _ _ _ _, fun _ _ _ h => h⟩)⟩, fun _ _ _ _ _ => trivial⟩
set_option maxRecDepth 100000 in
set_option maxHeartbeats 4000000 in
theorem print_any (x : V) (v : Value) (w : World) (hE : Env w) (hM : sizeV x ≤ 1000000) (hF : fineV x) (h : isV w x v) :
    Calls Tryz.prog 8 #[v] w fun e w' => e = .returned (.tuple #[.string ⟨(outS [58] I0 x).toArray⟩, .int .i64 (outE [58] I0 x)]) ∧ Below w.heap.size w w' := by
  obtain ⟨k, b, n, s, o, m, c, o2, m2, c2, rfl⟩ := isV_six h
  have hsz : (w.alloc (.cells #[.int .i8 k, .bool b, .int .i64 n, .string s, .slice o m c, .slice o2 m2 c2] 26)).heap.size = w.heap.size + 1 := by simp
  have h2 := World.alloc_heap_new (w.alloc (.cells #[.int .i8 k, .bool b, .int .i64 n, .string s, .slice o m c, .slice o2 m2 c2] 26)) (.cells #[.pointer none, .slice none 0 0, .string C1, .func (.func 20) #[] #[], .bool false] 46)
  rw [hsz] at h2
  have hE2 := hE.1
  have hb : Below w.heap.size w ((w.alloc (.cells #[.int .i8 k, .bool b, .int .i64 n, .string s, .slice o m c, .slice o2 m2 c2] 26)).alloc (.cells #[.pointer none, .slice none 0 0, .string C1, .func (.func 20) #[] #[], .bool false] 46)) := by go_grown
  have HP := Lib.hid (printed_any (b := w.heap.size + 1) (D := w.heap.size + 1) (lo := w.heap.size) (C := C1) (I := I0) (St := fun _ _ => True) x (.agg #[.int .i8 k, .bool b, .int .i64 n, .string s, .slice o m c, .slice o2 m2 c2]) _ (hE.kb hb) hM hF
    (fun H hH => pctx0 H (w.heap.size + 1) (by omega) (by simp at hH; omega)) (by decide) (fun d _ => Nat.zero_le _) ⟨by omega, by omega⟩ (by simp) (isVa_mono (fun q hq => by
      have hq' : q < w.heap.size := hq
      exact ⟨by simp; omega, by omega, by omega⟩) _ _ (isVa_keep (fun a c _ hc => cell_below hb a c hc) _ _ (isVa_of _ _ h))) h2 trivial)
  have HB := Lib.hid hb
  unfold C1 at HP
  clear h hE hM hF h2 hb hsz hE2
  go_enter Tryz.func8, Tryz.ntmps8
  go_wp2_with fail
  refine HP.out.mono ?_
  rintro e w2 ⟨rfl, hb2⟩
  have HB2 := Lib.hid (HB.out.trans hb2)
  clear hb2 HP
  go_wp2_with fail
  go_ret2
  exact ⟨rfl, HB2.out⟩
end Go.Proofs.YtllkcldckehipaaGreatDoor

namespace Go.Proofs.YtllkcldckehipaaGreatDoor
open Go.RowKit Go.Shelf

theorem outS_len {C : List UInt8} {I : Nat → List UInt8} (x : V) : (outS C I x).length ≤ 32768 := by
  unfold outS
  split
  · simp
  · split
    · simp
    · omega
set_option maxRecDepth 100000 in
set_option maxHeartbeats 2000000 in
theorem plen_any (x : V) (v : Value) (w : World) (hE : Env w) (hM : sizeV x ≤ 1000000) (hF : fineV x) (h : isV w x v) :
    Calls Tryz.prog 12 #[v] w fun e w' => e = .returned (.int .i64 (outS [58] I0 x).length) ∧ Below w.heap.size w w' := by
  obtain ⟨k, b, n, s, o, m, c, o2, m2, c2, rfl⟩ := isV_six h
  have hb : Below w.heap.size w (w.alloc (.cells #[.int .i8 k, .bool b, .int .i64 n, .string s, .slice o m c, .slice o2 m2 c2] 26)) := kbA
  have HP := Lib.hid (print_any x _ _ (hE.kb hb) hM hF (isV_below hb h))
  have HB := Lib.hid hb
  have hl := outS_len (C := [58]) (I := I0) x
  obtain ⟨S, hS⟩ : ∃ S : ByteArray, S = ⟨(outS [58] I0 x).toArray⟩ := ⟨_, rfl⟩
  have hs : S.size = (outS [58] I0 x).length := by rw [hS]; exact size_list _
  rw [← hS] at HP
  obtain ⟨q, hq⟩ : ∃ q, (outS [58] I0 x).length = q := ⟨_, rfl⟩
  rw [hq] at hs hl ⊢
  obtain ⟨ee, hee⟩ : ∃ ee, outE [58] I0 x = ee := ⟨_, rfl⟩
  rw [hee] at HP
  clear hE hM hF h hb hS hq hee
  go_enter Tryz.func12, Tryz.ntmps12
  go_wp2_with fail
  refine HP.out.mono ?_
  rintro e w2 ⟨rfl, hb2⟩
  have HB2 := Lib.hid (HB.out.trans (hb2.mono HB.out.size))
  clear hb2 HP
  go_wp2_with fail
  go_ret
  exact ⟨rfl, HB2.out⟩

def zV : V := .mk 0 false 0 ⟨#[]⟩ [] []
def lV : V := .mk 4 false 0 ⟨#[]⟩ [nV 1, zV] []
def wX : V := .mk 5 false 0 ⟨#[]⟩ [lV, tV ⟨#[]⟩] [⟨#[98]⟩, ⟨#[97]⟩]
def wY : V := .mk 5 false 0 ⟨#[]⟩ [tV ⟨#[]⟩, lV] [⟨#[97]⟩, ⟨#[98]⟩]
theorem wrong_z : wrongV zV = 0 := by
  unfold zV
  rw [wrongV, own_zero (x := .mk 0 false 0 ⟨#[]⟩ [] []) ⟨by omega, (by intro h; cases h), (fun h => absurd rfl h), (fun h => absurd rfl h), (fun h => absurd rfl h), (by intro h; cases h), (fun _ => rfl)⟩ (by show (-9007199254740992 : Int) ≤ 0 ∧ (0 : Int) ≤ 9007199254740992; omega) rfl rfl List.nodup_nil, if_pos rfl, wrongVs]
theorem wrong_l : wrongV lV = 0 := by
  unfold lV
  rw [wrongV, own_zero (x := .mk 4 false 0 ⟨#[]⟩ [nV 1, zV] []) ⟨by omega, (by intro h; cases h), (fun h => absurd rfl h), (fun h => absurd rfl h), (fun _ => .inl rfl), (by intro h; cases h), (fun _ => rfl)⟩ (by show (-9007199254740992 : Int) ≤ 0 ∧ (0 : Int) ≤ 9007199254740992; omega) rfl rfl List.nodup_nil, if_pos rfl, wrongVs, wrong_n 1 (by omega), if_pos rfl, wrongVs, wrong_z, if_pos rfl, wrongVs]
theorem wrong_wX : wrongV wX = 0 := wrong_obj _ _ _ _ rfl rfl (by decide) wrong_l (wrong_t _ rfl)
theorem sort_l : SortR lV lV :=
  SortR.mk 4 false 0 ⟨#[]⟩ [nV 1, zV] [] [nV 1, zV] [] [0, 1] ⟨List.Perm.refl _, fun _ => rfl, fun h => absurd h (by show ¬ (4 : Int) = 5; decide)⟩ rfl (fun i h => by
    match i, h with
    | 0, _ => exact sort_leaf _ _ _ _
    | 1, _ => exact sort_leaf _ _ _ _) rfl
theorem sort_wX : SortR wX wY :=
  SortR.mk 5 false 0 ⟨#[]⟩ [lV, tV ⟨#[]⟩] [⟨#[98]⟩, ⟨#[97]⟩] [tV ⟨#[]⟩, lV] [⟨#[97]⟩, ⟨#[98]⟩] [1, 0] ⟨List.Perm.swap _ _ _, fun h => absurd rfl h, fun _ i j hi hj => by
      obtain rfl : i = 0 := by simp at hj; omega
      obtain rfl : j = 1 := by simp at hj; omega
      show ¬ cmpK ⟨#[98]⟩ ⟨#[97]⟩ < 0
      decide⟩ rfl (fun i h => by
      match i, h with
      | 0, _ => exact sort_leaf _ _ _ _
      | 1, _ => exact sort_l) rfl
theorem psort_wX : psortV wX = wY := (psort_eq sort_wX (once_of_wrong wrong_wX)).symm
theorem pcheck_wX : pcheckV wX = 0 := pcheck_of wrong_wX (by decide) (by decide)
theorem quote_e : Ru.quoteL [] = [34, 34] := by decide
theorem quote_a : Ru.quoteL [97] = [34, 97, 34] := by decide
theorem quote_b : Ru.quoteL [98] = [34, 98, 34] := by decide
theorem txt_1 : Nu.txt 1 = [49] := by
  rw [Nu.txt_pos rfl (by decide)]
  exact Nu.digs_lt (by decide)
def wakeL : List UInt8 := [123, 34, 97, 34, 58, 34, 34, 44, 34, 98, 34, 58, 91, 49, 44, 110, 117, 108, 108, 93, 125]
theorem ft_wY : ft [58] I0 0 wY = wakeL := by
  simp [wY, lV, tV, nV, zV, wakeL, ft, fts, rowT, rowsT, keyT, I0, quote_e, quote_a, quote_b, txt_1]
theorem outT_wX : outT [58] I0 wX = wakeL := by unfold outT; rw [psort_wX, ft_wY]
theorem outS_wX : outS [58] I0 wX = wakeL := by
  unfold outS
  rw [outT_wX, pcheck_wX, if_neg (by decide), if_neg (by decide)]
theorem outE_wX : outE [58] I0 wX = 0 := by
  unfold outE
  rw [outT_wX, pcheck_wX, if_neg (by decide), if_neg (by decide)]
theorem wX_isV {W : World} {g0 g1 g2 : Nat} {t0 t1 t2 : TypeId} (h0 : W.heap[g0]? = some (.cells #[.string ⟨#[98]⟩, .string ⟨#[97]⟩] t0 (0, 0)))
    (h1 : W.heap[g1]? = some (.cells #[.int .i8 2, .bool false, .int .i64 1, .string ⟨#[]⟩, .slice none 0 0, .slice none 0 0, .int .i8 0, .bool false, .int .i64 0, .string ⟨#[]⟩, .slice none 0 0, .slice none 0 0] t1 (0, 0)))
    (h2 : W.heap[g2]? = some (.cells #[.int .i8 4, .bool false, .int .i64 0, .string ⟨#[]⟩, .slice (some ⟨g1, 0, none⟩) 2 2, .slice none 0 0, .int .i8 3, .bool false, .int .i64 0, .string ⟨#[]⟩, .slice none 0 0, .slice none 0 0] t2 (0, 0))) :
    isV W wX (.agg #[.int .i8 5, .bool false, .int .i64 0, .string ⟨#[]⟩, .slice (some ⟨g2, 0, none⟩) 2 2, .slice (some ⟨g0, 0, none⟩) 2 2]) := by
  have c0 : ∀ i, i < 2 → W.cell? ⟨g0, i, none⟩ = (#[.string ⟨#[98]⟩, .string ⟨#[97]⟩] : Array Value)[i]? := fun i _ => by unfold World.cell?; simp [h0]
  have c1 : ∀ i, i < 12 → W.cell? ⟨g1, i, none⟩ = (#[.int .i8 2, .bool false, .int .i64 1, .string ⟨#[]⟩, .slice none 0 0, .slice none 0 0, .int .i8 0, .bool false, .int .i64 0, .string ⟨#[]⟩, .slice none 0 0, .slice none 0 0] : Array Value)[i]? := fun i _ => by unfold World.cell?; simp [h1]
  have c2 : ∀ i, i < 12 → W.cell? ⟨g2, i, none⟩ = (#[.int .i8 4, .bool false, .int .i64 0, .string ⟨#[]⟩, .slice (some ⟨g1, 0, none⟩) 2 2, .slice none 0 0, .int .i8 3, .bool false, .int .i64 0, .string ⟨#[]⟩, .slice none 0 0, .slice none 0 0] : Array Value)[i]? := fun i _ => by unfold World.cell?; simp [h2]
  have hl : isV W lV (.agg #[.int .i8 4, .bool false, .int .i64 0, .string ⟨#[]⟩, .slice (some ⟨g1, 0, none⟩) 2 2, .slice none 0 0]) := by
    unfold lV isV
    refine ⟨_, _, rfl, by omega, by omega, by decide, ⟨⟨g1, 0, none⟩, 2, ⟨_, rfl, Nat.le_refl _, by unfold maxLen; decide, fun _ => rfl⟩, ?_⟩, ⟨⟨0, 0, none⟩, 0, ⟨none, rfl, Nat.le_refl _, by unfold maxLen; decide, fun h => absurd h (by decide)⟩, fun i hi => absurd hi (by simp)⟩⟩
    unfold isVs
    refine ⟨⟨_, _, _, _, _, _, c1 0 (by decide), c1 1 (by decide), c1 2 (by decide), c1 3 (by decide), c1 4 (by decide), c1 5 (by decide), isV_leaf _ 2 false 1 ⟨#[]⟩ (by omega) (by omega) (by decide)⟩, ?_⟩
    unfold isVs
    refine ⟨⟨_, _, _, _, _, _, c1 6 (by decide), c1 7 (by decide), c1 8 (by decide), c1 9 (by decide), c1 10 (by decide), c1 11 (by decide), isV_leaf _ 0 false 0 ⟨#[]⟩ (by omega) (by omega) (by decide)⟩, ?_⟩
    unfold isVs
    trivial
  unfold wX isV
  refine ⟨_, _, rfl, by omega, by omega, by decide, ⟨⟨g2, 0, none⟩, 2, ⟨_, rfl, Nat.le_refl _, by unfold maxLen; decide, fun _ => rfl⟩, ?_⟩, ⟨⟨g0, 0, none⟩, 2, ⟨_, rfl, Nat.le_refl _, by unfold maxLen; decide, fun _ => rfl⟩, ?_⟩⟩
  · unfold isVs
    refine ⟨⟨_, _, _, _, _, _, c2 0 (by decide), c2 1 (by decide), c2 2 (by decide), c2 3 (by decide), c2 4 (by decide), c2 5 (by decide), hl⟩, ?_⟩
    unfold isVs
    refine ⟨⟨_, _, _, _, _, _, c2 6 (by decide), c2 7 (by decide), c2 8 (by decide), c2 9 (by decide), c2 10 (by decide), c2 11 (by decide), isV_leaf _ 3 false 0 ⟨#[]⟩ (by omega) (by omega) (by decide)⟩, ?_⟩
    unfold isVs
    trivial
  · intro i hi
    match i, hi with
    | 0, _ => exact ⟨c0 0 (by decide), (show (⟨#[98]⟩ : ByteArray).size ≤ maxLen by decide)⟩
    | 1, _ => exact ⟨c0 1 (by decide), (show (⟨#[97]⟩ : ByteArray).size ≤ maxLen by decide)⟩

theorem four_new (w : World) (o0 o1 o2 o3 : Obj) : ∃ W, (((w.alloc o0).alloc o1).alloc o2).alloc o3 = W ∧ Below w.heap.size w W ∧ W.heap[w.heap.size]? = some o0 ∧ W.heap[w.heap.size + 1]? = some o1 ∧ W.heap[w.heap.size + 1 + 1]? = some o2 ∧ W.heap[w.heap.size + 1 + 1 + 1]? = some o3 := by
  have h1 := World.alloc_heap_new (w.alloc o0) o1
  have h2 := World.alloc_heap_new ((w.alloc o0).alloc o1) o2
  have h3 := World.alloc_heap_new (((w.alloc o0).alloc o1).alloc o2) o3
  simp only [World.size_alloc] at h1 h2 h3
  refine ⟨_, rfl, by go_grown, ?_, ?_, ?_, h3⟩
  · exact (Below.heap_alloc _ _ _ (by simp <;> omega)).trans ((Below.heap_alloc _ _ _ (by simp <;> omega)).trans ((Below.heap_alloc _ _ _ (by simp <;> omega)).trans (World.alloc_heap_new w o0)))
  · exact (Below.heap_alloc _ _ _ (by simp <;> omega)).trans ((Below.heap_alloc _ _ _ (by simp <;> omega)).trans h1)
  · exact (Below.heap_alloc _ _ _ (by simp <;> omega)).trans h2
theorem fine_wX : fineV wX := by unfold fineV; decide
set_option maxRecDepth 100000 in
set_option maxHeartbeats 4000000 in
theorem wakes5_any (w : World) (hE : Env w) : Calls Tryz.prog 7 #[] w fun e w' => e = .returned (.bool true) ∧ Below w.heap.size w w' := by
  have HP : Hid (∀ w1 v, KB w w1 → isV w1 wX v → Calls Tryz.prog 8 #[v] w1 fun e w' => e = .returned (.tuple #[.string ⟨#[123, 34, 97, 34, 58, 34, 34, 44, 34, 98, 34, 58, 91, 49, 44, 110, 117, 108, 108, 93, 125]⟩, .int .i64 0]) ∧ Below w1.heap.size w1 w') := Lib.hid fun w1 v hK h => by
    have := print_any wX v w1 (hE.kb hK) (by decide) fine_wX h
    rw [outS_wX, outE_wX] at this
    exact this
  have HL : Hid (∀ w1 v, KB w w1 → isV w1 wX v → Calls Tryz.prog 12 #[v] w1 fun e w' => e = .returned (.int .i64 21) ∧ Below w1.heap.size w1 w') := Lib.hid fun w1 v hK h => by
    have := plen_any wX v w1 (hE.kb hK) (by decide) fine_wX h
    rw [outS_wX] at this
    exact this
  clear hE
  go_enter Tryz.func7, Tryz.ntmps7
  go_wp2_with fail
  obtain ⟨W4, hW4, hb4, k0, k1, k2, k3⟩ := four_new w (.cells #[.string ⟨#[98]⟩, .string ⟨#[97]⟩] 9) (.cells #[.int .i8 2, .bool false, .int .i64 1, .string ⟨#[]⟩, .slice none 0 0, .slice none 0 0, .int .i8 0, .bool false, .int .i64 0, .string ⟨#[]⟩, .slice none 0 0, .slice none 0 0] 26) (.cells #[.int .i8 4, .bool false, .int .i64 0, .string ⟨#[]⟩, .slice (some ⟨w.heap.size + 1, 0, none⟩) 2 2, .slice none 0 0, .int .i8 3, .bool false, .int .i64 0, .string ⟨#[]⟩, .slice none 0 0, .slice none 0 0] 26) (.cells #[.int .i8 5, .bool false, .int .i64 0, .string ⟨#[]⟩, .slice (some ⟨w.heap.size + 1 + 1, 0, none⟩) 2 2, .slice (some ⟨w.heap.size, 0, none⟩) 2 2] 26)
  rw [hW4]
  have hv := wX_isV k0 k1 k2
  refine (HP.out W4 _ hb4 hv).mono ?_
  rintro e w2 ⟨rfl, hb2⟩
  have HK2 := Lib.hid (hb4.trans (hb2.mono hb4.size))
  have HV2 := Lib.hid (isV_below hb2 hv)
  have kb := (hb2.block _ (Array.getElem?_eq_some_iff.1 k3).1).trans k3
  obtain ⟨r0, r1, r2, r3, r4, r5⟩ := six_cells kb
  clear hv hb2 kb k0 k1 k2 k3 hb4 hW4 HP
  go_wp2_with fail
  refine (HL.out w2 _ HK2.out HV2.out).mono ?_
  rintro e w3 ⟨rfl, hb3⟩
  have HK3 := Lib.hid (HK2.out.trans (hb3.mono HK2.out.size))
  clear hb3 r0 r1 r2 r3 r4 r5 HL HV2
  go_wp2_with fail
  go_ret
  exact ⟨rfl, HK3.out⟩
end Go.Proofs.YtllkcldckehipaaGreatDoor

namespace Go.Proofs.YtllkcldckehipaaGreatDoor
open Go.RowKit Go.Shelf

mutual
theorem ft_const (C : List UInt8) : ∀ (x : V) (d : Nat), ft C I0 d x = ft C I0 0 x
  | .mk k b n s l ks, d => by rw [ft, ft, fts_const C l (d + 1), fts_const C l (0 + 1)]; rfl
theorem fts_const (C : List UInt8) : ∀ (l : List V) (d : Nat), fts C I0 d l = fts C I0 0 l
  | [], d => by rw [fts, fts]
  | x :: t, d => by rw [fts, fts, ft_const C x d, fts_const C t d]
end
theorem outE_no {C : List UInt8} {I : Nat → List UInt8} {x : V} (h : outE C I x ≠ 0) : outS C I x = [] := by
  unfold outE at h
  unfold outS
  split
  · rfl
  · rename_i h1
    rw [if_neg h1] at h
    split
    · rfl
    · rename_i h2
      rw [if_neg h2] at h
      exact absurd rfl h
theorem outE_yes {C : List UInt8} {I : Nat → List UInt8} {x : V} (h : outE C I x = 0) : pcheckV x = 0 ∧ (outT C I x).length ≤ 32768 ∧ outS C I x = outT C I x := by
  unfold outE at h
  by_cases h1 : pcheckV x ≠ 0
  · rw [if_pos h1] at h; exact absurd h h1
  · rw [if_neg h1] at h
    have h1' := Decidable.not_not.1 h1
    by_cases h2 : 32768 < (outT C I x).length
    · rw [if_pos h2] at h; omega
    · refine ⟨h1', by omega, ?_⟩
      unfold outS
      rw [if_neg h1, if_neg h2]
theorem out_ok {C : List UInt8} {I : Nat → List UInt8} {x : V} (h : pcheckV x = 0) (h2 : (outT C I x).length ≤ 32768) : outE C I x = 0 ∧ outS C I x = outT C I x := by
  have h3 : ¬ 32768 < (outT C I x).length := by omega
  have h4 : ¬ pcheckV x ≠ 0 := by rw [h]; simp
  constructor
  · unfold outE
    rw [if_neg h4, if_neg h3]
  · unfold outS
    rw [if_neg h4, if_neg h3]
theorem rowsT_part (A : List UInt8) (T : Nat → List UInt8) : ∀ (n i : Nat), i < n → (T i).length ≤ (rowsT A T n).length
  | n + 1, i, h => by
    rw [rowsT, List.length_append, List.length_append, List.length_append]
    by_cases e : i = n
    · subst e; omega
    · have := rowsT_part A T n i (by omega); omega
theorem rowT_rows (A : List UInt8) (o c : UInt8) (n : Nat) (T : Nat → List UInt8) : rowT [] A o c n T = [o] ++ rowsT A T n ++ [c] := by
  unfold rowT
  split
  · rename_i h; subst h; simp [rowsT]
  · simp
theorem pcheck_t {k : ByteArray} (h : validS k = true) : pcheckV (tV k) = 0 := pcheck_of (wrong_t k h) (by unfold tV; simp [depthV, depthVs]) (by unfold tV; simp [countV, countVs])
theorem psort_t {k : ByteArray} (h : validS k = true) : psortV (tV k) = tV k := (psort_eq (sort_leaf _ _ _ _) (once_of_wrong (wrong_t k h))).symm
theorem outT_t {k : ByteArray} (h : validS k = true) : outT [58] I0 (tV k) = Ru.quoteL k.data.toList := by
  unfold outT
  rw [psort_t h, tV, ft, if_neg (by decide), if_neg (by decide), if_neg (by decide), if_pos rfl]

/-- What is printed of an object, plain. -/
theorem obj_plain {b : Bool} {n : Int} {s : ByteArray} {l : List V} {ks : List ByteArray} (h : outE [58] I0 (.mk 5 b n s l ks) = 0) :
    ∃ (l' : List V) (ks' : List ByteArray), psortV (.mk 5 b n s l ks) = .mk 5 b n s l' ks' ∧ ks'.length = l'.length ∧ sizeV (.mk 5 b n s l' ks') = sizeV (.mk 5 b n s l ks) ∧
      outS [58] I0 (.mk 5 b n s l ks) = [123] ++ rowsT [] (fun i => keyT [58] (ks'.getD i ⟨#[]⟩) ((fts [58] I0 0 l').getD i [])) l'.length ++ [125] ∧
      (∀ i (h : i < l'.length), outE [58] I0 l'[i] = 0 ∧ outS [58] I0 l'[i] = (fts [58] I0 0 l').getD i []) ∧
      (∀ i (h : i < ks'.length), validS ks'[i] = true ∧ outE [58] I0 (tV ks'[i]) = 0 ∧ outS [58] I0 (tV ks'[i]) = Ru.quoteL ks'[i].data.toList) := by
  obtain ⟨h1, h2, h3⟩ := outE_yes h
  obtain ⟨hw, hd, hc⟩ := pcheck_zero h1
  have hs := sort_p (.mk 5 b n s l ks)
  have hsz := sort_size hs (once_of_wrong hw)
  have hsw := sort_wrong hs hw
  have hpy := sort_check hs h1
  rw [h3]
  have hT : outT [58] I0 (.mk 5 b n s l ks) = ft [58] I0 0 (psortV (.mk 5 b n s l ks)) := rfl
  rw [hT] at h2 ⊢
  generalize psortV (.mk 5 b n s l ks) = y at *
  cases hs with
  | mk _ _ _ _ _ _ l' ks' ps ho hl hsub hk =>
    have h0 := own_parts (wrong_iff.1 hsw.1 _ (self_in _))
    obtain ⟨⟨p1, p2, p3, p4, p5, p6, p7⟩, q2, q3, q4, q5⟩ := h0
    have hkl : ks'.length = l'.length := p6 rfl
    have hft : ft [58] I0 0 (.mk 5 b n s l' ks') = [123] ++ rowsT [] (fun i => keyT [58] (ks'.getD i ⟨#[]⟩) ((fts [58] I0 0 l').getD i [])) l'.length ++ [125] := by
      rw [ft, if_neg (by decide), if_neg (by decide), if_neg (by decide), if_neg (by decide), if_neg (by decide), fts_const]
      exact rowT_rows _ _ _ _ _
    rw [hft] at h2 ⊢
    simp only [List.length_append, List.length_singleton] at h2
    refine ⟨l', ks', rfl, hkl, hsz, rfl, fun i hi => ?_, fun i hi => ?_⟩
    · have hpart := hsub i hi
      have hlt : ps.getD i 0 < l.length := ord_lt ho (by omega)
      have hwp : wrongV (l.getD (ps.getD i 0) default) = 0 := wrong_iff.2 fun z hz => wrong_iff.1 hw z (part_in (getD_in hlt) z hz)
      have e : outT [58] I0 l'[i] = (fts [58] I0 0 l').getD i [] := by
        unfold outT
        rw [psort_self hpart hwp, fts_get [58] I0 0 l' i hi]
      have h4 : (keyT [58] (ks'.getD i ⟨#[]⟩) ((fts [58] I0 0 l').getD i [])).length ≤ (rowsT [] (fun i => keyT [58] (ks'.getD i ⟨#[]⟩) ((fts [58] I0 0 l').getD i [])) l'.length).length := rowsT_part [] (fun i => keyT [58] (ks'.getD i ⟨#[]⟩) ((fts [58] I0 0 l').getD i [])) l'.length i hi
      rw [keyT, List.length_append, List.length_append] at h4
      have h5 := out_ok (C := [58]) (I := I0) (x := l'[i]) (part_check (x := .mk 5 b n s l' ks') (List.getElem_mem hi) hpy) (by
        rw [e]
        omega)
      rw [e] at h5
      exact h5
    · have hv : validS ks'[i] = true := List.all_eq_true.1 q4 _ (List.getElem_mem hi)
      have h4 : (keyT [58] (ks'.getD i ⟨#[]⟩) ((fts [58] I0 0 l').getD i [])).length ≤ (rowsT [] (fun i => keyT [58] (ks'.getD i ⟨#[]⟩) ((fts [58] I0 0 l').getD i [])) l'.length).length := rowsT_part [] (fun i => keyT [58] (ks'.getD i ⟨#[]⟩) ((fts [58] I0 0 l').getD i [])) l'.length i (by omega)
      rw [keyT, List.length_append, getD_lt ks' i _ hi] at h4
      have h5 := out_ok (C := [58]) (I := I0) (pcheck_t hv) (by rw [outT_t hv]; omega)
      rw [outT_t hv] at h5
      exact ⟨hv, h5⟩
end Go.Proofs.YtllkcldckehipaaGreatDoor
