/-
  The broad text without blanks is the short one. Plain. · The statement on lines.
-/
import Derived.Test.YtllkcldckehipaaGreatDoorGk
import Derived.Test.YtllkcldckehipaaGreatDoorGt
import Derived.Test.YtllkcldckehipaaGreatDoorGs
set_option linter.unusedVariables false
namespace Go.Proofs.YtllkcldckehipaaGreatDoor
open Go.Lib

theorem strip_app (a b : List UInt8) : strip (a ++ b) = strip a ++ strip b := by unfold strip; rw [List.filter_append]
theorem strip_self {l : List UInt8} (h : ∀ c ∈ l, solid c = true) : strip l = l := by unfold strip; exact List.filter_eq_self.2 h
theorem u8of (x : Nat) (h : x < 256) : (x.toUInt8).toNat = x := by simp; omega
theorem solid_of {c : UInt8} (h : 33 ≤ c.toNat) : solid c = true := by
  have h1 : c ≠ 32 := fun e => by subst e; exact absurd h (by decide)
  have h2 : c ≠ 10 := fun e => by subst e; exact absurd h (by decide)
  simp [solid, h1, h2]
theorem enc_solid (r : Nat) (h : 33 ≤ r) : ∀ c ∈ encodeRune (r : Int), 33 ≤ c.toNat := by
  intro c hc
  unfold encodeRune at hc
  obtain ⟨x, hx, rfl⟩ := List.mem_map.1 hc
  have hb : 33 ≤ x ∧ x < 256 := by
    unfold encodeRuneZ at hx
    split at hx
    · simp only [List.mem_cons, List.not_mem_nil, or_false] at hx; omega
    · split at hx
      · simp only [List.mem_cons, List.not_mem_nil, or_false] at hx; omega
      · split at hx
        · simp only [List.mem_cons, List.not_mem_nil, or_false] at hx; omega
        · split at hx
          · simp only [List.mem_cons, List.not_mem_nil, or_false] at hx; omega
          · simp only [List.mem_cons, List.not_mem_nil, or_false] at hx; omega
  rw [u8of _ (by omega)]
  omega
theorem hexd_solid (n : Nat) (h : n < 16) : 33 ≤ (Ru.hexd n).toNat := by
  have : ∀ n : Fin 16, 33 ≤ (Ru.hexd n.val).toNat := by decide
  exact this ⟨n, h⟩
theorem short_solid (r : Nat) (h : Ru.shortN r ≠ 0) : 33 ≤ Ru.shortN r ∧ Ru.shortN r < 256 := by
  unfold Ru.shortN at *
  repeat' split
  all_goals first | omega | (exfalso; simp_all; done) | decide
theorem qRune_solid (r : Nat) (h : r ≠ 32) : ∀ c ∈ Ru.qRune r, 33 ≤ c.toNat := by
  intro c hc
  unfold Ru.qRune at hc
  by_cases h1 : Ru.shortN r ≠ 0
  · rw [if_pos h1] at hc
    have h2 := short_solid r h1
    simp only [List.mem_cons, List.not_mem_nil, or_false] at hc
    rcases hc with rfl | rfl
    · decide
    · rw [u8of _ h2.2]; exact h2.1
  · rw [if_neg h1] at hc
    by_cases h2 : r < 32
    · rw [if_pos h2] at hc
      simp only [List.mem_cons, List.not_mem_nil, or_false] at hc
      rcases hc with rfl | rfl | rfl | rfl | rfl | rfl
      · decide
      · decide
      · decide
      · decide
      · exact hexd_solid _ (by omega)
      · exact hexd_solid _ (by omega)
    · rw [if_neg h2] at hc
      exact enc_solid r (by omega) c hc
/-- Which runes of a text are blanks: none, if no byte is. -/
theorem steps_noblank {l : List UInt8} (h : validD l = true) : (∀ c ∈ l, c ≠ 32) → ∀ p, ∀ x ∈ stepsP p l, x.2 ≠ 32 := by
  refine valid_ind (P := fun l => (∀ c ∈ l, c ≠ 32) → ∀ p, ∀ x ∈ stepsP p l, x.2 ≠ 32) (fun _ p x hx => by simp [stepsP_nil] at hx) ?_ l.length l (Nat.le_refl _) h
  intro l h0 hb _ ih hc p x hx
  rw [stepsP_good p h0 hb] at hx
  rcases List.mem_cons.1 hx with rfl | hx
  · intro e
    have e1 := encode_decode l h0 (bad_false hb)
    have e : (decodeL l).1 = 32 := e
    rw [e] at e1
    have e2 : encodeRune ((32 : Nat) : Int) = [32] := by decide
    rw [e2] at e1
    have : (32 : UInt8) ∈ l := List.mem_of_mem_take (by rw [← e1]; simp)
    exact hc 32 this rfl
  · exact ih (fun c hc' => hc c (List.mem_of_mem_drop hc')) _ x hx
theorem quote_solid {l : List UInt8} (h : validD l = true) (hc : ∀ c ∈ l, c ≠ 32) : strip (Ru.quoteL l) = Ru.quoteL l := strip_self fun c hm => by
  unfold Ru.quoteL at hm
  simp only [List.mem_append, List.mem_cons, List.mem_flatMap, List.not_mem_nil, or_false] at hm
  rcases hm with (rfl | ⟨x, hx, hm⟩) | rfl
  · decide
  · exact solid_of (qRune_solid x.2 (steps_noblank h hc 0 x hx) c hm)
  · decide
theorem digs_solid : ∀ (n : Nat), ∀ c ∈ Nu.digs n, 33 ≤ c.toNat := by
  intro n
  induction n using Nat.strongRecOn with
  | _ n ih =>
    intro c hc
    by_cases h : n < 10
    · rw [Nu.digs_lt h] at hc
      simp only [List.mem_cons, List.not_mem_nil, or_false] at hc
      subst hc
      simp; omega
    · rw [Nu.digs_ge h] at hc
      rcases List.mem_append.1 hc with hc | hc
      · exact ih (n / 10) (by omega) c hc
      · simp only [List.mem_cons, List.not_mem_nil, or_false] at hc
        subst hc
        simp; omega
theorem txt_solid (n : Int) : strip (Nu.txt n) = Nu.txt n := strip_self fun c hc => by
  unfold Nu.txt at hc
  split at hc
  · split at hc
    · rcases List.mem_cons.1 hc with rfl | hc
      · decide
      · exact solid_of (digs_solid _ c hc)
    · exact solid_of (digs_solid _ c hc)
  · cases hc
theorem rowsT_strip (A : List UInt8) (T T' : Nat → List UInt8) (hA : strip A = []) : ∀ n, (∀ i, i < n → strip (T i) = T' i) → strip (rowsT A T n) = rowsT [] T' n
  | 0, _ => rfl
  | n + 1, h => by
    rw [rowsT, rowsT, strip_app, strip_app, strip_app, rowsT_strip A T T' hA n (fun i hi => h i (by omega)), h n (by omega), hA]
    congr 2
    split <;> decide
theorem rowT_strip (A0 A1 : List UInt8) (o c : UInt8) (n : Nat) (T T' : Nat → List UInt8) (h0 : strip A0 = []) (h1 : strip A1 = []) (ho : solid o = true) (hc : solid c = true) (h : ∀ i, i < n → strip (T i) = T' i) : strip (rowT A0 A1 o c n T) = rowT [] [] o c n T' := by
  unfold rowT
  rw [strip_app, strip_app, strip_self (l := [o]) (by simpa using ho), strip_self (l := [c]) (by simpa using hc)]
  congr 2
  split
  · rfl
  · rw [strip_app, h0, rowsT_strip A1 T T' h1 n h]
theorem ft_strip {C C' : List UInt8} {I : Nat → List UInt8} (hC : strip C = C') (hI : ∀ d, strip (I d) = []) : ∀ (N : Nat) (x : V) (d d' : Nat), depthV x ≤ N → okP x → (∀ z ∈ walkV x, noB z) → strip (ft C I d x) = ft C' I0 d' x
  | 0, x, d, d', hN, _, _ => by obtain ⟨_, _, _, _, _, _⟩ := x; unfold depthV at hN; omega
  | N + 1, x, d, d', hN, hok, hnb => by
    have hq := okP_self hok
    have hb := hnb x (self_in x)
    have hpart : ∀ y ∈ x.list, strip (ft C I (d + 1) y) = ft C' I0 (d' + 1) y := fun y hy => ft_strip hC hI N y (d + 1) (d' + 1) (by
      obtain ⟨k, b, n, s, l, ks⟩ := x
      have := depth_part (l := l) hy
      unfold depthV at hN
      omega) (okP_part hok hy) (fun z hz => hnb z (part_in hy z hz))
    obtain ⟨k, b, n, s, l, ks⟩ := x
    obtain ⟨⟨hk0, hk5⟩, q1, q2, q3, q4, q5⟩ := hq
    obtain ⟨n1, n2⟩ := hb
    simp only [V.kind, V.text, V.list, V.keys] at hk0 hk5 q1 q2 q3 q4 q5 n1 n2 hpart
    have hparts : ∀ i, i < l.length → strip ((fts C I (d + 1) l).getD i []) = (fts C' I0 (d' + 1) l).getD i [] := fun i hi => by
      rw [fts_get C I (d + 1) l i hi, fts_get C' I0 (d' + 1) l i hi]
      exact hpart _ (List.getElem_mem hi)
    rw [ft, ft]
    split
    · decide
    · split
      · cases b <;> decide
      · split
        · exact txt_solid n
        · split
          · exact quote_solid q1 n1
          · split
            · exact rowT_strip _ _ _ _ _ _ _ (hI d) (hI (d + 1)) (by decide) (by decide) hparts
            · have hk : k = 5 := by omega
              refine rowT_strip _ _ _ _ _ _ _ (hI d) (hI (d + 1)) (by decide) (by decide) (fun i hi => ?_)
              have hik : i < ks.length := by rw [q4 hk]; exact hi
              show strip (keyT C (ks.getD i ⟨#[]⟩) ((fts C I (d + 1) l).getD i [])) = keyT C' (ks.getD i ⟨#[]⟩) ((fts C' I0 (d' + 1) l).getD i [])
              rw [keyT, keyT, strip_app, strip_app, hC, hparts i hi, getD_lt ks i _ hik, quote_solid (q5 _ (List.getElem_mem hik)).1 (n2 _ (List.getElem_mem hik))]
/-- No blank in a value, none in the sorted one. -/
theorem sort_noB {x y : V} (h : SortR x y) : onceV x → (∀ z ∈ walkV x, noB z) → ∀ z ∈ walkV y, noB z := by
  induction h with
  | mk k b n s l ks l' ks' ps ho hl hs hk ih =>
    intro ho2 hx z hz
    have hpl : ps.length = l.length := by have := ho.1.length_eq; simpa [V.list] using this
    have hkp := keys_perm ho hk (ho2 _ (self_in _)).2
    rw [walkV] at hz
    rcases List.mem_cons.1 hz with rfl | hz
    · have h1 := hx _ (self_in _)
      exact ⟨h1.1, fun q hq => h1.2 q (hkp.mem_iff.1 hq)⟩
    · obtain ⟨y, hy, hz⟩ := walkVs_mem hz
      obtain ⟨i, hi, rfl⟩ := List.getElem_of_mem hy
      have hp : ps.getD i 0 < l.length := ord_lt ho (by omega)
      exact ih i hi (fun q hq => ho2 q (part_in (getD_in hp) q hq)) (fun q hq => hx q (part_in (getD_in hp) q hq)) z hz
end Go.Proofs.YtllkcldckehipaaGreatDoor

set_option linter.unusedVariables false
namespace Go.Proofs.YtllkcldckehipaaGreatDoor
open Go.RowKit Go.Shelf

theorem strip_I2 (d : Nat) : strip (I2 d) = [] := by
  unfold strip I2
  rw [List.filter_eq_nil_iff]
  intro c hc
  rcases List.mem_cons.1 hc with rfl | hc
  · decide
  · rw [List.mem_replicate] at hc
    rw [hc.2]
    decide
theorem broad_short {x : V} (hM : sizeV x ≤ 1000000) (hnb : ∀ z ∈ walkV x, noB z) (h1 : outE [58] I0 x = 0) (h2 : outE [58, 32] I2 x = 0) : strip (outS [58, 32] I2 x) = outS [58] I0 x ∧ outS [58] I0 x ≠ [] := by
  obtain ⟨hc, _, e1⟩ := outE_yes h1
  obtain ⟨_, _, e2⟩ := outE_yes h2
  rw [e1, e2]
  refine ⟨?_, outT_ne hc hM⟩
  have hw := (pcheck_zero hc).1
  have hs := sort_p x
  have hsw := sort_wrong hs hw
  have hsz : sizeV (psortV x) ≤ 1000000 := by rw [sort_size hs (once_of_wrong hw)]; exact hM
  unfold outT
  exact ft_strip (C := [58, 32]) (C' := [58]) (I := I2) (by decide) strip_I2 _ (psortV x) 0 0 (Nat.le_refl _) (okP_of hsw.1 hsz) (sort_noB hs (once_of_wrong hw) hnb)
theorem outE_of {C : List UInt8} {I : Nat → List UInt8} {x : V} (h : pcheckV x = 0) : outE C I x = 0 ∨ outE C I x = 3 := by
  have h4 : ¬ pcheckV x ≠ 0 := by rw [h]; simp
  unfold outE
  rw [if_neg h4]
  split
  · exact .inr rfl
  · exact .inl rfl
theorem linesLaw_any (v : Value) (x : V) (w : World) (hE : Env w) (h : isV w x v) :
    Calls Tryz.prog 5 #[v] w fun e w' => e = .returned (.bool true) ∧ Below w.heap.size w w' := by
  refine linesLaw_walk x v w h ⟨(outS [58] I0 x).toArray⟩ ⟨(outS [58, 32] I2 x).toArray⟩ (outE [58] I0 x) (outE [58, 32] I2 x)
    (Lib.hid fun w1 hK => wakes5_any w1 (hE.kb hK)) (Lib.hid fun w1 hK => great_any x v w1 (isV_below hK h))
    (Lib.hid fun hg w1 hK => print_any x v w1 (hE.kb hK) (by have := (great_no hg).1; omega) (great_fine hg) (isV_below hK h))
    (Lib.hid fun hg w1 hK => broad_any x v w1 (hE.kb hK) (by have := (great_no hg).1; omega) (great_fine hg) (isV_below hK h))
    (Lib.hid fun hne => ?_) ?_ (Lib.hid fun hg hnb h1 h2 => broad_short (by have := (great_no hg).1; omega) hnb h1 h2)
  · by_cases hc : pcheckV x = 0
    · rcases outE_of (C := [58]) (I := I0) hc with h1 | h1
      · right
        rcases outE_of (C := [58, 32]) (I := I2) hc with h2 | h2
        · exact absurd hne (by rw [h1, h2]; simp)
        · exact h2
      · left
        rw [h1]
        decide
    · left
      unfold outE
      rw [if_pos hc]
      exact hc
  · rw [size_list]
    have := outS_len (C := [58, 32]) (I := I2) x
    omega
end Go.Proofs.YtllkcldckehipaaGreatDoor
