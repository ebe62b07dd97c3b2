/-
  The reference's short and broad texts, of lists and objects.
-/
import Derived.Test.YtllkcldckehipaaGreatDoorIB
import Derived.Test.YtllkcldckehipaaGreatDoorHE
import Derived.Test.YtllkcldckehipaaGreatDoorHG
set_option linter.unusedVariables false
set_option linter.unusedSimpArgs false
namespace Go.Proofs.YtllkcldckehipaaGreatDoor
open Go.RowKit Go.Shelf

/-- A sign, and the first parts. -/
def rowS (o : UInt8) (A : List UInt8) (T : Nat → List UInt8) (j : Nat) : ByteArray := tx (o :: rowsT A T j)
theorem rowS_zero (o : UInt8) (A : List UInt8) (T : Nat → List UInt8) : rowS o A T 0 = ⟨#[o]⟩ := rfl
theorem rowS_one (o : UInt8) (A : List UInt8) (T : Nat → List UInt8) : rowS o A T 1 = rowS o A T 0 ++ tx (A ++ T 0) := by
  unfold rowS
  rw [tx_app]
  simp [rowsT]
theorem rowS_succ (o : UInt8) (A : List UInt8) (T : Nat → List UInt8) (j : Nat) (h : 0 < j) : rowS o A T (j + 1) = rowS o A T j ++ ⟨#[44]⟩ ++ tx (A ++ T j) := by
  unfold rowS
  rw [show (⟨#[44]⟩ : ByteArray) = tx [44] from rfl, tx_app, tx_app, rowsT, if_neg (by omega)]
  simp
theorem rowS_size (o : UInt8) (A : List UInt8) (T : Nat → List UInt8) : ∀ (n j : Nat), j ≤ n → (rowsT A T j).length ≤ (rowsT A T n).length
  | 0, j, h => by obtain rfl : j = 0 := by omega
                  exact Nat.le_refl _
  | n + 1, j, h => by
    by_cases e : j = n + 1
    · subst e; exact Nat.le_refl _
    · have := rowS_size o A T n j (by omega)
      rw [rowsT, List.length_append]
      omega
theorem tx_size (l : List UInt8) : (tx l).size = l.length := Nu.size_arr _
theorem rowT_tx (A0 A1 : List UInt8) (o c : UInt8) (n : Nat) (T : Nat → List UInt8) (h : 0 < n) : tx (rowT A0 A1 o c n T) = rowS o A1 T n ++ tx (A0 ++ [c]) := by
  unfold rowS rowT
  rw [tx_app, if_neg (by omega)]
  simp
theorem leaf_ft {C : List UInt8} {I : Nat → List UInt8} {d : Nat} {k : Int} {b : Bool} {n : Int} {s : ByteArray} {l : List V} {ks : List ByteArray} (h0 : 0 ≤ k) (h4 : k ≠ 4) (h5 : k ≠ 5) (h6 : k ≤ 5) : ft C I d (.mk k b n s l ks) = leafT k b n s := by
  rw [ft]
  unfold leafT
  by_cases e0 : k = 0
  · subst e0; rfl
  · rw [if_neg e0]
    by_cases e1 : k = 1
    · rw [if_pos e1, if_pos e1]
    · rw [if_neg e1, if_neg e1]
      by_cases e2 : k = 2
      · rw [if_pos e2, if_pos e2]
      · rw [if_neg e2, if_neg e2]
        have e3 : k = 3 := by omega
        rw [if_pos e3, if_pos e3]
/-- What the reference's short text of a part is. -/
def ShC (d : Nat) (x : V) : Prop := ∀ (v : Value) (w : World), isV w x v → Calls Tryz.prog 23 #[v] w fun e w' => e = .returned (.string (tx (ft [58] I0 d x))) ∧ Below w.heap.size w w'
/-- Blanks ahead of a part d deep. -/
def inD (d : Nat) : ByteArray := tx (List.replicate (2 * d) 32)
theorem inD_succ (d : Nat) : inD (d + 1) = inD d ++ ⟨#[32, 32]⟩ := by
  unfold inD
  rw [show (⟨#[32, 32]⟩ : ByteArray) = tx [32, 32] from rfl, tx_app, show ([32, 32] : List UInt8) = List.replicate 2 32 from rfl, List.replicate_append_replicate]
  rfl
theorem inD_size (d : Nat) : (inD d).size = 2 * d := by
  unfold inD
  rw [tx_size, List.length_replicate]
theorem tx_I2 (d : Nat) (r : List UInt8) : tx (I2 d ++ r) = ⟨#[10]⟩ ++ inD d ++ tx r := by
  unfold I2 inD
  rw [show (⟨#[10]⟩ : ByteArray) = tx [10] from rfl, tx_app, tx_app]
  simp
/-- What the reference's broad text of a part is. -/
def BrC (d : Nat) (x : V) : Prop := ∀ (v : Value) (w : World), isV w x v → Calls Tryz.prog 26 #[v, .string (inD d)] w fun e w' => e = .returned (.string (tx (ft [58, 32] I2 d x))) ∧ Below w.heap.size w w'
theorem tx_key (C : List UInt8) (k : ByteArray) (t : List UInt8) : tx (keyT C k t) = tx (Ru.quoteL k.data.toList) ++ tx C ++ tx t := by
  unfold keyT
  rw [tx_app, tx_app, List.append_assoc]
theorem ba_assoc (a b c : ByteArray) : a ++ (b ++ c) = a ++ b ++ c := by
  apply ByteArray.ext
  simp [ByteArray.data_append, Array.append_assoc]
theorem rowsT_len (A : List UInt8) (T : Nat → List UInt8) : ∀ n, n ≤ (rowsT A T n).length + 1
  | 0 => by omega
  | n + 1 => by
    have := rowsT_len A T n
    rw [rowsT, List.length_append, List.length_append]
    by_cases e : n = 0
    · subst e; simp
    · rw [if_neg e]; simp; omega

set_option maxRecDepth 100000 in
set_option maxHeartbeats 8000000 in
theorem rshort4 (d : Nat) (b : Bool) (n : Int) (s : ByteArray) (l : List V) (ks : List ByteArray) (v : Value) (w : World) (h : isV w (.mk 4 b n s l ks) v) (hb : (ft [58] I0 d (.mk 4 b n s l ks)).length ≤ 1000000000) (IH : ∀ i (hi : i < l.length), ShC (d + 1) l[i]) :
    Calls Tryz.prog 23 #[v] w fun e w' => e = .returned (.string (tx (ft [58] I0 d (.mk 4 b n s l ks)))) ∧ Below w.heap.size w w' := by
  have hF : ft [58] I0 d (.mk 4 b n s l ks) = rowT [] [] 91 93 l.length (fun i => (fts [58] I0 (d + 1) l).getD i []) := by
    rw [ft, if_neg (by decide), if_neg (by decide), if_neg (by decide), if_neg (by decide), if_pos rfl]; rfl
  rw [hF] at hb ⊢
  have HIH : Hid (∀ i (hi : i < l.length) u W, isV W l[i] u → Calls Tryz.prog 23 #[u] W fun e w' => e = .returned (.string (tx ((fts [58] I0 (d + 1) l).getD i []))) ∧ Below W.heap.size W w') := Lib.hid fun i hi u W hu => by
    rw [fts_get _ _ _ l i hi]
    exact IH i hi u W hu
  obtain ⟨G, hG⟩ : ∃ G : Nat → List UInt8, (fun i => (fts [58] I0 (d + 1) l).getD i []) = G := ⟨_, rfl⟩
  have hGi : ∀ i, (fts [58] I0 (d + 1) l).getD i [] = G i := fun i => congrFun hG i
  obtain ⟨T, hT⟩ : ∃ T : Nat → List UInt8, (fun i => (fts [58] I0 (d + 1) l).getD i []) = T := ⟨_, rfl⟩
  have hTG : ∀ i, tx (T i) = tx (G i) := fun i => by rw [← hT, ← hG]
  have HIT : Hid (∀ i (hi : i < l.length) u W, isV W l[i] u → Calls Tryz.prog 23 #[u] W fun e w' => e = .returned (.string (tx (G i))) ∧ Below W.heap.size W w') := Lib.hid fun i hi u W hu => by have := HIH.out i hi u W hu; rw [hGi] at this; exact this
  rw [hT] at hb ⊢
  clear HIH hF IH hT hG hGi
  unfold isV at h
  obtain ⟨lv, kv, rfl, -, -, -, ⟨a, c, ⟨o, rfl, hc1, hc2, ho⟩, hvs⟩, ⟨a2, c2, ⟨o2, rfl, hc3, hc4, ho2⟩, hks⟩⟩ := h
  have HO := Lib.hid ho
  have HO2 := Lib.hid ho2
  clear ho ho2
  obtain ⟨W1, hW1⟩ : ∃ W1, w.alloc (.cells #[.int .i8 4, .bool b, .int .i64 n, .string s, .slice o l.length c, .slice o2 ks.length c2] 26) = W1 := ⟨_, rfl⟩
  have hb1 : KB w W1 := by rw [← hW1]; exact kbA
  have hn1 : W1.heap[w.heap.size]? = some (.cells #[.int .i8 4, .bool b, .int .i64 n, .string s, .slice o l.length c, .slice o2 ks.length c2] 26 (0, 0)) := by rw [← hW1]; exact World.alloc_heap_new _ _
  have HC : Hid (∀ W, KB W1 W → W.cell? ⟨w.heap.size, 0, none⟩ = some (.int .i8 4) ∧ W.cell? ⟨w.heap.size, 1, none⟩ = some (.bool b) ∧ W.cell? ⟨w.heap.size, 2, none⟩ = some (.int .i64 n) ∧ W.cell? ⟨w.heap.size, 3, none⟩ = some (.string s) ∧ W.cell? ⟨w.heap.size, 4, none⟩ = some (.slice o l.length c) ∧ W.cell? ⟨w.heap.size, 5, none⟩ = some (.slice o2 ks.length c2)) := Lib.hid fun W hK =>
    six_cells ((Below.block hK _ (Array.getElem?_eq_some_iff.1 hn1).1).trans hn1)
  have HB1 := Lib.hid hb1
  have HVS := Lib.hid hvs
  unfold maxLen at hc2 hc4
  have hl0 : l.length ≤ 1000000000 := by
    have h2 : (rowT [] [] 91 93 l.length T).length ≤ 1000000000 := hb
    unfold rowT at h2
    split at h2
    · omega
    · simp only [List.length_append, List.length_cons, List.length_nil] at h2
      have := rowsT_len [] T l.length
      omega
  have HSZ : Hid (∀ j, j ≤ l.length → (rowS 91 [] T j).size ≤ 1000000001) := Lib.hid fun j hj => by
    unfold rowS
    rw [tx_size, List.length_cons]
    have h2 : (rowT [] [] 91 93 l.length T).length ≤ 1000000000 := hb
    have := rowS_size 91 [] T l.length j hj
    unfold rowT at h2
    split at h2
    · rename_i e
      obtain rfl : j = 0 := by omega
      simp [rowsT]
    · simp only [List.length_append, List.length_cons, List.length_nil] at h2
      omega
  obtain ⟨R, hR⟩ : ∃ R, tx (rowT [] [] 91 93 l.length T) = R := ⟨_, rfl⟩
  have HR : Hid (R = rowS 91 [] T l.length ++ ⟨#[93]⟩) := Lib.hid (by
    rw [← hR]
    rcases Nat.eq_zero_or_pos l.length with e | e
    · rw [e]; rfl
    · exact rowT_tx [] [] 91 93 _ T e)
  rw [hR]
  obtain ⟨r0, r1, r2, r3, r4, r5⟩ := HC.out W1 (Below.refl _ _)
  clear hvs hn1 hb1 hb hR hks
  go_enter Tryz.func23, Tryz.ntmps23
  go_wp2_with fail
  try rw [hW1]
  clear hW1 r0 r1 r2 r3 r4 r5
  go_loopw [3, 4] (fun ov iv wr => ∃ j : Nat, j ≤ l.length ∧ iv = .int .i64 j ∧ ov = .string (rowS 91 [] T j) ∧ Hid (KB W1 wr)) (fun _ iv _ => l.length - (intOf iv).toNat)
  case atStart => exact ⟨0, Nat.zero_le _, rfl, rfl, Lib.hid (Below.refl _ _)⟩
  case round =>
    obtain ⟨j, hj, rfl, rfl, HK⟩ := hrel
    obtain ⟨r0, r1, r2, r3, r4, r5⟩ := HC.out wr HK.out
    by_cases hlt : j < l.length
    · obtain rfl := HO.out (by omega)
      obtain ⟨zk, zb, zn, zs, zo, zm, zc, zo2, zm2, zc2, g0, g1, g2, g3, g4, g5, hx⟩ := isVs_sl l a j hlt (isVs_keep (cell_below (HB1.out.trans (Below.mono HK.out HB1.out.size))) l a HVS.out)
      have b1 : decide ((j : Int) < (l.length : Int)) = true := decide_eq_true (by omega)
      have hs0 := HSZ.out j hj
      have hs1 := HSZ.out (j + 1) (by omega)
      have HI := Lib.hid (HIT.out j hlt _ wr hx)
      have HE0 : Hid (rowS 91 [] T (j + 1) = if 0 < j then ((rowS 91 [] T j ++ ⟨#[44]⟩) ++ tx (G j)) else (rowS 91 [] T j ++ tx (G j))) := Lib.hid (by
        rcases Nat.eq_zero_or_pos j with e | e
        · rw [if_neg (by omega)]
          have h2 : rowS 91 [] T (j + 1) = rowS 91 [] T j ++ tx ([] ++ T j) := by subst e; exact rowS_one _ _ T
          rw [h2]
          rw [List.nil_append]
          rw [hTG j]
          try simp only [ba_assoc]
        · rw [if_pos e, rowS_succ _ _ T j e]
          rw [List.nil_append]
          rw [hTG j]
          try simp only [ba_assoc])
      have hts : (tx (G j)).size ≤ 1000000001 := by
        have h2 := hs1
        rw [HE0.out] at h2
        split at h2
        · simp only [ByteArray.size_append] at h2; omega
        · simp only [ByteArray.size_append] at h2; omega
      obtain ⟨t, ht⟩ : ∃ t, tx (G j) = t := ⟨_, rfl⟩
      obtain ⟨q, hq⟩ : ∃ q, rowS 91 [] T j = q := ⟨_, rfl⟩
      obtain ⟨q', hq'⟩ : ∃ q, rowS 91 [] T (j + 1) = q := ⟨_, rfl⟩
      rw [ht] at HI hts
      rw [ht, hq, hq'] at HE0
      have HQ := Lib.hid hq'
      rw [hq] at hs0 ⊢
      by_cases h0 : 0 < j
      · have HE := Lib.hid (HE0.out.trans (if_pos h0))
        have b2 : decide ((0 : Int) < (j : Int)) = true := decide_eq_true (by omega)
        have b3 : decide (0 < j) = true := decide_eq_true h0
        clear ht hq hq' hx hs1 HE0 h0 HIT
        go_wp2_with (go_at_call 23; refine HI.out.mono ?_; rintro e w5 ⟨rfl, hb5⟩)
        go_roundw
        case rel => exact ⟨j + 1, by omega, by go_num, by rw [HQ.out, HE.out], Lib.hid (HK.out.trans (hb5.mono HK.out.size))⟩
        case measure => simp [intOf]; omega
      · have HE := Lib.hid (HE0.out.trans (if_neg h0))
        have b2 : decide ((0 : Int) < (j : Int)) = false := decide_eq_false (by omega)
        have b3 : decide (0 < j) = false := decide_eq_false h0
        clear ht hq hq' hx hs1 HE0 h0 HIT
        go_wp2_with (go_at_call 23; refine HI.out.mono ?_; rintro e w5 ⟨rfl, hb5⟩)
        go_roundw
        case rel => exact ⟨j + 1, by omega, by go_num, by rw [HQ.out, HE.out], Lib.hid (HK.out.trans (hb5.mono HK.out.size))⟩
        case measure => simp [intOf]; omega
    · obtain rfl : j = l.length := by omega
      have hs0 := HSZ.out l.length hj
      have b1 : decide ((l.length : Int) < (l.length : Int)) = false := decide_eq_false (by omega)
      obtain ⟨q, hq⟩ : ∃ q, rowS 91 [] T l.length = q := ⟨_, rfl⟩
      rw [hq] at HR hs0 ⊢
      clear hq
      go_wp2_with fail
      go_ret
      exact ⟨by rw [HR.out]; rfl, HB1.out.trans (Below.mono HK.out HB1.out.size)⟩
set_option maxRecDepth 100000 in
set_option maxHeartbeats 8000000 in
theorem rshort5 (d : Nat) (b : Bool) (n : Int) (s : ByteArray) (l : List V) (ks : List ByteArray) (hkl : ks.length = l.length) (hkv : ∀ q ∈ ks, validS q = true ∧ q.size ≤ 20000) (v : Value) (w : World) (h : isV w (.mk 5 b n s l ks) v) (hb : (ft [58] I0 d (.mk 5 b n s l ks)).length ≤ 1000000000) (IH : ∀ i (hi : i < l.length), ShC (d + 1) l[i]) :
    Calls Tryz.prog 23 #[v] w fun e w' => e = .returned (.string (tx (ft [58] I0 d (.mk 5 b n s l ks)))) ∧ Below w.heap.size w w' := by
  have hF : ft [58] I0 d (.mk 5 b n s l ks) = rowT [] [] 123 125 l.length (fun i => keyT [58] (ks.getD i ⟨#[]⟩) ((fts [58] I0 (d + 1) l).getD i [])) := by
    rw [ft, if_neg (by decide), if_neg (by decide), if_neg (by decide), if_neg (by decide), if_neg (by decide)]; rfl
  rw [hF] at hb ⊢
  have HIH : Hid (∀ i (hi : i < l.length) u W, isV W l[i] u → Calls Tryz.prog 23 #[u] W fun e w' => e = .returned (.string (tx ((fts [58] I0 (d + 1) l).getD i []))) ∧ Below W.heap.size W w') := Lib.hid fun i hi u W hu => by
    rw [fts_get _ _ _ l i hi]
    exact IH i hi u W hu
  obtain ⟨G, hG⟩ : ∃ G : Nat → List UInt8, (fun i => (fts [58] I0 (d + 1) l).getD i []) = G := ⟨_, rfl⟩
  have hGi : ∀ i, (fts [58] I0 (d + 1) l).getD i [] = G i := fun i => congrFun hG i
  obtain ⟨T, hT⟩ : ∃ T : Nat → List UInt8, (fun i => keyT [58] (ks.getD i ⟨#[]⟩) ((fts [58] I0 (d + 1) l).getD i [])) = T := ⟨_, rfl⟩
  have hTG : ∀ i (hi : i < ks.length), tx (T i) = tx (Ru.quoteL ks[i].data.toList) ++ ⟨#[58]⟩ ++ tx (G i) := fun i hi => by rw [← hT, ← hG, ← getD_lt ks i ⟨#[]⟩ hi]; exact tx_key _ _ _
  have HIT : Hid (∀ i (hi : i < l.length) u W, isV W l[i] u → Calls Tryz.prog 23 #[u] W fun e w' => e = .returned (.string (tx (G i))) ∧ Below W.heap.size W w') := Lib.hid fun i hi u W hu => by have := HIH.out i hi u W hu; rw [hGi] at this; exact this
  rw [hT] at hb ⊢
  clear HIH hF IH hT hG hGi
  have HKL := Lib.hid hkl
  clear hkl
  unfold isV at h
  obtain ⟨lv, kv, rfl, -, -, -, ⟨a, c, ⟨o, rfl, hc1, hc2, ho⟩, hvs⟩, ⟨a2, c2, ⟨o2, rfl, hc3, hc4, ho2⟩, hks⟩⟩ := h
  have HO := Lib.hid ho
  have HO2 := Lib.hid ho2
  clear ho ho2
  obtain ⟨W1, hW1⟩ : ∃ W1, w.alloc (.cells #[.int .i8 5, .bool b, .int .i64 n, .string s, .slice o l.length c, .slice o2 ks.length c2] 26) = W1 := ⟨_, rfl⟩
  have hb1 : KB w W1 := by rw [← hW1]; exact kbA
  have hn1 : W1.heap[w.heap.size]? = some (.cells #[.int .i8 5, .bool b, .int .i64 n, .string s, .slice o l.length c, .slice o2 ks.length c2] 26 (0, 0)) := by rw [← hW1]; exact World.alloc_heap_new _ _
  have HC : Hid (∀ W, KB W1 W → W.cell? ⟨w.heap.size, 0, none⟩ = some (.int .i8 5) ∧ W.cell? ⟨w.heap.size, 1, none⟩ = some (.bool b) ∧ W.cell? ⟨w.heap.size, 2, none⟩ = some (.int .i64 n) ∧ W.cell? ⟨w.heap.size, 3, none⟩ = some (.string s) ∧ W.cell? ⟨w.heap.size, 4, none⟩ = some (.slice o l.length c) ∧ W.cell? ⟨w.heap.size, 5, none⟩ = some (.slice o2 ks.length c2)) := Lib.hid fun W hK =>
    six_cells ((Below.block hK _ (Array.getElem?_eq_some_iff.1 hn1).1).trans hn1)
  have HB1 := Lib.hid hb1
  have HVS := Lib.hid hvs
  unfold maxLen at hc2 hc4
  have HKS : Hid (∀ i (hi : i < ks.length) W, KB w W → W.cell? (a2.add i) = some (.string ks[i])) := Lib.hid fun i hi W hK => cell_below hK _ _ (hks i hi).1
  have hl0 : l.length ≤ 1000000000 := by
    have h2 : (rowT [] [] 123 125 l.length T).length ≤ 1000000000 := hb
    unfold rowT at h2
    split at h2
    · omega
    · simp only [List.length_append, List.length_cons, List.length_nil] at h2
      have := rowsT_len [] T l.length
      omega
  have HSZ : Hid (∀ j, j ≤ l.length → (rowS 123 [] T j).size ≤ 1000000001) := Lib.hid fun j hj => by
    unfold rowS
    rw [tx_size, List.length_cons]
    have h2 : (rowT [] [] 123 125 l.length T).length ≤ 1000000000 := hb
    have := rowS_size 123 [] T l.length j hj
    unfold rowT at h2
    split at h2
    · rename_i e
      obtain rfl : j = 0 := by omega
      simp [rowsT]
    · simp only [List.length_append, List.length_cons, List.length_nil] at h2
      omega
  obtain ⟨R, hR⟩ : ∃ R, tx (rowT [] [] 123 125 l.length T) = R := ⟨_, rfl⟩
  have HR : Hid (R = rowS 123 [] T l.length ++ ⟨#[125]⟩) := Lib.hid (by
    rw [← hR]
    rcases Nat.eq_zero_or_pos l.length with e | e
    · rw [e]; rfl
    · exact rowT_tx [] [] 123 125 _ T e)
  rw [hR]
  obtain ⟨r0, r1, r2, r3, r4, r5⟩ := HC.out W1 (Below.refl _ _)
  clear hvs hn1 hb1 hb hR hks
  go_enter Tryz.func23, Tryz.ntmps23
  go_wp2_with fail
  try rw [hW1]
  clear hW1 r0 r1 r2 r3 r4 r5
  go_loopw [3, 4] (fun ov iv wr => ∃ j : Nat, j ≤ l.length ∧ iv = .int .i64 j ∧ ov = .string (rowS 123 [] T j) ∧ Hid (KB W1 wr)) (fun _ iv _ => l.length - (intOf iv).toNat)
  case atStart => exact ⟨0, Nat.zero_le _, rfl, rfl, Lib.hid (Below.refl _ _)⟩
  case round =>
    obtain ⟨j, hj, rfl, rfl, HK⟩ := hrel
    obtain ⟨r0, r1, r2, r3, r4, r5⟩ := HC.out wr HK.out
    by_cases hlt : j < l.length
    · obtain rfl := HO.out (by omega)
      obtain ⟨zk, zb, zn, zs, zo, zm, zc, zo2, zm2, zc2, g0, g1, g2, g3, g4, g5, hx⟩ := isVs_sl l a j hlt (isVs_keep (cell_below (HB1.out.trans (Below.mono HK.out HB1.out.size))) l a HVS.out)
      have b1 : decide ((j : Int) < (l.length : Int)) = true := decide_eq_true (by omega)
      have hs0 := HSZ.out j hj
      have hs1 := HSZ.out (j + 1) (by omega)
      have hjk : j < ks.length := by have := HKL.out; omega
      obtain rfl := HO2.out (by omega)
      have gk := HKS.out j hjk wr (HB1.out.trans (Below.mono HK.out HB1.out.size))
      have HQU : Hid (∀ W, Calls Tryz.prog 40 #[.string ks[j]] W fun e w' => e = .returned (.string (tx (Ru.quoteL ks[j].data.toList))) ∧ Below W.heap.size W w') := Lib.hid fun W => rquoted_any _ W (hkv _ (List.getElem_mem hjk)).1 (hkv _ (List.getElem_mem hjk)).2
      have HI : Hid (∀ W, KB wr W → Calls Tryz.prog 23 #[.agg #[.int .i8 zk, .bool zb, .int .i64 zn, .string zs, .slice zo zm zc, .slice zo2 zm2 zc2]] W fun e w' => e = .returned (.string (tx (G j))) ∧ Below W.heap.size W w') := Lib.hid fun W hW => HIT.out j hlt _ W (isV_below hW hx)
      have HG : Hid (∀ W, KB wr W → W.cell? (a.add (j * 6)) = some (.int .i8 zk) ∧ W.cell? ⟨(a.add (j * 6)).block, (a.add (j * 6)).off + 1, none⟩ = some (.bool zb) ∧ W.cell? ⟨(a.add (j * 6)).block, (a.add (j * 6)).off + 2, none⟩ = some (.int .i64 zn) ∧ W.cell? ⟨(a.add (j * 6)).block, (a.add (j * 6)).off + 3, none⟩ = some (.string zs) ∧ W.cell? ⟨(a.add (j * 6)).block, (a.add (j * 6)).off + 4, none⟩ = some (.slice zo zm zc) ∧ W.cell? ⟨(a.add (j * 6)).block, (a.add (j * 6)).off + 5, none⟩ = some (.slice zo2 zm2 zc2)) := Lib.hid fun W hW => ⟨cell_below hW _ _ g0, cell_below hW _ _ g1, cell_below hW _ _ g2, cell_below hW _ _ g3, cell_below hW _ _ g4, cell_below hW _ _ g5⟩
      have HE0 : Hid (rowS 123 [] T (j + 1) = if 0 < j then ((((rowS 123 [] T j ++ ⟨#[44]⟩) ++ tx (Ru.quoteL ks[j].data.toList)) ++ ⟨#[58]⟩) ++ tx (G j)) else (((rowS 123 [] T j ++ tx (Ru.quoteL ks[j].data.toList)) ++ ⟨#[58]⟩) ++ tx (G j))) := Lib.hid (by
        rcases Nat.eq_zero_or_pos j with e | e
        · rw [if_neg (by omega)]
          have h2 : rowS 123 [] T (j + 1) = rowS 123 [] T j ++ tx ([] ++ T j) := by subst e; exact rowS_one _ _ T
          rw [h2]
          rw [List.nil_append]
          rw [hTG j hjk]
          try simp only [ba_assoc]
        · rw [if_pos e, rowS_succ _ _ T j e]
          rw [List.nil_append]
          rw [hTG j hjk]
          try simp only [ba_assoc])
      have hts : (tx (G j)).size ≤ 1000000001 ∧ (tx (Ru.quoteL ks[j].data.toList)).size ≤ 1000000001 := by
        have h2 := hs1
        rw [HE0.out] at h2
        split at h2
        · simp only [ByteArray.size_append] at h2; omega
        · simp only [ByteArray.size_append] at h2; omega
      obtain ⟨t, ht⟩ : ∃ t, tx (G j) = t := ⟨_, rfl⟩
      obtain ⟨q, hq⟩ : ∃ q, rowS 123 [] T j = q := ⟨_, rfl⟩
      obtain ⟨q', hq'⟩ : ∃ q, rowS 123 [] T (j + 1) = q := ⟨_, rfl⟩
      rw [ht] at HI hts
      rw [ht, hq, hq'] at HE0
      have HQ := Lib.hid hq'
      rw [hq] at hs0 ⊢
      obtain ⟨kq, hkq⟩ : ∃ q, tx (Ru.quoteL ks[j].data.toList) = q := ⟨_, rfl⟩
      rw [hkq] at HQU HE0 hts
      obtain ⟨hts, htk⟩ := hts
      generalize ks[j] = ke at *
      by_cases h0 : 0 < j
      · have HE := Lib.hid (HE0.out.trans (if_pos h0))
        have b2 : decide ((0 : Int) < (j : Int)) = true := decide_eq_true (by omega)
        have b3 : decide (0 < j) = true := decide_eq_true h0
        clear ht hq hq' hx hs1 HE0 h0 HIT hkq
        go_wp2_with fail
        refine (HQU.out _).mono ?_
        rintro e w4 ⟨rfl, hb4⟩
        have HK4 := Lib.hid (show KB W1 w4 from HK.out.trans (hb4.mono HK.out.size))
        obtain ⟨g0, g1, g2, g3, g4, g5⟩ := HG.out w4 hb4
        obtain ⟨r0, r1, r2, r3, r4, r5⟩ := HC.out w4 HK4.out
        go_wp2_with fail
        refine (HI.out _ hb4).mono ?_
        rintro e w5 ⟨rfl, hb5⟩
        go_wp2_with fail
        go_roundw
        case rel => exact ⟨j + 1, by omega, by go_num, by rw [HQ.out, HE.out], Lib.hid (HK4.out.trans (hb5.mono HK4.out.size))⟩
        case measure => simp [intOf]; omega
      · have HE := Lib.hid (HE0.out.trans (if_neg h0))
        have b2 : decide ((0 : Int) < (j : Int)) = false := decide_eq_false (by omega)
        have b3 : decide (0 < j) = false := decide_eq_false h0
        clear ht hq hq' hx hs1 HE0 h0 HIT hkq
        go_wp2_with fail
        refine (HQU.out _).mono ?_
        rintro e w4 ⟨rfl, hb4⟩
        have HK4 := Lib.hid (show KB W1 w4 from HK.out.trans (hb4.mono HK.out.size))
        obtain ⟨g0, g1, g2, g3, g4, g5⟩ := HG.out w4 hb4
        obtain ⟨r0, r1, r2, r3, r4, r5⟩ := HC.out w4 HK4.out
        go_wp2_with fail
        refine (HI.out _ hb4).mono ?_
        rintro e w5 ⟨rfl, hb5⟩
        go_wp2_with fail
        go_roundw
        case rel => exact ⟨j + 1, by omega, by go_num, by rw [HQ.out, HE.out], Lib.hid (HK4.out.trans (hb5.mono HK4.out.size))⟩
        case measure => simp [intOf]; omega
    · obtain rfl : j = l.length := by omega
      have hs0 := HSZ.out l.length hj
      have b1 : decide ((l.length : Int) < (l.length : Int)) = false := decide_eq_false (by omega)
      obtain ⟨q, hq⟩ : ∃ q, rowS 123 [] T l.length = q := ⟨_, rfl⟩
      rw [hq] at HR hs0 ⊢
      clear hq
      go_wp2_with fail
      go_ret
      exact ⟨by rw [HR.out]; rfl, HB1.out.trans (Below.mono HK.out HB1.out.size)⟩
set_option maxRecDepth 100000 in
set_option maxHeartbeats 8000000 in
theorem rbroad4 (d : Nat) (hd : d ≤ 1000) (b : Bool) (n : Int) (s : ByteArray) (l : List V) (ks : List ByteArray) (v : Value) (w : World) (h : isV w (.mk 4 b n s l ks) v) (hb : (ft [58, 32] I2 d (.mk 4 b n s l ks)).length ≤ 1000000000) (IH : ∀ i (hi : i < l.length), BrC (d + 1) l[i]) :
    Calls Tryz.prog 26 #[v, .string (inD d)] w fun e w' => e = .returned (.string (tx (ft [58, 32] I2 d (.mk 4 b n s l ks)))) ∧ Below w.heap.size w w' := by
  have hF : ft [58, 32] I2 d (.mk 4 b n s l ks) = rowT (I2 d) (I2 (d + 1)) 91 93 l.length (fun i => (fts [58, 32] I2 (d + 1) l).getD i []) := by
    rw [ft, if_neg (by decide), if_neg (by decide), if_neg (by decide), if_neg (by decide), if_pos rfl]
  rw [hF] at hb ⊢
  have HIH : Hid (∀ i (hi : i < l.length) u W, isV W l[i] u → Calls Tryz.prog 26 #[u, .string (inD (d + 1))] W fun e w' => e = .returned (.string (tx ((fts [58, 32] I2 (d + 1) l).getD i []))) ∧ Below W.heap.size W w') := Lib.hid fun i hi u W hu => by
    rw [fts_get _ _ _ l i hi]
    exact IH i hi u W hu
  obtain ⟨G, hG⟩ : ∃ G : Nat → List UInt8, (fun i => (fts [58, 32] I2 (d + 1) l).getD i []) = G := ⟨_, rfl⟩
  have hGi : ∀ i, (fts [58, 32] I2 (d + 1) l).getD i [] = G i := fun i => congrFun hG i
  obtain ⟨T, hT⟩ : ∃ T : Nat → List UInt8, (fun i => (fts [58, 32] I2 (d + 1) l).getD i []) = T := ⟨_, rfl⟩
  have hTG : ∀ i, tx (T i) = tx (G i) := fun i => by rw [← hT, ← hG]
  have HIT : Hid (∀ i (hi : i < l.length) u W, isV W l[i] u → Calls Tryz.prog 26 #[u, .string (inD (d + 1))] W fun e w' => e = .returned (.string (tx (G i))) ∧ Below W.heap.size W w') := Lib.hid fun i hi u W hu => by have := HIH.out i hi u W hu; rw [hGi] at this; exact this
  rw [hT] at hb ⊢
  clear HIH hF IH hT hG hGi
  unfold isV at h
  obtain ⟨lv, kv, rfl, -, -, -, ⟨a, c, ⟨o, rfl, hc1, hc2, ho⟩, hvs⟩, ⟨a2, c2, ⟨o2, rfl, hc3, hc4, ho2⟩, hks⟩⟩ := h
  have HO := Lib.hid ho
  have HO2 := Lib.hid ho2
  clear ho ho2
  obtain ⟨W1, hW1⟩ : ∃ W1, w.alloc (.cells #[.int .i8 4, .bool b, .int .i64 n, .string s, .slice o l.length c, .slice o2 ks.length c2] 26) = W1 := ⟨_, rfl⟩
  have hb1 : KB w W1 := by rw [← hW1]; exact kbA
  have hn1 : W1.heap[w.heap.size]? = some (.cells #[.int .i8 4, .bool b, .int .i64 n, .string s, .slice o l.length c, .slice o2 ks.length c2] 26 (0, 0)) := by rw [← hW1]; exact World.alloc_heap_new _ _
  have HC : Hid (∀ W, KB W1 W → W.cell? ⟨w.heap.size, 0, none⟩ = some (.int .i8 4) ∧ W.cell? ⟨w.heap.size, 1, none⟩ = some (.bool b) ∧ W.cell? ⟨w.heap.size, 2, none⟩ = some (.int .i64 n) ∧ W.cell? ⟨w.heap.size, 3, none⟩ = some (.string s) ∧ W.cell? ⟨w.heap.size, 4, none⟩ = some (.slice o l.length c) ∧ W.cell? ⟨w.heap.size, 5, none⟩ = some (.slice o2 ks.length c2)) := Lib.hid fun W hK =>
    six_cells ((Below.block hK _ (Array.getElem?_eq_some_iff.1 hn1).1).trans hn1)
  have HB1 := Lib.hid hb1
  have HVS := Lib.hid hvs
  unfold maxLen at hc2 hc4
  have hl0 : l.length ≤ 1000000000 := by
    have h2 : (rowT (I2 d) (I2 (d + 1)) 91 93 l.length T).length ≤ 1000000000 := hb
    unfold rowT at h2
    split at h2
    · omega
    · simp only [List.length_append, List.length_cons, List.length_nil] at h2
      have := rowsT_len (I2 (d + 1)) T l.length
      omega
  have HSZ : Hid (∀ j, j ≤ l.length → (rowS 91 (I2 (d + 1)) T j).size ≤ 1000000001) := Lib.hid fun j hj => by
    unfold rowS
    rw [tx_size, List.length_cons]
    have h2 : (rowT (I2 d) (I2 (d + 1)) 91 93 l.length T).length ≤ 1000000000 := hb
    have := rowS_size 91 (I2 (d + 1)) T l.length j hj
    unfold rowT at h2
    split at h2
    · rename_i e
      obtain rfl : j = 0 := by omega
      simp [rowsT]
    · simp only [List.length_append, List.length_cons, List.length_nil] at h2
      omega
  obtain ⟨R, hR⟩ : ∃ R, tx (rowT (I2 d) (I2 (d + 1)) 91 93 l.length T) = R := ⟨_, rfl⟩
  have HR : Hid (0 < l.length → R = rowS 91 (I2 (d + 1)) T l.length ++ ⟨#[10]⟩ ++ inD d ++ ⟨#[93]⟩) := Lib.hid fun e => by
    rw [← hR, rowT_tx _ _ 91 93 _ T e, tx_I2, ba_assoc, ba_assoc]
    rfl
  have HR0 : Hid (l.length = 0 → R = ⟨#[91]⟩ ++ ⟨#[93]⟩) := Lib.hid fun e => by
    rw [← hR, e]
    rfl
  rw [hR]
  obtain ⟨inn, hin⟩ : ∃ q, inD d = q := ⟨_, rfl⟩
  obtain ⟨inn2, hin2⟩ : ∃ q, inD (d + 1) = q := ⟨_, rfl⟩
  have hi2 : inn2 = inn ++ ⟨#[32, 32]⟩ := by rw [← hin, ← hin2]; exact inD_succ d
  have HI2 := Lib.hid hi2
  have hins : inn.size ≤ 2000 := by rw [← hin, inD_size]; omega
  have HTX : Hid (∀ r, tx (I2 (d + 1) ++ r) = ⟨#[10]⟩ ++ (inn ++ ⟨#[32, 32]⟩) ++ tx r) := Lib.hid fun r => by rw [tx_I2, inD_succ, hin]
  rw [hin] at HR ⊢
  rw [hin2, hi2] at HIT
  clear hin hin2 hi2
  obtain ⟨r0, r1, r2, r3, r4, r5⟩ := HC.out W1 (Below.refl _ _)
  clear hvs hn1 hb1 hb hR hks
  rcases Nat.eq_zero_or_pos l.length with hz | hpos
  · have b0 : ((l.length : Int) == 0) = true := by rw [hz]; rfl
    have b9 : (l.length == 0) = true := by rw [hz]; rfl
    have HE := Lib.hid (HR0.out hz)
    clear HR hz
    go_enter Tryz.func26, Tryz.ntmps26
    go_wp2_with fail
    go_ret
    try rw [hW1]
    exact ⟨by rw [HE.out]; rfl, HB1.out⟩
  · have b0 : ((l.length : Int) == 0) = false := beq_eq_false_iff_ne.2 (by omega)
    have b9 : (l.length == 0) = false := beq_eq_false_iff_ne.2 (by omega)
    go_enter Tryz.func26, Tryz.ntmps26
    go_wp2_with fail
    try rw [hW1]
    clear hW1 r0 r1 r2 r3 r4 r5
    go_loopw [7, 8] (fun ov iv wr => ∃ j : Nat, j ≤ l.length ∧ iv = .int .i64 j ∧ ov = .string (rowS 91 (I2 (d + 1)) T j) ∧ Hid (KB W1 wr)) (fun _ iv _ => l.length - (intOf iv).toNat)
    case atStart => exact ⟨0, Nat.zero_le _, rfl, rfl, Lib.hid (Below.refl _ _)⟩
    case round =>
      obtain ⟨j, hj, rfl, rfl, HK⟩ := hrel
      obtain ⟨r0, r1, r2, r3, r4, r5⟩ := HC.out wr HK.out
      by_cases hlt : j < l.length
      · obtain rfl := HO.out (by omega)
        obtain ⟨zk, zb, zn, zs, zo, zm, zc, zo2, zm2, zc2, g0, g1, g2, g3, g4, g5, hx⟩ := isVs_sl l a j hlt (isVs_keep (cell_below (HB1.out.trans (Below.mono HK.out HB1.out.size))) l a HVS.out)
        have b1 : decide ((j : Int) < (l.length : Int)) = true := decide_eq_true (by omega)
        have hs0 := HSZ.out j hj
        have hs1 := HSZ.out (j + 1) (by omega)
        have HI := Lib.hid (HIT.out j hlt _ wr hx)
        have HE0 : Hid (rowS 91 (I2 (d + 1)) T (j + 1) = if 0 < j then (((((rowS 91 (I2 (d + 1)) T j ++ ⟨#[44]⟩) ++ ⟨#[10]⟩) ++ inn) ++ ⟨#[32, 32]⟩) ++ tx (G j)) else ((((rowS 91 (I2 (d + 1)) T j ++ ⟨#[10]⟩) ++ inn) ++ ⟨#[32, 32]⟩) ++ tx (G j))) := Lib.hid (by
          rcases Nat.eq_zero_or_pos j with e | e
          · rw [if_neg (by omega)]
            have h2 : rowS 91 (I2 (d + 1)) T (j + 1) = rowS 91 (I2 (d + 1)) T j ++ tx ((I2 (d + 1)) ++ T j) := by subst e; exact rowS_one _ _ T
            rw [h2]
            rw [HTX.out]
            rw [hTG j]
            try simp only [ba_assoc]
          · rw [if_pos e, rowS_succ _ _ T j e]
            rw [HTX.out]
            rw [hTG j]
            try simp only [ba_assoc])
        have hts : (tx (G j)).size ≤ 1000000001 := by
          have h2 := hs1
          rw [HE0.out] at h2
          split at h2
          · simp only [ByteArray.size_append] at h2; omega
          · simp only [ByteArray.size_append] at h2; omega
        obtain ⟨t, ht⟩ : ∃ t, tx (G j) = t := ⟨_, rfl⟩
        obtain ⟨q, hq⟩ : ∃ q, rowS 91 (I2 (d + 1)) T j = q := ⟨_, rfl⟩
        obtain ⟨q', hq'⟩ : ∃ q, rowS 91 (I2 (d + 1)) T (j + 1) = q := ⟨_, rfl⟩
        rw [ht] at HI hts
        rw [ht, hq, hq'] at HE0
        have HQ := Lib.hid hq'
        rw [hq] at hs0 ⊢
        by_cases h0 : 0 < j
        · have HE := Lib.hid (HE0.out.trans (if_pos h0))
          have b2 : decide ((0 : Int) < (j : Int)) = true := decide_eq_true (by omega)
          have b3 : decide (0 < j) = true := decide_eq_true h0
          clear ht hq hq' hx hs1 HE0 h0 HIT
          go_wp2_with (go_at_call 26; refine HI.out.mono ?_; rintro e w5 ⟨rfl, hb5⟩)
          go_roundw
          case rel => exact ⟨j + 1, by omega, by go_num, by rw [HQ.out, HE.out], Lib.hid (HK.out.trans (hb5.mono HK.out.size))⟩
          case measure => simp [intOf]; omega
        · have HE := Lib.hid (HE0.out.trans (if_neg h0))
          have b2 : decide ((0 : Int) < (j : Int)) = false := decide_eq_false (by omega)
          have b3 : decide (0 < j) = false := decide_eq_false h0
          clear ht hq hq' hx hs1 HE0 h0 HIT
          go_wp2_with (go_at_call 26; refine HI.out.mono ?_; rintro e w5 ⟨rfl, hb5⟩)
          go_roundw
          case rel => exact ⟨j + 1, by omega, by go_num, by rw [HQ.out, HE.out], Lib.hid (HK.out.trans (hb5.mono HK.out.size))⟩
          case measure => simp [intOf]; omega
      · obtain rfl : j = l.length := by omega
        have hs0 := HSZ.out l.length hj
        have b1 : decide ((l.length : Int) < (l.length : Int)) = false := decide_eq_false (by omega)
        have HE := Lib.hid (HR.out hpos)
        obtain ⟨q, hq⟩ : ∃ q, rowS 91 (I2 (d + 1)) T l.length = q := ⟨_, rfl⟩
        rw [hq] at HE hs0 ⊢
        clear hq
        go_wp2_with fail
        go_ret
        exact ⟨by rw [HE.out]; rfl, HB1.out.trans (Below.mono HK.out HB1.out.size)⟩
set_option maxRecDepth 100000 in
set_option maxHeartbeats 8000000 in
theorem rbroad5 (d : Nat) (hd : d ≤ 1000) (b : Bool) (n : Int) (s : ByteArray) (l : List V) (ks : List ByteArray) (hkl : ks.length = l.length) (hkv : ∀ q ∈ ks, validS q = true ∧ q.size ≤ 20000) (v : Value) (w : World) (h : isV w (.mk 5 b n s l ks) v) (hb : (ft [58, 32] I2 d (.mk 5 b n s l ks)).length ≤ 1000000000) (IH : ∀ i (hi : i < l.length), BrC (d + 1) l[i]) :
    Calls Tryz.prog 26 #[v, .string (inD d)] w fun e w' => e = .returned (.string (tx (ft [58, 32] I2 d (.mk 5 b n s l ks)))) ∧ Below w.heap.size w w' := by
  have hF : ft [58, 32] I2 d (.mk 5 b n s l ks) = rowT (I2 d) (I2 (d + 1)) 123 125 l.length (fun i => keyT [58, 32] (ks.getD i ⟨#[]⟩) ((fts [58, 32] I2 (d + 1) l).getD i [])) := by
    rw [ft, if_neg (by decide), if_neg (by decide), if_neg (by decide), if_neg (by decide), if_neg (by decide)]
  rw [hF] at hb ⊢
  have HIH : Hid (∀ i (hi : i < l.length) u W, isV W l[i] u → Calls Tryz.prog 26 #[u, .string (inD (d + 1))] W fun e w' => e = .returned (.string (tx ((fts [58, 32] I2 (d + 1) l).getD i []))) ∧ Below W.heap.size W w') := Lib.hid fun i hi u W hu => by
    rw [fts_get _ _ _ l i hi]
    exact IH i hi u W hu
  obtain ⟨G, hG⟩ : ∃ G : Nat → List UInt8, (fun i => (fts [58, 32] I2 (d + 1) l).getD i []) = G := ⟨_, rfl⟩
  have hGi : ∀ i, (fts [58, 32] I2 (d + 1) l).getD i [] = G i := fun i => congrFun hG i
  obtain ⟨T, hT⟩ : ∃ T : Nat → List UInt8, (fun i => keyT [58, 32] (ks.getD i ⟨#[]⟩) ((fts [58, 32] I2 (d + 1) l).getD i [])) = T := ⟨_, rfl⟩
  have hTG : ∀ i (hi : i < ks.length), tx (T i) = tx (Ru.quoteL ks[i].data.toList) ++ ⟨#[58, 32]⟩ ++ tx (G i) := fun i hi => by rw [← hT, ← hG, ← getD_lt ks i ⟨#[]⟩ hi]; exact tx_key _ _ _
  have HIT : Hid (∀ i (hi : i < l.length) u W, isV W l[i] u → Calls Tryz.prog 26 #[u, .string (inD (d + 1))] W fun e w' => e = .returned (.string (tx (G i))) ∧ Below W.heap.size W w') := Lib.hid fun i hi u W hu => by have := HIH.out i hi u W hu; rw [hGi] at this; exact this
  rw [hT] at hb ⊢
  clear HIH hF IH hT hG hGi
  have HKL := Lib.hid hkl
  clear hkl
  unfold isV at h
  obtain ⟨lv, kv, rfl, -, -, -, ⟨a, c, ⟨o, rfl, hc1, hc2, ho⟩, hvs⟩, ⟨a2, c2, ⟨o2, rfl, hc3, hc4, ho2⟩, hks⟩⟩ := h
  have HO := Lib.hid ho
  have HO2 := Lib.hid ho2
  clear ho ho2
  obtain ⟨W1, hW1⟩ : ∃ W1, w.alloc (.cells #[.int .i8 5, .bool b, .int .i64 n, .string s, .slice o l.length c, .slice o2 ks.length c2] 26) = W1 := ⟨_, rfl⟩
  have hb1 : KB w W1 := by rw [← hW1]; exact kbA
  have hn1 : W1.heap[w.heap.size]? = some (.cells #[.int .i8 5, .bool b, .int .i64 n, .string s, .slice o l.length c, .slice o2 ks.length c2] 26 (0, 0)) := by rw [← hW1]; exact World.alloc_heap_new _ _
  have HC : Hid (∀ W, KB W1 W → W.cell? ⟨w.heap.size, 0, none⟩ = some (.int .i8 5) ∧ W.cell? ⟨w.heap.size, 1, none⟩ = some (.bool b) ∧ W.cell? ⟨w.heap.size, 2, none⟩ = some (.int .i64 n) ∧ W.cell? ⟨w.heap.size, 3, none⟩ = some (.string s) ∧ W.cell? ⟨w.heap.size, 4, none⟩ = some (.slice o l.length c) ∧ W.cell? ⟨w.heap.size, 5, none⟩ = some (.slice o2 ks.length c2)) := Lib.hid fun W hK =>
    six_cells ((Below.block hK _ (Array.getElem?_eq_some_iff.1 hn1).1).trans hn1)
  have HB1 := Lib.hid hb1
  have HVS := Lib.hid hvs
  unfold maxLen at hc2 hc4
  have HKS : Hid (∀ i (hi : i < ks.length) W, KB w W → W.cell? (a2.add i) = some (.string ks[i])) := Lib.hid fun i hi W hK => cell_below hK _ _ (hks i hi).1
  have hl0 : l.length ≤ 1000000000 := by
    have h2 : (rowT (I2 d) (I2 (d + 1)) 123 125 l.length T).length ≤ 1000000000 := hb
    unfold rowT at h2
    split at h2
    · omega
    · simp only [List.length_append, List.length_cons, List.length_nil] at h2
      have := rowsT_len (I2 (d + 1)) T l.length
      omega
  have HSZ : Hid (∀ j, j ≤ l.length → (rowS 123 (I2 (d + 1)) T j).size ≤ 1000000001) := Lib.hid fun j hj => by
    unfold rowS
    rw [tx_size, List.length_cons]
    have h2 : (rowT (I2 d) (I2 (d + 1)) 123 125 l.length T).length ≤ 1000000000 := hb
    have := rowS_size 123 (I2 (d + 1)) T l.length j hj
    unfold rowT at h2
    split at h2
    · rename_i e
      obtain rfl : j = 0 := by omega
      simp [rowsT]
    · simp only [List.length_append, List.length_cons, List.length_nil] at h2
      omega
  obtain ⟨R, hR⟩ : ∃ R, tx (rowT (I2 d) (I2 (d + 1)) 123 125 l.length T) = R := ⟨_, rfl⟩
  have HR : Hid (0 < l.length → R = rowS 123 (I2 (d + 1)) T l.length ++ ⟨#[10]⟩ ++ inD d ++ ⟨#[125]⟩) := Lib.hid fun e => by
    rw [← hR, rowT_tx _ _ 123 125 _ T e, tx_I2, ba_assoc, ba_assoc]
    rfl
  have HR0 : Hid (l.length = 0 → R = ⟨#[123]⟩ ++ ⟨#[125]⟩) := Lib.hid fun e => by
    rw [← hR, e]
    rfl
  rw [hR]
  obtain ⟨inn, hin⟩ : ∃ q, inD d = q := ⟨_, rfl⟩
  obtain ⟨inn2, hin2⟩ : ∃ q, inD (d + 1) = q := ⟨_, rfl⟩
  have hi2 : inn2 = inn ++ ⟨#[32, 32]⟩ := by rw [← hin, ← hin2]; exact inD_succ d
  have HI2 := Lib.hid hi2
  have hins : inn.size ≤ 2000 := by rw [← hin, inD_size]; omega
  have HTX : Hid (∀ r, tx (I2 (d + 1) ++ r) = ⟨#[10]⟩ ++ (inn ++ ⟨#[32, 32]⟩) ++ tx r) := Lib.hid fun r => by rw [tx_I2, inD_succ, hin]
  rw [hin] at HR ⊢
  rw [hin2, hi2] at HIT
  clear hin hin2 hi2
  obtain ⟨r0, r1, r2, r3, r4, r5⟩ := HC.out W1 (Below.refl _ _)
  clear hvs hn1 hb1 hb hR hks
  rcases Nat.eq_zero_or_pos l.length with hz | hpos
  · have b0 : ((l.length : Int) == 0) = true := by rw [hz]; rfl
    have b9 : (l.length == 0) = true := by rw [hz]; rfl
    have HE := Lib.hid (HR0.out hz)
    clear HR hz
    go_enter Tryz.func26, Tryz.ntmps26
    go_wp2_with fail
    go_ret
    try rw [hW1]
    exact ⟨by rw [HE.out]; rfl, HB1.out⟩
  · have b0 : ((l.length : Int) == 0) = false := beq_eq_false_iff_ne.2 (by omega)
    have b9 : (l.length == 0) = false := beq_eq_false_iff_ne.2 (by omega)
    go_enter Tryz.func26, Tryz.ntmps26
    go_wp2_with fail
    try rw [hW1]
    clear hW1 r0 r1 r2 r3 r4 r5
    go_loopw [7, 8] (fun ov iv wr => ∃ j : Nat, j ≤ l.length ∧ iv = .int .i64 j ∧ ov = .string (rowS 123 (I2 (d + 1)) T j) ∧ Hid (KB W1 wr)) (fun _ iv _ => l.length - (intOf iv).toNat)
    case atStart => exact ⟨0, Nat.zero_le _, rfl, rfl, Lib.hid (Below.refl _ _)⟩
    case round =>
      obtain ⟨j, hj, rfl, rfl, HK⟩ := hrel
      obtain ⟨r0, r1, r2, r3, r4, r5⟩ := HC.out wr HK.out
      by_cases hlt : j < l.length
      · obtain rfl := HO.out (by omega)
        obtain ⟨zk, zb, zn, zs, zo, zm, zc, zo2, zm2, zc2, g0, g1, g2, g3, g4, g5, hx⟩ := isVs_sl l a j hlt (isVs_keep (cell_below (HB1.out.trans (Below.mono HK.out HB1.out.size))) l a HVS.out)
        have b1 : decide ((j : Int) < (l.length : Int)) = true := decide_eq_true (by omega)
        have hs0 := HSZ.out j hj
        have hs1 := HSZ.out (j + 1) (by omega)
        have hjk : j < ks.length := by have := HKL.out; omega
        obtain rfl := HO2.out (by omega)
        have gk := HKS.out j hjk wr (HB1.out.trans (Below.mono HK.out HB1.out.size))
        have HQU : Hid (∀ W, Calls Tryz.prog 40 #[.string ks[j]] W fun e w' => e = .returned (.string (tx (Ru.quoteL ks[j].data.toList))) ∧ Below W.heap.size W w') := Lib.hid fun W => rquoted_any _ W (hkv _ (List.getElem_mem hjk)).1 (hkv _ (List.getElem_mem hjk)).2
        have HI : Hid (∀ W, KB wr W → Calls Tryz.prog 26 #[.agg #[.int .i8 zk, .bool zb, .int .i64 zn, .string zs, .slice zo zm zc, .slice zo2 zm2 zc2], .string (inn ++ ⟨#[32, 32]⟩)] W fun e w' => e = .returned (.string (tx (G j))) ∧ Below W.heap.size W w') := Lib.hid fun W hW => HIT.out j hlt _ W (isV_below hW hx)
        have HG : Hid (∀ W, KB wr W → W.cell? (a.add (j * 6)) = some (.int .i8 zk) ∧ W.cell? ⟨(a.add (j * 6)).block, (a.add (j * 6)).off + 1, none⟩ = some (.bool zb) ∧ W.cell? ⟨(a.add (j * 6)).block, (a.add (j * 6)).off + 2, none⟩ = some (.int .i64 zn) ∧ W.cell? ⟨(a.add (j * 6)).block, (a.add (j * 6)).off + 3, none⟩ = some (.string zs) ∧ W.cell? ⟨(a.add (j * 6)).block, (a.add (j * 6)).off + 4, none⟩ = some (.slice zo zm zc) ∧ W.cell? ⟨(a.add (j * 6)).block, (a.add (j * 6)).off + 5, none⟩ = some (.slice zo2 zm2 zc2)) := Lib.hid fun W hW => ⟨cell_below hW _ _ g0, cell_below hW _ _ g1, cell_below hW _ _ g2, cell_below hW _ _ g3, cell_below hW _ _ g4, cell_below hW _ _ g5⟩
        have HE0 : Hid (rowS 123 (I2 (d + 1)) T (j + 1) = if 0 < j then (((((((rowS 123 (I2 (d + 1)) T j ++ ⟨#[44]⟩) ++ ⟨#[10]⟩) ++ inn) ++ ⟨#[32, 32]⟩) ++ tx (Ru.quoteL ks[j].data.toList)) ++ ⟨#[58, 32]⟩) ++ tx (G j)) else ((((((rowS 123 (I2 (d + 1)) T j ++ ⟨#[10]⟩) ++ inn) ++ ⟨#[32, 32]⟩) ++ tx (Ru.quoteL ks[j].data.toList)) ++ ⟨#[58, 32]⟩) ++ tx (G j))) := Lib.hid (by
          rcases Nat.eq_zero_or_pos j with e | e
          · rw [if_neg (by omega)]
            have h2 : rowS 123 (I2 (d + 1)) T (j + 1) = rowS 123 (I2 (d + 1)) T j ++ tx ((I2 (d + 1)) ++ T j) := by subst e; exact rowS_one _ _ T
            rw [h2]
            rw [HTX.out]
            rw [hTG j hjk]
            try simp only [ba_assoc]
          · rw [if_pos e, rowS_succ _ _ T j e]
            rw [HTX.out]
            rw [hTG j hjk]
            try simp only [ba_assoc])
        have hts : (tx (G j)).size ≤ 1000000001 ∧ (tx (Ru.quoteL ks[j].data.toList)).size ≤ 1000000001 := by
          have h2 := hs1
          rw [HE0.out] at h2
          split at h2
          · simp only [ByteArray.size_append] at h2; omega
          · simp only [ByteArray.size_append] at h2; omega
        obtain ⟨t, ht⟩ : ∃ t, tx (G j) = t := ⟨_, rfl⟩
        obtain ⟨q, hq⟩ : ∃ q, rowS 123 (I2 (d + 1)) T j = q := ⟨_, rfl⟩
        obtain ⟨q', hq'⟩ : ∃ q, rowS 123 (I2 (d + 1)) T (j + 1) = q := ⟨_, rfl⟩
        rw [ht] at HI hts
        rw [ht, hq, hq'] at HE0
        have HQ := Lib.hid hq'
        rw [hq] at hs0 ⊢
        obtain ⟨kq, hkq⟩ : ∃ q, tx (Ru.quoteL ks[j].data.toList) = q := ⟨_, rfl⟩
        rw [hkq] at HQU HE0 hts
        obtain ⟨hts, htk⟩ := hts
        generalize ks[j] = ke at *
        by_cases h0 : 0 < j
        · have HE := Lib.hid (HE0.out.trans (if_pos h0))
          have b2 : decide ((0 : Int) < (j : Int)) = true := decide_eq_true (by omega)
          have b3 : decide (0 < j) = true := decide_eq_true h0
          clear ht hq hq' hx hs1 HE0 h0 HIT hkq
          go_wp2_with fail
          refine (HQU.out _).mono ?_
          rintro e w4 ⟨rfl, hb4⟩
          have HK4 := Lib.hid (show KB W1 w4 from HK.out.trans (hb4.mono HK.out.size))
          obtain ⟨g0, g1, g2, g3, g4, g5⟩ := HG.out w4 hb4
          obtain ⟨r0, r1, r2, r3, r4, r5⟩ := HC.out w4 HK4.out
          go_wp2_with fail
          refine (HI.out _ hb4).mono ?_
          rintro e w5 ⟨rfl, hb5⟩
          go_wp2_with fail
          go_roundw
          case rel => exact ⟨j + 1, by omega, by go_num, by rw [HQ.out, HE.out], Lib.hid (HK4.out.trans (hb5.mono HK4.out.size))⟩
          case measure => simp [intOf]; omega
        · have HE := Lib.hid (HE0.out.trans (if_neg h0))
          have b2 : decide ((0 : Int) < (j : Int)) = false := decide_eq_false (by omega)
          have b3 : decide (0 < j) = false := decide_eq_false h0
          clear ht hq hq' hx hs1 HE0 h0 HIT hkq
          go_wp2_with fail
          refine (HQU.out _).mono ?_
          rintro e w4 ⟨rfl, hb4⟩
          have HK4 := Lib.hid (show KB W1 w4 from HK.out.trans (hb4.mono HK.out.size))
          obtain ⟨g0, g1, g2, g3, g4, g5⟩ := HG.out w4 hb4
          obtain ⟨r0, r1, r2, r3, r4, r5⟩ := HC.out w4 HK4.out
          go_wp2_with fail
          refine (HI.out _ hb4).mono ?_
          rintro e w5 ⟨rfl, hb5⟩
          go_wp2_with fail
          go_roundw
          case rel => exact ⟨j + 1, by omega, by go_num, by rw [HQ.out, HE.out], Lib.hid (HK4.out.trans (hb5.mono HK4.out.size))⟩
          case measure => simp [intOf]; omega
      · obtain rfl : j = l.length := by omega
        have hs0 := HSZ.out l.length hj
        have b1 : decide ((l.length : Int) < (l.length : Int)) = false := decide_eq_false (by omega)
        have HE := Lib.hid (HR.out hpos)
        obtain ⟨q, hq⟩ : ∃ q, rowS 123 (I2 (d + 1)) T l.length = q := ⟨_, rfl⟩
        rw [hq] at HE hs0 ⊢
        clear hq
        go_wp2_with fail
        go_ret
        exact ⟨by rw [HE.out]; rfl, HB1.out.trans (Below.mono HK.out HB1.out.size)⟩
end Go.Proofs.YtllkcldckehipaaGreatDoor
