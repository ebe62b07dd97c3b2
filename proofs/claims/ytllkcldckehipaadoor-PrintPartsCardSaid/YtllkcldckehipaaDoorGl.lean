/-
  The statement on lists: what is printed of a list, plain; an argument that is a row of values. · The statement on lists: walked.
-/
import Derived.Test.YtllkcldckehipaaDoorGk
import Derived.Test.YtllkcldckehipaaDoorGc
set_option linter.unusedVariables false
namespace Go.Proofs.YtllkcldckehipaaDoor
open Go.RowKit Go.Shelf Go.ChangeShapes Go.WideShapes Go.Deep

set_option maxRecDepth 100000 in
set_option maxHeartbeats 1000000 in
/-- An argument of type []Value. -/
theorem open_args {H : Type} {enc : TypeId × Value → H} {r : Reach} {b0 : Nat} {w : World} {base : Nat} {spare : Nat → Bool} {held : Bool} {v : Value} {d : DataW H} {ps : List MemPlace} (hv : Value.okWide Tryd.prog w r b0 22 v) (h : DataW.Trod enc Tryd.prog w base spare held 22 v d ps) : ∃ l : List V, ∃ a cap, slv v l.length a cap ∧ isVs w l a := by
  obtain ⟨o, n0, c0, rfl⟩ := okWide_slice Tryd.underlying22 hv
  obtain ⟨fuel, hf⟩ := h
  have e4 : DataW.trod enc Tryd.prog w base spare held fuel 22 [.slice o n0 c0] = some (d, ps) := by simpa [Value.cells] using hf
  rcases DataW.trod_slice Tryd.underlying22 e4 with ⟨h0, _⟩ | ⟨a, len, cap, elems, rest, n', hn', h0, _, _, hlc, hcm, hel, hall, _⟩
  · exact ⟨[], ⟨0, 0, none⟩, 0, ⟨none, by simpa using h0, Nat.le_refl _, by unfold maxLen; omega, fun h => absurd h (by decide)⟩, by unfold isVs; trivial⟩
  · obtain ⟨l, hl, hp⟩ := list_of len (fun i X => ∃ c0 c1 c2 c3 c4 c5, w.cell? (a.add (i * 6)) = some c0 ∧ w.cell? (a.add (i * 6 + 1)) = some c1 ∧ w.cell? (a.add (i * 6 + 2)) = some c2 ∧ w.cell? (a.add (i * 6 + 3)) = some c3 ∧ w.cell? (a.add (i * 6 + 4)) = some c4 ∧ w.cell? (a.add (i * 6 + 5)) = some c5 ∧ isV w X (.agg #[c0, c1, c2, c3, c4, c5])) (fun i hi => by
      have hi2 := hall i hi
      rw [List.getElem?_eq_getElem (by omega)] at hi2
      obtain ⟨ds, hd1, hd2⟩ := Option.bind_eq_some_iff.1 hi2
      rw [show Tryd.prog.cellsOf 26 = 6 by kernel_rfl] at hd1
      obtain ⟨_, hdl, hdc⟩ := World.cells?_some hd1
      obtain ⟨X, hX⟩ := open_val _ n' ds _ (Nat.le_refl _) hd2
      match ds, hdl with
      | [d0, d1, d2, d3, d4, d5], _ =>
        have g0 := hdc 0 (by omega)
        have g1 := hdc 1 (by omega)
        have g2 := hdc 2 (by omega)
        have g3 := hdc 3 (by omega)
        have g4 := hdc 4 (by omega)
        have g5 := hdc 5 (by omega)
        rw [add_add] at g0 g1 g2 g3 g4 g5
        exact ⟨X, d0, d1, d2, d3, d4, d5, g0, g1, g2, g3, g4, g5, hX⟩)
    subst hl
    exact ⟨l, a, cap, ⟨some a, by simpa using h0, hlc, hcm, fun _ => rfl⟩, isVs_of l a hp⟩

def liV (l : List V) : V := .mk 4 false 0 ⟨#[]⟩ l []
theorem liV_isV {w : World} {l : List V} {v : Value} {a : Addr} {cap : Nat} (h : slv v l.length a cap) (hs : isVs w l a) : isV w (liV l) (.agg #[.int .i8 4, .bool false, .int .i64 0, .string ⟨#[]⟩, v, .slice none 0 0]) := by
  unfold liV isV
  exact ⟨_, _, rfl, by omega, by omega, by decide, ⟨a, cap, h, hs⟩, ⟨⟨0, 0, none⟩, 0, ⟨none, rfl, Nat.le_refl _, by unfold maxLen; decide, fun h => absurd h (by decide)⟩, fun i hi => absurd hi (by simp)⟩⟩
theorem own_li (l : List V) : ownW (liV l) = 0 :=
  own_zero (x := .mk 4 false 0 ⟨#[]⟩ l []) ⟨by omega, (by intro h; cases h), (fun h => absurd rfl h), (fun h => absurd rfl h), (fun _ => .inl rfl), (by intro h; cases h), (fun _ => rfl)⟩ (by show (-9007199254740992 : Int) ≤ 0 ∧ (0 : Int) ≤ 9007199254740992; omega) rfl rfl List.nodup_nil
theorem wrong_li {l : List V} (h : ∀ y ∈ l, wrongV y = 0) : wrongV (liV l) = 0 := wrong_iff.2 fun z hz => by
  unfold liV at hz
  rw [walkV] at hz
  rcases List.mem_cons.1 hz with rfl | hz
  · exact own_li l
  · obtain ⟨y, hy, hz⟩ := walkVs_mem hz
    exact wrong_iff.1 (h y hy) z hz
/-- Where all parts may be, a list may be or is too deep or too long. -/
theorem check_li {l : List V} (h : ∀ y ∈ l, pcheckV y = 0) : pcheckV (liV l) = 0 ∨ pcheckV (liV l) = 30 ∨ pcheckV (liV l) = 3 := by
  have hw := wrong_li fun y hy => (pcheck_zero (h y hy)).1
  have hp : pwrongV (liV l) = if 24 < depthV (liV l) then 30 else wrongV (liV l) := rfl
  have hc : pcheckV (liV l) = if pwrongV (liV l) ≠ 0 then pwrongV (liV l) else if 4096 < countV (liV l) then 3 else 0 := rfl
  rw [hw] at hp
  by_cases h1 : 24 < depthV (liV l)
  · rw [if_pos h1] at hp
    rw [hp, if_pos (by decide)] at hc
    exact .inr (.inl hc)
  · rw [if_neg h1] at hp
    rw [hp, if_neg (by decide)] at hc
    by_cases h2 : 4096 < countV (liV l)
    · rw [if_pos h2] at hc; exact .inr (.inr hc)
    · rw [if_neg h2] at hc; exact .inl hc
noncomputable def partT (l : List V) (i : Nat) : List UInt8 := outS [58] I0 (l.getD i default)
/-- What is printed of a list whose parts are printed. -/
theorem li_plain {l : List V} (h : ∀ i (h : i < l.length), outE [58] I0 l[i] = 0) :
    outE [58] I0 (liV l) = 30 ∨ outE [58] I0 (liV l) = 3 ∨ (outE [58] I0 (liV l) = 0 ∧ outS [58] I0 (liV l) = [91] ++ rowsT [] (partT l) l.length ++ [93]) := by
  have hall : ∀ y ∈ l, pcheckV y = 0 := fun y hy => by
    obtain ⟨i, hi, rfl⟩ := List.getElem_of_mem hy
    exact (outE_yes (h i hi)).1
  have hE : outE [58] I0 (liV l) = if pcheckV (liV l) ≠ 0 then pcheckV (liV l) else if 32768 < (outT [58] I0 (liV l)).length then 3 else 0 := rfl
  rcases check_li hall with h0 | h0 | h0
  · rw [h0, if_neg (by decide)] at hE
    by_cases h2 : 32768 < (outT [58] I0 (liV l)).length
    · rw [if_pos h2] at hE; exact .inr (.inl hE)
    · rw [if_neg h2] at hE
      refine .inr (.inr ⟨hE, ?_⟩)
      rw [(outE_yes hE).2.2]
      have hs := sort_p (liV l)
      have hT : outT [58] I0 (liV l) = ft [58] I0 0 (psortV (liV l)) := rfl
      rw [hT]
      generalize psortV (liV l) = y at *
      unfold liV at hs
      cases hs with
      | mk _ _ _ _ _ _ l' ks' ps ho hl hsub hk =>
        obtain rfl : ps = List.range l.length := ho.2.1 (by show (4 : Int) ≠ 5; decide)
        have hll : l'.length = l.length := by rw [hl]; simp
        rw [ft, if_neg (by decide), if_neg (by decide), if_neg (by decide), if_neg (by decide), if_pos rfl, fts_const]
        have e := rowT_rows [] 91 93 l'.length (fun i => (fts [58] I0 0 l').getD i [])
        rw [hll] at e
        have e2 : ∀ j, j ≤ l.length → rowsT [] (fun i => (fts [58] I0 0 l').getD i []) j = rowsT [] (partT l) j := by
          intro j
          induction j with
          | zero => intro _; rfl
          | succ j ih =>
            intro hj
            have hjl : j < l'.length := by omega
            have hpj := hsub j hjl
            rw [range_get0 (by omega : j < l.length), getD_lt l j _ (by omega)] at hpj
            have hwj := (pcheck_zero (outE_yes (h j (by omega))).1).1
            rw [rowsT, rowsT, ih (by omega), fts_get [58] I0 0 l' j hjl]
            have e3 : partT l j = ft [58] I0 0 l'[j] := by
              unfold partT
              rw [getD_lt l j _ (by omega), (outE_yes (h j (by omega))).2.2]
              unfold outT
              rw [← psort_eq hpj (once_of_wrong hwj)]
            rw [e3]
        rw [e2 l.length (Nat.le_refl _)] at e
        rw [hll]
        exact e
  · rw [h0, if_pos (by decide)] at hE; exact .inl hE
  · rw [h0, if_pos (by decide)] at hE; exact .inr (.inl hE)
/-- Where a part is not printed, but not for its length, the list is not. -/
theorem li_bad {l : List V} {i : Nat} (hi : i < l.length) (h : outE [58] I0 l[i] ≠ 0) : outE [58] I0 (liV l) ≠ 0 ∨ outE [58] I0 l[i] = 3 := by
  by_cases hc : pcheckV l[i] = 0
  · right
    have hE : outE [58] I0 l[i] = if pcheckV l[i] ≠ 0 then pcheckV l[i] else if 32768 < (outT [58] I0 l[i]).length then 3 else 0 := rfl
    rw [hc, if_neg (by decide)] at hE
    by_cases h2 : 32768 < (outT [58] I0 l[i]).length
    · rw [if_pos h2] at hE; exact hE
    · rw [if_neg h2] at hE; exact absurd hE h
  · left
    intro h0
    exact hc (part_check (x := liV l) (List.getElem_mem hi) (outE_yes h0).1)
end Go.Proofs.YtllkcldckehipaaDoor

set_option linter.unusedVariables false
namespace Go.Proofs.YtllkcldckehipaaDoor
open Go.RowKit Go.Shelf

set_option maxRecDepth 100000 in
set_option maxHeartbeats 8000000 in
theorem partsLaw_any (v : Value) (l : List V) (w : World) (hE : Env w) (h : ∃ a cap, slv v l.length a cap ∧ isVs w l a) :
    Calls Tryd.prog 3 #[v] w fun e w' => e = .returned (.bool true) ∧ Below w.heap.size w w' := by
  have WK : Hid (∀ w1, KB w w1 → Calls Tryd.prog 6 #[] w1 fun e w' => e = .returned (.bool true) ∧ Below w1.heap.size w1 w') := Lib.hid fun w1 hK => wakes5_any w1 (hE.kb hK)
  obtain ⟨a, cap, hsl, hvs⟩ := h
  have hli := liV_isV hsl hvs
  obtain ⟨o, rfl, hc1, hc2, ho⟩ := hsl
  have hb := kbA (w := w) (o := .cells #[.int .i8 4, .bool false, .int .i64 0, .string ⟨#[]⟩, .slice o l.length cap, .slice none 0 0] 26)
  have HB := Lib.hid hb
  have HN := Lib.hid (World.alloc_heap_new w (.cells #[.int .i8 4, .bool false, .int .i64 0, .string ⟨#[]⟩, .slice o l.length cap, .slice none 0 0] 26))
  have GR : Hid (∀ w1, KB w w1 → Calls Tryd.prog 5 #[.agg #[.int .i8 4, .bool false, .int .i64 0, .string ⟨#[]⟩, .slice o l.length cap, .slice none 0 0]] w1 fun e w' => e = .returned (.bool (greatB (liV l))) ∧ Below w1.heap.size w1 w') := Lib.hid fun w1 hK => great_any (liV l) _ w1 (isV_below hK hli)
  have HV := Lib.hid hli
  have HVS := Lib.hid hvs
  have HO := Lib.hid ho
  have HE := Lib.hid hE
  unfold maxLen at hc2
  clear hli hvs hb hE ho
  by_cases hbig : 50 < l.length
  · have z1 : decide ((50 : Int) < (l.length : Int)) = true := decide_eq_true (by omega)
    have z2 : decide (50 < l.length) = true := decide_eq_true hbig
    go_enter Tryd.func3, Tryd.ntmps3
    go_wp2_with fail
    refine (WK.out _ HB.out).mono ?_
    rintro e w3 ⟨rfl, hb3⟩
    have HB3 := Lib.hid (HB.out.trans (hb3.mono HB.out.size))
    clear hb3
    go_wp2_with fail
    go_ret
    exact ⟨rfl, HB3.out⟩
  have z1 : decide ((50 : Int) < (l.length : Int)) = false := decide_eq_false (by omega)
  have z2 : decide (50 < l.length) = false := decide_eq_false hbig
  cases hg : greatB (liV l) with
  | true =>
    rw [hg] at GR
    clear hg
    go_enter Tryd.func3, Tryd.ntmps3
    go_wp2_with fail
    refine (GR.out _ HB.out).mono ?_
    rintro e w2 ⟨rfl, hb2⟩
    have HB2 := Lib.hid (HB.out.trans (hb2.mono HB.out.size))
    clear hb2
    go_wp2_with fail
    refine (WK.out _ HB2.out).mono ?_
    rintro e w3 ⟨rfl, hb3⟩
    have HB3 := Lib.hid (HB2.out.trans (hb3.mono HB2.out.size))
    clear hb3
    go_wp2_with fail
    go_ret
    exact ⟨rfl, HB3.out⟩
  | false =>
    rw [hg] at GR
    have hgn := great_no hg
    have HF := Lib.hid (great_fine hg)
    have HSZ : Hid (sizeV (liV l) ≤ 5000) := Lib.hid hgn.1
    clear hg hgn
    have HPR : Hid (∀ X u w1, KB w w1 → sizeV X ≤ 1000000 → fineV X → isV w1 X u → Calls Tryd.prog 7 #[u] w1 fun e w' => e = .returned (.tuple #[.string ⟨(outS [58] I0 X).toArray⟩, .int .i64 (outE [58] I0 X)]) ∧ Below w1.heap.size w1 w') := Lib.hid fun X u w1 hK h1 h2 h3 => print_any X u w1 (HE.out.kb hK) h1 h2 h3
    obtain ⟨E, hEE⟩ : ∃ E, outE [58] I0 (liV l) = E := ⟨_, rfl⟩
    obtain ⟨S, hSS⟩ : ∃ S : ByteArray, S = ⟨(outS [58] I0 (liV l)).toArray⟩ := ⟨_, rfl⟩
    have HP0 : Hid (∀ w1, KB w w1 → Calls Tryd.prog 7 #[.agg #[.int .i8 4, .bool false, .int .i64 0, .string ⟨#[]⟩, .slice o l.length cap, .slice none 0 0]] w1 fun e w' => e = .returned (.tuple #[.string S, .int .i64 E]) ∧ Below w1.heap.size w1 w') := Lib.hid fun w1 hK => by
      have := HPR.out (liV l) _ w1 hK (by have := HSZ.out; omega) HF.out (isV_below hK HV.out)
      rw [hEE, ← hSS] at this
      exact this
    have HEE := Lib.hid hEE
    have HSL : Hid (S.data.toList = outS [58] I0 (liV l)) := Lib.hid (by rw [hSS])
    have hllen : (l.length : Int) ≤ 50 := by omega
    clear hEE hSS
    go_enter Tryd.func3, Tryd.ntmps3
    go_wp2_with fail
    refine (GR.out _ HB.out).mono ?_
    rintro e w2 ⟨rfl, hb2⟩
    have HB2 := Lib.hid (HB.out.trans (hb2.mono HB.out.size))
    have hn2 := (hb2.block _ (Array.getElem?_eq_some_iff.1 HN.out).1).trans HN.out
    obtain ⟨r0, r1, r2, r3, r4, r5⟩ := six_cells hn2
    clear hb2 hn2
    go_wp2_with fail
    refine (HP0.out _ HB2.out).mono ?_
    rintro e w3 ⟨rfl, hb3⟩
    have HB3 := Lib.hid (HB2.out.trans (hb3.mono HB2.out.size))
    clear hb3 r0 r1 r2 r3 r4 r5
    go_wp2_with fail
    go_loopw [6, 28] (fun wv i wr => ∃ (j : Nat) (S' : ByteArray), j ≤ l.length ∧ i = .int .i64 j ∧ wv = .string S' ∧ Hid (S'.data.toList = [91] ++ rowsT [] (partT l) j) ∧ Hid (S'.size ≤ 1 + 32769 * j) ∧ Hid (∀ i, i < j → ∀ (h : i < l.length), outE [58] I0 l[i] = 0) ∧ Hid (KB w wr)) (fun _ i _ => l.length - (intOf i).toNat)
    case atStart => exact ⟨0, _, by omega, rfl, rfl, Lib.hid rfl, Lib.hid (by decide), Lib.hid (fun i hi => absurd hi (by omega)), HB3⟩
    case round =>
      obtain ⟨j, S', hj, rfl, rfl, hS, hN, hA, hK⟩ := hrel
      have hsz1 : S'.size ≤ 2000000 := by have := hN.out; omega
      by_cases hlt : j < l.length
      · obtain rfl := HO.out (by omega)
        obtain ⟨k1', b1', n1', s1', o1', m1', p1', o2', m2', p2', g0, g1, g2, g3, g4, g5, hx⟩ := isVs_sl l a j hlt (isVs_keep (cell_below hK.out) l a HVS.out)
        have hxs : sizeV l[j] ≤ 1000000 := by
          have h1 := sizeVs_get l j hlt
          have h2 := HSZ.out
          unfold liV at h2
          rw [sizeV] at h2
          omega
        have hxf : fineV l[j] := fun z hz => HF.out z (part_in (x := liV l) (List.getElem_mem hlt) z hz)
        obtain ⟨F, hFF⟩ : ∃ F, outE [58] I0 l[j] = F := ⟨_, rfl⟩
        obtain ⟨xs, hxs'⟩ : ∃ q : ByteArray, q = ⟨(outS [58] I0 l[j]).toArray⟩ := ⟨_, rfl⟩
        have hsz3 : xs.size ≤ 32768 := by
          have h1 := outS_len (C := [58]) (I := I0) l[j]
          rw [hxs', size_list]
          omega
        have HX2 := Lib.hid hsz3
        have HXL : Hid (xs.data.toList = partT l j) := Lib.hid (by rw [hxs']; unfold partT; rw [getD_lt l j _ hlt])
        have HBAD : Hid (F ≠ 0 → E ≠ 0 ∨ F = 3) := Lib.hid fun hne => by
          have := li_bad hlt (by rw [hFF]; exact hne)
          rw [HEE.out, hFF] at this
          exact this
        have HPX : Hid (∀ w1, KB w w1 → KB wr w1 → Calls Tryd.prog 7 #[.agg #[.int .i8 k1', .bool b1', .int .i64 n1', .string s1', .slice o1' m1' p1', .slice o2' m2' p2']] w1 fun e w' => e = .returned (.tuple #[.string xs, .int .i64 F]) ∧ Below w1.heap.size w1 w') := Lib.hid fun w1 hK1 hK2 => by
          have := HPR.out _ _ w1 hK1 hxs hxf (isV_below hK2 hx)
          rw [hFF, ← hxs'] at this
          exact this
        have hbx := kbA (w := wr) (o := .cells #[.int .i8 k1', .bool b1', .int .i64 n1', .string s1', .slice o1' m1' p1', .slice o2' m2' p2'] 26)
        have HKA := Lib.hid (hK.out.trans (hbx.mono hK.out.size))
        have HPX := Lib.hid (HPX.out _ HKA.out hbx)
        have HFF := Lib.hid hFF
        have b1 : decide ((j : Int) < (l.length : Int)) = true := decide_eq_true (by omega)
        clear hx hxs hxf hFF hxs' hbx
        by_cases hF0 : F = 0
        · subst hF0
          have HF0 := HFF
          rcases Nat.eq_zero_or_pos j with h0 | h0
          · have b2 : decide ((0 : Int) < (j : Int)) = false := decide_eq_false (by omega)
            have b3 : decide (0 < j) = false := decide_eq_false (by omega)
            have HJ0 : Hid (j = 0) := Lib.hid (by omega)
            have b4 : ¬ 0 < j := by omega
            clear h0
            go_wp2_with fail
            refine HPX.out.mono ?_
            rintro e w7 ⟨rfl, hb7⟩
            have HK7 := Lib.hid (HKA.out.trans (hb7.mono HKA.out.size))
            clear hb7 g0 g1 g2 g3 g4 g5
            go_wp2_with fail
            go_roundw
            case rel => exact ⟨j + 1, _, by omega, by go_num, rfl, Lib.hid (by rw [rowsT, if_pos HJ0.out]; simp only [app_list, hS.out, HXL.out]; simp), Lib.hid (by have h1 := hN.out; have h2 := HX2.out; have h3 : (⟨#[44]⟩ : ByteArray).size = 1 := rfl; simp; omega), Lib.hid (fun i hi h2 => by
              by_cases e : i = j
              · subst e; exact HF0.out
              · exact hA.out i (by omega) h2), HK7⟩
            case measure => simp [intOf]; omega
          · have b2 : decide ((0 : Int) < (j : Int)) = true := decide_eq_true (by omega)
            have b3 : decide (0 < j) = true := decide_eq_true (by omega)
            have HJ0 : Hid (¬ j = 0) := Lib.hid (by omega)
            
            go_wp2_with fail
            refine HPX.out.mono ?_
            rintro e w7 ⟨rfl, hb7⟩
            have HK7 := Lib.hid (HKA.out.trans (hb7.mono HKA.out.size))
            clear hb7 g0 g1 g2 g3 g4 g5
            go_wp2_with fail
            go_roundw
            case rel => exact ⟨j + 1, _, by omega, by go_num, rfl, Lib.hid (by rw [rowsT, if_neg HJ0.out]; simp only [app_list, hS.out, HXL.out]; simp), Lib.hid (by have h1 := hN.out; have h2 := HX2.out; have h3 : (⟨#[44]⟩ : ByteArray).size = 1 := rfl; simp; omega), Lib.hid (fun i hi h2 => by
              by_cases e : i = j
              · subst e; exact HF0.out
              · exact hA.out i (by omega) h2), HK7⟩
            case measure => simp [intOf]; omega
        · have y1 : (F == 0) = false := beqI hF0
          have y2 : (F != 0) = true := bne_iff_ne.2 hF0
          by_cases hE0 : E ≠ 0
          · have x1 : (E == 0) = false := beqI hE0
            have x2 : (E != 0) = true := bne_iff_ne.2 hE0
            clear hE0 hF0
            go_wp2_with fail
            refine HPX.out.mono ?_
            rintro e w7 ⟨rfl, hb7⟩
            have HK7 := Lib.hid (HKA.out.trans (hb7.mono HKA.out.size))
            clear hb7 g0 g1 g2 g3 g4 g5
            go_wp2_with fail
            refine (WK.out _ HK7.out).mono ?_
            rintro e w9 ⟨rfl, hb9⟩
            have HK9 := Lib.hid (HK7.out.trans (hb9.mono HK7.out.size))
            clear hb9
            go_wp2_with fail
            go_ret
            exact ⟨rfl, HK9.out⟩
          · obtain rfl : F = 3 := (HBAD.out hF0).resolve_left hE0
            obtain rfl : E = 0 := Decidable.not_not.1 hE0
            clear hE0 hF0
            go_wp2_with fail
            refine HPX.out.mono ?_
            rintro e w7 ⟨rfl, hb7⟩
            have HK7 := Lib.hid (HKA.out.trans (hb7.mono HKA.out.size))
            clear hb7 g0 g1 g2 g3 g4 g5
            go_wp2_with fail
            refine (WK.out _ HK7.out).mono ?_
            rintro e w9 ⟨rfl, hb9⟩
            have HK9 := Lib.hid (HK7.out.trans (hb9.mono HK7.out.size))
            clear hb9
            go_wp2_with fail
            go_ret
            exact ⟨rfl, HK9.out⟩
      · obtain rfl : j = l.length := by omega
        have b1 : decide ((l.length : Int) < (l.length : Int)) = false := decide_eq_false (by omega)
        have hfin := li_plain (l := l) (fun i hi => hA.out i hi hi)
        rw [HEE.out] at hfin
        rcases hfin with hfin | hfin | ⟨hfin, hout⟩
        · subst hfin
          go_wp2_with fail
          refine (WK.out _ hK.out).mono ?_
          rintro e w9 ⟨rfl, hb9⟩
          have HK9 := Lib.hid (hK.out.trans (hb9.mono hK.out.size))
          clear hb9
          go_wp2_with fail
          go_ret
          exact ⟨rfl, HK9.out⟩
        · subst hfin
          go_wp2_with fail
          refine (WK.out _ hK.out).mono ?_
          rintro e w9 ⟨rfl, hb9⟩
          have HK9 := Lib.hid (hK.out.trans (hb9.mono hK.out.size))
          clear hb9
          go_wp2_with fail
          go_ret
          exact ⟨rfl, HK9.out⟩
        · subst hfin
          have f1 : (S.toList == (S' ++ ⟨#[93]⟩).toList) = true := by
            have : S = S' ++ ⟨#[93]⟩ := str_ext (by rw [app_list, HSL.out, hS.out, hout])
            rw [this]; simp
          clear hout
          go_wp2_with fail
          refine (WK.out _ hK.out).mono ?_
          rintro e w9 ⟨rfl, hb9⟩
          have HK9 := Lib.hid (hK.out.trans (hb9.mono hK.out.size))
          clear hb9
          go_wp2_with fail
          go_ret
          exact ⟨rfl, HK9.out⟩
end Go.Proofs.YtllkcldckehipaaDoor
