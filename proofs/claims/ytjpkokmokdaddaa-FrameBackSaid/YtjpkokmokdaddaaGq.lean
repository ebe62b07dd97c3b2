/-
  FrameBack: the walk of the first loop.
-/
import Derived.Test.YtjpkokmokdaddaaGn
set_option linter.unusedVariables false
namespace Go.Proofs.Ytjpkokmokdaddaa
open Go.RowKit Go.Shelf Go.Lib Go.Deep

theorem modN (n : Int) (N : Nat) (hN : N ≤ 1000000) : ∃ C : Nat, C ≤ N ∧ IntKind.i64.wrap ((N : Int) + 1) = (N : Int) + 1 ∧ wrap64 (n.tmod ((N : Int) + 1) + ((N : Int) + 1)) = n.tmod ((N : Int) + 1) + ((N : Int) + 1) ∧ (n.tmod ((N : Int) + 1) + ((N : Int) + 1)).tmod ((N : Int) + 1) = (C : Int) := by
  have h1 : n.tmod ((N : Int) + 1) < (N : Int) + 1 := Int.tmod_lt_of_pos n (by omega)
  have h2 : -((N : Int) + 1) < n.tmod ((N : Int) + 1) := Int.lt_tmod_of_pos n (by omega)
  generalize n.tmod ((N : Int) + 1) = r at *
  have h3 : (r + ((N : Int) + 1)).tmod ((N : Int) + 1) = (r + ((N : Int) + 1)) % ((N : Int) + 1) := Int.tmod_eq_emod_of_nonneg (by omega)
  have h4 := Int.emod_nonneg (r + ((N : Int) + 1)) (show (N : Int) + 1 ≠ 0 by omega)
  have h5 := Int.emod_lt_of_pos (r + ((N : Int) + 1)) (show 0 < (N : Int) + 1 by omega)
  refine ⟨((r + ((N : Int) + 1)) % ((N : Int) + 1)).toNat, by omega, by rw [IntKind.wrap_i64]; omega, by rw [wrap64]; omega, by rw [h3]; omega⟩
theorem fit_cut {o : Option Addr} {n c k : Nat} (h : fit (.slice o n c)) (hk : k ≤ n) (hc : n ≤ c) : fit (.slice o k c) := by
  rcases h with h | ⟨a, m, d, h⟩
  · cases h
    obtain rfl : k = 0 := by omega
    exact .inl rfl
  · cases h
    exact .inr ⟨_, _, _, rfl⟩
theorem rds.cut {W : World} {L : List (List UInt8)} {o : Option Addr} {n c : Nat} (h : rds W L (.slice o n c)) (k : Nat) (hk : k ≤ L.length) : rds W (L.take k) (.slice o k c) := by
  obtain ⟨o', a, c', he, h1, h2, h3, h4⟩ := h
  cases he
  have hl : (L.take k).length = k := by rw [List.length_take]; omega
  refine ⟨o, a, c, by rw [hl], by omega, h2, fun h => h3 (by omega), fun i hi => ?_⟩
  obtain ⟨ob, cb, q1, q2⟩ := h4 i (by omega)
  refine ⟨ob, cb, ?_, ?_⟩
  · rw [List.getElem_take]; exact q1
  · rw [List.getElem_take]; exact q2
theorem ow.nil (base : Nat) (W : World) : ow base W (.slice none 0 0) [] := .inl ⟨rfl, rfl⟩
set_option maxRecDepth 100000 in
set_option maxHeartbeats 4000000 in
theorem back_walk (v : Value) (L : List (List UInt8)) (n : Int) (w : World) (hx : rds w L v) {p : Prop} (hp : p) : Calls Try.prog 6 #[v, .int .i64 n] w fun e w' => e = .returned (.bool true) ∧ Below w.heap.size w w' := by
  obtain ⟨o, a, c, rfl, hc1, hc2, ho, hL⟩ := hx
  unfold maxLen at hc2
  have HL := Lib.hid hL
  have HO := Lib.hid ho
  clear hL ho hp
  go_enter Try.func6, Try.ntmps6
  go_wp2_with fail
  go_loopw [5, 6, 7, 21] (fun bv pv ev iv wr => ∃ j : Nat, j ≤ L.length ∧ iv = .int .i64 j ∧ Hid (j ≤ 40) ∧ Hid (∀ i (h : i < L.length), i < j → L[i].length ≤ 2000) ∧ (∃ ob cb op cp oe ce, bv = .slice ob (framesL (putL L j)).length cb ∧ pv = .slice op (putL L j).length cp ∧ ev = .slice oe (putL L j).length ce) ∧ Hid (BK2 w (putL L j) (putL L j) (putL L j) bv pv ev wr)) (fun _ _ _ i _ => L.length - (intOf i).toNat)
  case atStart => exact ⟨0, by omega, rfl, Lib.hid (by omega), Lib.hid (fun i h hi => by omega), ⟨none, 0, none, 0, none, 0, rfl, rfl, rfl⟩, Lib.hid ⟨ow.nil _ _, RW.nil (Below.refl _ _), World.ownsRow_nil _ _ _ _, Below.refl _ _⟩⟩
  case round =>
    obtain ⟨j, hj, rfl, HJ40, HJB, ⟨ob, cb, op, cp, oe, ce, rfl, rfl, rfl⟩, HB⟩ := hrel
    by_cases hlt : j < L.length
    · obtain rfl := HO.out (by omega)
      obtain ⟨ox, cx, q1, q2⟩ := HL.out j hlt
      have g1 := (Fr.of_below (B := fun _ => False) HB.out.2.2.2).cell _ _ (fun h => h) q1
      have HX := Lib.hid (q2.below HB.out.2.2.2)
      have HX0 := Lib.hid q2
      have hps := putL_succ L j hlt
      have HPB := Lib.hid (putL_bytes L j hj HJB.out)
      have hlt' : (j : Int) < (L.length : Int) := by omega
      have HLT := Lib.hid hlt
      clear q1 q2
      by_cases h40 : 40 ≤ j
      · have t1 : decide ((40 : Int) ≤ (j : Int)) = true := decide_eq_true (by omega)
        have t1' : decide (40 ≤ j) = true := decide_eq_true h40
        clear hps h40
        go_wp2_with (go_at_call 9; refine (wakes_hid w _ HB.out.2.2.2).mono ?_; rintro e w1 ⟨rfl, HB9⟩)
        go_ret
        exact ⟨rfl, HB9.out⟩
      have t1 : decide ((40 : Int) ≤ (j : Int)) = false := decide_eq_false (by omega)
      have t1' : decide (40 ≤ j) = false := decide_eq_false h40
      generalize hX : L[j] = X at g1 HX HX0 hps
      have HXX := Lib.hid hX
      clear hX h40
      by_cases hx2 : 2000 < X.length
      · have t2 : decide ((2000 : Int) < (X.length : Int)) = true := decide_eq_true (by omega)
        have t2' : decide (2000 < X.length) = true := decide_eq_true hx2
        clear hps hx2
        go_wp2_with (go_at_call 9; refine (wakes_hid w _ HB.out.2.2.2).mono ?_; rintro e w1 ⟨rfl, HB9⟩)
        go_ret
        exact ⟨rfl, HB9.out⟩
      have t2 : decide ((2000 : Int) < (X.length : Int)) = false := decide_eq_false (by omega)
      have t2' : decide (2000 < X.length) = false := decide_eq_false hx2
      by_cases hb4 : 4000 < (framesL (putL L j)).length
      · have t3 : decide ((4000 : Int) < ((framesL (putL L j)).length : Int)) = true := decide_eq_true (by omega)
        have t3' : decide (4000 < (framesL (putL L j)).length) = true := decide_eq_true hb4
        clear hps hb4 hx2
        go_wp2_with (go_at_call 9; refine (wakes_hid w _ HB.out.2.2.2).mono ?_; rintro e w1 ⟨rfl, HB9⟩)
        go_ret
        exact ⟨rfl, HB9.out⟩
      have t3 : decide ((4000 : Int) < ((framesL (putL L j)).length : Int)) = false := decide_eq_false (by omega)
      have t3' : decide (4000 < (framesL (putL L j)).length) = false := decide_eq_false hb4
      have HJB2 : Hid (∀ i (h : i < L.length), i < j + 1 → L[i].length ≤ 2000) := Lib.hid (fun i h hi => by
        by_cases e : i = j
        · have h9 : L[i] = X := by subst e; exact HXX.out
          rw [h9]; omega
        · exact HJB.out i h (by omega))
      have hj1 : j + 1 ≤ L.length := by omega
      have HJ41 : Hid (j + 1 ≤ 40) := Lib.hid (by have := of_decide_eq_false t1'; omega)
      have hF0 := pframe_any X _ wr HX.out
      have hPl := putL_len L j
      have hfb : (framesL (putL L j)).length ≤ 4000 := by omega
      by_cases h0 : X.length = 0
      · have hfr : frB X = [] := by unfold frB; rw [if_neg (by omega)]
        have hfe : frE X = 2 := by unfold frE; rw [if_pos h0]
        rw [hfr, hfe] at hF0
        rw [if_neg (by omega)] at hps
        have HF := Lib.hid (hF0.mono fun e w' h => Lib.hid h)
        have HPS := Lib.hid hps
        clear hF0 hfr hfe hps hb4 hx2 h0 hPl hfb
        go_wp2_with (go_at_call 10; refine HF.out.mono ?_)
        rintro e w3 hq
        obtain ⟨o3, c3, rfl, hq3⟩ := hq.out
        clear hq
        have HB3 := Lib.hid (HB.out.below (hq3.out.2))
        clear hq3 HF g1
        go_wp2_with fail
        go_roundw
        case rel => exact ⟨j + 1, hj1, by go_num, HJ41, HJB2, ⟨ob, cb, op, cp, oe, ce, by rw [HPS.out], by rw [HPS.out], by rw [HPS.out]⟩, by rw [HPS.out]; exact HB3⟩
        case measure => simp [intOf]; omega
      · have hfr : frB X = frameL X := by unfold frB; rw [if_pos ⟨by omega, by omega⟩]
        have hfe : frE X = 0 := by unfold frE; rw [if_neg h0, if_neg (by omega)]
        rw [hfr, hfe] at hF0
        rw [if_pos ⟨by omega, by omega⟩] at hps
        have HF := Lib.hid (hF0.mono fun e w' h => Lib.hid h)
        obtain ⟨P, hP⟩ : ∃ P, putL L j = P := ⟨_, rfl⟩
        have hfl : (frameL X).length ≤ 2004 := by rw [frame_length]; omega
        have HFL := Lib.hid (And.intro hfl (And.intro hfb (And.intro hPl hps)))
        simp only [hP] at HFL HPB HB t3 t3'
        rw [hP]
        clear hF0 hfr hfe hps hb4 hx2 h0 hPl hfb hP hfl
        go_wp2_with (go_at_call 10; refine HF.out.mono ?_)
        rintro e w3 hq
        obtain ⟨o3, c3, rfl, hq3⟩ := hq.out
        clear hq
        have HB3 := Lib.hid (HB.out.below (hq3.out.2))
        have HR3 := Lib.hid hq3.out.1.rd
        clear hq3 HF g1 HB
        go_wp2_with (at_builtin; go_loud (refine wpList_app_ow rfl _ _ rfl w.heap.size (.slice ob (framesL P).length cb) (.slice o3 (frameL X).length c3) (framesL P) (frameL X) rfl rfl HB3.out.1 HR3.out (by have := HFL.out; omega) HB3.out.2.2.2.size ?_))
        intro o4 c4 w4 own4 gr4 at4
        obtain ⟨P1, hP1⟩ : ∃ P1, P ++ [X] = P1 := ⟨_, rfl⟩
        have hf1 : framesL P1 = framesL P ++ frameL X := by rw [← hP1, frames_append]; simp [framesL]
        have hl1 : (framesL P1).length = (framesL P).length + (frameL X).length := by rw [hf1, List.length_append]
        rw [← hf1] at own4
        rw [← hl1] at own4 ⊢
        have HB4 := Lib.hid (BK2.bytes (B' := P1) HB3.out gr4 own4)
        obtain ⟨i37, hi37, hj37⟩ := Option.map_eq_some_iff.1 infoIntR
        simp only [Prod.mk.injEq] at hj37
        obtain ⟨hz37, hs37, hb37⟩ := hj37
        have HB5 : Hid (BK2 w P1 P P (.slice o4 (framesL P1).length c4) (.slice op P.length cp) (.slice oe P.length ce) (w4.alloc (.cells #[.slice ox X.length cx] 22))) := Lib.hid (HB4.out.below ((Below.refl _ _).alloc (Nat.le_refl _) _))
        have HN5 : Hid (RN w (w4.alloc (.cells #[.slice ox X.length cx] 22)) [X] (.slice (some ⟨w4.heap.size, 0, none⟩) 1 1)) := Lib.hid ⟨some ⟨w4.heap.size, 0, none⟩, ⟨w4.heap.size, 0, none⟩, 1, [.slice ox X.length cx], rfl, fun _ => rfl, rfl, cell_one_new _ _ _, fun x hx => by simp at hx; subst hx; rfl, fun i hi => by
          obtain rfl : i = 0 := by simpa using hi
          exact ⟨ox, cx, rfl, HX0.out⟩⟩
        have HH1 := Lib.hid (And.intro hP1 (And.intro hf1 hl1))
        clear own4 gr4 at4 hP1 hf1 hl1
        go_wp2_with (at_builtin; go_loud (refine wpList_app_rw rfl _ _ rfl w (.slice op P.length cp) (.slice (some ⟨w4.heap.size, 0, none⟩) 1 1) P [X] rfl rfl HB5.out.2.1 HN5.out (by have := HFL.out; have := HJ41.out; simp; omega) ?_))
        intro o6 c6 w6 rw6 gr6
        rw [HH1.out.1] at rw6
        have hp1 : P1.length = P.length + 1 := by rw [← HH1.out.1]; simp
        have hl6 : P.length + [X].length = P1.length := by rw [hp1]; simp
        try rw [hl6] at rw6
        try rw [← hp1] at rw6
        first | rw [hl6] | rw [← hp1] | skip
        have HB6 := Lib.hid (BK2.loads HB5.out gr6 rw6)
        have HB7 := Lib.hid (HB6.out.below (W' := w6.alloc (.cells #[.int .i64 ((framesL P1).length : Nat)] 3)) ((Below.refl _ _).alloc (Nat.le_refl _) _))
        have HP1 := Lib.hid hp1
        have HE7 : Hid ((w6.alloc (.cells #[.int .i64 ((framesL P1).length : Nat)] 3)).ownsRow w.heap.size 3 1 (.slice oe P.length ce) P.length ((endsL 0 P).map fun (n : Nat) => Value.int .i64 (n : Int))) := Lib.hid (by have := HB7.out.2.2.1; unfold RI at this; rw [ends_length] at this; exact this)
        clear rw6 gr6 hp1 hl6 HN5
        go_wp2_with (at_builtin; go_loud (refine wpList_app_row rfl _ _ 37 rfl w.heap.size 3 i37 (.int .i64 0) 1 8 Try.underlying37 hi37 hz37 hs37 hb37 rfl (by decide) (.slice oe P.length ce) P.length ((endsL 0 P).map fun (n : Nat) => Value.int .i64 (n : Int)) rfl HE7.out (some ⟨w6.heap.size, 0, none⟩) ⟨w6.heap.size, 0, none⟩ 1 1 [.int .i64 ((framesL P1).length : Nat)] rfl (fun _ => rfl) rfl (cell_one_new _ _ _) (fun x hx => by simp at hx; subst hx; rfl) (by have := HFL.out; have := HJ41.out; unfold maxLen; omega) (by have := HFL.out; have := HJ41.out; omega) HB7.out.2.2.2.size ?_))
        intro o8 c8 w8 own8 gr8 _
        have hE8 : RI w.heap.size w8 (endsL 0 P1) (.slice o8 P1.length c8) := by
          unfold RI
          rw [ends_length, ← HH1.out.1, ends_app, HH1.out.1, List.map_append, Nat.zero_add, HP1.out]
          exact own8
        rw [← HP1.out]
        have HB8 := Lib.hid (BK2.ends HB7.out gr8 hE8)
        have HPS : Hid (putL L (j + 1) = P1) := Lib.hid (by rw [HFL.out.2.2.2]; exact HH1.out.1)
        clear own8 gr8 hE8 HB7 HE7 HB6 HB5 HB4 HB3 HR3
        go_wp2_with fail
        go_roundw
        case rel => exact ⟨j + 1, hj1, by go_num, HJ41, HJB2, ⟨o4, c4, o6, c6, o8, c8, by rw [HPS.out], by rw [HPS.out], by rw [HPS.out]⟩, by rw [HPS.out]; exact HB8⟩
        case measure => simp [intOf]; omega
    · obtain rfl : j = L.length := by omega
      have hlt' : decide ((L.length : Int) < (L.length : Int)) = false := decide_eq_false (by omega)
      have hPB := putL_bytes L L.length (Nat.le_refl _) HJB.out
      have hPG := putL_good L L.length
      have hPL := putL_len L L.length
      obtain ⟨P, hP⟩ : ∃ P, putL L L.length = P := ⟨_, rfl⟩
      simp only [hP] at hPB hPG hPL HB
      rw [hP]
      have hb80 : (framesL P).length ≤ 80160 := by have := HJ40.out; omega
      have HPP := Lib.hid (And.intro hb80 (And.intro hPG (And.intro hPL HJ40.out)))
      have hS0 := pscan_any (framesL P) _ wr HB.out.1.rd HB.out.1.fit (by omega)
      rw [scan_frames P hPG] at hS0
      have HS := Lib.hid (hS0.mono fun e w' h => Lib.hid h)
      clear hS0 hPB hPG hPL hP hb80 hlt hj
      go_wp2_with (go_at_call 14; refine HS.out.mono ?_)
      rintro e w3 hq
      obtain ⟨o3, c3, rfl, hq3⟩ := hq.out
      have HB3 := Lib.hid (HB.out.below hq3.out.2)
      have hM3 := rsame_any P P _ _ w3 hq3.out.1.rds HB3.out.2.1.rds
      rw [decide_eq_true rfl] at hM3
      have HM3 := Lib.hid hM3
      obtain ⟨C, hC, hn1, hn2, hn3⟩ := modN n (framesL P).length (by have := HPP.out.1; omega)
      have HC := Lib.hid hC
      have hcb : (framesL P).length ≤ cb ∧ cb ≤ maxLen := by
        obtain ⟨_, _, he, h1, h2, _⟩ := HB3.out.1.form
        cases he
        exact ⟨h1, h2⟩
      have hCcb : (C : Int) ≤ (cb : Int) := by omega
      have HCB := Lib.hid hcb
      clear hq hq3 HB HS hM3 hC hcb
      go_wp2_with (go_at_call 16; go_loud (refine HM3.out.mono ?_); rintro e w4 ⟨rfl, hq4⟩; have HB4 := Lib.hid (HB3.out.below hq4.out); clear hq4)
      have hr4 := HB4.out.1.rd.cut C cb HC.out (by have := HC.out; have := HCB.out; omega) HCB.out.2
      have hS0 := pscan_any _ _ w4 hr4 (fit_cut HB4.out.1.fit HC.out HCB.out.1) (by have := HPP.out.1; rw [List.length_take]; omega)
      rw [scan_cut P C HPP.out.2.1 HC.out] at hS0
      have HS := Lib.hid (hS0.mono fun e w' h => Lib.hid h)
      clear hr4 hS0 HB3 HM3
      go_wp2_with (go_at_call 14; refine HS.out.mono ?_)
      rintro e w5 hq
      obtain ⟨o5, c5, rfl, hq5⟩ := hq.out
      have HB5 := Lib.hid (HB4.out.below hq5.out.2)
      have HR5 := Lib.hid hq5.out.1.rds
      obtain ⟨oe', ae, ce', he, _, _, hoe, _, hce⟩ := row_form HB5.out.2.2.1
      rw [ends_length] at he hoe
      cases he
      have HCE : Hid (∀ k (h : k < P.length), w5.cell? (ae.add k) = some (.int .i64 (endL P (k + 1) : Nat))) := Lib.hid fun k h => hce k _ (by
        rw [List.getElem?_map, List.getElem?_eq_getElem (by rw [ends_length]; exact h), ends_get P 0 k h, Option.map_some, Nat.zero_add]
        rfl)
      have HOE := Lib.hid hoe
      clear hq hq5 HS HB4 hce hoe
      obtain ⟨S1, hS1⟩ : ∃ S1, List.take (wholeL P C).1 P = S1 := ⟨_, rfl⟩
      obtain ⟨S2, hS2⟩ : ∃ S2, C - (wholeL P C).2 = S2 := ⟨_, rfl⟩
      simp only [hS1, hS2] at HR5 ⊢
      have HSS := Lib.hid (And.intro hS1 hS2)
      clear hS1 hS2
      go_wp2_with fail
      go_loopw [17, 18] (fun kv ev wr2 => ∃ k : Nat, k ≤ P.length ∧ kv = .int .i64 k ∧ ev = .int .i64 (endL P k : Nat) ∧ Hid (endL P k ≤ C) ∧ w5 = wr2) (fun kv _ _ => P.length - (intOf kv).toNat)
      case atStart => exact ⟨0, by omega, rfl, by simp [endL, framesL], Lib.hid (by simp [endL, framesL]), rfl⟩
      case round =>
        obtain ⟨k, hk, rfl, rfl, HEK, rfl⟩ := hrel
        by_cases hlt : k < P.length
        · have hlt' : (k : Int) < (P.length : Int) := by omega
          obtain rfl := HOE.out (by omega)
          have g1 := HCE.out k hlt
          by_cases hle : endL P (k + 1) ≤ C
          · have hle' : ((endL P (k + 1) : Nat) : Int) ≤ (C : Int) := by omega
            have hk1 : k + 1 ≤ P.length := by omega
            have HLE := Lib.hid hle
            have hk9 : k ≤ 40 := by have := HPP.out.2.2; omega
            have HK9 := Lib.hid hlt
            clear hle hlt
            go_wp2_with fail
            go_roundw
            case rel => exact ⟨k + 1, hk1, by go_num, rfl, HLE, trivial⟩
            case measure => have := HK9.out; simp [intOf]; omega
          · have hle' : decide (((endL P (k + 1) : Nat) : Int) ≤ (C : Int)) = false := decide_eq_false (by omega)
            have hle2 : decide (endL P (k + 1) ≤ C) = false := decide_eq_false hle
            have HWK := Lib.hid (whole_at P k C hk HEK.out (.inr ⟨hlt, by omega⟩))
            clear hle hlt
            have hww := HSS.out
            rw [HWK.out] at hww
            obtain ⟨hs1, hs2⟩ := hww
            have hke : k ≤ cp := by
              obtain ⟨_, _, _, he, h1, _⟩ := HB5.out.2.1.rds
              cases he
              omega
            have hw3 : IntKind.i64.wrap ((C : Int) - (endL P k : Nat)) = (S2 : Int) := by
              have := HEK.out; have := HC.out; have := HPP.out.1
              rw [show (C : Int) - (endL P k : Nat) = (S2 : Int) by simp only at hs2; omega]
              go_unwrap
            have hM5 := rsame_any S1 (P.take k) _ _ w5 HR5 (HB5.out.2.1.rds.cut k hk)
            rw [decide_eq_true (show S1 = P.take k from hs1.symm)] at hM5
            have HM5 := Lib.hid hM5
            have hkc : (k : Int) ≤ (cp : Int) := by omega
            clear hs1 hs2 hke hM5
            go_wp2_with first
              | (go_at_call 16; go_loud (refine HM5.out.mono ?_); rintro e w6 ⟨rfl, hq6⟩; have HB6 := Lib.hid (HB5.out.2.2.2.trans (hq6.out.mono HB5.out.2.2.2.size)); clear hq6)
              | (go_at_call 9; refine (wakes_hid w _ HB6.out).mono ?_; rintro e w7 ⟨rfl, HB9⟩)
            go_ret
            exact ⟨rfl, HB9.out⟩
        · obtain rfl : k = P.length := by omega
          have hlt' : decide ((P.length : Int) < (P.length : Int)) = false := decide_eq_false (by omega)
          have HWK := Lib.hid (whole_at P P.length C hk HEK.out (.inl rfl))
          clear hlt
          have hww := HSS.out
          rw [HWK.out] at hww
          obtain ⟨hs1, hs2⟩ := hww
          have hke : P.length ≤ cp := by
            obtain ⟨_, _, _, he, h1, _⟩ := HB5.out.2.1.rds
            cases he
            omega
          have hw3 : IntKind.i64.wrap ((C : Int) - (endL P P.length : Nat)) = (S2 : Int) := by
            have := HEK.out; have := HC.out; have := HPP.out.1
            rw [show (C : Int) - (endL P P.length : Nat) = (S2 : Int) by simp only at hs2; omega]
            go_unwrap
          have hM5 := rsame_any S1 (P.take P.length) _ _ w5 HR5 (HB5.out.2.1.rds.cut P.length hk)
          rw [decide_eq_true (show S1 = P.take P.length from hs1.symm)] at hM5
          have HM5 := Lib.hid hM5
          have hkc : (P.length : Int) ≤ (cp : Int) := by omega
          clear hs1 hs2 hke hM5
          go_wp2_with first
            | (go_at_call 16; go_loud (refine HM5.out.mono ?_); rintro e w6 ⟨rfl, hq6⟩; have HB6 := Lib.hid (HB5.out.2.2.2.trans (hq6.out.mono HB5.out.2.2.2.size)); clear hq6)
            | (go_at_call 9; refine (wakes_hid w _ HB6.out).mono ?_; rintro e w7 ⟨rfl, HB9⟩)
          go_ret
          exact ⟨rfl, HB9.out⟩
end Go.Proofs.Ytjpkokmokdaddaa
