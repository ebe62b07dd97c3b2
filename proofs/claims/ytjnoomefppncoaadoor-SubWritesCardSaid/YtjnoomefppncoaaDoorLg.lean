/-
  lex of package sub, walked.
-/
import Derived.Test.YtjnoomefppncoaaDoorLe
import Derived.Test.YtjnoomefppncoaaDoorLv
set_option linter.unusedVariables false
namespace Go.Proofs.YtjnoomefppncoaaDoor
open Go.RowKit Go.Shelf

theorem intNe {a b : Nat} (h : a ≠ b) : (((a : Nat) : Int) == ((b : Nat) : Int)) = false := beq_eq_false_iff_ne.2 (fun e => h (by omega))

set_option maxRecDepth 100000 in
set_option maxHeartbeats 8000000 in
theorem plex_any (s : ByteArray) (w : World) (hE : Env w) (hs : s.size ≤ 4096) :
    Calls Tryd.prog 20 #[.string s] w (LexR w (lexS s.data.toList 0 [])) := by
  obtain ⟨R, hR⟩ : ∃ R, lexS s.data.toList 0 [] = R := ⟨_, rfl⟩
  rw [hR]
  have hM := mach_begin s.data.toList
  rw [hR] at hM
  have HM := Lib.hid hM
  have HE := Lib.hid hE
  clear hR hM hE
  go_enter Tryd.func20, Tryd.ntmps20
  go_wp2_with (go_at_call 37; refine (preader_any _).mono ?_; rintro e w1 ⟨rfl, rfl⟩)
  go_loopw [6, 7] (fun sv fv wr => ∃ (p st fr : Nat) (L : List X) (v : Value), sv = .int .i64 st ∧ fv = .int .i64 fr ∧ p ≤ s.size ∧ Hid (LI w s R p st fr L v wr)) (fun _ _ wr => s.size - wr.iterPos (w.heap.size + 1))
  case atStart => exact ⟨0, 0, 0, [], _, rfl, rfl, Nat.zero_le _, Lib.hid (LI.init HM.out)⟩
  case round =>
    obtain ⟨p, st, fr, L, v, rfl, rfl, hp, hI⟩ := hrel
    clear HM
    by_cases hlt : p < s.size
    · have hma := hI.out.ma
      have hnx : ∀ ty, (Instr.next (.pointer (some ⟨w.heap.size + 1, 0, none⟩)) true ty).run Tryd.prog wr = .ok (.tuple #[.bool true, .int .i64 p, .int .i32 (Utf8.decode s p).1]) (wr.iterAt (w.heap.size + 1) s (p + (Utf8.decode s p).2)) := fun ty => Lib.run_next_any_at wr _ s p ty hI.out.it hlt
      have hg : LB w s (p + (Utf8.decode s p).2) L v (wr.iterAt (w.heap.size + 1) s (p + (Utf8.decode s p).2)) := hI.out.go _
      have hpos := iterPos_of hI.out.it
      have hst := mach_hi hma
      have hfr : fr ≤ p := hma.2.1
      have hln := hI.out.ln
      have htx := hI.out.tx
      have hstep := mach_step s hma hlt
      have hnext := fun W => pnext_any st (Utf8.decode s p).1 hst W
      clear hma hI
      generalize nextN st (Utf8.decode s p).1 = N at hstep hnext
      generalize (Utf8.decode s p).1 = r at hnx hnext
      generalize (Utf8.decode s p).2 = k at hstep hg hnx
      generalize wr.iterAt (w.heap.size + 1) s (p + k) = W1 at hg hnx
      have HG := Lib.hid hg
      have HNX := Lib.hid hnext
      have hE1 : Hid (Env W1) := Lib.hid (HE.out.kb hg.2.2.1)
      clear hg hnext
      rcases hstep with ⟨rfl, rfl, h1, h2, hma⟩ | ⟨rfl, rfl, rfl, h2, hma⟩ | ⟨hs23, rfl, rfl, h2, hma, hno⟩ | ⟨n1, n2, n3, hk1, hk2, hma⟩
      · obtain ⟨q, rfl⟩ : ∃ q, p = q + 1 := ⟨p - 1, by omega⟩
        rw [Nat.add_sub_cancel] at h2 hma
        have HMA := Lib.hid hma
        obtain ⟨a1, a2⟩ := addR_len (.text (sub s.data.toList fr q)) L
        have hsl : (sub s.data.toList fr q).length ≤ q - fr := by unfold sub; rw [List.length_take]; omega
        have a3 : (addR (.text (sub s.data.toList fr q)) L).length ≤ q := by
          by_cases hq : fr = q
          · subst hq; rw [sub_self, addR_nil]; exact hln
          · omega
        have HT : Hid (∀ W, Calls Tryd.prog 39 #[.string (s.extract fr q)] W fun e w' => e = .returned (X.text (sub s.data.toList fr q)).val ∧ Below W.heap.size W w') := Lib.hid fun W => by
          have := ptext_any (s.extract fr q) W
          rw [ext_sub, bs_list] at this
          rw [ext_sub]; exact this
        have HRD : Hid (∀ W, Below W1.heap.size W1 W → Calls Tryd.prog 51 #[(X.text (sub s.data.toList fr q)).val, .pointer (some ⟨w.heap.size, 0, none⟩)] W fun e w' => ∃ v', e = .returned v' ∧ PR w.heap.size (w.heap.size + 2) (addR (.text (sub s.data.toList fr q)) L) v' w' ∧ Kp w.heap.size (w.heap.size + 2) W w') := Lib.hid fun W hb =>
          pread_any (X.text (sub s.data.toList fr q)) L v w.heap.size (w.heap.size + 2) W (HG.out.1.below hb) (by omega) (Nat.le_trans HG.out.2.2.2 hb.size) (by omega) (by show (List.map (fun y : X => y.t.length) L).sum + (sub s.data.toList fr q).length ≤ _; omega)
        simp only [X.val, X.k, X.t, X.m, X.a] at HT HRD
        have HA := Lib.hid (And.intro a2 a3)
        clear hma hst a1 a2 a3 hsl
        go_wp2_with (first | (go_at_call 38; refine (HNX.out _).mono ?_; rintro e w3 ⟨rfl, rfl⟩) | (go_at_call 39; refine (HT.out _).mono ?_; rintro e w5 ⟨rfl, hb5⟩) | (go_at_call 51; refine (HRD.out _ hb5).mono ?_; rintro e w6 ⟨v6, rfl, hp6, hk6⟩))
        have hg6 := (HG.out.below hb5).read hp6 hk6
        go_roundw
        case rel => exact ⟨q + 1 + 1, 2, q, _, v6, rfl, by go_num, by omega, Lib.hid (hg6.li HMA.out HA.out.2 (by rw [HA.out.1]; show (List.map (fun y : X => y.t.length) L).sum + (sub s.data.toList fr q).length ≤ _; have : (sub s.data.toList fr q).length ≤ q - fr := by { unfold sub; rw [List.length_take]; omega }; omega))⟩
        case measure => rw [iterPos_of hg6.2.1, hpos]; omega
      · have HMA := Lib.hid hma
        obtain ⟨a1, a2⟩ := addR_len (.text (36 :: 123 :: (sub s.data.toList (fr + 3) p ++ [125]))) L
        have hsl : (sub s.data.toList (fr + 3) p).length ≤ p - (fr + 3) := by unfold sub; rw [List.length_take]; omega
        have hxl : (s.extract (fr + 3) p).size ≤ 4096 := by rw [ext_sub, bs_size]; omega
        have HT : Hid (∀ W, Calls Tryd.prog 39 #[.string ((⟨#[36, 123]⟩ : ByteArray) ++ s.extract (fr + 3) p ++ (⟨#[125]⟩ : ByteArray))] W fun e w' => e = .returned (X.text (36 :: 123 :: (sub s.data.toList (fr + 3) p ++ [125]))).val ∧ Below W.heap.size W w') := Lib.hid fun W => by
          have := ptext_any ((⟨#[36, 123]⟩ : ByteArray) ++ s.extract (fr + 3) p ++ (⟨#[125]⟩ : ByteArray)) W
          have e : ((⟨#[36, 123]⟩ : ByteArray) ++ s.extract (fr + 3) p ++ (⟨#[125]⟩ : ByteArray)).data.toList = 36 :: 123 :: (sub s.data.toList (fr + 3) p ++ [125]) := by rw [ext_sub]; simp
          rw [e] at this
          exact this
        have HRD : Hid (∀ W, Below W1.heap.size W1 W → Calls Tryd.prog 51 #[(X.text (36 :: 123 :: (sub s.data.toList (fr + 3) p ++ [125]))).val, .pointer (some ⟨w.heap.size, 0, none⟩)] W fun e w' => ∃ v', e = .returned v' ∧ PR w.heap.size (w.heap.size + 2) (addR (.text (36 :: 123 :: (sub s.data.toList (fr + 3) p ++ [125]))) L) v' w' ∧ Kp w.heap.size (w.heap.size + 2) W w') := Lib.hid fun W hb =>
          pread_any (X.text (36 :: 123 :: (sub s.data.toList (fr + 3) p ++ [125]))) L v w.heap.size (w.heap.size + 2) W (HG.out.1.below hb) (by omega) (Nat.le_trans HG.out.2.2.2 hb.size) (by omega) (by show (List.map (fun y : X => y.t.length) L).sum + (36 :: 123 :: (sub s.data.toList (fr + 3) p ++ [125])).length ≤ _; simp only [List.length_cons, List.length_append, List.length_nil]; omega)
        simp only [X.val, X.k, X.t, X.m, X.a] at HT HRD
        have HA := Lib.hid (And.intro a1 a2)
        have HSL := Lib.hid hsl
        have hc1 : (0 : Int) ≤ (fr : Int) + 3 := by omega
        have hc2 : (fr : Int) + 3 ≤ (p : Int) := by omega
        clear hma hst a1 a2 hsl
        go_wp2_with (first | (go_at_call 38; refine (HNX.out _).mono ?_; rintro e w3 ⟨rfl, rfl⟩) | (go_at_call 39; refine (HT.out _).mono ?_; rintro e w5 ⟨rfl, hb5⟩) | (go_at_call 51; refine (HRD.out _ hb5).mono ?_; rintro e w6 ⟨v6, rfl, hp6, hk6⟩))
        have hg6 := (HG.out.below hb5).read hp6 hk6
        have hsl := HSL.out
        go_roundw
        case rel => exact ⟨p + 1, 0, p + 1, _, v6, rfl, by go_num, by omega, Lib.hid (hg6.li HMA.out (by have := HA.out.1; omega) (by rw [HA.out.2]; show (List.map (fun y : X => y.t.length) L).sum + (36 :: 123 :: (sub s.data.toList (fr + 3) p ++ [125])).length ≤ _; simp only [List.length_cons, List.length_append, List.length_nil]; omega))⟩
        case measure => rw [iterPos_of hg6.2.1, hpos]; omega
      · have hs0 : (((st : Nat) : Int) == 4) = false := intNe (b := 4) (by omega)
        have HH : Hid (∀ W, Below W1.heap.size W1 W → Calls Tryd.prog 40 #[.string (s.extract (fr + 2) p)] W fun e w' => e = .returned (holeV (holeP (sub s.data.toList (fr + 2) p))) ∧ Below W.heap.size W w') := Lib.hid fun W hb => by
          have := phole_any (s.extract (fr + 2) p) W (hE1.out.kb hb) (by rw [ext_sub, bs_size]; unfold sub; rw [List.length_take]; omega)
          rw [ext_sub, bs_list] at this
          rw [ext_sub]; exact this
        have hc1 : (0 : Int) ≤ (fr : Int) + 2 := by omega
        have hc2 : (fr : Int) + 2 ≤ (p : Int) := by omega
        cases hx : holeP (sub s.data.toList (fr + 2) p) with
        | none =>
          have hR := hno hx
          subst hR
          rw [hx] at HH
          have e1 : holeV none = .tuple #[.agg #[.int .i8 0, .string ⟨#[]⟩, .int .i64 0, .string ⟨#[]⟩, .string ⟨#[]⟩, .slice none 0 0], .bool false] := rfl
          rw [e1] at HH
          clear hma hno hx e1 hst
          rcases hs23 with rfl | rfl
          all_goals
            go_wp2_with (first | (go_at_call 38; refine (HNX.out _).mono ?_; rintro e w3 ⟨rfl, rfl⟩) | (go_at_call 40; refine (HH.out _ (Below.refl _ _)).mono ?_; rintro e w5 ⟨rfl, hb5⟩))
            go_ret3
            exact ⟨rfl, (HG.out.2.2.1.trans (hb5.mono HG.out.2.2.1.size)).alloc (Nat.le_trans HG.out.2.2.1.size hb5.size) _⟩
        | some x =>
          have HMA := Lib.hid (hma x hx)
          rw [hx] at HH
          have e1 : holeV (some x) = .tuple #[.agg #[.int .i8 x.k, .string (bs x.t), .int .i64 0, .string (bs x.m), .string (bs x.a), .slice none 0 0], .bool true] := rfl
          rw [e1] at HH
          obtain ⟨a1, a2⟩ := addR_len x L
          have hxt : x.t = [] := by
            unfold holeP at hx
            split at hx
            · split at hx
              · cases hx; rfl
              · cases hx
            · split at hx
              · cases hx; rfl
              · cases hx
          have HRD : Hid (∀ W, Below W1.heap.size W1 W → Calls Tryd.prog 51 #[(x).val, .pointer (some ⟨w.heap.size, 0, none⟩)] W fun e w' => ∃ v', e = .returned v' ∧ PR w.heap.size (w.heap.size + 2) (addR (x) L) v' w' ∧ Kp w.heap.size (w.heap.size + 2) W w') := Lib.hid fun W hb =>
            pread_any (x) L v w.heap.size (w.heap.size + 2) W (HG.out.1.below hb) (by omega) (Nat.le_trans HG.out.2.2.2 hb.size) (by omega) (by rw [hxt]; simp only [List.length_nil]; omega)
          unfold X.val at HRD
          have HA := Lib.hid (And.intro a1 (And.intro a2 hxt))
          clear hma hno hx e1 hst a1 a2 hxt
          rcases hs23 with rfl | rfl
          all_goals
            go_wp2_with (first | (go_at_call 38; refine (HNX.out _).mono ?_; rintro e w3 ⟨rfl, rfl⟩) | (go_at_call 40; refine (HH.out _ (Below.refl _ _)).mono ?_; rintro e w5 ⟨rfl, hb5⟩) | (go_at_call 51; refine (HRD.out _ (hb5.alloc hb5.size _)).mono ?_; rintro e w6 ⟨v6, rfl, hp6, hk6⟩))
            have hg6 := (HG.out.below (hb5.alloc hb5.size _)).read hp6 hk6
            go_roundw
            case rel => exact ⟨p + 1, 0, p + 1, _, v6, rfl, by go_num, by omega, Lib.hid (hg6.li HMA.out (by have := HA.out.1; omega) (by rw [HA.out.2.1, HA.out.2.2]; simp only [List.length_nil]; omega))⟩
            case measure => rw [iterPos_of hg6.2.1, hpos]; omega
      · have HMA := Lib.hid hma
        have hN2 : (((N : Nat) : Int) == 2) = false := intNe (b := 2) n1
        clear hma
        have hcases : (st = 0 ∨ st = 1) ∨ ((st = 2 ∨ st = 3 ∨ st = 4) ∧ (((N : Nat) : Int) == 0) = false) := by
          by_cases h01 : st = 0 ∨ st = 1
          · exact .inl h01
          · refine .inr ⟨by omega, intNe (b := 0) (fun e => ?_)⟩
            by_cases h4 : st = 4
            · exact n2 ⟨h4, e⟩
            · exact n3 ⟨by omega, e⟩
        clear n1 n2 n3 hst
        rcases hcases with (rfl | rfl) | ⟨rfl | rfl | rfl, hN0⟩
        all_goals
          go_wp2_with (go_at_call 38; refine (HNX.out _).mono ?_; rintro e w3 ⟨rfl, rfl⟩)
          go_roundw
          case rel => exact ⟨p + k, N, fr, L, v, rfl, rfl, hk2, Lib.hid (HG.out.li HMA.out hln htx)⟩
          case measure => rw [iterPos_of HG.out.2.1, hpos]; omega
    · have hpe : p = s.size := by omega
      subst hpe
      obtain ⟨he1, he2⟩ := mach_end hI.out.ma (by rw [toList_length])
      have hnx : ∀ ty, (Instr.next (.pointer (some ⟨w.heap.size + 1, 0, none⟩)) true ty).run Tryd.prog wr = .ok (.tuple #[.bool false]) wr := fun ty => Lib.run_next_end_at wr _ s s.size ty hI.out.it (by omega)
      have hst := mach_hi hI.out.ma
      have hfr : fr ≤ s.size := hI.out.ma.2.1
      rw [toList_length] at he1
      by_cases h01 : st = 0 ∨ st = 1
      · have hR := he1 h01
        subst hR
        have hsl : (sub s.data.toList fr s.size).length ≤ s.size - fr := by unfold sub; rw [List.length_take]; omega
        have HT : Hid (∀ W, Calls Tryd.prog 39 #[.string (s.extract fr s.size)] W fun e w' => e = .returned (X.text (sub s.data.toList fr s.size)).val ∧ Below W.heap.size W w') := Lib.hid fun W => by
          have := ptext_any (s.extract fr s.size) W
          rw [ext_sub, bs_list] at this
          rw [ext_sub]; exact this
        have HRD : Hid (∀ W, Below wr.heap.size wr W → Calls Tryd.prog 51 #[(X.text (sub s.data.toList fr s.size)).val, .pointer (some ⟨w.heap.size, 0, none⟩)] W fun e w' => ∃ v', e = .returned v' ∧ PR w.heap.size (w.heap.size + 2) (addR (.text (sub s.data.toList fr s.size)) L) v' w' ∧ Kp w.heap.size (w.heap.size + 2) W w') := Lib.hid fun W hb =>
        pread_any (X.text (sub s.data.toList fr s.size)) L v w.heap.size (w.heap.size + 2) W (hI.out.pr.below hb) (by omega) (Nat.le_trans hI.out.sz hb.size) (by have := hI.out.ln; omega) (by show (List.map (fun y : X => y.t.length) L).sum + (sub s.data.toList fr s.size).length ≤ _; have := hI.out.tx; omega)
        simp only [X.val, X.k, X.t, X.m, X.a] at HT HRD
        have HBE : Hid (Below w.heap.size w wr ∧ w.heap.size + 2 ≤ wr.heap.size) := Lib.hid ⟨hI.out.be, hI.out.sz⟩
        clear he1 he2 hst hsl
        rcases h01 with rfl | rfl
        all_goals
          go_wp2_with (first | (go_at_call 39; refine (HT.out _).mono ?_; rintro e w5 ⟨rfl, hb5⟩) | (go_at_call 51; refine (HRD.out _ hb5).mono ?_; rintro e w6 ⟨v6, rfl, hp6, hk6⟩))
          go_ret3
          exact ⟨v6, rfl, hp6.isXr, (HBE.out.1.trans (hb5.mono HBE.out.1.size)).trans (hk6.below (by omega) (Nat.le_trans HBE.out.1.size hb5.size))⟩
      · have hR := he2 h01
        subst hR
        have HBE := Lib.hid hI.out.be
        have hb0 : (((st : Nat) : Int) == 0) = false := intNe (b := 0) (by omega)
        have hb1 : (((st : Nat) : Int) == 1) = false := intNe (b := 1) (by omega)
        have hb0' : (((st : Nat) : Int) != 0) = true := by rw [bne, hb0]; rfl
        have hb1' : (((st : Nat) : Int) != 1) = true := by rw [bne, hb1]; rfl
        clear he1 he2 hst h01
        go_wp2_with fail
        go_ret3
        exact ⟨rfl, HBE.out⟩
end Go.Proofs.YtjnoomefppncoaaDoor
