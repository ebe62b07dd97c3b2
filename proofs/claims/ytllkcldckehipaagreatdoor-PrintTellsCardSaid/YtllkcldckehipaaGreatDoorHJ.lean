/-
  The reference's sorted: an object.
-/
import Derived.Test.YtllkcldckehipaaGreatDoorHI
import Derived.Deep.CutBlock
import Derived.Deep.DeepCutAuto
import Derived.Deep.RegionHeld3
set_option linter.unusedVariables false
set_option linter.unusedSimpArgs false
namespace Go.Proofs.YtllkcldckehipaaGreatDoor
open Go.RowKit Go.Shelf

def Holdp (p : Prop) : Prop := p
theorem holdp {p : Prop} (h : Holdp p) : p := h
set_option maxRecDepth 100000 in
set_option maxHeartbeats 8000000 in
theorem rsorted5 (b : Bool) (n : Int) (s : ByteArray) (l : List V) (ks : List ByteArray) (hkl : ks.length = l.length) (v : Value) (w : World) (h : isV w (.mk 5 b n s l ks) v) (hll : l.length ≤ 1000000)
    (IH : Hid (∀ i (hi : i < l.length) u w1, KB w w1 → isV w1 l[i] u → SortC l[i] u w1)) (hnd : Hid ks.Nodup) (ho5 : onceV (.mk 5 b n s l ks)) : SortC (.mk 5 b n s l ks) v w := by
  have HX := Lib.hid h
  have HKL := Lib.hid hkl
  clear hkl
  unfold isV at h
  obtain ⟨lv, kv, rfl, hk, hn, hs, ⟨a, cap, ⟨o, rfl, hc1, hc2, ho⟩, hvs⟩, ⟨a2, cap2, ⟨o2, rfl, hc3, hc4, ho2⟩, hks⟩⟩ := h
  have HV := Lib.hid hvs
  have HKS := Lib.hid hks
  have HN := Lib.hid (And.intro hk (And.intro hn hs))
  unfold maxLen at hs hc2 hc4
  obtain ⟨i0, hi, hz0, hz1, hz2⟩ := info_parts infoV
  obtain ⟨i1, hi1, hy0, hy1, hy2⟩ := info_parts infoStrB
  clear hvs hks hn hk
  obtain ⟨cs, hcs⟩ : ∃ cs : Array Value, #[.int .i8 5, .bool b, .int .i64 n, .string s, .slice o l.length cap, .slice o2 ks.length cap2] = cs := ⟨_, rfl⟩
  have hsg : SGx w #[.int .i8 5, .bool b, .int .i64 n, .string s, .slice o l.length cap, .slice o2 ks.length cap2] #[.int .i8 0, .bool false, .int .i64 0, .string ⟨#[]⟩, .slice none 0 0, .slice none 0 0] (.int .i8 5) (.bool b) (.int .i64 n) (.string s) [] [] none 0 none 0 []
      (((w.alloc (.cells #[.int .i8 5, .bool b, .int .i64 n, .string s, .slice o l.length cap, .slice o2 ks.length cap2] 26)).alloc (.cells #[.int .i8 0, .bool false, .int .i64 0, .string ⟨#[]⟩, .slice none 0 0, .slice none 0 0] 26)).alloc (.cells #[.int .i8 5, .bool b, .int .i64 n, .string s, .slice none 0 0, .slice none 0 0] 26)) := by
    refine ⟨by go_grown, ?_, ?_, ?_, World.ownsRow_nil _ _ _ _, World.ownsRow_nil _ _ _ _, rfl⟩
    · exact (Below.heap_alloc _ _ _ (by simp; omega)).trans ((Below.heap_alloc _ _ _ (by simp)).trans (World.alloc_heap_new w _))
    · have := World.alloc_heap_new (w.alloc (.cells #[.int .i8 5, .bool b, .int .i64 n, .string s, .slice o l.length cap, .slice o2 ks.length cap2] 26)) (.cells #[.int .i8 0, .bool false, .int .i64 0, .string ⟨#[]⟩, .slice none 0 0, .slice none 0 0] 26)
      rw [World.size_alloc] at this
      exact (Below.heap_alloc _ _ _ (by simp)).trans this
    · have := World.alloc_heap_new ((w.alloc (.cells #[.int .i8 5, .bool b, .int .i64 n, .string s, .slice o l.length cap, .slice o2 ks.length cap2] 26)).alloc (.cells #[.int .i8 0, .bool false, .int .i64 0, .string ⟨#[]⟩, .slice none 0 0, .slice none 0 0] 26)) (.cells #[.int .i8 5, .bool b, .int .i64 n, .string s, .slice none 0 0, .slice none 0 0] 26)
      rw [World.size_alloc, World.size_alloc] at this
      exact this
  clear hcs
  unfold SortC
  go_enter Tryz.func30, Tryz.ntmps30
  go_wp2_with fail
  have HSG := Lib.hid hsg
  clear hsg
  generalize hW1 : ((w.alloc (.cells #[.int .i8 5, .bool b, .int .i64 n, .string s, .slice o l.length cap, .slice o2 ks.length cap2] 26)).alloc (.cells #[.int .i8 0, .bool false, .int .i64 0, .string ⟨#[]⟩, .slice none 0 0, .slice none 0 0] 26)).alloc (.cells #[.int .i8 5, .bool b, .int .i64 n, .string s, .slice none 0 0, .slice none 0 0] 26) = W1 at *
  clear hW1
  go_loopw [4] (fun i wr => ∃ j : Nat, j ≤ l.length ∧ i = .int .i64 j ∧ Hid (R5 w #[.int .i8 5, .bool b, .int .i64 n, .string s, .slice o l.length cap, .slice o2 ks.length cap2] #[.int .i8 0, .bool false, .int .i64 0, .string ⟨#[]⟩, .slice none 0 0, .slice none 0 0] (.int .i8 5) (.bool b) (.int .i64 n) (.string s) l ks j wr)) (fun i _ => l.length - (intOf i).toNat)
  case atStart => exact ⟨0, by omega, rfl, Lib.hid ⟨[], by simp, List.Pairwise.nil, none, 0, none, 0, [], HSG.out, .inl ⟨rfl, rfl, rfl, rfl, rfl⟩⟩⟩
  case round =>
    obtain ⟨j, hj, rfl, hR⟩ := hrel
    obtain ⟨ps, hpm, hup, ol, cl, ok, ck, xs, hS, hE⟩ := hR.out
    have HLL : Hid (ps.length = j) := Lib.hid (by have := hpm.length_eq; simpa using this)
    have HP := Lib.hid (And.intro hpm (And.intro hup hE))
    obtain ⟨r0, r1, r2, r3, r4, r5⟩ := six_cells hS.2.1
    obtain ⟨q0, q1, q2, q3, q4, q5⟩ := six_cells hS.2.2.2.1
    have hzw := (Array.getElem?_eq_some_iff.1 hS.2.2.2.1).1
    by_cases hlt : j < l.length
    · have b1 : decide ((j : Int) < (l.length : Int)) = true := decide_eq_true (by omega)
      have hltk : j < ks.length := by have := HKL.out; omega
      obtain rfl := ho (by omega)
      obtain rfl := ho2 (by omega)
      obtain ⟨k1', b1', n1', s1', o1', m1', p1', o2', m2', p2', g0, g1, g2, g3, g4, g5, hx⟩ := isVs_sl l a j hlt (isVs_keep (cell_below hS.1) l _ HV.out)
      have HC := Lib.hid (IH.out j hlt _ wr hS.1 hx)
      have HXE : Hid (l.getD j default = l[j]) := Lib.hid (getD_lt _ _ _ hlt)
      have HKE : Hid (ks.getD j ⟨#[]⟩ = ks[j]) := Lib.hid (getD_lt _ _ _ hltk)
      have HCK := Lib.hid (HKS.out j hltk)
      have HS := Lib.hid hS
      clear hx hS hR hE hpm hup
      generalize l[j] = xe at *
      generalize ks[j] = ke at *
      obtain ⟨L, hL⟩ : ∃ L, ps.map (fun p => psortV (l.getD p default)) = L := ⟨_, rfl⟩
      obtain ⟨K, hK⟩ : ∃ K, ps.map (fun p => ks.getD p ⟨#[]⟩) = K := ⟨_, rfl⟩
      rw [hL, hK] at HS
      rw [hK] at HP q5
      rw [hL] at q4
      have HLK : Hid (L.length = j ∧ K.length = j) := Lib.hid ⟨by rw [← hL, List.length_map]; exact HLL.out, by rw [← hK, List.length_map]; exact HLL.out⟩
      have HLKE := Lib.hid (And.intro hL hK)
      have hK6 : K.length ≤ 1000000 := by have := HLK.out.2; omega
      clear hL hK
      go_wp2_with fail
      refine HC.out.mono ?_
      rintro e w7 ⟨v', rfl, hv', hb7⟩
      have hS7 := HS.out.below hb7
      have hB7 : ∀ q, wr.heap.size ≤ q → Apt w ol L.length cl ok K.length ck q := fun q hq => ⟨by omega, fun e => by have := own_high HS.out.2.2.2.2.1 e; omega, fun e => by have := own_high HS.out.2.2.2.2.2.1 e; omega⟩
      have HB7 := Lib.hid hB7
      have hzz := hb7.size
      obtain ⟨k6, b6, n6, s6, o6, m6, p6, o7, m7, p7, rfl⟩ := isV_six (isV_of_a _ _ hv')
      clear HC HS hb7 hB7 r0 r1 r2 r3 r4 r5 q0 q1 q2 q3 q4 q5 g0 g1 g2 g3 g4 g5
      have hb1 : Below w7.heap.size w7 (w7.alloc (.cells #[.int .i8 k6, .bool b6, .int .i64 n6, .string s6, .slice o6 m6 p6, .slice o7 m7 p7] 26)) := by go_grown
      have HS9 := Lib.hid (hS7.below hb1)
      have HV9 := Lib.hid (isVa_keep (fun a c _ hc => cell_below hb1 _ _ hc) _ _ hv')
      have HT9 := Lib.hid (World.alloc_heap_new w7 (.cells #[.int .i8 k6, .bool b6, .int .i64 n6, .string s6, .slice o6 m6 p6, .slice o7 m7 p7] 26))
      obtain ⟨r0, r1, r2, r3, r4, r5⟩ := six_cells HS9.out.2.1
      have HZ9 : Hid (w.heap.size + 3 ≤ w7.heap.size ∧ w7.heap.size < (w7.alloc (.cells #[.int .i8 k6, .bool b6, .int .i64 n6, .string s6, .slice o6 m6 p6, .slice o7 m7 p7] 26)).heap.size) := Lib.hid ⟨by omega, by simp⟩
      clear hb1 hv' hS7
      go_upto_block 2 with fail
      generalize w7.alloc (.cells #[.int .i8 k6, .bool b6, .int .i64 n6, .string s6, .slice o6 m6 p6, .slice o7 m7 p7] 26) = w9 at *
      clear r0 r1 r2 r3 r4 r5
      go_cut [6] (fun s6 wx => ∃ q : Nat, q ≤ K.length ∧ s6 = .int .i64 q ∧ Hid ((∀ r, r < q → ∀ (h : r < K.length), bl K[r] ke = true) ∧ (∀ h : q < K.length, bl K[q] ke = false) ∧ Below w9.heap.size w9 wx))
      case first =>
        go_wp2_with fail
        go_loopw [6] (fun i wi => ∃ q : Nat, q ≤ K.length ∧ i = .int .i64 q ∧ Hid (∀ r, r < q → ∀ (h : r < K.length), bl K[r] ke = true) ∧ Hid (Below w9.heap.size w9 wi)) (fun i _ => K.length - (intOf i).toNat)
        case atStart => exact ⟨0, by omega, rfl, Lib.hid (fun r hr => absurd hr (by omega)), Lib.hid (Below.refl _ _)⟩
        case round =>
          obtain ⟨q, hq, rfl, hQ, hKq⟩ := hrel
          have hSq := HS9.out.below hKq.out
          obtain ⟨r0, r1, r2, r3, r4, r5⟩ := six_cells hSq.2.1
          obtain ⟨q0, q1, q2, q3, q4, q5⟩ := six_cells hSq.2.2.2.1
          have ckey := cell_below hSq.1 _ _ HCK.out.1
          by_cases hlq : q < K.length
          · have c1 : decide ((q : Int) < (K.length : Int)) = true := decide_eq_true (by omega)
            obtain ⟨oo, ad, cc, e1, _, _, e4, _, e6⟩ := own_form hSq.2.2.2.2.2.1
            simp only [Value.slice.injEq, true_and] at e1
            obtain ⟨rfl, rfl⟩ := e1
            obtain rfl := e4 (by omega)
            have crow := e6 q (.string K[q]) (by rw [List.getElem?_map, List.getElem?_eq_getElem hlq]; rfl)
            obtain ⟨kq, hkq⟩ : ∃ kq, K[q] = kq := ⟨_, rfl⟩
            rw [hkq] at crow
            have HKQ := Lib.hid hkq
            clear e4 e6 hkq hSq
            cases hc : bl kq ke with
            | true =>
              have HBL := Lib.hid hc
              have hc' : Op.bytesLess kq.toList ke.toList = true := hc
              clear hc
              go_wp2_with fail
              go_quiet (fail)
              go_wp2_with fail
              go_roundw
              case rel =>
                refine ⟨q + 1, by omega, by go_num, Lib.hid (fun r hr h => ?_), Lib.hid (hKq.out.trans (drewB _ _ _))⟩
                by_cases e : r = q
                · subst e; rw [HKQ.out]; exact HBL.out
                · exact hQ.out r (by omega) h
              case measure => simp [intOf]; omega
            | false =>
              have HBL := Lib.hid hc
              have hc' : Op.bytesLess kq.toList ke.toList = false := hc
              clear hc
              go_wp2_with fail
              go_quiet (fail)
              go_wp2_with fail
              go_meet
              exact ⟨q, hq, rfl, Lib.hid ⟨hQ.out, fun h => by rw [HKQ.out]; exact HBL.out, hKq.out.trans (drewB _ _ _)⟩⟩
          · obtain rfl : q = K.length := by omega
            have c1 : decide ((K.length : Int) < (K.length : Int)) = false := decide_eq_false (by omega)
            clear hSq
            go_wp2_with fail
            go_quiet (fail)
            go_wp2_with fail
            go_meet
            exact ⟨K.length, hq, rfl, Lib.hid ⟨hQ.out, fun h => absurd h (by omega), hKq.out.trans (drewB _ _ _)⟩⟩
      case rest =>
        obtain ⟨q, hq, rfl, HQB⟩ := hcut
        have hSq := HS9.out.below HQB.out.2.2
        obtain ⟨oo, ad, cc, e1, e2, e3, e4, e5, e6⟩ := own_form hSq.2.2.2.2.2.1
        simp only [Value.slice.injEq, true_and] at e1
        obtain ⟨rfl, rfl⟩ := e1
        obtain ⟨oo, ad2, cc, e1, f2, f3, f4, f5, f6⟩ := own_form hSq.2.2.2.2.1
        simp only [Value.slice.injEq, true_and] at e1
        obtain ⟨rfl, rfl⟩ := e1
        have HQL : Hid (q ≤ K.length ∧ K.length ≤ ck ∧ L.length = K.length ∧ L.length ≤ cl) := Lib.hid ⟨hq, e2, by rw [HLK.out.1, HLK.out.2], f2⟩
        have HSQ := Lib.hid hSq
        have HXL := Lib.hid (la_len _ _ hSq.2.2.2.2.2.2)
        have HONE := Lib.hid (la_one _ _ hSq.2.2.2.2.2.2)
        rcases HP.out.2.2 with ⟨hK0, rfl, rfl, rfl, rfl⟩ | ⟨al, ak, rfl, rfl⟩
        · have hq0 : q = 0 := by
            have : K.length = 0 := by rw [hK0]; rfl
            omega
          have hL0 : L = [] := List.eq_nil_of_length_eq_zero (by rw [HLK.out.1, ← HLK.out.2, hK0]; rfl)
          have hx0 : xs = [] := List.eq_nil_of_length_eq_zero (by rw [HXL.out, hL0]; rfl)
          clear e4 e5 e6 f4 f5 f6 hSq e2 f2
          subst hq0
          subst hL0
          subst hK0
          subst hx0
          generalize wc = w10 at *
          go_upto_region 13 with fail
          go_cut [7] (fun s7 wx => ∃ o13 c13, s7 = .slice o13 0 c13 ∧ Hid (wx.ownsRow w10.heap.size 9 1 (.slice o13 0 c13) 0 [] ∧ Below w10.heap.size w10 wx))
          case first =>
            have q5 : w10.cell? ⟨w.heap.size + 1 + 1, 5, none⟩ = some (.slice none 0 0) := (six_cells HSQ.out.2.2.2.1).2.2.2.2.2
            go_wp2_with (at_builtin; refine holdp ?_)
            all_goals
              unfold Holdp
              refine wpList_append_row_at rfl _ _ 24 rfl w10.heap.size 9 i1 _ 1 16 Tryz.underlying24 hi1 hy0 hy1 hy2 rfl (by decide) _ _ _ rfl (World.ownsRow_nil w10 _ _ _) _ ⟨0, 0, none⟩ 0 _ [] rfl (fun h0 => absurd h0 (by omega)) rfl (fun r u hu => by simp at hu) (fun u hu => by cases hu) (by decide) (by decide) (Nat.le_refl _) ?_
              intro o13 c13 w13 own13 gr13 at13
              have H13 := Lib.hid (And.intro own13 ((Below.refl _ _).grown gr13 (Nat.le_refl _) (fun r e => by cases e)))
              clear own13 gr13 at13
              go_wp2_with fail
              go_meet
              exact ⟨o13, c13, rfl, H13⟩
          case rest =>
            obtain ⟨o13, c13, rfl, H13⟩ := hcut
            generalize wc = w13 at *
            have HS13 := Lib.hid (HSQ.out.below H13.out.2)
            go_upto_region 14 with fail
            go_cut [8] (fun s8 wx => ∃ o14 c14, s8 = .slice o14 0 c14 ∧ Hid (wx.ownsRow w13.heap.size 26 6 (.slice o14 0 c14) 0 [] ∧ Below w13.heap.size w13 wx))
            case first =>
              have q4 : w13.cell? ⟨w.heap.size + 1 + 1, 4, none⟩ = some (.slice none 0 0) := (six_cells HS13.out.2.2.2.1).2.2.2.2.1
              go_wp2_with (at_builtin; refine holdp ?_)
              all_goals
                unfold Holdp
                refine wpList_append_row_at rfl _ _ 23 rfl w13.heap.size 26 i0 _ 6 80 Tryz.underlying23 hi hz0 hz1 hz2 rfl (by decide) _ _ _ rfl (World.ownsRow_nil w13 _ _ _) _ ⟨0, 0, none⟩ 0 _ [] rfl (fun h0 => absurd h0 (by omega)) rfl (fun r u hu => by simp at hu) (fun u hu => by cases hu) (by decide) (by decide) (Nat.le_refl _) ?_
                intro o14 c14 w14 own14 gr14 at14
                have H14 := Lib.hid (And.intro own14 ((Below.refl _ _).grown gr14 (Nat.le_refl _) (fun r e => by cases e)))
                clear own14 gr14 at14
                go_wp2_with fail
                go_meet
                exact ⟨o14, c14, rfl, H14⟩
            case rest =>
              obtain ⟨o14, c14, rfl, H14⟩ := hcut
              generalize wc = w14 at *
              have HS14 := Lib.hid (HS13.out.below H14.out.2)
              have hS14 := HS14.out
              have hz14 : w.heap.size + 3 ≤ w14.heap.size := (Array.getElem?_eq_some_iff.1 hS14.2.2.2.1).1
              have q5 : w14.cell? ⟨w.heap.size + 1 + 1, 5, none⟩ = some (.slice none 0 0) := (six_cells hS14.2.2.2.1).2.2.2.2.2
              obtain ⟨r0, r1, r2, r3, r4, r5⟩ := six_cells hS14.2.1
              have ckey := cell_below hS14.1 _ _ HCK.out.1
              have HZ14 := Lib.hid hz14
              have BOX : Hid (∀ W W' W'' o1 n1 e1, Below w14.heap.size w14 W → W.grownBy W' (Value.slice none 0 0).ownBlock → ((Value.slice o1 n1 e1).ownBlock = (Value.slice none 0 0).ownBlock ∨ (Value.slice o1 n1 e1).ownBlock = some W.heap.size) → W'.grownBy W'' (Value.slice o1 n1 e1).ownBlock → W''.heap[w.heap.size + 1 + 1]? = some (.cells #[.int .i8 5, .bool b, .int .i64 n, .string s, .slice none 0 0, .slice none 0 0] 26 (0, 0))) := Lib.hid (fun W W' W'' o1 n1 e1 hW hg hat hg' => by
                have h4 := HS14.out.2.2.2.1
                have zz := hW.size
                have zz' := hg.size
                have hz := HZ14.out
                refine (hg'.block _ (by omega) (fun e => ?_)).trans ((hg.block _ (by omega) (fun e => by cases e)).trans ((hW.block _ (by omega)).trans h4))
                rcases hat with e' | e'
                · have e2 := e.trans e'; cases e2
                · have := Option.some.inj (e.trans e'); omega)
              clear hS14 hz14
              go_upto_region 15 with fail
              go_cut [] (fun wx => ∃ o2 e2, Hid (SGx w #[.int .i8 5, .bool b, .int .i64 n, .string s, .slice (some a) l.length cap, .slice (some a2) ks.length cap2] #[.int .i8 0, .bool false, .int .i64 0, .string ⟨#[]⟩, .slice none 0 0, .slice none 0 0] (.int .i8 5) (.bool b) (.int .i64 n) (.string s) [] [ke] none 0 o2 e2 [] wx ∧ (∀ p, p < w14.heap.size → p ≠ w.heap.size + 1 + 1 → wx.heap[p]? = w14.heap[p]?) ∧ w14.heap.size ≤ wx.heap.size ∧ (∀ p, p < w14.heap.size → some p ≠ (Value.slice o2 1 e2).ownBlock)))
              case first =>
                have kbA : Below w14.heap.size w14 (w14.alloc (.cells #[.string ke] 9)) := by go_grown
                have kbB : Below w14.heap.size w14 (w14.drew.alloc (.cells #[.string ke] 9)) := by go_grown
                have q5d : w14.drew.cell? ⟨w.heap.size + 1 + 1, 5, none⟩ = _ := q5
                have r5d : w14.drew.cell? ⟨w.heap.size, 5, none⟩ = _ := r5
                have ckd : w14.drew.cell? _ = _ := ckey
                have q5a : (w14.alloc (.cells #[.string ke] 9)).cell? ⟨w.heap.size + 1 + 1, 5, none⟩ = _ := cell_below kbA _ _ q5
                have q5b : (w14.drew.alloc (.cells #[.string ke] 9)).cell? ⟨w.heap.size + 1 + 1, 5, none⟩ = _ := cell_below kbB _ _ q5
                clear r0 r1 r2 r3 r4
                go_region_law (first
                  | (refine step_append_row rfl (.tmp 75) (.tmp 81) 24 rfl (w.heap.size + 3) 9 i1 _ 1 16 Tryz.underlying24 hi1 hy0 hy1 hy2 rfl (by decide) (.slice none 0 0) 0 [] (by simp [Act.eval, Act.put]) (World.ownsRow_nil _ _ _ _) (some ⟨w14.heap.size, 0, none⟩) ⟨w14.heap.size, 0, none⟩ 1 1 [.string ke] (by simp [Act.eval, Act.put]) (fun _ => rfl) rfl (World.news_of_block (cs := #[.string ke]) (t := 9) (fr := (0, 0)) (World.alloc_heap_new _ _)) (by simp [Value.oneCell']) (by decide) (by decide) (by have := HZ14.out; simp; omega) ?_; intro o1 e1 w15 own15 gr15 at15)
                  | (refine step_append_row rfl (.tmp 82) (.tmp 83) 24 rfl (w.heap.size + 3) 9 i1 _ 1 16 Tryz.underlying24 hi1 hy0 hy1 hy2 rfl (by decide) (.slice o1 1 e1) 1 [.string ke] (by simp [Act.eval, Act.put]) own15 o13 ⟨0, 0, none⟩ 0 c13 [] (by simp [Act.eval, Act.put]) (fun h0 => absurd h0 (by omega)) rfl (fun r u hu => by simp at hu) (fun u hu => by cases hu) (by decide) (by decide) (by have := HZ14.out; have := gr15.size; simp at this; omega) ?_; intro o2 e2 w16 own16 gr16 at16; obtain ⟨y, ⟨⟨_, f1⟩, f2, f3⟩, hy, hgy⟩ := box_set5 (.slice o2 1 e2) (BOX.out _ _ _ _ _ _ (by first | exact kbA | exact kbB | go_grown) gr15 at15 gr16)))
                all_goals
                  have HY := Lib.hid (SGx.keysO (L := []) (K := []) (K' := [ke]) (ok := none) (q := 0) (ck := 0) HS14.out (by first | exact kbA | exact kbB | go_grown) gr15 at15 own16 gr16 at16 hy hgy)
                  clear own15 gr15 at15 own16 gr16 at16 hy hgy f1 f2 f3
                  go_wp2_with fail
                  go_meet
                  exact ⟨o2, e2, Lib.hid ⟨HY.out.1, fun p hp hne => HY.out.2.1 p hp (fun e => by cases e) hne, HY.out.2.2.1, fun p hp => HY.out.2.2.2 p hp (fun e => by cases e)⟩⟩
              case rest =>
                obtain ⟨o2, e2, HR15⟩ := hcut
                generalize wc = w15 at *
                have HS15 := Lib.hid HR15.out.1
                have hS15 := HS15.out
                have hz15 : w.heap.size + 3 ≤ w15.heap.size := (Array.getElem?_eq_some_iff.1 hS15.2.2.2.1).1
                have HZ15 := Lib.hid hz15
                clear q5 r0 r1 r2 r3 r4 r5 ckey BOX
                have hk : ∀ p, wr.heap.size ≤ p → p < w9.heap.size → w15.heap[p]? = w9.heap[p]? := fun p h1 h2 => by
                  have s10 := HQB.out.2.2.size
                  have s13 := H13.out.2.size
                  have s14 := H14.out.2.size
                  exact (HR15.out.2.1 p (by omega) (by omega)).trans ((H14.out.2.block p (by omega)).trans ((H13.out.2.block p (by omega)).trans (HQB.out.2.2.block p h2)))
                have hbx := (hk w7.heap.size hzz HZ9.out.2).trans HT9.out
                obtain ⟨t0, t1, t2, t3, t4, t5⟩ := six_cells hbx
                have hv15 : isVa w15 (Apt w none 0 0 o2 1 e2) (psortV xe) (.agg #[.int .i8 k6, .bool b6, .int .i64 n6, .string s6, .slice o6 m6 p6, .slice o7 m7 p7]) := by
                  have s10 := HQB.out.2.2.size
                  have s13 := H13.out.2.size
                  have s14 := H14.out.2.size
                  refine isVa_mono (B := fun p => wr.heap.size ≤ p ∧ p < w9.heap.size) (fun p hp => ⟨(HB7.out p hp.1).1, (fun e => by cases e), HR15.out.2.2.2 p (by omega)⟩) _ _ (isVa_keep (fun a c hp hc => ?_) _ _ (isVa_lt _ _ HV9.out))
                  unfold World.cell? at hc ⊢
                  rw [hk _ hp.1 hp.2]
                  exact hc
                have HONE6 := Lib.hid (isV_one (isV_of_a _ _ hv15))
                have HLA := Lib.hid (la_single hv15)
                have BOX : Hid (∀ W W' W'' o1 n1 e1, Below w15.heap.size w15 W → W.grownBy W' (Value.slice none 0 0).ownBlock → ((Value.slice o1 n1 e1).ownBlock = (Value.slice none 0 0).ownBlock ∨ (Value.slice o1 n1 e1).ownBlock = some W.heap.size) → W'.grownBy W'' (Value.slice o1 n1 e1).ownBlock → W''.heap[w.heap.size + 1 + 1]? = some (.cells #[.int .i8 5, .bool b, .int .i64 n, .string s, .slice none 0 0, .slice o2 1 e2] 26 (0, 0))) := Lib.hid (fun W W' W'' o1 n1 e1 hW hg hat hg' => by
                  have h4 := HS15.out.2.2.2.1
                  have zz := hW.size
                  have zz' := hg.size
                  have hz := HZ15.out
                  refine (hg'.block _ (by omega) (fun e => ?_)).trans ((hg.block _ (by omega) (fun e => by cases e)).trans ((hW.block _ (by omega)).trans h4))
                  rcases hat with e' | e'
                  · have e2 := e.trans e'; cases e2
                  · have := Option.some.inj (e.trans e'); omega)
                have q4 : w15.cell? ⟨w.heap.size + 1 + 1, 4, none⟩ = some (.slice none 0 0) := (six_cells hS15.2.2.2.1).2.2.2.2.1
                clear hS15 hz15 hv15 hk hbx
                go_upto_region 16 with fail
                have kbA : Below w15.heap.size w15 (w15.alloc (.cells #[.int .i8 k6, .bool b6, .int .i64 n6, .string s6, .slice o6 m6 p6, .slice o7 m7 p7] 26)) := by go_grown
                have kbB : Below w15.heap.size w15 (w15.drew.alloc (.cells #[.int .i8 k6, .bool b6, .int .i64 n6, .string s6, .slice o6 m6 p6, .slice o7 m7 p7] 26)) := by go_grown
                have q4d : w15.drew.cell? ⟨w.heap.size + 1 + 1, 4, none⟩ = _ := q4
                have q4a : (w15.alloc (.cells #[.int .i8 k6, .bool b6, .int .i64 n6, .string s6, .slice o6 m6 p6, .slice o7 m7 p7] 26)).cell? ⟨w.heap.size + 1 + 1, 4, none⟩ = _ := cell_below kbA _ _ q4
                have q4b : (w15.drew.alloc (.cells #[.int .i8 k6, .bool b6, .int .i64 n6, .string s6, .slice o6 m6 p6, .slice o7 m7 p7] 26)).cell? ⟨w.heap.size + 1 + 1, 4, none⟩ = _ := cell_below kbB _ _ q4
                have t0d : w15.drew.cell? _ = _ := t0
                have t1d : w15.drew.cell? _ = _ := t1
                have t2d : w15.drew.cell? _ = _ := t2
                have t3d : w15.drew.cell? _ = _ := t3
                have t4d : w15.drew.cell? _ = _ := t4
                have t5d : w15.drew.cell? _ = _ := t5
                go_region_law (first
                  | (refine step_append_row rfl (.tmp 89) (.tmp 91) 23 rfl (w.heap.size + 3) 26 i0 _ 6 80 Tryz.underlying23 hi hz0 hz1 hz2 rfl (by decide) (.slice none 0 0) 0 [] (by simp [Act.eval, Act.put]) (World.ownsRow_nil _ _ _ _) (some ⟨w15.heap.size, 0, none⟩) ⟨w15.heap.size, 0, none⟩ 1 1 [.int .i8 k6, .bool b6, .int .i64 n6, .string s6, .slice o6 m6 p6, .slice o7 m7 p7] (by simp [Act.eval, Act.put]) (fun _ => rfl) rfl (World.news_of_block (cs := #[.int .i8 k6, .bool b6, .int .i64 n6, .string s6, .slice o6 m6 p6, .slice o7 m7 p7]) (t := 26) (fr := (0, 0)) (World.alloc_heap_new _ _)) HONE6.out (by decide) (by decide) (by have := HZ15.out; simp; omega) ?_; intro o4 e4 w17 own17 gr17 at17)
                  | (refine step_append_row rfl (.tmp 92) (.tmp 93) 23 rfl (w.heap.size + 3) 26 i0 _ 6 80 Tryz.underlying23 hi hz0 hz1 hz2 rfl (by decide) (.slice o4 1 e4) 1 [.int .i8 k6, .bool b6, .int .i64 n6, .string s6, .slice o6 m6 p6, .slice o7 m7 p7] (by simp [Act.eval, Act.put]) own17 o14 ⟨0, 0, none⟩ 0 c14 [] (by simp [Act.eval, Act.put]) (fun h0 => absurd h0 (by omega)) rfl (fun r u hu => by simp at hu) (fun u hu => by cases hu) (by decide) (by decide) (by have := HZ15.out; have := gr17.size; simp at this; omega) ?_; intro o5 e5 w18 own18 gr18 at18; obtain ⟨y, ⟨⟨_, f1⟩, f2, f3⟩, hy, hgy⟩ := box_set4 (.slice o5 1 e5) (BOX.out _ _ _ _ _ _ (by first | exact kbA | exact kbB | go_grown) gr17 at17 gr18)))
                all_goals
                  have HY := Lib.hid (SGx.listsO (L := []) (L' := [psortV xe]) (K := [ke]) (ol := none) (q := 0) (cl := 0) HS15.out (by first | exact kbA | exact kbB | go_grown) gr17 at17 own18 gr18 at18 hy hgy HLA.out)
                  clear own17 gr17 at17 own18 gr18 at18 hy hgy
                  have HR := Lib.hid (R5.put (L := []) (K := []) (q := 0) (xe := xe) (ke := ke) HY.out HLKE.out HP.out.1 HP.out.2.1 hnd.out hltk HXE.out HKE.out (Nat.le_refl _) (fun r hr => absurd hr (by omega)) (fun h => absurd h (by simp)))
                  clear HY
                  go_wp2_with fail
                  go_roundw
                  case rel => exact ⟨j + 1, by omega, by go_num, HR⟩
                  case measure => simp [intOf]; omega
        · have CK1 : Hid (∀ r u, ((K.drop q).map Value.string)[r]? = some u → wc.cell? ((ak.add q).add r) = some u) := Lib.hid fun r u hu => by
            rw [add_add]
            have hu' : (K.map Value.string)[q + r]? = some u := by rw [← hu, List.map_drop, List.getElem?_drop]
            have hlt' := (List.getElem?_eq_some_iff.1 hu').1
            rw [List.length_map] at hlt'
            obtain rfl : ak = ad := by simpa using e4 (by omega)
            exact e6 _ _ hu'
          have CK2 : Hid (∀ r u, (xs.drop (q * 6))[r]? = some u → wc.cell? ((al.add (q * 6)).add r) = some u) := Lib.hid fun r u hu => by
            rw [add_add]
            have hu' : xs[q * 6 + r]? = some u := by rw [← hu, List.getElem?_drop]
            have hlt' := (List.getElem?_eq_some_iff.1 hu').1
            have hxl := HXL.out
            obtain rfl : al = ad2 := by simpa using f4 (by omega)
            exact f6 _ _ hu'
          have qs1 := HQL.out.1
          have qs2 := HQL.out.2.1
          have qs3 : q ≤ L.length := by have := HQL.out.2.2.1; omega
          have qs4 := HQL.out.2.2.2
          clear e4 e5 e6 f4 f5 f6 hSq
          generalize wc = w10 at *
          go_upto_region 13 with fail
          go_cut [7] (fun s7 wx => ∃ o13 c13, s7 = .slice o13 (K.length - q) c13 ∧ Hid (wx.ownsRow w10.heap.size 9 1 (.slice o13 (K.length - q) c13) (K.length - q) ((K.drop q).map Value.string) ∧ Below w10.heap.size w10 wx))
          case first =>
            obtain ⟨q0, q1, q2, q3, q4, q5⟩ := six_cells HSQ.out.2.2.2.1
            go_wp2_with (at_builtin; refine holdp ?_)
            all_goals
              unfold Holdp
              refine wpList_append_row_at rfl _ _ 24 rfl w10.heap.size 9 i1 _ 1 16 Tryz.underlying24 hi1 hy0 hy1 hy2 rfl (by decide) _ _ _ rfl (World.ownsRow_nil w10 _ _ _) _ (ak.add q) (K.length - q) _ ((K.drop q).map Value.string) rfl ?_ ?_ CK1.out ?_ ?_ ?_ (Nat.le_refl _) ?_
              · first
                  | exact fun _ => rfl
                  | exact fun h0 => absurd h0 (by omega)
              · simp
              · intro u hu
                obtain ⟨y, _, rfl⟩ := List.mem_map.1 hu
                rfl
              · unfold maxLen; omega
              · omega
              intro o13 c13 w13 own13 gr13 at13
              have H13 := Lib.hid (And.intro (by rw [Nat.zero_add] at own13; exact own13) ((Below.refl _ _).grown gr13 (Nat.le_refl _) (fun r e => by cases e)))
              clear own13 gr13 at13
              go_wp2_with fail
              go_meet
              exact ⟨o13, c13, rfl, H13⟩
          case rest =>
            obtain ⟨o13, c13, rfl, H13⟩ := hcut
            generalize wc = w13 at *
            have HS13 := Lib.hid (HSQ.out.below H13.out.2)
            have CK2' : Hid (∀ r u, (xs.drop (q * 6))[r]? = some u → w13.cell? ((al.add (q * 6)).add r) = some u) := Lib.hid fun r u hu => cell_below H13.out.2 _ _ (CK2.out r u hu)
            go_upto_region 14 with fail
            go_cut [8] (fun s8 wx => ∃ o14 c14, s8 = .slice o14 (L.length - q) c14 ∧ Hid (wx.ownsRow w13.heap.size 26 6 (.slice o14 (L.length - q) c14) (L.length - q) (xs.drop (q * 6)) ∧ Below w13.heap.size w13 wx))
            case first =>
              obtain ⟨q0, q1, q2, q3, q4, q5⟩ := six_cells HS13.out.2.2.2.1
              go_wp2_with (at_builtin; refine holdp ?_)
              all_goals
                unfold Holdp
                refine wpList_append_row_at rfl _ _ 23 rfl w13.heap.size 26 i0 _ 6 80 Tryz.underlying23 hi hz0 hz1 hz2 rfl (by decide) _ _ _ rfl (World.ownsRow_nil w13 _ _ _) _ (al.add (q * 6)) (L.length - q) _ (xs.drop (q * 6)) rfl ?_ ?_ CK2'.out ?_ ?_ ?_ (Nat.le_refl _) ?_
                · first
                    | exact fun _ => rfl
                    | exact fun h0 => absurd h0 (by omega)
                · rw [List.length_drop, HXL.out, Nat.sub_mul]
                · exact fun u hu => HONE.out u (List.mem_of_mem_drop hu)
                · have := HQL.out.2.2.1; unfold maxLen; omega
                · have := HQL.out.2.2.1; omega
                intro o14 c14 w14 own14 gr14 at14
                have H14 := Lib.hid (And.intro (by rw [Nat.zero_add] at own14; exact own14) ((Below.refl _ _).grown gr14 (Nat.le_refl _) (fun r e => by cases e)))
                clear own14 gr14 at14
                go_wp2_with fail
                go_meet
                exact ⟨o14, c14, rfl, H14⟩
            case rest =>
              obtain ⟨o14, c14, rfl, H14⟩ := hcut
              generalize wc = w14 at *
              have HS14 := Lib.hid (HS13.out.below H14.out.2)
              -- the keys' row, cut; the copy's cells; the list's box
              have hS14 := HS14.out
              have hz14 : w.heap.size + 3 ≤ w14.heap.size := (Array.getElem?_eq_some_iff.1 hS14.2.2.2.1).1
              obtain ⟨q0, q1, q2, q3, q4, q5⟩ := six_cells hS14.2.2.2.1
              obtain ⟨r0, r1, r2, r3, r4, r5⟩ := six_cells hS14.2.1
              have ckey := cell_below hS14.1 _ _ HCK.out.1
              have HZ14 := Lib.hid hz14
              have OWK : Hid (∀ W, Below w14.heap.size w14 W → W.ownsRow (w.heap.size + 3) 9 1 (.slice (some ak) q ck) q ((K.map Value.string).take (q * 1))) := Lib.hid fun W hW => by
                have h6 := (hS14.below hW).2.2.2.2.2.1
                rcases h6.2 with ⟨e, _⟩ | ⟨g, cap', cur, e, _⟩
                · cases e
                · simp only [Value.slice.injEq, Option.some.injEq] at e
                  obtain ⟨rfl, _, rfl⟩ := e
                  exact own_cut h6 q HQL.out.1
              have CPY : Hid (∃ ad, (0 < K.length - q → o13 = some ad) ∧ ∀ W W', Below w14.heap.size w14 W → W.grownBy W' (Value.slice (some ak) q ck).ownBlock → ∀ r u, ((K.drop q).map Value.string)[r]? = some u → W'.cell? (ad.add r) = some u) := Lib.hid (by
                obtain ⟨oo, ad, cc, e1, _, _, e4, _, e6⟩ := own_form H13.out.1
                simp only [Value.slice.injEq, true_and] at e1
                obtain ⟨rfl, rfl⟩ := e1
                refine ⟨ad, e4, fun W W' hW hg r u hu => hg.cell (cell_below hW _ _ (cell_below H14.out.2 _ _ (e6 r u hu))) (fun e => ?_)⟩
                rw [add_block] at e
                have hr : r < ((K.drop q).map Value.string).length := (List.getElem?_eq_some_iff.1 hu).1
                rw [List.length_map, List.length_drop] at hr
                obtain rfl := e4 (by omega)
                have h1 := H13.out.1.lt _ rfl
                have h2 := HSQ.out.2.2.2.2.2.1.lt _ rfl
                have := Option.some.inj e
                omega)
              have BOX : Hid (∀ W W' W'' o1 n1 e1, Below w14.heap.size w14 W → W.grownBy W' (Value.slice (some ak) q ck).ownBlock → ((Value.slice o1 n1 e1).ownBlock = (Value.slice (some ak) q ck).ownBlock ∨ (Value.slice o1 n1 e1).ownBlock = some W.heap.size) → W'.grownBy W'' (Value.slice o1 n1 e1).ownBlock → W''.heap[w.heap.size + 1 + 1]? = some (.cells #[.int .i8 5, .bool b, .int .i64 n, .string s, .slice (some al) L.length cl, .slice (some ak) K.length ck] 26 (0, 0))) := Lib.hid (fun W W' W'' o1 n1 e1 hW hg hat hg' => by
                have h4 := hS14.2.2.2.1
                have hak := hS14.2.2.2.2.2.1.lt _ rfl
                have zz := hW.size
                have zz' := hg.size
                refine (hg'.block _ (by omega) (fun e => ?_)).trans ((hg.block _ (by omega) (fun e => by have := Option.some.inj e; omega)).trans ((hW.block _ (by omega)).trans h4))
                rcases hat with e' | e'
                · have := Option.some.inj (e.trans e'); omega
                · have := Option.some.inj (e.trans e'); omega)
              obtain ⟨ad13, hoo13, hcp⟩ := CPY.out
              have HCP := Lib.hid hcp
              clear hcp hS14 hz14
              have hp0 : (0 : Int) ≤ (q : Int) := by omega
              have hp1 : (q : Int) ≤ (ck : Int) := by omega
              go_upto_region 15 with fail
              obtain ⟨K', hK'⟩ : ∃ K', K.take q ++ [ke] ++ K.drop q = K' := ⟨_, rfl⟩
              have hKL : q + 1 + (K.length - q) = K'.length := by rw [← hK']; simp; omega
              have hKM : (K.map Value.string).take (q * 1) ++ [Value.string ke] ++ (K.drop q).map Value.string = K'.map Value.string := by rw [← hK', Nat.mul_one]; simp [List.map_take]
              have HKK := Lib.hid (And.intro hK' (And.intro hKL hKM))
              clear hK' hKL hKM
              go_cut [] (fun wx => ∃ o2 e2, Hid (SGx w #[.int .i8 5, .bool b, .int .i64 n, .string s, .slice (some a) l.length cap, .slice (some a2) ks.length cap2] #[.int .i8 0, .bool false, .int .i64 0, .string ⟨#[]⟩, .slice none 0 0, .slice none 0 0] (.int .i8 5) (.bool b) (.int .i64 n) (.string s) L K' (some al) cl o2 e2 xs wx ∧ (∀ p, p < w14.heap.size → some p ≠ (Value.slice (some ak) q ck).ownBlock → p ≠ w.heap.size + 1 + 1 → wx.heap[p]? = w14.heap[p]?) ∧ w14.heap.size ≤ wx.heap.size ∧ (∀ p, p < w14.heap.size → some p ≠ (Value.slice (some ak) q ck).ownBlock → some p ≠ (Value.slice o2 K'.length e2).ownBlock)))
              case first =>
                have kbA : Below w14.heap.size w14 (w14.alloc (.cells #[.string ke] 9)) := by go_grown
                have kbB : Below w14.heap.size w14 (w14.drew.alloc (.cells #[.string ke] 9)) := by go_grown
                have q5d : w14.drew.cell? ⟨w.heap.size + 1 + 1, 5, none⟩ = _ := q5
                have r5d : w14.drew.cell? ⟨w.heap.size, 5, none⟩ = _ := r5
                have ckd : w14.drew.cell? _ = _ := ckey
                have q5a : (w14.alloc (.cells #[.string ke] 9)).cell? ⟨w.heap.size + 1 + 1, 5, none⟩ = _ := cell_below kbA _ _ q5
                have q5b : (w14.drew.alloc (.cells #[.string ke] 9)).cell? ⟨w.heap.size + 1 + 1, 5, none⟩ = _ := cell_below kbB _ _ q5
                clear q0 q1 q2 q3 q4 r0 r1 r2 r3 r4
                go_region_law (first
                  | (refine step_append_row rfl (.tmp 75) (.tmp 81) 24 rfl (w.heap.size + 3) 9 i1 _ 1 16 Tryz.underlying24 hi1 hy0 hy1 hy2 rfl (by decide) (.slice (some ak) q ck) q ((K.map Value.string).take (q * 1)) (by simp [Act.eval, Act.put]) (OWK.out _ (by first | exact kbA | exact kbB | go_grown)) (some ⟨w14.heap.size, 0, none⟩) ⟨w14.heap.size, 0, none⟩ 1 1 [.string ke] (by simp [Act.eval, Act.put]) (fun _ => rfl) rfl (World.news_of_block (cs := #[.string ke]) (t := 9) (fr := (0, 0)) (World.alloc_heap_new _ _)) (by simp [Value.oneCell']) (by unfold maxLen; omega) (by omega) (by have := HZ14.out; simp; omega) ?_; intro o1 e1 w15 own15 gr15 at15)
                  | (refine step_append_row rfl (.tmp 82) (.tmp 83) 24 rfl (w.heap.size + 3) 9 i1 _ 1 16 Tryz.underlying24 hi1 hy0 hy1 hy2 rfl (by decide) (.slice o1 (q + 1) e1) (q + 1) ((K.map Value.string).take (q * 1) ++ [.string ke]) (by simp [Act.eval, Act.put]) own15 o13 ad13 (K.length - q) c13 ((K.drop q).map Value.string) (by simp [Act.eval, Act.put]) hoo13 (by simp) (HCP.out _ _ (by first | exact kbA | exact kbB | go_grown) gr15) (by intro u hu; obtain ⟨z, _, rfl⟩ := List.mem_map.1 hu; rfl) (by unfold maxLen; omega) (by omega) (by have := HZ14.out; have := gr15.size; simp at this; omega) ?_; intro o2 e2 w16 own16 gr16 at16; obtain ⟨y, ⟨⟨_, f1⟩, f2, f3⟩, hy, hgy⟩ := box_set5 (.slice o2 (q + 1 + (K.length - q)) e2) (BOX.out _ _ _ _ _ _ (by first | exact kbA | exact kbB | go_grown) gr15 at15 gr16)))
                all_goals
                  rw [HKK.out.2.1, HKK.out.2.2] at own16
                  rw [HKK.out.2.1] at at16 hy
                  have HY := Lib.hid (SGx.keysO HS14.out (by first | exact kbA | exact kbB | go_grown) gr15 at15 own16 gr16 at16 hy hgy)
                  clear own15 gr15 at15 own16 gr16 at16 hy hgy f1 f2 f3
                  go_wp2_with fail
                  go_meet
                  exact ⟨o2, e2, HY⟩
              case rest =>
                obtain ⟨o2, e2, HR15⟩ := hcut
                generalize wc = w15 at *
                have HS15 := Lib.hid HR15.out.1
                have hS15 := HS15.out
                have hz15 : w.heap.size + 3 ≤ w15.heap.size := (Array.getElem?_eq_some_iff.1 hS15.2.2.2.1).1
                have HZ15 := Lib.hid hz15
                clear q0 q1 q2 q3 q4 q5 r0 r1 r2 r3 r4 r5 ckey OWK CPY BOX HCP
                have hk : ∀ p, wr.heap.size ≤ p → p < w9.heap.size → w15.heap[p]? = w9.heap[p]? := fun p h1 h2 => by
                  have s10 := HQB.out.2.2.size
                  have s13 := H13.out.2.size
                  have s14 := H14.out.2.size
                  exact (HR15.out.2.1 p (by omega) (fun e => (HB7.out p h1).2.2 e) (by omega)).trans ((H14.out.2.block p (by omega)).trans ((H13.out.2.block p (by omega)).trans (HQB.out.2.2.block p h2)))
                have hbx := (hk w7.heap.size hzz HZ9.out.2).trans HT9.out
                obtain ⟨t0, t1, t2, t3, t4, t5⟩ := six_cells hbx
                have hv15 : isVa w15 (Apt w (some al) L.length cl o2 K'.length e2) (psortV xe) (.agg #[.int .i8 k6, .bool b6, .int .i64 n6, .string s6, .slice o6 m6 p6, .slice o7 m7 p7]) := by
                  have s10 := HQB.out.2.2.size
                  have s13 := H13.out.2.size
                  have s14 := H14.out.2.size
                  refine isVa_mono (B := fun p => wr.heap.size ≤ p ∧ p < w9.heap.size) (fun p hp => ⟨(HB7.out p hp.1).1, (HB7.out p hp.1).2.1, HR15.out.2.2.2 p (by omega) (fun e => (HB7.out p hp.1).2.2 e)⟩) _ _ (isVa_keep (fun a c hp hc => ?_) _ _ (isVa_lt _ _ HV9.out))
                  unfold World.cell? at hc ⊢
                  rw [hk _ hp.1 hp.2]
                  exact hc
                have HONE6 := Lib.hid (isV_one (isV_of_a _ _ hv15))
                have HLA := Lib.hid (la_app _ _ _ _ (la_app _ _ _ _ (la_cut _ _ q hS15.2.2.2.2.2.2).1 (la_single hv15)) (la_cut _ _ q hS15.2.2.2.2.2.2).2)
                obtain ⟨L', hL'⟩ : ∃ L', L.take q ++ [psortV xe] ++ L.drop q = L' := ⟨_, rfl⟩
                have hLL : q + 1 + (L.length - q) = L'.length := by rw [← hL']; have := HQL.out.2.2.1; simp; omega
                obtain ⟨xs', hxs'⟩ : ∃ xs', xs.take (q * 6) ++ [.int .i8 k6, .bool b6, .int .i64 n6, .string s6, .slice o6 m6 p6, .slice o7 m7 p7] ++ xs.drop (q * 6) = xs' := ⟨_, rfl⟩
                rw [hL', hxs'] at HLA
                have HLX := Lib.hid (And.intro hL' (And.intro hLL hxs'))
                clear hL' hLL hxs' hv15 hk hbx
                have OWL : Hid (∀ W, Below w15.heap.size w15 W → W.ownsRow (w.heap.size + 3) 26 6 (.slice (some al) q cl) q (xs.take (q * 6))) := Lib.hid fun W hW => by
                  have h5 := (HS15.out.below hW).2.2.2.2.1
                  rcases h5.2 with ⟨e, _⟩ | ⟨g, cap', cur, e, _⟩
                  · cases e
                  · simp only [Value.slice.injEq, Option.some.injEq] at e
                    obtain ⟨rfl, _, rfl⟩ := e
                    exact own_cut h5 q (by have := HQL.out.2.2.1; have := HQL.out.1; omega)
                have CPY : Hid (∃ ad, (0 < L.length - q → o14 = some ad) ∧ ∀ W W', Below w15.heap.size w15 W → W.grownBy W' (Value.slice (some al) q cl).ownBlock → ∀ r u, (xs.drop (q * 6))[r]? = some u → W'.cell? (ad.add r) = some u) := Lib.hid (by
                  obtain ⟨oo, ad, cc, e1, _, _, e4, _, e6⟩ := own_form H14.out.1
                  simp only [Value.slice.injEq, true_and] at e1
                  obtain ⟨rfl, rfl⟩ := e1
                  refine ⟨ad, e4, fun W W' hW hg r u hu => ?_⟩
                  have hr : r < (xs.drop (q * 6)).length := (List.getElem?_eq_some_iff.1 hu).1
                  rw [List.length_drop, HXL.out] at hr
                  obtain rfl := e4 (by omega)
                  have h1 := H14.out.1.lt _ rfl
                  have s13 := H13.out.2.size
                  have hal := HSQ.out.2.2.2.2.1.lt _ rfl
                  have hak := HSQ.out.2.2.2.2.2.1.lt _ rfl
                  have hc15 : w15.cell? (ad.add r) = some u := by
                    have hc := e6 r u hu
                    unfold World.cell? at hc ⊢
                    rw [add_block] at hc ⊢
                    rw [HR15.out.2.1 ad.block (by omega) (fun e => by have := Option.some.inj e; omega) (by omega)]
                    exact hc
                  refine hg.cell (cell_below hW _ _ hc15) (fun e => ?_)
                  rw [add_block] at e
                  have := Option.some.inj e
                  omega)
                have BOX : Hid (∀ W W' W'' o1 n1 e1, Below w15.heap.size w15 W → W.grownBy W' (Value.slice (some al) q cl).ownBlock → ((Value.slice o1 n1 e1).ownBlock = (Value.slice (some al) q cl).ownBlock ∨ (Value.slice o1 n1 e1).ownBlock = some W.heap.size) → W'.grownBy W'' (Value.slice o1 n1 e1).ownBlock → W''.heap[w.heap.size + 1 + 1]? = some (.cells #[.int .i8 5, .bool b, .int .i64 n, .string s, .slice (some al) L.length cl, .slice o2 K'.length e2] 26 (0, 0))) := Lib.hid (fun W W' W'' o1 n1 e1 hW hg hat hg' => by
                  have h4 := HS15.out.2.2.2.1
                  have hal := HS15.out.2.2.2.2.1.lt _ rfl
                  have zz := hW.size
                  have zz' := hg.size
                  refine (hg'.block _ (by omega) (fun e => ?_)).trans ((hg.block _ (by omega) (fun e => by have := Option.some.inj e; omega)).trans ((hW.block _ (by omega)).trans h4))
                  rcases hat with e' | e'
                  · have := Option.some.inj (e.trans e'); omega
                  · have := Option.some.inj (e.trans e'); omega)
                obtain ⟨ad14, hoo14, hcp⟩ := CPY.out
                have HCP := Lib.hid hcp
                obtain ⟨q0, q1, q2, q3, q4, q5⟩ := six_cells hS15.2.2.2.1
                clear hcp hS15 hz15
                have hp0 : (0 : Int) ≤ (q : Int) := by omega
                have hp2 : (q : Int) ≤ (cl : Int) := by have := HQL.out.2.2.2; have := HQL.out.2.2.1; have := HQL.out.1; omega
                have hL6 : L.length ≤ 1000000 := by have := HQL.out.2.2.1; omega
                go_upto_region 16 with fail
                have kbA : Below w15.heap.size w15 (w15.alloc (.cells #[.int .i8 k6, .bool b6, .int .i64 n6, .string s6, .slice o6 m6 p6, .slice o7 m7 p7] 26)) := by go_grown
                have kbB : Below w15.heap.size w15 (w15.drew.alloc (.cells #[.int .i8 k6, .bool b6, .int .i64 n6, .string s6, .slice o6 m6 p6, .slice o7 m7 p7] 26)) := by go_grown
                have q4d : w15.drew.cell? ⟨w.heap.size + 1 + 1, 4, none⟩ = _ := q4
                have q4a : (w15.alloc (.cells #[.int .i8 k6, .bool b6, .int .i64 n6, .string s6, .slice o6 m6 p6, .slice o7 m7 p7] 26)).cell? ⟨w.heap.size + 1 + 1, 4, none⟩ = _ := cell_below kbA _ _ q4
                have q4b : (w15.drew.alloc (.cells #[.int .i8 k6, .bool b6, .int .i64 n6, .string s6, .slice o6 m6 p6, .slice o7 m7 p7] 26)).cell? ⟨w.heap.size + 1 + 1, 4, none⟩ = _ := cell_below kbB _ _ q4
                have t0d : w15.drew.cell? _ = _ := t0
                have t1d : w15.drew.cell? _ = _ := t1
                have t2d : w15.drew.cell? _ = _ := t2
                have t3d : w15.drew.cell? _ = _ := t3
                have t4d : w15.drew.cell? _ = _ := t4
                have t5d : w15.drew.cell? _ = _ := t5
                clear q0 q1 q2 q3 q5
                go_region_law (first
                  | (refine step_append_row rfl (.tmp 89) (.tmp 91) 23 rfl (w.heap.size + 3) 26 i0 _ 6 80 Tryz.underlying23 hi hz0 hz1 hz2 rfl (by decide) (.slice (some al) q cl) q (xs.take (q * 6)) (by simp [Act.eval, Act.put]) (OWL.out _ (by first | exact kbA | exact kbB | go_grown)) (some ⟨w15.heap.size, 0, none⟩) ⟨w15.heap.size, 0, none⟩ 1 1 [.int .i8 k6, .bool b6, .int .i64 n6, .string s6, .slice o6 m6 p6, .slice o7 m7 p7] (by simp [Act.eval, Act.put]) (fun _ => rfl) rfl (World.news_of_block (cs := #[.int .i8 k6, .bool b6, .int .i64 n6, .string s6, .slice o6 m6 p6, .slice o7 m7 p7]) (t := 26) (fr := (0, 0)) (World.alloc_heap_new _ _)) HONE6.out (by unfold maxLen; omega) (by omega) (by have := HZ15.out; simp; omega) ?_; intro o4 e4 w17 own17 gr17 at17)
                  | (refine step_append_row rfl (.tmp 92) (.tmp 93) 23 rfl (w.heap.size + 3) 26 i0 _ 6 80 Tryz.underlying23 hi hz0 hz1 hz2 rfl (by decide) (.slice o4 (q + 1) e4) (q + 1) (xs.take (q * 6) ++ [.int .i8 k6, .bool b6, .int .i64 n6, .string s6, .slice o6 m6 p6, .slice o7 m7 p7]) (by simp [Act.eval, Act.put]) own17 o14 ad14 (L.length - q) c14 (xs.drop (q * 6)) (by simp [Act.eval, Act.put]) hoo14 (by rw [List.length_drop, HXL.out, Nat.sub_mul]) (HCP.out _ _ (by first | exact kbA | exact kbB | go_grown) gr17) (fun u hu => HONE.out u (List.mem_of_mem_drop hu)) (by unfold maxLen; omega) (by omega) (by have := HZ15.out; have := gr17.size; simp at this; omega) ?_; intro o5 e5 w18 own18 gr18 at18; obtain ⟨y, ⟨⟨_, f1⟩, f2, f3⟩, hy, hgy⟩ := box_set4 (.slice o5 (q + 1 + (L.length - q)) e5) (BOX.out _ _ _ _ _ _ (by first | exact kbA | exact kbB | go_grown) gr17 at17 gr18)))
                all_goals
                  rw [HLX.out.2.1, HLX.out.2.2] at own18
                  rw [HLX.out.2.1] at at18 hy
                  have HY := Lib.hid (SGx.listsO HS15.out (by first | exact kbA | exact kbB | go_grown) gr17 at17 own18 gr18 at18 hy hgy HLA.out)
                  clear own17 gr17 at17 own18 gr18 at18 hy hgy f1 f2 f3
                  rw [← HLX.out.1, ← HKK.out.1] at HY
                  have HR := Lib.hid (R5.put HY.out HLKE.out HP.out.1 HP.out.2.1 hnd.out hltk HXE.out HKE.out HQL.out.1 HQB.out.1 HQB.out.2.1)
                  clear HY
                  go_wp2_with fail
                  go_roundw
                  case rel => exact ⟨j + 1, by omega, by go_num, HR⟩
                  case measure => simp [intOf]; omega
    · obtain rfl : j = l.length := by omega
      obtain ⟨L, hL⟩ : ∃ L, ps.map (fun p => psortV (l.getD p default)) = L := ⟨_, rfl⟩
      obtain ⟨K, hK⟩ : ∃ K, ps.map (fun p => ks.getD p ⟨#[]⟩) = K := ⟨_, rfl⟩
      have hkz : ∀ q ∈ K, q.size ≤ maxLen := fun q hq => by
        rw [← hK] at hq
        obtain ⟨p, hp, rfl⟩ := List.mem_map.1 hq
        have hpl : p < l.length := List.mem_range.1 (hpm.mem_iff.1 hp)
        have := HKL.out
        rw [getD_lt _ _ _ (show p < ks.length by omega)]
        exact (HKS.out p (by omega)).2
      have HPS := Lib.hid (psort_obj hpm hup ho5)
      rw [hL, hK] at hS HPS
      rw [hL] at q4
      rw [hK] at q5
      obtain ⟨x1, x2, x3, x4, x5, x6, f', ⟨⟨_, t1⟩, t1', t1''⟩, ⟨⟨_, t2⟩, t2', t2''⟩, ⟨⟨_, t3⟩, t3', t3''⟩, ⟨⟨_, t4⟩, t4', t4''⟩, ⟨⟨_, t5⟩, t5', t5''⟩, ⟨⟨_, t6⟩, t6', t6''⟩, hf7, hg7, e0, e1, e2, e3, e4, e5, -⟩ := store_six (rowIs_six hS.2.2.1) 0 (by decide) (.int .i8 5) (.bool b) (.int .i64 n) (.string s) (.slice ol L.length cl) (.slice ok K.length ck) (by intro u hu; simp only [List.mem_cons, List.not_mem_nil, or_false] at hu; rcases hu with rfl | rfl | rfl | rfl | rfl | rfl <;> rfl)
      simp only [Nat.zero_add] at t2 t2' t2'' t3 t3' t3'' t4 t4' t4'' t5 t5' t5'' t6 t6' t6'' e1 e2 e3 e4 e5
      have d0 := hf7.cell (show 0 < 6 by decide)
      have d1 := hf7.cell (show 1 < 6 by decide)
      have d2 := hf7.cell (show 2 < 6 by decide)
      have d3 := hf7.cell (show 3 < 6 by decide)
      have d4 := hf7.cell (show 4 < 6 by decide)
      have d5 := hf7.cell (show 5 < 6 by decide)
      rw [e0] at d0
      rw [e1] at d1
      rw [e2] at d2
      rw [e3] at d3
      rw [e4] at d4
      rw [e5] at d5
      have HD := Lib.hid (And.intro d0 (And.intro d1 (And.intro d2 (And.intro d3 (And.intro d4 d5)))))
      have HEND := Lib.hid (And.intro (hS.result hg7 HN.out.1 HN.out.2.1 HN.out.2.2 hkz) (hS.bel hg7))
      clear hf7 hg7 e0 e1 e2 e3 e4 e5 d0 d1 d2 d3 d4 d5 hR hS hE hpm hup hkz hL hK HP HLL
      have b1 : decide ((l.length : Int) < (l.length : Int)) = false := decide_eq_false (by omega)
      go_wp2_with fail
      obtain ⟨d0, d1, d2, d3, d4, d5⟩ := HD.out
      refine bodyPost_ret (v := .agg #[.int .i8 5, .bool b, .int .i64 n, .string s, .slice ol L.length cl, .slice ok K.length ck]) (by simp [results, Tryz.results30, go_sem, d0, d1, d2, d3, d4, d5]) rfl ?_
      exact ⟨_, rfl, by rw [HPS.out]; exact HEND.out.1, HEND.out.2⟩
end Go.Proofs.YtllkcldckehipaaGreatDoor
