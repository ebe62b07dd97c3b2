/-
  The program's copied and Get.
-/
import Derived.Test.YtdbfpojgaalfmaaDoorDG
import Derived.Test.YtdbfpojgaalfmaaDoorDGi
import Derived.Test.YtdbfpojgaalfmaaDoorDZ
set_option linter.unusedVariables false
namespace Go.Proofs.YtdbfpojgaalfmaaDoor
open Go.RowKit Go.Shelf

theorem isVa_at {w w0 : World} {x : V} {v : Value} {B : Nat → Prop} (hb : KB w w0) (h : isVa w B x v) : isVa w0 B x v := isVa_keep (fun a c _ hc => cell_below hb _ _ hc) _ _ h

set_option maxRecDepth 100000 in
set_option maxHeartbeats 4000000 in
theorem copied_any (x : V) (v : Value) (w : World) (B : Nat → Prop) (hS : sizeV x ≤ 1000000) (hF : fineV x) (ha : isVa w B x v) (hBq : ∀ q, B q → q < w.heap.size) :
    Calls Tryd.prog 44 #[v] w fun e w' => ∃ v', e = .returned v' ∧ isVa w' (fun q => B q ∨ w.heap.size ≤ q) x v' ∧ Below w.heap.size w w' := by
  have h := isV_of_a x v ha
  obtain ⟨k, b, n, s, o, m, c, o2, m2, c2, rfl⟩ := isV_six h
  have HB := (two_boxes w #[.int .i8 k, .bool b, .int .i64 n, .string s, .slice o m c, .slice o2 m2 c2] #[.int .i8 0, .bool false, .int .i64 0, .string ⟨#[]⟩, .slice none 0 0, .slice none 0 0] 26)
  have hsz : ((w.alloc (.cells #[.int .i8 k, .bool b, .int .i64 n, .string s, .slice o m c, .slice o2 m2 c2] 26)).alloc (.cells #[.int .i8 0, .bool false, .int .i64 0, .string ⟨#[]⟩, .slice none 0 0, .slice none 0 0] 26)).heap.size = w.heap.size + 2 := by simp
  have HC : Hid (∀ w1, KB ((w.alloc (.cells #[.int .i8 k, .bool b, .int .i64 n, .string s, .slice o m c, .slice o2 m2 c2] 26)).alloc (.cells #[.int .i8 0, .bool false, .int .i64 0, .string ⟨#[]⟩, .slice none 0 0, .slice none 0 0] 26)) w1 → Calls Tryd.prog 64 #[.agg #[.int .i8 k, .bool b, .int .i64 n, .string s, .slice o m c, .slice o2 m2 c2], .int .i64 65536] w1 fun e w' => ∃ v', e = .returned v' ∧ isVa w' (fun q => B q ∨ w1.heap.size ≤ q) x v' ∧ Below w1.heap.size w1 w') := Lib.hid fun w1 hK => pcopied_any 1000000 x _ w1 B 65536 hS (Nat.le_refl _) (Nat.le_refl _) hF (isVa_at hK (isVa_at HB.1 ha)) (fun q hq => by have h1 := hBq q hq; have h2 := hK.size; omega)
  have HBQ := Lib.hid hBq
  have HB1 := Lib.hid HB.1
  have bR := HB.2.2
  clear ha hBq h hS hF HB
  go_enter Tryd.func44, Tryd.ntmps44
  go_wp2_with fail
  refine (HC.out _ (Below.refl _ _)).mono ?_
  rintro e w5 ⟨v5, rfl, hv5, hb5⟩
  obtain ⟨k6, b6, n6, s6, o6, m6, p6, o7, m7, p7, rfl⟩ := isV_six (isV_of_a _ _ hv5)
  have hn1 := (hb5.block (w.heap.size + 1) (by omega)).trans bR
  have hlt5 := hb5.size
  obtain ⟨x1, x2, x3, x4, x5, x6, f', ⟨⟨_, t1⟩, t1', t1''⟩, ⟨⟨_, t2⟩, t2', t2''⟩, ⟨⟨_, t3⟩, t3', t3''⟩, ⟨⟨_, t4⟩, t4', t4''⟩, ⟨⟨_, t5⟩, t5', t5''⟩, ⟨⟨_, t6⟩, t6', t6''⟩, hf7, hg7, e0, e1, e2, e3, e4, e5, -⟩ := store_six (rowIs_six hn1) 0 (by decide) (.int .i8 k6) (.bool b6) (.int .i64 n6) (.string s6) (.slice o6 m6 p6) (.slice o7 m7 p7) (by intro u hu; simp only [List.mem_cons, List.not_mem_nil, or_false] at hu; rcases hu with rfl | rfl | rfl | rfl | rfl | rfl <;> rfl)
  simp only [Nat.zero_add] at t2 t2' t2'' t3 t3' t3'' t4 t4' t4'' t5 t5' t5'' t6 t6' t6'' e1 e2 e3 e4 e5
  have d0 := hf7.cell (show 0 < 6 by decide)
  have d1 := hf7.cell (show 1 < 6 by decide)
  have d2 := hf7.cell (show 2 < 6 by decide)
  have d3 := hf7.cell (show 3 < 6 by decide)
  have d4 := hf7.cell (show 4 < 6 by decide)
  have d5 := hf7.cell (show 5 < 6 by decide)
  rw [e0] at d0
  rw [e1] at d1
  rw [e2] at d2
  rw [e3] at d3
  rw [e4] at d4
  rw [e5] at d5
  have HD := Lib.hid (And.intro d0 (And.intro d1 (And.intro d2 (And.intro d3 (And.intro d4 d5)))))
  have HEND : Hid (isVa x6 (fun q => B q ∨ w.heap.size ≤ q) x (.agg #[.int .i8 k6, .bool b6, .int .i64 n6, .string s6, .slice o6 m6 p6, .slice o7 m7 p7]) ∧ Below w.heap.size w x6) := Lib.hid ⟨isVa_mono (fun q hq => Or.imp id (fun h => by omega) hq) _ _ (isVa_grown hg7 (fun q hq e => by
    have h1 := Option.some.inj e
    rcases hq with hq | hq
    · have := HBQ.out q hq; omega
    · omega) hv5), (HB1.out.trans (hb5.mono HB1.out.size)).grown hg7 (HB1.out.trans (hb5.mono HB1.out.size)).size (fun r e => by cases e; omega)⟩
  clear hf7 hg7 hn1 e0 e1 e2 e3 e4 e5 d0 d1 d2 d3 d4 d5 hv5 hb5 bR HC
  go_wp2_with fail
  obtain ⟨d0, d1, d2, d3, d4, d5⟩ := HD.out
  refine bodyPost_ret (v := .agg #[.int .i8 k6, .bool b6, .int .i64 n6, .string s6, .slice o6 m6 p6, .slice o7 m7 p7]) (by simp [results, Tryd.results44, go_sem, d0, d1, d2, d3, d4, d5]) rfl ?_
  exact ⟨_, rfl, HEND.out.1, HEND.out.2⟩

/-- What Get answers. -/
def getP (x : V) (key : ByteArray) : Option V := if x.kind = 5 then look x.keys x.list key else none
theorem look_short : ∀ (ks : List ByteArray) (l : List V) (key : ByteArray) (j : Nat) (h : j < ks.length), l.length ≤ j → (∀ q, q < j → ks[q]? ≠ some key) → look ks l key = none
  | k :: ks, [], key, j, _, _, _ => rfl
  | k :: ks, x :: l, key, 0, _, h, _ => absurd h (by simp)
  | k :: ks, x :: l, key, j + 1, h, h', hq => by
    have h0 : k ≠ key := by have := hq 0 (by omega); simpa using this
    simp only [look, if_neg h0]
    exact look_short ks l key j (by simpa using h) (by simpa using h') (fun q hqj => by have := hq (q + 1) (by omega); simpa using this)

set_option maxRecDepth 100000 in
set_option maxHeartbeats 4000000 in
theorem pget_any (x : V) (v : Value) (key : ByteArray) (w : World) (hS : sizeV x ≤ 1000000) (hF : fineV x) (h : isV w x v) :
    Calls Tryd.prog 14 #[v, .string key] w (RetG (getP x key) w) := by
  have h0 := h
  obtain ⟨k, b, n, s, l, ks⟩ := x
  unfold isV at h
  obtain ⟨lv, kv, rfl, hk, hn, hs, ⟨a, cap, ⟨o, rfl, hc1, hc2, ho⟩, hvs⟩, hkk⟩ := h
  have hkk' := hkk
  obtain ⟨a2, cap2, ⟨o2, rfl, hc3, hc4, ho2⟩, hks⟩ := hkk'
  unfold maxLen at hs hc2 hc4
  have hkl : ks.length ≤ 1000000 := by have h1 : ks.length ≤ 3000 := hF (.mk k b n s l ks) (by rw [walkV]; exact List.mem_cons_self); omega
  have HB := (two_boxes w #[.int .i8 k, .bool b, .int .i64 n, .string s, .slice o l.length cap, .slice o2 ks.length cap2] #[.int .i8 0, .bool false, .int .i64 0, .string ⟨#[]⟩, .slice none 0 0, .slice none 0 0] 26)
  have hsz : ((w.alloc (.cells #[.int .i8 k, .bool b, .int .i64 n, .string s, .slice o l.length cap, .slice o2 ks.length cap2] 26)).alloc (.cells #[.int .i8 0, .bool false, .int .i64 0, .string ⟨#[]⟩, .slice none 0 0, .slice none 0 0] 26)).heap.size = w.heap.size + 2 := by simp
  have HI := Lib.hid (index_any ks _ key ((w.alloc (.cells #[.int .i8 k, .bool b, .int .i64 n, .string s, .slice o l.length cap, .slice o2 ks.length cap2] 26)).alloc (.cells #[.int .i8 0, .bool false, .int .i64 0, .string ⟨#[]⟩, .slice none 0 0, .slice none 0 0] 26)) hkl (isK_keep (cell_below HB.1) hkk))
  have HB1 := Lib.hid HB.1
  have hvw := isVs_keep (cell_below HB.1) l a hvs
  have HV := Lib.hid hvs
  have HVW := Lib.hid hvw
  have HF0 := Lib.hid hF
  have HS0 := Lib.hid hS
  have bX := HB.2.1
  have bR := HB.2.2
  clear hk hn h0 hF hS hvs hks hkk HB hvw
  go_enter Tryd.func14, Tryd.ntmps14
  go_wp2_with fail
  refine HI.out.mono ?_
  rintro e w5 ⟨⟨i, rfl, hi⟩, rfl⟩
  by_cases q1 : k ≠ 5
  · have HG : Hid (getP (.mk k b n s l ks) key = none) := Lib.hid (if_neg q1)
    have f2 : (k != 5) = true := bne_iff_ne.2 q1
    clear hi bX bR hsz q1 ho ho2
    go_wp2_with fail
    exact bodyPost_ret (v := .tuple #[.agg #[.int .i8 0, .bool false, .int .i64 0, .string ⟨#[]⟩, .slice none 0 0, .slice none 0 0], .bool false]) (by simp [results, Tryd.results14, go_sem]) rfl ⟨_, by rw [HG.out]; rfl, by rw [HG.out]; exact isV_V0 _, KB.two⟩
  obtain rfl : k = 5 := Decidable.not_not.1 q1
  have HG : Hid (getP (.mk 5 b n s l ks) key = look ks l key) := Lib.hid (if_pos rfl)
  rcases hi with ⟨j, hj, rfl, hk1, hk2⟩ | ⟨rfl, hk⟩
  · by_cases hlt : j < l.length
    · have HL : Hid (getP (.mk 5 b n s l ks) key = some l[j]) := Lib.hid (by rw [HG.out]; exact look_at ks l key j hj hlt hk2 hk1)
      obtain rfl := ho (by omega)
      obtain ⟨c0, c1, c2, c3, c4, c5, g0, g1, g2, g3, g4, g5, hx⟩ := isVs_at l a j hlt HVW.out
      have hva : isVa w (fun q => q < w.heap.size) l[j] (.agg #[c0, c1, c2, c3, c4, c5]) := by
        obtain ⟨d0, d1, d2, d3, d4, d5, k0, k1, k2, k3, k4, k5, hy5⟩ := isVs_at l a j hlt HV.out
        have hb := cell_below HB1.out
        have e0 := Option.some.inj ((hb _ _ k0).symm.trans g0)
        have e1 := Option.some.inj ((hb _ _ k1).symm.trans g1)
        have e2 := Option.some.inj ((hb _ _ k2).symm.trans g2)
        have e3 := Option.some.inj ((hb _ _ k3).symm.trans g3)
        have e4 := Option.some.inj ((hb _ _ k4).symm.trans g4)
        have e5 := Option.some.inj ((hb _ _ k5).symm.trans g5)
        subst e0 e1 e2 e3 e4 e5
        exact isVa_of _ _ hy5
      have hSj : sizeV l[j] ≤ 1000000 := by have := sizeVs_get l j hlt; have := HS0.out; rw [sizeV] at this; omega
      have hFj : fineV l[j] := fun z hz => HF0.out z (walk_part (List.getElem_mem hlt) rfl z hz)
      generalize l[j] = X at *
      obtain ⟨k', b', n', s', o1, m1', p1, o3, m3', p3, hag⟩ := isV_six hx
      simp only [Value.agg.injEq, Array.mk.injEq, List.cons.injEq, and_true] at hag
      obtain ⟨rfl, rfl, rfl, rfl, rfl, rfl⟩ := hag
      have HC := Lib.hid (copied_any X _ ((w.alloc (.cells #[.int .i8 5, .bool b, .int .i64 n, .string s, .slice (some a) l.length cap, .slice o2 ks.length cap2] 26)).alloc (.cells #[.int .i8 0, .bool false, .int .i64 0, .string ⟨#[]⟩, .slice none 0 0, .slice none 0 0] 26)) (fun q => q < w.heap.size) hSj hFj (isVa_at HB1.out hva) (fun q hq => by omega))
      have hl1 : (j : Int) < (l.length : Int) := by omega
      have hl2 : decide ((l.length : Int) ≤ (j : Int)) = false := decide_eq_false (by omega)
      have hj0 : decide ((j : Int) < 0) = false := decide_eq_false (by omega)
      have hl3 : decide (l.length ≤ j) = false := decide_eq_false (by omega)
      clear hva hSj hFj hx hk1 hk2 hj HG
      go_wp2_with (go_at_call 44; refine HC.out.mono ?_; rintro e w6 ⟨v6, rfl, hv6, hb6⟩; obtain ⟨k6, b6, n6, s6, o6, m6, p6, o7, m7, p7, rfl⟩ := isV_six (isV_of_a _ _ hv6); have hn1 := (hb6.block (w.heap.size + 1) (by omega)).trans bR; have hlt6 := hb6.size; obtain ⟨x1, x2, x3, x4, x5, x6, f', ⟨⟨_, t1⟩, t1', t1''⟩, ⟨⟨_, t2⟩, t2', t2''⟩, ⟨⟨_, t3⟩, t3', t3''⟩, ⟨⟨_, t4⟩, t4', t4''⟩, ⟨⟨_, t5⟩, t5', t5''⟩, ⟨⟨_, t6⟩, t6', t6''⟩, hf7, hg7, e0, e1, e2, e3, e4, e5, -⟩ := store_six (rowIs_six hn1) 0 (by decide) (.int .i8 k6) (.bool b6) (.int .i64 n6) (.string s6) (.slice o6 m6 p6) (.slice o7 m7 p7) (by intro u hu; simp only [List.mem_cons, List.not_mem_nil, or_false] at hu; rcases hu with rfl | rfl | rfl | rfl | rfl | rfl <;> rfl); simp only [Nat.zero_add] at t2 t2' t2'' t3 t3' t3'' t4 t4' t4'' t5 t5' t5'' t6 t6' t6'' e1 e2 e3 e4 e5; have d0 := hf7.cell (show 0 < 6 by decide); have d1 := hf7.cell (show 1 < 6 by decide); have d2 := hf7.cell (show 2 < 6 by decide); have d3 := hf7.cell (show 3 < 6 by decide); have d4 := hf7.cell (show 4 < 6 by decide); have d5 := hf7.cell (show 5 < 6 by decide); rw [e0] at d0; rw [e1] at d1; rw [e2] at d2; rw [e3] at d3; rw [e4] at d4; rw [e5] at d5; have HD := Lib.hid (And.intro d0 (And.intro d1 (And.intro d2 (And.intro d3 (And.intro d4 d5))))); have HEND : Hid (isV x6 X (.agg #[.int .i8 k6, .bool b6, .int .i64 n6, .string s6, .slice o6 m6 p6, .slice o7 m7 p7]) ∧ Below w.heap.size w x6) := Lib.hid ⟨isV_of_a _ _ (isVa_grown hg7 (fun q hq e => by have h1 := Option.some.inj e; rcases hq with hq | hq <;> omega) hv6), (HB1.out.trans (hb6.mono HB1.out.size)).grown hg7 (HB1.out.trans (hb6.mono HB1.out.size)).size (fun r e => by cases e; omega)⟩; clear hf7 hg7 hn1 e0 e1 e2 e3 e4 e5 d0 d1 d2 d3 d4 d5 hv6 hb6 bR)
      obtain ⟨d0, d1, d2, d3, d4, d5⟩ := HD.out
      refine bodyPost_ret (v := .tuple #[.agg #[.int .i8 k6, .bool b6, .int .i64 n6, .string s6, .slice o6 m6 p6, .slice o7 m7 p7], .bool true]) (by simp [results, Tryd.results14, go_sem, d0, d1, d2, d3, d4, d5]) rfl ?_
      exact ⟨_, by rw [HL.out]; rfl, by rw [HL.out]; exact HEND.out.1, HEND.out.2⟩
    · have HL : Hid (getP (.mk 5 b n s l ks) key = none) := Lib.hid (by rw [HG.out]; exact look_short ks l key j hj (by omega) hk2)
      have hl1 : decide ((l.length : Int) ≤ (j : Int)) = true := decide_eq_true (by omega)
      have hj0 : decide ((j : Int) < 0) = false := decide_eq_false (by omega)
      have hl3 : decide (l.length ≤ j) = true := decide_eq_true (by omega)
      clear hk1 hk2 hj HG bX bR hsz ho ho2 hlt
      go_wp2_with fail
      exact bodyPost_ret (v := .tuple #[.agg #[.int .i8 0, .bool false, .int .i64 0, .string ⟨#[]⟩, .slice none 0 0, .slice none 0 0], .bool false]) (by simp [results, Tryd.results14, go_sem]) rfl ⟨_, by rw [HL.out]; rfl, by rw [HL.out]; exact isV_V0 _, KB.two⟩
  · have HL : Hid (getP (.mk 5 b n s l ks) key = none) := Lib.hid (by rw [HG.out]; exact look_none ks l key hk)
    clear hk HG bX bR hsz ho ho2
    go_wp2_with fail
    exact bodyPost_ret (v := .tuple #[.agg #[.int .i8 0, .bool false, .int .i64 0, .string ⟨#[]⟩, .slice none 0 0, .slice none 0 0], .bool false]) (by simp [results, Tryd.results14, go_sem]) rfl ⟨_, by rw [HL.out]; rfl, by rw [HL.out]; exact isV_V0 _, KB.two⟩
end Go.Proofs.YtdbfpojgaalfmaaDoor
