/-
  The program's compareSorted.
-/
import Derived.Test.YtdbfpojgaalfmaaDoorDQ
import Derived.Test.YtdbfpojgaalfmaaDoorDS
set_option linter.unusedVariables false
namespace Go.Proofs.YtdbfpojgaalfmaaDoor
open Go.RowKit

def cmpKs : List ByteArray → List ByteArray → Int
  | [], [] => 0
  | [], _ :: _ => -1
  | _ :: _, [] => 1
  | s :: ks, t :: ts => if cmpK s t = 0 then cmpKs ks ts else cmpK s t
mutual
/-- The program's order: of objects all keys go ahead of all values. -/
def pcmpV : V → V → Int
  | .mk k b n s l ks, .mk k' b' n' s' l' ks' => if k ≠ k' then cmpI k k' else if k = 1 then cmpBo b b' else if k = 2 then cmpI n n' else if k = 3 then cmpK s s' else if k = 5 then (if cmpKs ks ks' = 0 then pcmpVs l l' else cmpKs ks ks') else pcmpVs l l'
def pcmpVs : List V → List V → Int
  | [], [] => 0
  | [], _ :: _ => -1
  | _ :: _, [] => 1
  | x :: t, y :: t' => if pcmpV x y = 0 then pcmpVs t t' else pcmpV x y
end
theorem cmpKs_at (ks ts : List ByteArray) (j : Nat) (h : j < ks.length) (h' : j < ts.length) : cmpKs (ks.drop j) (ts.drop j) = if cmpK ks[j] ts[j] = 0 then cmpKs (ks.drop (j + 1)) (ts.drop (j + 1)) else cmpK ks[j] ts[j] := by
  rw [List.drop_eq_getElem_cons h, List.drop_eq_getElem_cons h', cmpKs]
theorem cmpKs_end1 (ks ts : List ByteArray) (j : Nat) (h : j < ks.length) (h' : ¬ j < ts.length) : cmpKs (ks.drop j) (ts.drop j) = 1 := by
  rw [List.drop_eq_getElem_cons h, List.drop_eq_nil_of_le (show ts.length ≤ j by omega), cmpKs]
theorem cmpKs_end2 (ks ts : List ByteArray) (h : ks.length < ts.length) : cmpKs (ks.drop ks.length) (ts.drop ks.length) = -1 := by
  rw [List.drop_length, List.drop_eq_getElem_cons h, cmpKs]
theorem cmpKs_end3 (ks ts : List ByteArray) (h : ¬ ks.length < ts.length) : cmpKs (ks.drop ks.length) (ts.drop ks.length) = 0 := by
  rw [List.drop_length, List.drop_eq_nil_of_le (by omega), cmpKs]
theorem pcmpVs_at (ks ts : List V) (j : Nat) (h : j < ks.length) (h' : j < ts.length) : pcmpVs (ks.drop j) (ts.drop j) = if pcmpV ks[j] ts[j] = 0 then pcmpVs (ks.drop (j + 1)) (ts.drop (j + 1)) else pcmpV ks[j] ts[j] := by
  rw [List.drop_eq_getElem_cons h, List.drop_eq_getElem_cons h', pcmpVs]
theorem pcmpVs_end1 (ks ts : List V) (j : Nat) (h : j < ks.length) (h' : ¬ j < ts.length) : pcmpVs (ks.drop j) (ts.drop j) = 1 := by
  rw [List.drop_eq_getElem_cons h, List.drop_eq_nil_of_le (show ts.length ≤ j by omega), pcmpVs]
theorem pcmpVs_end2 (ks ts : List V) (h : ks.length < ts.length) : pcmpVs (ks.drop ks.length) (ts.drop ks.length) = -1 := by
  rw [List.drop_length, List.drop_eq_getElem_cons h, pcmpVs]
theorem pcmpVs_end3 (ks ts : List V) (h : ¬ ks.length < ts.length) : pcmpVs (ks.drop ks.length) (ts.drop ks.length) = 0 := by
  rw [List.drop_length, List.drop_eq_nil_of_le (by omega), pcmpVs]

set_option maxRecDepth 100000 in
set_option maxHeartbeats 4000000 in
theorem cmpKs_any (ks ts : List ByteArray) (v u : Value) (w : World) (hl : ks.length ≤ 1000000) (h : isK w ks v) (h' : isK w ts u) :
    Calls Tryd.prog 97 #[v, u] w fun e w' => e = .returned (.int .i64 (cmpKs ks ts)) ∧ w' = w := by
  obtain ⟨a, cap, ⟨o, rfl, hc1, hc2, ho⟩, hks⟩ := h
  obtain ⟨a', cap', ⟨o', rfl, hc1', hc2', ho'⟩, hts⟩ := h'
  unfold maxLen at hc2 hc2'
  have HK := Lib.hid hks
  have HT := Lib.hid hts
  have HC := Lib.hid cmpS_any
  obtain ⟨r, hr⟩ : ∃ r, cmpKs ks ts = r := ⟨_, rfl⟩
  rw [hr]
  have HR := Lib.hid hr
  clear hks hts hr
  go_enter Tryd.func97, Tryd.ntmps97
  go_wp2_with fail
  go_loopw [11] (fun i wr => ∃ j : Nat, j ≤ ks.length ∧ i = .int .i64 j ∧ Hid (cmpKs (ks.drop j) (ts.drop j) = r) ∧ wr = w) (fun i _ => ks.length - (intOf i).toNat)
  case atStart => exact ⟨0, by omega, rfl, HR, rfl⟩
  case round =>
    obtain ⟨j, hj, rfl, hA, rfl⟩ := hrel
    by_cases hlt : j < ks.length
    · obtain rfl := ho (by omega)
      have c1 := (HK.out j hlt).1
      by_cases hlt' : j < ts.length
      · obtain rfl := ho' (by omega)
        have c2 := (HT.out j hlt').1
        have hat := cmpKs_at ks ts j hlt hlt'
        rw [hA.out] at hat
        generalize ks[j] = s at *
        generalize ts[j] = t at *
        have hcc := HC.out s t
        generalize cmpK s t = q at *
        have HCC := Lib.hid hcc
        have hnl : ¬ (ts.length : Int) ≤ (j : Int) := by omega
        clear hcc
        by_cases hq : q = 0
        · subst hq
          rw [if_pos rfl] at hat
          have HAT := Lib.hid hat.symm
          clear hat
          go_wp2_with (go_at_call 118; refine (HCC.out _).mono ?_; rintro e w5 ⟨rfl, rfl⟩)
          go_roundw
          case rel => exact ⟨j + 1, by omega, by go_num, HAT, trivial⟩
          case measure => simp [intOf]; omega
        · rw [if_neg hq] at hat
          have HAT := Lib.hid hat
          have q1 : (q != 0) = true := bne_iff_ne.2 hq
          have q2 : (q == 0) = false := beqI hq
          clear hat hq
          go_wp2_with (go_at_call 118; refine (HCC.out _).mono ?_; rintro e w5 ⟨rfl, rfl⟩)
          go_ret
          exact ⟨ret_int HAT.out.symm, rfl⟩
      · have hat := cmpKs_end1 ks ts j hlt hlt'
        rw [hA.out] at hat
        have HAT := Lib.hid hat
        have hnl : (ts.length : Int) ≤ (j : Int) := by omega
        clear hat
        go_wp2_with fail
        go_ret
        exact ⟨ret_int HAT.out.symm, rfl⟩
    · obtain rfl : j = ks.length := by omega
      by_cases hlt' : ks.length < ts.length
      · have hat := cmpKs_end2 ks ts hlt'
        rw [hA.out] at hat
        have HAT := Lib.hid hat
        have hnl : (ks.length : Int) < (ts.length : Int) := by omega
        clear hat
        go_wp2_with fail
        go_ret
        exact ⟨ret_int HAT.out.symm, rfl⟩
      · have hat := cmpKs_end3 ks ts hlt'
        rw [hA.out] at hat
        have HAT := Lib.hid hat
        have hnl : ¬ (ks.length : Int) < (ts.length : Int) := by omega
        clear hat
        go_wp2_with fail
        go_ret
        exact ⟨ret_int HAT.out.symm, rfl⟩

set_option maxRecDepth 100000 in
set_option maxHeartbeats 8000000 in
theorem cmpF_any (ks : List V) (hI0 : ∀ (x : V), x ∈ ks → ∀ (y : V) (v u : Value) (w1 : World), isV w1 x v → isV w1 y u → Calls Tryd.prog 70 #[v, u] w1 fun e w' => e = .returned (.int .i64 (pcmpV x y)) ∧ Below w1.heap.size w1 w')
    (ts : List V) (o o' : Option Addr) (a a' : Addr) (cap cap' : Nat) (ho : 0 < ks.length → o = some a) (ho' : 0 < ts.length → o' = some a') (w : World) (hl : ks.length ≤ 1000000) (hlt : ts.length ≤ maxLen) (h : isVs w ks a) (h' : isVs w ts a') :
    Calls Tryd.prog 98 #[.slice o ks.length cap, .slice o' ts.length cap', .func (.func 70) #[] #[]] w fun e w' => e = .returned (.int .i64 (pcmpVs ks ts)) ∧ Below w.heap.size w w' := by
  unfold maxLen at hlt
  have HK := Lib.hid h
  have HT := Lib.hid h'
  have HI := Lib.hid hI0
  obtain ⟨r, hr⟩ : ∃ r, pcmpVs ks ts = r := ⟨_, rfl⟩
  rw [hr]
  have HR := Lib.hid hr
  have ef : ∀ args w, (callFunc 70 args).run Tryd.prog w = .ok (.enter 70 args) w := enters_of Tryd.func70 (by kernel_rfl) rfl
  clear h h' hr hI0
  go_enter Tryd.func98, Tryd.ntmps98
  go_wp2_with fail
  go_loopw [13] (fun i wr => ∃ j : Nat, j ≤ ks.length ∧ i = .int .i64 j ∧ Hid (pcmpVs (ks.drop j) (ts.drop j) = r) ∧ Hid (Below w.heap.size w wr)) (fun i _ => ks.length - (intOf i).toNat)
  case atStart => exact ⟨0, by omega, rfl, HR, Lib.hid (Below.refl _ _)⟩
  case round =>
    obtain ⟨j, hj, rfl, hA, hB⟩ := hrel
    by_cases hlt1 : j < ks.length
    · obtain rfl := ho (by omega)
      obtain ⟨k', b', n', s', o1, m1, p1, o3, m3, p3, g0, g1, g2, g3, g4, g5, hx⟩ := isVs_sl ks a j hlt1 HK.out
      have g0 := cell_below hB.out _ _ g0
      have g1 := cell_below hB.out _ _ g1
      have g2 := cell_below hB.out _ _ g2
      have g3 := cell_below hB.out _ _ g3
      have g4 := cell_below hB.out _ _ g4
      have g5 := cell_below hB.out _ _ g5
      by_cases hlt2 : j < ts.length
      · obtain rfl := ho' (by omega)
        obtain ⟨k2, b2, n2, s2, o4, m4, p4, o5, m5, p5, f0, f1, f2, f3, f4, f5, hy⟩ := isVs_sl ts a' j hlt2 HT.out
        have f0 := cell_below ((hB.out.alloc hB.out.size (.cells #[.int .i8 k', .bool b', .int .i64 n', .string s', .slice o1 m1 p1, .slice o3 m3 p3] 26))) _ _ f0
        have f1 := cell_below ((hB.out.alloc hB.out.size (.cells #[.int .i8 k', .bool b', .int .i64 n', .string s', .slice o1 m1 p1, .slice o3 m3 p3] 26))) _ _ f1
        have f2 := cell_below ((hB.out.alloc hB.out.size (.cells #[.int .i8 k', .bool b', .int .i64 n', .string s', .slice o1 m1 p1, .slice o3 m3 p3] 26))) _ _ f2
        have f3 := cell_below ((hB.out.alloc hB.out.size (.cells #[.int .i8 k', .bool b', .int .i64 n', .string s', .slice o1 m1 p1, .slice o3 m3 p3] 26))) _ _ f3
        have f4 := cell_below ((hB.out.alloc hB.out.size (.cells #[.int .i8 k', .bool b', .int .i64 n', .string s', .slice o1 m1 p1, .slice o3 m3 p3] 26))) _ _ f4
        have f5 := cell_below ((hB.out.alloc hB.out.size (.cells #[.int .i8 k', .bool b', .int .i64 n', .string s', .slice o1 m1 p1, .slice o3 m3 p3] 26))) _ _ f5
        have hW : Below w.heap.size w ((wr.alloc (.cells #[.int .i8 k', .bool b', .int .i64 n', .string s', .slice o1 m1 p1, .slice o3 m3 p3] 26)).alloc (.cells #[.int .i8 k2, .bool b2, .int .i64 n2, .string s2, .slice o4 m4 p4, .slice o5 m5 p5] 26)) := (hB.out.alloc hB.out.size _).alloc (by have := hB.out.size; simp; omega) _
        have hat := pcmpVs_at ks ts j hlt1 hlt2
        rw [hA.out] at hat
        have hcc := HI.out ks[j] (List.getElem_mem _) ts[j] _ _ _ (isV_below hW hx) (isV_below hW hy)
        generalize pcmpV ks[j] ts[j] = q at *
        have HCC := Lib.hid hcc
        have HW := Lib.hid hW
        have hnl : ¬ (ts.length : Int) ≤ (j : Int) := by omega
        clear hcc hx hy hW
        by_cases hq : q = 0
        · subst hq
          rw [if_pos rfl] at hat
          have HAT := Lib.hid hat.symm
          clear hat
          go_wp2_with (go_at_fn 70; refine HCC.out.mono ?_; rintro e w5 ⟨rfl, hb5⟩)
          go_roundw
          case rel => exact ⟨j + 1, by omega, by go_num, HAT, Lib.hid (HW.out.trans (hb5.mono HW.out.size))⟩
          case measure => simp [intOf]; omega
        · rw [if_neg hq] at hat
          have HAT := Lib.hid hat
          have q1 : (q != 0) = true := bne_iff_ne.2 hq
          have q2 : (q == 0) = false := beqI hq
          clear hat hq
          go_wp2_with (go_at_fn 70; refine HCC.out.mono ?_; rintro e w5 ⟨rfl, hb5⟩)
          go_ret
          exact ⟨ret_int HAT.out.symm, HW.out.trans (hb5.mono HW.out.size)⟩
      · have hat := pcmpVs_end1 ks ts j hlt1 hlt2
        rw [hA.out] at hat
        have HAT := Lib.hid hat
        have hnl : (ts.length : Int) ≤ (j : Int) := by omega
        clear hat hx
        go_wp2_with fail
        go_ret
        exact ⟨ret_int HAT.out.symm, hB.out.alloc hB.out.size _⟩
    · obtain rfl : j = ks.length := by omega
      by_cases hlt2 : ks.length < ts.length
      · have hat := pcmpVs_end2 ks ts hlt2
        rw [hA.out] at hat
        have HAT := Lib.hid hat
        have hnl : (ks.length : Int) < (ts.length : Int) := by omega
        clear hat
        go_wp2_with fail
        go_ret
        exact ⟨ret_int HAT.out.symm, hB.out⟩
      · have hat := pcmpVs_end3 ks ts hlt2
        rw [hA.out] at hat
        have HAT := Lib.hid hat
        have hnl : ¬ (ks.length : Int) < (ts.length : Int) := by omega
        clear hat
        go_wp2_with fail
        go_ret
        exact ⟨ret_int HAT.out.symm, hB.out⟩

/-- No row is too long. -/
def wideV (x : V) : Prop := ∀ z ∈ walkV x, z.list.length ≤ 1000000 ∧ z.keys.length ≤ 3000
theorem pcmpV_mk (k k' : Int) (b b' : Bool) (n n' : Int) (s s' : ByteArray) (l l' : List V) (ks ks' : List ByteArray) : pcmpV (.mk k b n s l ks) (.mk k' b' n' s' l' ks') = if k ≠ k' then cmpI k k' else if k = 1 then cmpBo b b' else if k = 2 then cmpI n n' else if k = 3 then cmpK s s' else if k = 5 then (if cmpKs ks ks' = 0 then pcmpVs l l' else cmpKs ks ks') else pcmpVs l l' := by rw [pcmpV]
theorem two_boxes (w : World) (cs cs' : Array Value) (t : TypeId) : Below w.heap.size w ((w.alloc (.cells cs t)).alloc (.cells cs' t)) ∧ ((w.alloc (.cells cs t)).alloc (.cells cs' t)).heap[w.heap.size]? = some (.cells cs t (0, 0)) ∧ ((w.alloc (.cells cs t)).alloc (.cells cs' t)).heap[w.heap.size + 1]? = some (.cells cs' t (0, 0)) := by
  have h := World.alloc_heap_new (w.alloc (.cells cs t)) (.cells cs' t)
  rw [World.size_alloc] at h
  exact ⟨by go_grown, (Below.heap_alloc _ _ _ (by simp)).trans (World.alloc_heap_new w _), h⟩

set_option maxRecDepth 100000 in
set_option maxHeartbeats 16000000 in
theorem pcmp_any : ∀ (N : Nat) (x y : V) (v u : Value) (w : World), depthV x ≤ N → wideV x → isV w x v → isV w y u →
    Calls Tryd.prog 70 #[v, u] w fun e w' => e = .returned (.int .i64 (pcmpV x y)) ∧ Below w.heap.size w w'
  | 0, x, y, v, u, w, hN, _, _, _ => absurd (depthV_pos x) (by omega)
  | N + 1, x, y, v, u, w, hN, hF, h, h' => by
    obtain ⟨k, b, n, s, l, ks⟩ := x
    obtain ⟨k', b', n', s', l', ks'⟩ := y
    unfold isV at h h'
    obtain ⟨lv, kv, rfl, hk, hn, hs, ⟨a, cap, ⟨o, rfl, hc1, hc2, ho⟩, hvs⟩, hks⟩ := h
    obtain ⟨lv', kv', rfl, hk', hn', hs', ⟨a', cap', ⟨o', rfl, hc1', hc2', ho'⟩, hvs'⟩, hks'⟩ := h'
    have hks0 := hks
    have hks0' := hks'
    obtain ⟨a2, cap2, ⟨o2, rfl, hc3, hc4, ho2⟩, _⟩ := hks0
    obtain ⟨a2', cap2', ⟨o2', rfl, hc3', hc4', ho2'⟩, _⟩ := hks0'
    have hsl : depthVs l ≤ N := by rw [depthV] at hN; omega
    have hll : l.length ≤ 1000000 := (hF (.mk k b n s l ks) (by rw [walkV]; exact List.mem_cons_self)).1
    have hkl : ks.length ≤ 3000 := (hF (.mk k b n s l ks) (by rw [walkV]; exact List.mem_cons_self)).2
    have hW := two_boxes w #[.int .i8 k, .bool b, .int .i64 n, .string s, .slice o l.length cap, .slice o2 ks.length cap2] #[.int .i8 k', .bool b', .int .i64 n', .string s', .slice o' l'.length cap', .slice o2' ks'.length cap2'] 26
    have hmk := pcmpV_mk k k' b b' n n' s s' l l' ks ks'
    obtain ⟨r, hr⟩ : ∃ r, pcmpV (.mk k b n s l ks) (.mk k' b' n' s' l' ks') = r := ⟨_, rfl⟩
    rw [hr] at hmk ⊢
    have HF : Hid (∀ w1, KB w w1 → Calls Tryd.prog 98 #[.slice o l.length cap, .slice o' l'.length cap', .func (.func 70) #[] #[]] w1 fun e w' => e = .returned (.int .i64 (pcmpVs l l')) ∧ Below w1.heap.size w1 w') := Lib.hid fun w1 hK =>
      cmpF_any l (fun x hx y v u w1 h1 h2 => pcmp_any N x y v u w1 (by obtain ⟨i, hi, rfl⟩ := List.getElem_of_mem hx; have := depthVs_get l i hi; omega) (fun z hz => hF z (walk_part hx rfl z hz)) h1 h2) l' o o' a a' cap cap' ho ho' w1 hll (by unfold maxLen at *; omega) (isVs_keep (cell_below hK) l a hvs) (isVs_keep (cell_below hK) l' a' hvs')
    have HKs : Hid (∀ w1, KB w w1 → Calls Tryd.prog 97 #[.slice o2 ks.length cap2, .slice o2' ks'.length cap2'] w1 fun e w' => e = .returned (.int .i64 (cmpKs ks ks')) ∧ w' = w1) := Lib.hid fun w1 hK =>
      cmpKs_any ks ks' _ _ w1 (by omega) (isK_keep (cell_below hK) hks) (isK_keep (cell_below hK) hks')
    have C8 := Lib.hid cmp8_any
    have C64 := Lib.hid cmp64_any
    have CB := Lib.hid cmpBo_any
    have CS := Lib.hid Tryd.strings_Compare
    clear hk hn hs hvs hks hk' hn' hs' hvs' hks' ho ho' ho2 ho2' hr hF
    have HW := Lib.hid hW.1
    clear hW
    by_cases hkk : k ≠ k'
    · rw [if_pos hkk] at hmk
      have HR := Lib.hid hmk
      have z1 : (k != k') = true := bne_iff_ne.2 hkk
      have z2 : (k == k') = false := beqI hkk
      clear hmk hkk
      go_enter Tryd.func70, Tryd.ntmps70
      go_wp2_with (go_at_call 93; refine (C8.out _ _ _).mono ?_; rintro e w5 ⟨rfl, rfl⟩)
      go_ret
      exact ⟨ret_int HR.out.symm, HW.out⟩
    obtain rfl : k = k' := Decidable.not_not.1 hkk
    rw [if_neg hkk] at hmk
    clear hkk
    by_cases h1 : k = 1
    · subst h1
      rw [if_pos rfl] at hmk
      have HR := Lib.hid hmk
      clear hmk
      go_enter Tryd.func70, Tryd.ntmps70
      go_wp2_with (go_at_call 94; refine (CB.out _ _ _).mono ?_; rintro e w5 ⟨rfl, rfl⟩)
      go_ret
      exact ⟨ret_int HR.out.symm, HW.out⟩
    by_cases h2 : k = 2
    · subst h2
      rw [if_neg (by decide), if_pos rfl] at hmk
      have HR := Lib.hid hmk
      clear hmk
      go_enter Tryd.func70, Tryd.ntmps70
      go_wp2_with (go_at_call 95; refine (C64.out _ _ _).mono ?_; rintro e w5 ⟨rfl, rfl⟩)
      go_ret
      exact ⟨ret_int HR.out.symm, HW.out⟩
    by_cases h3 : k = 3
    · subst h3
      rw [if_neg (by decide), if_neg (by decide), if_pos rfl] at hmk
      have HR := Lib.hid hmk
      clear hmk
      go_enter Tryd.func70, Tryd.ntmps70
      go_wp2_with (go_at_call 96; refine (CS.out _ _ _).mono ?_; rintro e w5 ⟨rfl, rfl⟩)
      go_ret
      exact ⟨ret_int HR.out.symm, HW.out⟩
    by_cases h5 : k = 5
    · subst h5
      rw [if_neg (by decide), if_neg (by decide), if_neg (by decide), if_pos rfl] at hmk
      generalize cmpKs ks ks' = q at *
      by_cases hq : q = 0
      · subst hq
        rw [if_pos rfl] at hmk
        have HR := Lib.hid hmk
        clear hmk
        go_enter Tryd.func70, Tryd.ntmps70
        go_wp2_with (first
          | (go_at_call 97; refine (HKs.out _ HW.out).mono ?_; rintro e w5 ⟨rfl, rfl⟩)
          | (go_at_call 98; refine (HF.out _ HW.out).mono ?_; rintro e w5 ⟨rfl, hb5⟩))
        go_ret
        exact ⟨ret_int HR.out.symm, HW.out.trans (hb5.mono HW.out.size)⟩
      · rw [if_neg hq] at hmk
        have HR := Lib.hid hmk
        have q1 : (q != 0) = true := bne_iff_ne.2 hq
        have q2 : (q == 0) = false := beqI hq
        clear hmk hq
        go_enter Tryd.func70, Tryd.ntmps70
        go_wp2_with (go_at_call 97; refine (HKs.out _ HW.out).mono ?_; rintro e w5 ⟨rfl, rfl⟩)
        go_ret
        exact ⟨ret_int HR.out.symm, HW.out⟩
    · rw [if_neg h1, if_neg h2, if_neg h3, if_neg h5] at hmk
      have HR := Lib.hid hmk
      have q1 : (k == 1) = false := beqI h1
      have q2 : (k == 2) = false := beqI h2
      have q3 : (k == 3) = false := beqI h3
      have q5 : (k == 5) = false := beqI h5
      clear hmk h1 h2 h3 h5
      go_enter Tryd.func70, Tryd.ntmps70
      go_wp2_with (go_at_call 98; refine (HF.out _ HW.out).mono ?_; rintro e w5 ⟨rfl, hb5⟩)
      go_ret
      exact ⟨ret_int HR.out.symm, HW.out.trans (hb5.mono HW.out.size)⟩
end Go.Proofs.YtdbfpojgaalfmaaDoor
