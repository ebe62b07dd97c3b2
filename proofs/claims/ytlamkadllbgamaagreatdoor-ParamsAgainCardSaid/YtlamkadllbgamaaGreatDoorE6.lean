/-
  The program's Check, Find, value.
-/
import Derived.Test.YtlamkadllbgamaaGreatDoorE5
import Derived.Test.YtlamkadllbgamaaGreatDoorV3
set_option linter.unusedVariables false
set_option linter.unusedSimpArgs false
namespace Go.Proofs.YtlamkadllbgamaaGreatDoor
open Go.RowKit

theorem beq_ba {s t : ByteArray} : (s.toList == t.toList) = decide (s = t) := by
  by_cases e : s = t
  · subst e; rw [decide_eq_true rfl]; exact beq_self_eq_true _
  · rw [decide_eq_false e]; exact beq_toList e
set_option maxHeartbeats 1000000 in
theorem checkC_any (p : PR) (v : Value) (w : World) (hE : Env w) (hP : fineP p) (h : isP w p v) : Calls Tryz.prog 29 #[v] w fun e w' => e = .returned (.bool (!mayBe p)) ∧ Below w.heap.size w w' := by
  have HB : Hid (∀ w1, KB w w1 → Calls Tryz.prog 18 #[v] w1 fun e w' => e = .returned (.bool (mayBe p)) ∧ Below w1.heap.size w1 w') := Lib.hid fun w1 hk => mayBe_any p _ w1 (hE.kb hk) hP (isP_below hk h)
  obtain ⟨k, b, n, s, o, m, c, o2, m2, c2, oa, ca, rfl, -⟩ := isP_ten h
  have HB0 : Hid (KB w (w.alloc (.cells #[.string p.nm, .bool p.num, .bool p.has, .int .i8 k, .bool b, .int .i64 n, .string s, .slice o m c, .slice o2 m2 c2, .slice oa p.al.length ca] 37))) := Lib.hid kbA
  generalize mayBe p = r at *
  clear h hE hP
  go_enter Tryz.func29, Tryz.ntmps29
  go_wp2_with (go_at_call 18; refine (HB.out _ HB0.out).mono ?_; rintro e w5 ⟨rfl, hb5⟩)
  go_ret
  exact ⟨rfl, HB0.out.trans (hb5.mono HB0.out.size)⟩
set_option maxHeartbeats 1000000 in
theorem Names_any (L : List PR) (v : Value) (w : World) (hl : L.length ≤ 1000000) (h : isPs w L v) :
    Calls Tryz.prog 27 #[v] w fun e w' => (∃ v', e = .returned v' ∧ isK w' (L.map PR.nm) v') ∧ Below w.heap.size w w' := by
  have HB := Lib.hid (eachPS_any L v w hl h)
  obtain ⟨a, cap, ⟨o, rfl, -⟩, -⟩ := h
  go_enter Tryz.func27, Tryz.ntmps27
  go_wp2_with (go_at_call 56; refine HB.out.mono ?_; rintro e w5 ⟨⟨v5, rfl, hk5⟩, hb5⟩; obtain ⟨a5, c5, ⟨o5, rfl, h51, h52, h53⟩, h54⟩ := hk5; have HK5 := Lib.hid (show isK w5 (L.map PR.nm) _ from ⟨a5, c5, ⟨o5, rfl, h51, h52, h53⟩, h54⟩); clear h54)
  go_ret
  exact ⟨⟨_, rfl, by have h := HK5.out; rw [List.length_map] at h; exact h⟩, hb5⟩
theorem isK_form {W : World} {ks : List ByteArray} {v : Value} (h : isK W ks v) : ∃ o c, v = .slice o ks.length c := by
  obtain ⟨a, c, ⟨o, rfl, -⟩, -⟩ := h
  exact ⟨o, c, rfl⟩
set_option maxRecDepth 100000 in
set_option maxHeartbeats 2000000 in
theorem Check_any (L : List PR) (v : Value) (w : World) (hE : Env w) (hP : finePs L) (h : isPs w L v) :
    Calls Tryz.prog 11 #[v] w fun e w' => e = .returned (.int .i64 (checkP L)) ∧ Below w.heap.size w w' := by
  have HN : Hid (∀ w1, KB w w1 → Calls Tryz.prog 27 #[v] w1 fun e w' => (∃ v', e = .returned v' ∧ isK w' (L.map PR.nm) v') ∧ Below w1.heap.size w1 w') := Lib.hid fun w1 hk => Names_any L v w1 hP.1 (isPs_below hk h)
  have HS : Hid (∀ w1, KB w w1 → Calls Tryz.prog 28 #[v, .func (.func 29) #[] #[]] w1 fun e w' => e = .returned (.bool (!L.all mayBe)) ∧ Below w1.heap.size w1 w') := Lib.hid fun w1 hk => by
    have e : (!L.all mayBe) = L.any (fun p => !mayBe p) := by rw [List.not_all_eq_any_not]
    rw [e]
    exact someP_any L (fun p => !mayBe p) 29 #[] v w1 hP.1 (isPs_below hk h) (enters_of Tryz.func29 (by kernel_rfl) rfl) (fun w2 hk2 i hi u hu => checkC_any L[i] u w2 (hE.kb (hk.trans (hk2.mono hk.size))) (hP.2 _ (List.getElem_mem hi)) hu)
  have HR : Hid (∀ v5 w1, isK w1 (L.map PR.nm) v5 → Calls Tryz.prog 26 #[v5] w1 fun e w' => e = .returned (.bool (riseB (L.map PR.nm))) ∧ Below w1.heap.size w1 w') := Lib.hid fun v5 w1 hk => rise_any _ v5 w1 (by rw [List.length_map]; exact hP.1) hk
  have hlen : (L.map PR.nm).length = L.length := List.length_map _
  have hl := hP.1
  obtain ⟨a, cap, ⟨o, rfl, -⟩, -⟩ := h
  unfold checkP
  have HL := Lib.hid hlen
  generalize L.map PR.nm = ks at *
  generalize riseB ks = r1 at *
  generalize L.all mayBe = r2 at *
  clear hE hP hlen
  generalize L.length = n at *
  by_cases h6 : 6 < n
  · rw [if_pos h6]
    have z1 : decide ((6 : Int) < (n : Int)) = true := decide_eq_true (by omega)
    go_enter Tryz.func11, Tryz.ntmps11
    go_wp2_with fail
    go_ret
    exact ⟨rfl, Below.refl _ _⟩
  · rw [if_neg h6]
    have z1 : decide ((6 : Int) < (n : Int)) = false := decide_eq_false (by omega)
    clear h6
    cases r1 with
    | false =>
      rw [Bool.false_and, if_neg Bool.false_ne_true]
      go_enter Tryz.func11, Tryz.ntmps11
      go_wp2_with (first
        | (go_at_call 27; refine (HN.out _ (Below.refl _ _)).mono ?_; rintro e w5 ⟨⟨v5, rfl, hk5⟩, hb5⟩; obtain ⟨o5, c5, rfl⟩ := isK_form hk5; have HK5 := Lib.hid hk5; clear hk5)
        | (go_at_call 26; refine (HR.out _ _ HK5.out).mono ?_; rintro e w6 ⟨rfl, hb6⟩))
      go_ret
      exact ⟨rfl, hb5.trans (hb6.mono hb5.size)⟩
    | true =>
      rw [Bool.true_and]
      cases r2 with
      | false =>
        rw [if_neg Bool.false_ne_true]
        rw [Bool.not_false] at HS
        go_enter Tryz.func11, Tryz.ntmps11
        go_wp2_with (first
          | (go_at_call 27; refine (HN.out _ (Below.refl _ _)).mono ?_; rintro e w5 ⟨⟨v5, rfl, hk5⟩, hb5⟩; obtain ⟨o5, c5, rfl⟩ := isK_form hk5; have HK5 := Lib.hid hk5; clear hk5)
          | (go_at_call 26; refine (HR.out _ _ HK5.out).mono ?_; rintro e w6 ⟨rfl, hb6⟩)
          | (go_at_call 28; refine (HS.out _ (hb5.trans (hb6.mono hb5.size))).mono ?_; rintro e w7 ⟨rfl, hb7⟩))
        go_ret
        exact ⟨rfl, hb5.trans ((hb6.trans (hb7.mono hb6.size)).mono hb5.size)⟩
      | true =>
        rw [if_pos rfl]
        rw [Bool.not_true] at HS
        go_enter Tryz.func11, Tryz.ntmps11
        go_wp2_with (first
          | (go_at_call 27; refine (HN.out _ (Below.refl _ _)).mono ?_; rintro e w5 ⟨⟨v5, rfl, hk5⟩, hb5⟩; obtain ⟨o5, c5, rfl⟩ := isK_form hk5; have HK5 := Lib.hid hk5; clear hk5)
          | (go_at_call 26; refine (HR.out _ _ HK5.out).mono ?_; rintro e w6 ⟨rfl, hb6⟩)
          | (go_at_call 28; refine (HS.out _ (hb5.trans (hb6.mono hb5.size))).mono ?_; rintro e w7 ⟨rfl, hb7⟩))
        go_ret
        exact ⟨rfl, hb5.trans ((hb6.trans (hb7.mono hb6.size)).mono hb5.size)⟩

set_option maxHeartbeats 1000000 in
theorem findC_any (g : G) (s : ByteArray) (b9 : Nat) (v : Value) (w : World) (h : isG w g v) (hb : w.cell? ⟨b9, 0, none⟩ = some (.string s)) :
    Calls Tryz.prog 60 #[v, .pointer (some ⟨b9, 0, none⟩)] w fun e w' => e = .returned (.bool (decide (g.nm = s))) ∧ Below w.heap.size w w' := by
  obtain ⟨k, b, n, s, o, m, c, o2, m2, c2, rfl, -⟩ := isG_eight h
  have HB0 : Hid (KB w (w.alloc (.cells #[.string g.nm, .bool g.unk, .int .i8 k, .bool b, .int .i64 n, .string s, .slice o m c, .slice o2 m2 c2] 35))) := Lib.hid kbA
  have hb1 := cell_below HB0.out _ _ hb
  rw [← beq_ba]
  clear h hb
  go_enter Tryz.func60, Tryz.ntmps60
  go_wp2_with fail
  go_ret
  exact ⟨rfl, HB0.out⟩
theorem findG_fine {L : List G} {s : ByteArray} (hP : fineG L) : sizeV ((findG L s).getD zG).v ≤ 1000000 ∧ fineV ((findG L s).getD zG).v := by
  unfold findG
  cases h : L.find? (fun g => decide (g.nm = s)) with
  | none => exact fine_z
  | some g => exact hP.2 g (List.mem_of_find?_eq_some h)
/-- What is given, none of it in one block. -/
def isGx (W : World) (bx : Nat) (g : G) (v : Value) : Prop := ∃ c0 c1 c2 c3 c4 c5, v = .agg #[.string g.nm, .bool g.unk, c0, c1, c2, c3, c4, c5] ∧ isVa W (fun q => q ≠ bx) g.v (.agg #[c0, c1, c2, c3, c4, c5]) ∧ g.nm.size ≤ maxLen
theorem isG_of_x {W : World} {bx : Nat} {g : G} {v : Value} (h : isGx W bx g v) : isG W g v := by
  obtain ⟨c0, c1, c2, c3, c4, c5, e, h1, h2⟩ := h
  exact ⟨c0, c1, c2, c3, c4, c5, e, isV_of_a _ _ h1, h2⟩
set_option maxRecDepth 100000 in
set_option maxHeartbeats 8000000 in
theorem Find_any (L : List G) (s : ByteArray) (v : Value) (w0 w : World) (bx : Nat) (hk0 : KB w0 w) (hx1 : w0.heap.size ≤ bx) (hx2 : bx < w.heap.size) (hP : fineG L) (h : isGs w0 L v) :
    Calls Tryz.prog 43 #[v, .string s] w fun e w' => (∃ v', e = .returned (.tuple #[v', .bool (findG L s).isSome]) ∧ isGx w' bx ((findG L s).getD zG) v') ∧ Below w.heap.size w w' := by
  have HB0 : Hid (KB w ((w.alloc (.cells #[.string s] 9)).alloc (.cells #[.string ⟨#[]⟩, .bool false, .int .i8 0, .bool false, .int .i64 0, .string ⟨#[]⟩, .slice none 0 0, .slice none 0 0] 35))) := Lib.hid (by unfold KB; go_grown)
  have hn1 := (Below.heap_alloc (w.alloc (.cells #[.string s] 9)) (.cells #[.string ⟨#[]⟩, .bool false, .int .i8 0, .bool false, .int .i64 0, .string ⟨#[]⟩, .slice none 0 0, .slice none 0 0] 35) w.heap.size (by simp)).trans (World.alloc_heap_new w (.cells #[.string s] 9))
  have hn2 := World.alloc_heap_new (w.alloc (.cells #[.string s] 9)) (.cells #[.string ⟨#[]⟩, .bool false, .int .i8 0, .bool false, .int .i64 0, .string ⟨#[]⟩, .slice none 0 0, .slice none 0 0] 35)
  rw [World.size_alloc] at hn2
  have hsz : ((w.alloc (.cells #[.string s] 9)).alloc (.cells #[.string ⟨#[]⟩, .bool false, .int .i8 0, .bool false, .int .i64 0, .string ⟨#[]⟩, .slice none 0 0, .slice none 0 0] 35)).heap.size = w.heap.size + 1 + 1 := by simp
  have HF := Lib.hid (findG_any L (fun g => decide (g.nm = s)) 60 #[.pointer (some ⟨w.heap.size, 0, none⟩)] v w0 ((w.alloc (.cells #[.string s] 9)).alloc (.cells #[.string ⟨#[]⟩, .bool false, .int .i8 0, .bool false, .int .i64 0, .string ⟨#[]⟩, .slice none 0 0, .slice none 0 0] 35)) (hk0.trans (HB0.out.mono hk0.size)) hP.1 h (enters_of Tryz.func60 (by kernel_rfl) rfl) (fun w1 hK i hi u hu => findC_any L[i] s w.heap.size u w1 hu (by
      have := (hK.block w.heap.size (by rw [hsz]; omega)).trans hn1
      simp [World.cell?, this])))
  rw [show L.find? (fun g => decide (g.nm = s)) = findG L s from rfl] at HF
  have hfin := findG_fine (L := L) (s := s) hP
  have hlen := hP.1
  have HK0 := Lib.hid hk0
  have HX := Lib.hid (And.intro hx1 hx2)
  obtain ⟨a, cap, ⟨o, rfl, -⟩, -⟩ := h
  have HN2 := Lib.hid hn2
  have HSZ := Lib.hid hsz
  generalize (findG L s).isSome = r at *
  generalize (findG L s).getD zG = g at *
  have HFN := Lib.hid hfin
  clear hn1 hn2 hP hsz hfin hk0 hx1 hx2
  go_enter Tryz.func43, Tryz.ntmps43
  go_wp2_with (first
    | (go_at_call 37; refine HF.out.mono ?_; rintro e w5 ⟨⟨v5, rfl, hg5⟩, hb5⟩; obtain ⟨k, b, n, s, o, m, c, o2, m2, c2, rfl, hv5⟩ := isG_eight hg5; have HG5 := Lib.hid hg5; have HV5 := Lib.hid hv5; have HB5 := Lib.hid hb5; have HX5 := Lib.hid (World.alloc_heap_new w5 (.cells #[.string g.nm, .bool g.unk, .int .i8 k, .bool b, .int .i64 n, .string s, .slice o m c, .slice o2 m2 c2] 35)); have HS5 : Hid (w.heap.size + 1 + 1 ≤ w5.heap.size) := Lib.hid (by have := hb5.size; rw [HSZ.out] at this; exact this); have HK6 : Hid (KB w (w5.alloc (.cells #[.string g.nm, .bool g.unk, .int .i8 k, .bool b, .int .i64 n, .string s, .slice o m c, .slice o2 m2 c2] 35))) := Lib.hid ((HB0.out.trans (hb5.mono HB0.out.size)).trans (kbA.mono (HB0.out.trans (hb5.mono HB0.out.size)).size)); clear hg5 hv5 hb5)
    | (go_at_call 44; refine (copiedV_any g.v _ _ (fun q => q ≠ bx ∧ q ≠ w.heap.size + 1 ∧ q ≠ w5.heap.size) HFN.out.1 HFN.out.2 (fun q hq => by have := HS5.out; have := HX.out; simp at hq; omega) (isVa_mono (fun q (hq : q < w0.heap.size) => by have := HS5.out; have := HX.out; have := HK0.out.size; refine ⟨⟨by omega, by omega, by omega⟩, by simp; omega⟩) _ _ (isVa_keep (fun a c _ hc => cell_below (HK0.out.trans (HK6.out.mono HK0.out.size)) _ _ hc) _ _ (isVa_of _ _ HV5.out)))).mono ?_; rintro e w7 ⟨v7, rfl, hv7, hb7⟩; obtain ⟨k3, b3, n3, s3, o3, m3, c3, o4, m4, c4, rfl⟩ := isV_six (isV_of_a _ _ hv7); obtain ⟨y1, y2, y3, y4, y5, y6, ⟨⟨_, a0⟩, a0', a0''⟩, ⟨⟨_, a1⟩, a1', a1''⟩, ⟨⟨_, a2⟩, a2', a2''⟩, ⟨⟨_, a3⟩, a3', a3''⟩, ⟨⟨_, a4⟩, a4', a4''⟩, ⟨⟨_, a5⟩, a5', a5''⟩, hgy, j0, j1, j2, j3, j4, j5, j6, j7⟩ := mend_eight (d2 := .int .i8 k3) (d3 := .bool b3) (d4 := .int .i64 n3) (d5 := .string s3) (d6 := .slice o3 m3 c3) (d7 := .slice o4 m4 c4) ((hb7.block w5.heap.size (by simp)).trans HX5.out); obtain ⟨z1, z2, z3, z4, z5, z6, z7, z8, ⟨⟨_, t0⟩, t0', t0''⟩, ⟨⟨_, t1⟩, t1', t1''⟩, ⟨⟨_, t2⟩, t2', t2''⟩, ⟨⟨_, t3⟩, t3', t3''⟩, ⟨⟨_, t4⟩, t4', t4''⟩, ⟨⟨_, t5⟩, t5', t5''⟩, ⟨⟨_, t6⟩, t6', t6''⟩, ⟨⟨_, t7⟩, t7', t7''⟩, hgz, u0, u1, u2, u3, u4, u5, u6, u7⟩ := fill_eight (d0 := .string g.nm) (d1 := .bool g.unk) (d2 := .int .i8 k3) (d3 := .bool b3) (d4 := .int .i64 n3) (d5 := .string s3) (d6 := .slice o3 m3 c3) (d7 := .slice o4 m4 c4) (((((hgy.block (w.heap.size + 1) (by have := HS5.out; have := hb7.size; simp at this; omega) (fun e => by have := HS5.out; have := Option.some.inj e; omega)).trans (hb7.block (w.heap.size + 1) (by have := HS5.out; simp; omega))).trans ((kbA (w := w5)).block (w.heap.size + 1) (by have := HS5.out; omega))).trans (HB5.out.block (w.heap.size + 1) (by rw [HSZ.out]; omega))).trans HN2.out); have HG := Lib.hid (And.intro hv7 (And.intro hb7 (And.intro hgy (And.intro hgz (And.intro u0 (And.intro u1 (And.intro u2 (And.intro u3 (And.intro u4 (And.intro u5 (And.intro u6 u7))))))))))); clear hv7 hb7 hgy hgz u0 u1 u2 u3 u4 u5 u6 u7))
  obtain ⟨hv7, hb7, hgy, hgz, u0, u1, u2, u3, u4, u5, u6, u7⟩ := HG.out
  refine bodyPost_ret (v := .tuple #[.agg #[.string g.nm, .bool g.unk, .int .i8 k3, .bool b3, .int .i64 n3, .string s3, .slice o3 m3 c3, .slice o4 m4 c4], .bool r]) (by simp [results, Tryz.results43, go_sem, u0, u1, u2, u3, u4, u5, u6, u7]) rfl ?_
  have k7 := HK6.out.trans (hb7.mono HK6.out.size)
  have ky := k7.grown hgy k7.size (fun r e => by have := HS5.out; cases e; omega)
  have kz := ky.grown hgz ky.size (fun r e => by cases e; omega)
  refine ⟨⟨_, rfl, ?_⟩, kz⟩
  obtain ⟨_, _, _, _, _, _, _, _, hnl⟩ := HG5.out
  exact ⟨_, _, _, _, _, _, rfl, isVa_mono (fun q hq => hq.1) _ _ (isVa_keep (fun a c hq hc => hgz.cell hc (fun e => hq.2.1 (Option.some.inj e))) _ _ (isVa_keep (fun a c hq hc => hgy.cell hc (fun e => hq.2.2 (Option.some.inj e))) _ _ hv7)), hnl⟩
end Go.Proofs.YtlamkadllbgamaaGreatDoor
