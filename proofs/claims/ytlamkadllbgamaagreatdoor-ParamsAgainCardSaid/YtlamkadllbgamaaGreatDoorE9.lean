/-
  The third and the fourth fault; what Bind hands back.
-/
import Derived.Test.YtlamkadllbgamaaGreatDoorE8
set_option linter.unusedVariables false
set_option linter.unusedSimpArgs false
namespace Go.Proofs.YtlamkadllbgamaaGreatDoor
open Go.RowKit Go.Maps

set_option maxRecDepth 100000 in
set_option maxHeartbeats 2000000 in
theorem f3C_any (g : G) (ks : List ByteArray) (b9 : Nat) (kv v : Value) (w : World) (hl : ks.length ≤ 1000000) (h : isG w g v) (hk : isK w ks kv) (hb : w.cell? ⟨b9, 0, none⟩ = some kv) :
    Calls Tryz.prog 38 #[v, .pointer (some ⟨b9, 0, none⟩)] w fun e w' => e = .returned (.bool (!ks.any (fun k => decide (k = g.nm)))) ∧ Below w.heap.size w w' := by
  obtain ⟨k, b, n, s, o, m, c, o2, m2, c2, rfl, -⟩ := isG_eight h
  have HB0 : Hid (KB w (w.alloc (.cells #[.string g.nm, .bool g.unk, .int .i8 k, .bool b, .int .i64 n, .string s, .slice o m c, .slice o2 m2 c2] 35))) := Lib.hid kbA
  have HC : Hid (∀ w1, KB w w1 → Calls Tryz.prog 39 #[kv, .string g.nm] w1 fun e w' => e = .returned (.bool (ks.any (fun k => decide (k = g.nm)))) ∧ w' = w1) := Lib.hid fun w1 hk1 => containsK_any ks g.nm kv w1 hl (isK_keep (cell_below hk1) hk)
  have hb1 := cell_below HB0.out _ _ hb
  obtain ⟨o5, c5, rfl⟩ := isK_form hk
  generalize (ks.any fun k => decide (k = g.nm)) = r at *
  clear h hk hb
  generalize ks.length = n5 at *
  go_enter Tryz.func38, Tryz.ntmps38
  go_wp2_with (go_at_call 39; refine (HC.out _ HB0.out).mono ?_; rintro e w5 ⟨rfl, rfl⟩)
  go_ret
  exact ⟨rfl, HB0.out⟩
theorem isK_formn {W : World} {ks : List ByteArray} {v : Value} {n : Nat} (h0 : ks.length = n) (h : isK W ks v) : ∃ o c, v = .slice o n c := by
  subst h0
  exact isK_form h
def strange (L : List PR) (gs : List G) : Option G := gs.find? (fun g => !(L.map PR.nm).any (fun n => decide (n = g.nm)))
noncomputable def unfit (L : List PR) (gs : List G) : Option PR := L.find? (fun p => !mayP p (valP gs p))
set_option maxRecDepth 100000 in
set_option maxHeartbeats 4000000 in
theorem fault3_any (L : List PR) (gs : List G) (v u : Value) (b1 b2 : Nat) (w : World) (hl : L.length ≤ 1000000) (hg : gs.length ≤ 1000000) (h : isPs w L v) (h' : isGs w gs u) (hb : w.cell? ⟨b1, 0, none⟩ = some v) (hb' : w.cell? ⟨b2, 0, none⟩ = some u) :
    Calls Tryz.prog 36 #[.pointer (some ⟨b1, 0, none⟩), .pointer (some ⟨b2, 0, none⟩)] w fun e w' => e = .returned (.tuple #[.string (if (strange L gs).isSome then ((strange L gs).getD zG).nm else ⟨#[]⟩), .int .i64 (if (strange L gs).isSome then 140 else 0)]) ∧ Below w.heap.size w w' := by
  have HN := Lib.hid (Names_any L v w hl h)
  have HF : Hid (∀ w1 b9 kv, KB w w1 → isK w1 (L.map PR.nm) kv → w1.cell? ⟨b9, 0, none⟩ = some kv → Calls Tryz.prog 37 #[u, .func (.func 38) #[] #[.pointer (some ⟨b9, 0, none⟩)]] w1 fun e w' => (∃ v', e = .returned (.tuple #[v', .bool (strange L gs).isSome]) ∧ isG w ((strange L gs).getD zG) v') ∧ Below w1.heap.size w1 w') := Lib.hid fun w1 b9 kv hk hkv hc =>
    findG_any gs (fun g => !(L.map PR.nm).any (fun n => decide (n = g.nm))) 38 #[.pointer (some ⟨b9, 0, none⟩)] u w w1 hk hg h' (enters_of Tryz.func38 (by kernel_rfl) rfl) (fun w2 hk2 i hi z hz => f3C_any gs[i] (L.map PR.nm) b9 kv z w2 (by rw [List.length_map]; exact hl) hz (isK_keep (cell_below hk2) hkv) (cell_below hk2 _ _ hc))
  have HW : Hid (∀ so s w1, Calls Tryz.prog 35 #[.bool so, .string s, .int .i64 140] w1 fun e w' => e = .returned (.tuple #[.string (if so then s else ⟨#[]⟩), .int .i64 (if so then 140 else 0)]) ∧ w' = w1) := Lib.hid fun so s w1 => when_any so s 140 w1
  obtain ⟨o, c, rfl⟩ := isPs_form h
  obtain ⟨o', c', rfl⟩ := isGs_form h'
  have HBB := Lib.hid hb'
  generalize (strange L gs).isSome = r at *
  generalize (strange L gs).getD zG = g at *
  have hlm : (L.map PR.nm).length = L.length := List.length_map _
  generalize L.map PR.nm = ks at *
  clear h h'
  generalize L.length = n at *
  generalize gs.length = n' at *
  have HLM := Lib.hid hlm
  clear hlm
  rcases r with _ | _
  all_goals
    first
      | rw [if_pos rfl, if_pos rfl]
      | rw [if_neg Bool.false_ne_true, if_neg Bool.false_ne_true]
    go_enter Tryz.func36, Tryz.ntmps36
    go_wp2_with (first
      | (go_at_call 27; refine HN.out.mono ?_; rintro e w5 ⟨⟨v5, rfl, hk5⟩, hb5⟩; obtain ⟨o5, c5, rfl⟩ := isK_formn HLM.out hk5; have HK5 := Lib.hid hk5; have HB5 := Lib.hid hb5; have hu5 := cell_below (hb5.trans (kbA.mono hb5.size) : Below w.heap.size w (w5.alloc (.cells #[.slice o5 n c5] 31))) _ _ HBB.out; clear hk5 hb5)
      | (go_at_call 37; go_loud (refine (HF.out _ w5.heap.size (.slice o5 n c5) (HB5.out.trans (kbA.mono HB5.out.size)) (isK_keep (cell_below kbA) HK5.out) (by simp)).mono ?_; rintro e w6 ⟨⟨v6, rfl, hg6⟩, hb6⟩; obtain ⟨k3, b3, n3, s3, o3, m3, c3, o4, m4, c4, rfl, -⟩ := isG_eight hg6; clear hg6; have HB6 := Lib.hid ((HB5.out.trans (kbA.mono HB5.out.size)).trans (hb6.mono (HB5.out.trans (kbA.mono HB5.out.size)).size)); clear hb6))
      | (go_at_call 35; refine (HW.out _ _ _).mono ?_; rintro e w7 ⟨rfl, rfl⟩))
    go_ret2
    exact ⟨rfl, HB6.out.trans (kbA.mono HB6.out.size)⟩

theorem valP_fine {gs : List G} {p : PR} (hG : fineG gs) (hP : fineP p) : sizeV (valP gs p).v ≤ 1000000 ∧ fineV (valP gs p).v := by
  unfold valP findG
  cases h : gs.find? (fun g => decide (g.nm = p.nm)) with
  | none => exact ⟨hP.1, hP.2.1⟩
  | some g => exact hG.2 g (List.mem_of_find?_eq_some h)
set_option maxRecDepth 100000 in
set_option maxHeartbeats 4000000 in
theorem f4C_any (p : PR) (gs : List G) (b2 : Nat) (u v : Value) (w : World) (hE : Env w) (hP : fineP p) (hG : fineG gs) (h : isP w p v) (h' : isGs w gs u) (hb : w.cell? ⟨b2, 0, none⟩ = some u) :
    Calls Tryz.prog 42 #[v, .pointer (some ⟨b2, 0, none⟩)] w fun e w' => e = .returned (.bool (!mayP p (valP gs p))) ∧ Below w.heap.size w w' := by
  obtain ⟨k, b, n, s, o, m, c, o2, m2, c2, oa, ca, rfl, hd, ha⟩ := isP_ten h
  have HB0 : Hid (KB w (w.alloc (.cells #[.string p.nm, .bool p.num, .bool p.has, .int .i8 k, .bool b, .int .i64 n, .string s, .slice o m c, .slice o2 m2 c2, .slice oa p.al.length ca] 37))) := Lib.hid kbA
  have HN := Lib.hid (World.alloc_heap_new w (.cells #[.string p.nm, .bool p.num, .bool p.has, .int .i8 k, .bool b, .int .i64 n, .string s, .slice o m c, .slice o2 m2 c2, .slice oa p.al.length ca] 37))
  have HV : Hid (∀ w1, KB w w1 → Calls Tryz.prog 17 #[.agg #[.string p.nm, .bool p.num, .bool p.has, .int .i8 k, .bool b, .int .i64 n, .string s, .slice o m c, .slice o2 m2 c2, .slice oa p.al.length ca], u] w1 fun e w' => (∃ v', e = .returned v' ∧ isG w' (valP gs p) v') ∧ Below w1.heap.size w1 w') := Lib.hid fun w1 hk => value_any p gs _ u w1 hP hG (isP_below hk h) (isGs_below hk h')
  have HM : Hid (∀ w1 x, KB w w1 → isG w1 (valP gs p) x → Calls Tryz.prog 8 #[.agg #[.string p.nm, .bool p.num, .bool p.has, .int .i8 k, .bool b, .int .i64 n, .string s, .slice o m c, .slice o2 m2 c2, .slice oa p.al.length ca], x] w1 fun e w' => e = .returned (.bool (mayP p (valP gs p))) ∧ Below w1.heap.size w1 w') := Lib.hid fun w1 x hk hx => May_any p (valP gs p) _ x w1 (hE.kb hk) hP (valP_fine hG hP).1 (valP_fine hG hP).2 (isP_below hk h) hx
  have HBB := Lib.hid hb
  obtain ⟨o', c', rfl⟩ := isGs_form h'
  generalize mayP p (valP gs p) = r at *
  generalize valP gs p = g at *
  have hfl := hP.2.2.1
  clear h h' hd ha hE hP hG hb
  generalize gs.length = n' at *
  generalize p.al.length = q9 at *
  go_enter Tryz.func42, Tryz.ntmps42
  go_wp2_with fail
  generalize hW1 : (w.alloc (.cells #[.string p.nm, .bool p.num, .bool p.has, .int .i8 k, .bool b, .int .i64 n, .string s, .slice o m c, .slice o2 m2 c2, .slice oa q9 ca] 37)) = W1 at *
  clear hW1
  have HV2 : Hid (∀ w1, KB W1 w1 → Calls Tryz.prog 17 #[.agg #[.string p.nm, .bool p.num, .bool p.has, .int .i8 k, .bool b, .int .i64 n, .string s, .slice o m c, .slice o2 m2 c2, .slice oa q9 ca], .slice o' n' c'] w1 fun e w' => (∃ v', e = .returned v' ∧ isG w' g v') ∧ Below w1.heap.size w1 w') := Lib.hid fun w1 hk => HV.out w1 (HB0.out.trans (hk.mono HB0.out.size))
  have HX : Hid (∀ w1, KB W1 w1 → w1.heap[w.heap.size]? = some (.cells #[.string p.nm, .bool p.num, .bool p.has, .int .i8 k, .bool b, .int .i64 n, .string s, .slice o m c, .slice o2 m2 c2, .slice oa q9 ca] 37 (0, 0)) ∧ w1.cell? ⟨b2, 0, none⟩ = some (.slice o' n' c') ∧ KB w w1) := Lib.hid fun w1 hk => ⟨(hk.block w.heap.size (Array.getElem?_eq_some_iff.1 HN.out).1).trans HN.out, cell_below (HB0.out.trans (hk.mono HB0.out.size)) _ _ HBB.out, HB0.out.trans (hk.mono HB0.out.size)⟩
  obtain ⟨hx1, hx2, -⟩ := HX.out W1 (Below.refl _ _)
  obtain ⟨x0, x1, x2, x3, x4, x5, x6, x7, x8, x9⟩ := ten_cells hx1
  clear hx1
  go_region_with (first
    | (go_at_call 17; refine (HV2.out _ (drewB1 _ _)).mono ?_; rintro e w5 ⟨⟨v5, rfl, hg5⟩, hb5⟩; obtain ⟨k3, b3, n3, s3, o3, m3, c3, o4, m4, c4, rfl, -⟩ := isG_eight hg5; have HG5 := Lib.hid hg5; obtain ⟨hx1, hx2, hk5⟩ := HX.out _ (below_drew_of hb5); obtain ⟨x0, x1, x2, x3, x4, x5, x6, x7, x8, x9⟩ := ten_cells hx1; have HK5 := Lib.hid hk5; clear hg5 hb5 hx1 hk5)
    | (go_at_call 8; refine (HM.out _ _ HK5.out HG5.out).mono ?_; rintro e w6 ⟨rfl, hb6⟩; have HK6 := Lib.hid (HK5.out.trans (hb6.mono HK5.out.size)); clear hb6))
  all_goals
    go_wp2_with fail
    go_ret
    exact ⟨rfl, HK6.out⟩
set_option maxRecDepth 100000 in
set_option maxHeartbeats 4000000 in
theorem fault4_any (L : List PR) (gs : List G) (v u : Value) (b1 b2 : Nat) (w : World) (hE : Env w) (hP : finePs L) (hG : fineG gs) (h : isPs w L v) (h' : isGs w gs u) (hb : w.cell? ⟨b1, 0, none⟩ = some v) (hb' : w.cell? ⟨b2, 0, none⟩ = some u) :
    Calls Tryz.prog 40 #[.pointer (some ⟨b1, 0, none⟩), .pointer (some ⟨b2, 0, none⟩)] w fun e w' => e = .returned (.tuple #[.string (if (unfit L gs).isSome then ((unfit L gs).getD zP).nm else ⟨#[]⟩), .int .i64 (if (unfit L gs).isSome then 140 else 0)]) ∧ Below w.heap.size w w' := by
  have HF : Hid (Calls Tryz.prog 41 #[v, .func (.func 42) #[] #[.pointer (some ⟨b2, 0, none⟩)]] w fun e w' => (∃ v', e = .returned (.tuple #[v', .bool (unfit L gs).isSome]) ∧ isP w ((unfit L gs).getD zP) v') ∧ Below w.heap.size w w') := Lib.hid (
    findP_any L (fun p => !mayP p (valP gs p)) 42 #[.pointer (some ⟨b2, 0, none⟩)] v w w (Below.refl _ _) hP.1 h (enters_of Tryz.func42 (by kernel_rfl) rfl) (fun w2 hk2 i hi z hz => f4C_any L[i] gs b2 u z w2 (hE.kb hk2) (hP.2 _ (List.getElem_mem hi)) hG hz (isGs_below hk2 h') (cell_below hk2 _ _ hb')))
  have HW : Hid (∀ so s w1, Calls Tryz.prog 35 #[.bool so, .string s, .int .i64 140] w1 fun e w' => e = .returned (.tuple #[.string (if so then s else ⟨#[]⟩), .int .i64 (if so then 140 else 0)]) ∧ w' = w1) := Lib.hid fun so s w1 => when_any so s 140 w1
  obtain ⟨o, c, rfl⟩ := isPs_form h
  obtain ⟨o', c', rfl⟩ := isGs_form h'
  generalize (unfit L gs).isSome = r at *
  generalize (unfit L gs).getD zP = p at *
  clear h h' hP hG hE hb'
  generalize L.length = n at *
  rcases r with _ | _
  all_goals
    first
      | rw [if_pos rfl, if_pos rfl]
      | rw [if_neg Bool.false_ne_true, if_neg Bool.false_ne_true]
    go_enter Tryz.func40, Tryz.ntmps40
    go_wp2_with (first
      | (go_at_call 41; refine HF.out.mono ?_; rintro e w6 ⟨⟨v6, rfl, hg6⟩, hb6⟩; obtain ⟨k, b, n, s, o, m, c, o2, m2, c2, oa, ca, rfl, -⟩ := isP_ten hg6; clear hg6; have HB6 := Lib.hid hb6; clear hb6)
      | (go_at_call 35; refine (HW.out _ _ _).mono ?_; rintro e w7 ⟨rfl, rfl⟩))
    go_ret2
    exact ⟨rfl, HB6.out.trans (kbA.mono HB6.out.size)⟩
end Go.Proofs.YtlamkadllbgamaaGreatDoor
