/-
  The program's journal: Append.
-/
import Derived.Test.YtbjdbphnccdpbaaJd
set_option linter.unusedVariables false
namespace Go.Proofs.Ytbjdbphnccdpbaa
open Go.RowKit Go.Shelf Go.Lib Go.Deep

theorem rds_two {W : World} {X Y : List UInt8} {oa ob : Option Addr} {ca cb : Nat} (hx : rd W X (.slice oa X.length ca)) (hy : rd W Y (.slice ob Y.length cb)) :
    rds (W.alloc (.cells #[.slice oa X.length ca, .slice ob Y.length cb] 27)) [X, Y] (.slice (some ⟨W.heap.size, 0, none⟩) 2 2) := by
  have hb : Below W.heap.size W (W.alloc (.cells #[.slice oa X.length ca, .slice ob Y.length cb] 27)) := (Below.refl _ _).alloc (Nat.le_refl _) _
  have hn := heap_alloc_new W (.cells #[.slice oa X.length ca, .slice ob Y.length cb] 27)
  refine ⟨some ⟨W.heap.size, 0, none⟩, ⟨W.heap.size, 0, none⟩, 2, rfl, Nat.le_refl _, by unfold maxLen; omega, fun _ => rfl, fun i hi => ?_⟩
  have hadd : (⟨W.heap.size, 0, none⟩ : Addr).add i = ⟨W.heap.size, i, none⟩ := by unfold Addr.add; split <;> simp_all
  rw [hadd]
  match i, hi with
  | 0, _ => exact ⟨oa, ca, by rw [cell_of_row _ _ 0 _ _ _ hn]; rfl, hx.below hb⟩
  | 1, _ => exact ⟨ob, cb, by rw [cell_of_row _ _ 1 _ _ _ hn]; rfl, hy.below hb⟩
theorem Dk.not_box {T t : TypeId} {base b N : Nat} {s : DS} {v u : Value} {W : World} (h : Dk T base b s v W) (hb : Boxed W N t u) (h1 : t ≠ T) (h2 : t ≠ 5) : ¬ Fp b v N := by
  obtain ⟨_, _, _, ⟨k, hk, _⟩, ho⟩ := h
  rintro (rfl | hv)
  · rw [show W.heap[N]? = _ from hb] at hk
    cases hk
  · exact ho.not_box hb h2 N hv rfl
theorem DQ.boxed {T t : TypeId} {base b N : Nat} {s : DS} {v u : Value} {r : Int × DS} {e : Ending} {W W' : World} (hq : DQ T base b v W r e W') (h : Dk T base b s v W) (hb : Boxed W N t u) (h1 : t ≠ T) (h2 : t ≠ 5) : Boxed W' N t u :=
  hq.2.choose_spec.2.2.boxed hb (h.not_box hb h1 h2)

set_option maxRecDepth 100000 in
set_option maxHeartbeats 8000000 in
theorem ja3_any {base b Nd Nf N1 : Nat} {s : DS} {v vf v1 : Value} {F : List UInt8} (w : World) (h : Dk 52 base b s v w) (hbase : base ≤ w.heap.size) (hFl : F.length ≤ 1000000)
    (hd : Boxed w Nd 25 (.pointer (some ⟨b, 0, none⟩))) (hf : Boxed w Nf 27 vf) (h1 : Boxed w N1 27 v1) (hrf : rd w s.f vf) (hr1 : rd w F v1) :
    Calls Try.prog 31 #[.pointer (some ⟨Nf, 0, none⟩), .pointer (some ⟨Nd, 0, none⟩), .pointer (some ⟨N1, 0, none⟩)] w fun e w' => ∃ r, e = .returned (.int .i64 r.1) ∧ Hid (App3 s F r ∧ DQ 52 base b v w r (.returned (.int .i64 r.1)) w') := by
  obtain ⟨of, cf, rfl, hf1, hf2⟩ := hrf.form
  obtain ⟨o1, c1, rfl, hg1, hg2⟩ := hr1.form
  have HB0 := Lib.hid (broken_any s.f _ w hrf)
  have FACTS : Hid (∀ W, Below w.heap.size w W → W.cell? ⟨Nd, 0, none⟩ = some (.pointer (some ⟨b, 0, none⟩)) ∧ W.cell? ⟨Nf, 0, none⟩ = some (.slice of s.f.length cf) ∧ W.cell? ⟨N1, 0, none⟩ = some (.slice o1 F.length c1)) := Lib.hid fun W hW => ⟨(boxed_below hd hW).cell, (boxed_below hf hW).cell, (boxed_below h1 hW).cell⟩
  have HAP : Hid (∀ W, Below w.heap.size w W → Calls Try.prog 33 #[.pointer (some ⟨b, 0, none⟩), .slice o1 F.length c1] W (DQ 52 base b v w (appD s F))) := Lib.hid fun W hW =>
    (append_any W (h.below hW) (Nat.le_trans hbase hW.size) (hr1.below hW)).mono fun e w' hq => hq.from hW
  have hsl := h.1
  have HCC : Hid (∀ W m, m ≤ s.f.length → Below w.heap.size w W → Calls Try.prog 34 #[.slice (some ⟨W.heap.size, 0, none⟩) 2 2] (W.alloc (.cells #[.slice of m cf, .slice o1 F.length c1] 27)) fun e w' => ∃ o c, e = .returned (.slice o (m + F.length) c) ∧ Hid (rd w' (s.f.take m ++ F) (.slice o (m + F.length) c) ∧ Below w.heap.size w w')) := Lib.hid fun W m hm hW => by
    have hl : (s.f.take m).length = m := by rw [List.length_take]; omega
    have hx := (hrf.below hW).cut m cf hm (by omega) hf2
    have hba : Below w.heap.size w (W.alloc (.cells #[.slice of m cf, .slice o1 F.length c1] 27)) := hW.alloc (Nat.le_trans (Nat.le_refl _) hW.size) _
    obtain ⟨X, hX⟩ : ∃ X, s.f.take m = X := ⟨_, rfl⟩
    rw [hX] at hx hl ⊢
    subst hl
    refine (concat_any [X, F] _ _ (rds_two hx (hr1.below hW)) (by simp; omega)).mono ?_
    rintro e w' ⟨o, c, rfl, hq⟩
    have he : [X, F].flatten = X ++ F := by simp
    rw [he] at hq
    rw [he, List.length_append]
    rw [List.length_append] at hq
    exact ⟨o, c, rfl, Lib.hid ⟨hq.out.1.rd, hba.trans (hq.out.2.mono hba.size)⟩⟩
  have HSW : Hid (∀ W X u, Below w.heap.size w W → rd W X u → Calls Try.prog 18 #[.pointer (some ⟨b, 0, none⟩), u] W (DQ 52 base b v w (swapD s X))) := Lib.hid fun W X u hW hX =>
    (swap_any W (h.below hW) (Nat.le_trans hbase hW.size) hX).mono fun e w' hq => hq.from hW
  have LATER : Hid (∀ r e W, DQ 52 base b v w r e W → W.cell? ⟨Nd, 0, none⟩ = some (.pointer (some ⟨b, 0, none⟩)) ∧ W.cell? ⟨Nf, 0, none⟩ = some (.slice of s.f.length cf) ∧ W.cell? ⟨N1, 0, none⟩ = some (.slice o1 F.length c1)) := Lib.hid fun r e W hq => ⟨(hq.boxed h hd (by decide) (by decide)).cell, (hq.boxed h hf (by decide) (by decide)).cell, (hq.boxed h h1 (by decide) (by decide)).cell⟩
  obtain ⟨d0, d1, d2⟩ := FACTS.out w (Below.refl _ _)
  unfold maxLen at hf2 hg2
  clear h hbase hd hf h1 hrf hr1
  generalize hL : s.f.length = L at *
  go_enter Try.func31, Try.ntmps31
  go_wp2_with (go_at_call 32; refine HB0.out.mono ?_)
  rintro e w1 ⟨n, rfl, hq⟩
  have HB1 := Lib.hid hq.out.2
  have HBRK := Lib.hid hq.out.1
  obtain ⟨e0, e1, e2⟩ := FACTS.out w1 HB1.out
  rcases Nat.eq_zero_or_pos n with rfl | hn
  · clear hq
    go_wp2_with (go_at_call 33; refine (HAP.out w1 HB1.out).mono ?_)
    rintro e w2 hq2
    obtain rfl := hq2.1
    have HQ2 := Lib.hid hq2
    clear hq2
    generalize hr : appD s F = r at *
    have HR := Lib.hid hr
    clear hr
    go_wp2_with fail
    go_ret
    exact ⟨r, rfl, Lib.hid ⟨⟨0, HBRK.out, .inl ⟨rfl, HR.out.symm⟩⟩, HQ2.out⟩⟩
  · have hnL : n ≤ L := by have := hq.out.1.1; omega
    have HN := Lib.hid hn
    obtain ⟨m, hm⟩ : ∃ m : Nat, m = L - n := ⟨_, rfl⟩
    have hmi : (L : Int) - (n : Int) = (m : Int) := by omega
    have tz : ((n : Int) == 0) = false := by rw [beq_eq_false_iff_ne]; omega
    have hwm : IntKind.i64.wrap (m : Int) = (m : Int) := by go_unwrap
    have hmc : (m : Int) ≤ (cf : Int) := by omega
    have hmL : m ≤ L := by omega
    have HM := Lib.hid hm
    have HML := Lib.hid hmL
    have hBd := Lib.hid HB1.out.drew
    clear hq hn hm
    go_wp2_with fail
    go_region_held3 (fun w' => w'.cell? ⟨Nd, 0, none⟩ = some (.pointer (some ⟨b, 0, none⟩)) ∧ w'.cell? ⟨Nf, 0, none⟩ = some (.slice of L cf) ∧ w'.cell? ⟨N1, 0, none⟩ = some (.slice o1 F.length c1)) (first | go_keep)
      (first
        | (go_at_call 34; go_loud (refine (HCC.out w1.drew m HML.out hBd.out).mono ?_); rintro e w3 ⟨o3, c3, rfl, hq3⟩; obtain ⟨f0, f1, f2⟩ := FACTS.out w3 hq3.out.2)
        | (go_at_call 18; refine (HSW.out _ _ _ hq3.out.2 hq3.out.1).mono ?_; rintro e w4 hq4; obtain rfl := hq4.1; obtain ⟨k0, k1, k2⟩ := LATER.out _ _ _ hq4))
    all_goals
      have HQ4 := Lib.hid hq4
      clear hq4 hq3
      generalize hr : swapD s (s.f.take m ++ F) = r at *
      have HR := Lib.hid hr
      clear hr
      go_wp2_with fail
      go_ret
      exact ⟨r, rfl, Lib.hid ⟨⟨n, HBRK.out, .inr ⟨HN.out, by rw [hL, ← HM.out]; exact HR.out.symm⟩⟩, HQ4.out⟩⟩
end Go.Proofs.Ytbjdbphnccdpbaa
