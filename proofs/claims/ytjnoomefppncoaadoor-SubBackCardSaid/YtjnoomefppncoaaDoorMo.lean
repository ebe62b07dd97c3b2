/-
  The statement SubBack.
-/
import Derived.Test.YtjnoomefppncoaaDoorMn
import Derived.Test.YtjnoomefppncoaaDoorLt
import Derived.Deep.Cut
set_option linter.unusedVariables false
namespace Go.Proofs.YtjnoomefppncoaaDoor
open Go.RowKit Go.Shelf

theorem add_zE (g j : Nat) : (⟨g, 0, none⟩ : Addr).add j = ⟨g, j, none⟩ := by unfold Addr.add; split <;> simp_all
/-- A part as an expression. -/
def toE (x : X) : E := .mk x.k (bs x.t) 0 (bs x.m) (bs x.a) []
theorem toX_toE (x : X) : toX (toE x) = x := by
  cases x with
  | text t => show toX (.mk 0 (bs t) 0 _ _ []) = _; rw [toX, if_pos rfl, bs_list]
  | ref m => show toX (.mk 3 _ 0 (bs m) _ []) = _; rw [toX, if_neg (by decide), if_pos rfl, bs_list]
  | att m a => show toX (.mk 4 _ 0 (bs m) (bs a) []) = _; rw [toX, if_neg (by decide), if_neg (by decide), bs_list, bs_list]
theorem emB_bs (l : List UInt8) : emB (bs l) = decide (l = []) := by
  unfold emB
  by_cases h : l = []
  · subst h; rw [decide_eq_true rfl, decide_eq_true ((emp_iff _).2 rfl)]
  · rw [decide_eq_false h, decide_eq_false]
    intro e
    have := (emp_iff _).1 e
    exact h (by have := congrArg (fun b : ByteArray => b.data.toList) this; simpa using this)
theorem part_toE {x : X} (hx : okX x) (hf : x.isT = true → x.t ≠ []) : partB (toE x) = true := by
  cases x with
  | text t =>
    show partB (.mk 0 (bs t) 0 (bs []) (bs []) []) = true
    have h1 : t ≠ [] := hf rfl
    have h2 : Lib.validD t = true := hx
    rw [partB, if_pos rfl, emB_bs, emB_bs, bs_list, h2, decide_eq_false h1]; rfl
  | ref m =>
    show partB (.mk 3 (bs []) 0 (bs m) (bs []) []) = true
    have h2 : nameB m = true := hx
    rw [partB, if_neg (by decide), if_pos rfl, emB_bs, bs_list, h2]; rfl
  | att m a =>
    show partB (.mk 4 (bs []) 0 (bs m) (bs a) []) = true
    rw [partB, if_neg (by decide), if_neg (by decide), if_pos rfl, emB_bs, bs_list, bs_list, hx.1, hx.2]; rfl
theorem k_small (x : X) : -128 ≤ x.k ∧ x.k ≤ 127 := by cases x <;> (simp [X.k])
theorem isEl_of {W : World} {xs : List X} {v : Value} (h : isXr W xs v) (hs : ∀ x ∈ xs, x.t.length ≤ 10000 ∧ x.m.length ≤ 10000 ∧ x.a.length ≤ 10000) : isEl W (xs.map toE) v := by
  obtain ⟨o, g, c, rfl, h1, h2, h3, h4⟩ := h
  refine ⟨⟨g, 0, none⟩, c, ⟨o, by rw [List.length_map], by rw [List.length_map]; exact h1, h2, fun h => h3 (by rw [List.length_map] at h; exact h)⟩, isEs_of _ _ fun i hi => ?_⟩
  have hi' : i < xs.length := by rw [List.length_map] at hi; exact hi
  obtain ⟨x0, x1, x2, x3, x4, x5⟩ := xr_six h4 i hi'
  obtain ⟨b1, b2, b3⟩ := hs xs[i] (List.getElem_mem hi')
  have hr : 10000 ≤ reachBytes := by decide
  have hE : isE W (xs.map toE)[i] (.agg #[.int .i8 xs[i].k, .string (bs xs[i].t), .int .i64 0, .string (bs xs[i].m), .string (bs xs[i].a), .slice none 0 0]) := by
    rw [List.getElem_map]
    unfold toE isE
    refine ⟨.slice none 0 0, rfl, ?_, by omega, by rw [bs_size]; omega, by rw [bs_size]; omega, by rw [bs_size]; omega, ⟨⟨0, 0, none⟩, 0, ⟨none, rfl, Nat.le_refl _, by unfold maxLen; omega, fun h => absurd h (by decide)⟩, by unfold isEs; trivial⟩⟩
    exact k_small xs[i]
  exact ⟨_, _, _, _, _, _, by rw [add_zE]; exact x0, by rw [add_zE]; exact x1, by rw [add_zE]; exact x2, by rw [add_zE]; exact x3, by rw [add_zE]; exact x4, by rw [add_zE]; exact x5, hE⟩
set_option maxRecDepth 100000 in
set_option maxHeartbeats 4000000 in
theorem sameAllE_any (l : List E) (v v' : Value) (w : World) (hp : ∀ x ∈ l, PartE x) (h : isXr w (l.map toX) v) (h' : isEl w l v') : Calls Tryd.prog 11 #[v, v'] w fun e w' => e = .returned (.bool true) ∧ Below w.heap.size w w' := by
  obtain ⟨o, g, c, rfl, hc1, hc2, hc3, hc4⟩ := h
  obtain ⟨a, c', ⟨o', rfl, hd1, hd2, hd3⟩, hvs⟩ := h'
  rw [List.length_map] at hc1 hc3 ⊢
  have hll : l.length ≤ 9223372036854775807 := by unfold maxLen at hc2; omega
  have HC := Lib.hid (And.intro hc3 hc4)
  have HD := Lib.hid (And.intro hd3 hvs)
  clear hc3 hc4 hd3 hvs
  go_enter Tryd.func11, Tryd.ntmps11
  go_wp2_with fail
  go_loopw [5] (fun iv wr => ∃ j : Nat, j ≤ l.length ∧ iv = .int .i64 j ∧ Hid (Below w.heap.size w wr)) (fun iv _ => l.length - (intOf iv).toNat)
  case atStart => exact ⟨0, Nat.zero_le _, rfl, Lib.hid (Below.refl _ _)⟩
  case round =>
    obtain ⟨j, hj, rfl, hbr⟩ := hrel
    by_cases hlt : j < l.length
    · obtain rfl := HC.out.1 (by omega)
      obtain rfl := HD.out.1 (by omega)
      have lift : ∀ b q u, w.cell? ⟨b, q, none⟩ = some u → wr.cell? ⟨b, q, none⟩ = some u := fun b q u h => (hbr.out.cell (p := ⟨b, q, none⟩) (World.block_lt_of_cell? w _ h)).trans h
      obtain ⟨x0, x1, x2, x3, x4, x5⟩ := xr_six (fun i u hi => lift _ _ _ (HC.out.2 i u hi)) j (by rw [List.length_map]; exact hlt)
      obtain ⟨d0, d1, d2, d3, d4, d5, y0, y1, y2, y3, y4, y5, hy⟩ := isEs_at l a j hlt (isEs_below hbr.out HD.out.2)
      obtain ⟨o7, cp7, rfl, rfl, rfl, rfl, rfl, rfl⟩ := isE_six hy
      have hpj := hp l[j] (List.getElem_mem hlt)
      rw [List.getElem_map] at x0 x1 x3 x4
      have hlti : (j : Int) < (l.length : Int) := by omega
      have hll0 : l[j].list.length = 0 := by rw [hpj.list]; rfl
      have hSA : ∀ W, Calls Tryd.prog 24 #[.agg #[.int .i8 (toX l[j]).k, .string (bs (toX l[j]).t), .int .i64 0, .string (bs (toX l[j]).m), .string (bs (toX l[j]).a), .slice none 0 0], .agg #[.int .i8 l[j].kind, .string l[j].text, .int .i64 l[j].num, .string l[j].name, .string l[j].attr, .slice o7 l[j].list.length cp7]] W fun e w' => e = .returned (.bool true) ∧ Below W.heap.size W w' := fun W => by
        rw [hpj.kind, hpj.text, hpj.num, hpj.name, hpj.attr, hll0]
        exact same_any (toX l[j]).k 0 (bs (toX l[j]).t) (bs (toX l[j]).m) (bs (toX l[j]).a) none o7 0 cp7 W
      have HSA := Lib.hid hSA
      clear hSA lift hy hpj hll0 hp
      generalize toX l[j] = x at *
      generalize l[j] = y at *
      go_wp2_with fail
      go_region_with (go_at_call 24; refine (HSA.out _).mono ?_; rintro e w5 ⟨rfl, hb5⟩)
      all_goals
        go_wp2_with fail
        go_roundw
        case rel => exact ⟨j + 1, by omega, by go_num, Lib.hid (hbr.out.trans ((show Below wr.heap.size wr w5 from ⟨hb5.os, hb5.tape, hb5.output, hb5.size, hb5.block⟩).mono hbr.out.size))⟩
        case measure => simp [intOf]; omega
    · obtain rfl : j = l.length := by omega
      go_wp2_with fail
      go_ret
      exact ⟨rfl, hbr.out⟩

theorem okP_nice {l : List E} (h : okP l l.length) : nice (l.map toX).reverse ∧ ∀ x ∈ l, PartE x := by
  have hp : ∀ x ∈ l, PartE x := fun x hx => by
    obtain ⟨i, hi, rfl⟩ := List.mem_iff_getElem.1 hx
    exact part_of (h i hi hi).1
  refine ⟨?_, hp⟩
  have key : ∀ n, n ≤ l.length → nice ((l.map toX).take n).reverse := by
    intro n
    induction n with
    | zero => intro _; rw [List.take_zero]; trivial
    | succ n ih =>
      intro hn
      have hlt : n < (l.map toX).length := by rw [List.length_map]; omega
      rw [List.take_succ_eq_append_getElem hlt, List.reverse_append, List.reverse_cons, List.reverse_nil, List.nil_append, List.cons_append, List.nil_append]
      have hln : n < l.length := by omega
      refine ⟨fun hT => ?_, ih (by omega)⟩
      rw [List.getElem_map] at hT ⊢
      have hpn := hp l[n] (List.getElem_mem hln)
      refine ⟨hpn.full hT, fun y hy => ?_⟩
      cases n with
      | zero => rw [List.take_zero] at hy; cases hy
      | succ m =>
        have hm : m < (l.map toX).length := by rw [List.length_map]; omega
        rw [List.take_succ_eq_append_getElem hm, List.reverse_append, List.reverse_cons, List.reverse_nil, List.nil_append, List.cons_append, List.nil_append, List.head?_cons, Option.some.injEq, List.getElem_map] at hy
        have hpm := hp l[m] (List.getElem_mem (by omega))
        cases hyT : y.isT with
        | false => rfl
        | true =>
          exfalso
          refine (h (m + 1) hln hln).2 m rfl ⟨?_, ?_⟩
          · rw [hpn.kind]; revert hT; cases toX l[m + 1] <;> intro h <;> first | rfl | cases h
          · rw [hpm.kind, hy]; revert hyT; cases y <;> intro h <;> first | rfl | cases h
  have := key l.length (Nat.le_refl _)
  rwa [List.take_of_length_le (by rw [List.length_map]; exact Nat.le_refl _)] at this
/-- What Write has written, Lex reads as the parts. -/
theorem ans_wr {l : List E} (h : okP l l.length) {z : List UInt8} (hz : wrR (l.map toX).reverse = some z) (hl : z.length ≤ 4096) : ansL z = (l.map toX, 0, 0) := by
  obtain ⟨hn, hp⟩ := okP_nice h
  have hok : ∀ x ∈ (l.map toX).reverse, okX x := fun x hx => by
    rw [List.mem_reverse] at hx
    obtain ⟨y, hy, rfl⟩ := List.mem_map.1 hx
    exact (hp y hy).ok
  have hv := wrR_valid _ z hok hz
  have hx := lexS_wrR _ z [] hok hn hz (fun _ _ _ => by simp)
  rw [List.append_nil, lexS_nil] at hx
  unfold ansL
  rw [if_neg (by rw [hv]; simp), if_neg (by omega), hx]
  simp
/-- What Lex has read of a text is written as that text. -/
theorem back_wr {s : List UInt8} {L : List X} (h : lexS s 0 [] = .inr L) : wrR L = some s := by
  have := wr_back s.length s 0 [] L [] (Nat.le_refl _) h rfl (fun u K e => by cases e)
  simpa using this
end Go.Proofs.YtjnoomefppncoaaDoor
