/-
  The contract of the reference's Walk: the value, then its parts, as a row of the call's own.
-/
import Derived.Test.YtdbfpojgaalfmaaDoorTS
import Derived.Deep.AppendLies
import Derived.Laws.OwnMore
import Derived.Laws.AppendOwn
set_option linter.unusedVariables false
namespace Go.Proofs.YtdbfpojgaalfmaaDoor
open Go.RowKit

mutual
/-- A value, then its parts in order, each with its own. -/
def walkV : V → List V | .mk k b n s l ks => .mk k b n s l ks :: walkVs l
def walkVs : List V → List V | [] => [] | x :: t => walkV x ++ walkVs t
end
mutual
theorem walk_len : ∀ x : V, (walkV x).length = countV x
  | .mk k b n s l ks => by rw [walkV, countV, List.length_cons, walks_len l]; omega
theorem walks_len : ∀ l : List V, (walkVs l).length = countVs l
  | [] => by rw [walkVs, countVs]; rfl
  | x :: t => by rw [walkVs, countVs, List.length_append, walk_len x, walks_len t]
end
theorem walkVs_app (a b : List V) : walkVs (a ++ b) = walkVs a ++ walkVs b := by
  induction a with
  | nil => simp [walkVs]
  | cons x t ih => simp only [List.cons_append, walkVs, ih, List.append_assoc]
theorem walkVs_snoc (l : List V) (j : Nat) (h : j < l.length) : walkVs (l.take (j + 1)) = walkVs (l.take j) ++ walkV l[j] := by
  rw [List.take_succ_eq_append_getElem h, walkVs_app]; simp [walkVs]

/-- Cells that hold such values, one behind another. -/
def isVsL (W : World) : List V → List Value → Prop
  | [], xs => xs = []
  | x :: t, xs => ∃ c0 c1 c2 c3 c4 c5 rest, xs = c0 :: c1 :: c2 :: c3 :: c4 :: c5 :: rest ∧ isV W x (.agg #[c0, c1, c2, c3, c4, c5]) ∧ isVsL W t rest
theorem isVsL_app {W : World} : ∀ (l m : List V) (xs ys : List Value), isVsL W l xs → isVsL W m ys → isVsL W (l ++ m) (xs ++ ys)
  | [], m, xs, ys, h, h' => by
    unfold isVsL at h
    subst h
    exact h'
  | x :: t, m, xs, ys, h, h' => by
    unfold isVsL at h
    obtain ⟨c0, c1, c2, c3, c4, c5, rest, rfl, hx, ht⟩ := h
    rw [List.cons_append]
    unfold isVsL
    exact ⟨c0, c1, c2, c3, c4, c5, rest ++ ys, rfl, hx, isVsL_app t m rest ys ht h'⟩
theorem isVsL_len {W : World} : ∀ (l : List V) (xs : List Value), isVsL W l xs → xs.length = l.length * 6
  | [], xs, h => by unfold isVsL at h; subst h; rfl
  | x :: t, xs, h => by
    unfold isVsL at h
    obtain ⟨c0, c1, c2, c3, c4, c5, rest, rfl, hx, ht⟩ := h
    have := isVsL_len t rest ht
    simp only [List.length_cons]; omega
theorem isV_one {W : World} {x : V} {c0 c1 c2 c3 c4 c5 : Value} (h : isV W x (.agg #[c0, c1, c2, c3, c4, c5])) : ∀ u ∈ [c0, c1, c2, c3, c4, c5], u.oneCell' = true := by
  obtain ⟨k, b, n, s, l, ks⟩ := x
  unfold isV at h
  obtain ⟨lv, kv, he, _, _, _, ⟨_, _, ⟨o, rfl, _⟩, _⟩, ⟨_, _, ⟨o2, rfl, _⟩, _⟩⟩ := h
  simp only [Value.agg.injEq, Array.mk.injEq, List.cons.injEq, and_true] at he
  obtain ⟨rfl, rfl, rfl, rfl, rfl, rfl⟩ := he
  intro u hu
  simp only [List.mem_cons, List.not_mem_nil, or_false] at hu
  rcases hu with rfl | rfl | rfl | rfl | rfl | rfl <;> rfl
theorem isVsL_one {W : World} : ∀ (l : List V) (xs : List Value), isVsL W l xs → ∀ u ∈ xs, u.oneCell' = true
  | [], xs, h => by unfold isVsL at h; subst h; intro u hu; cases hu
  | x :: t, xs, h => by
    unfold isVsL at h
    obtain ⟨c0, c1, c2, c3, c4, c5, rest, rfl, hx, ht⟩ := h
    intro u hu
    have h1 := isV_one hx
    have h2 := isVsL_one t rest ht
    simp only [List.mem_cons] at hu
    rcases hu with h | h | h | h | h | h | h
    · exact h1 u (by simp [h])
    · exact h1 u (by simp [h])
    · exact h1 u (by simp [h])
    · exact h1 u (by simp [h])
    · exact h1 u (by simp [h])
    · exact h1 u (by simp [h])
    · exact h2 u h
theorem infoV : (Tryd.prog.info? 26).map (fun i => (i.zero, i.size, i.bytes)) = some (some (.agg #[.int .i8 0, .bool false, .int .i64 0, .string ⟨#[]⟩, .slice none 0 0, .slice none 0 0]), 6, 80) := by kernel_rfl
theorem grown_of_below {w w' : World} (h : Below w.heap.size w w') : w.grownBy w' none := ⟨h.os, h.tape, h.output, h.size, fun k hk _ => h.block k hk⟩

/-- Between two rounds: a row of the call's own that holds such values. -/
def RW (w0 W1 : World) (A : List V) (v : Value) (W : World) : Prop := ∃ xs, W.ownsRow W1.heap.size 26 6 v A.length xs ∧ isVsL w0 A xs ∧ Below W1.heap.size W1 W
def RetR (w0 : World) (l : List V) (w : World) (e : Ending) (w' : World) : Prop := ∃ r, e = .returned r ∧ RW w0 w l r w'
theorem RW.below {w0 W1 W W' : World} {A : List V} {v : Value} (h : RW w0 W1 A v W) (hb : Below W.heap.size W W') : RW w0 W1 A v W' := by
  obtain ⟨xs, h1, h2, h3⟩ := h
  exact ⟨xs, h1.kept (grown_of_below hb) (by cases v.ownBlock <;> simp), h2, h3.trans (hb.mono h3.size)⟩
theorem RW.base {w0 w W1 W : World} {A : List V} {v : Value} (h : RW w0 W1 A v W) (hb : Below w.heap.size w W1) : RW w0 w A v W := by
  obtain ⟨xs, ⟨h1, h1'⟩, h2, h3⟩ := h
  refine ⟨xs, ⟨h1, ?_⟩, h2, hb.trans (h3.mono hb.size)⟩
  rcases h1' with h | ⟨g, cap, cur, hv, hg, r⟩
  · exact .inl h
  · exact .inr ⟨g, cap, cur, hv, Nat.le_trans hb.size hg, r⟩
/-- A row that is not empty is a slice at a block's beginning. -/
theorem RW.form {w0 W1 W : World} {A : List V} {v : Value} (h : RW w0 W1 A v W) (hA : 0 < A.length) : ∃ g cap, v = .slice (some ⟨g, 0, none⟩) A.length cap ∧ ∃ xs, W.ownsRow W1.heap.size 26 6 v A.length xs ∧ isVsL w0 A xs ∧ ∀ j u, xs[j]? = some u → W.cell? ((⟨g, 0, none⟩ : Addr).add j) = some u := by
  obtain ⟨xs, h1, h2, h3⟩ := h
  rcases h1.2 with ⟨_, h⟩ | ⟨g, cap, cur, rfl, _⟩
  · omega
  · exact ⟨g, cap, rfl, xs, h1, h2, h1.cells rfl⟩

theorem rw_start {w0 W1 : World} {X : V} {cs : Array Value} (h : isVsL w0 [X] cs.toList) (hs : cs.size = 6) : RW w0 W1 [X] (.slice (some ⟨W1.heap.size, 0, none⟩) 1 1) (W1.alloc (.cells cs 26)) :=
  ⟨cs.toList, World.ownsRow_lit W1 cs 1 (Nat.le_refl _) (by unfold maxLen; omega) (by rw [hs]), h, (Below.refl _ _).alloc (Nat.le_refl _) _⟩

set_option maxRecDepth 100000 in
set_option maxHeartbeats 8000000 in
theorem walk_any : ∀ (N : Nat) (x : V) (v : Value) (w0 w : World), sizeV x ≤ N → N ≤ 1000000 → isV w0 x v → KB w0 w →
    Calls Tryd.prog 33 #[v] w (RetR w0 (walkV x) w)
  | 0, x, v, w0, w, hN, _, h, _ => absurd (sizeV_pos x) (by omega)
  | N + 1, x, v, w0, w, hN, hM, h, h0 => by
    have h00 := h
    obtain ⟨k, b, n, s, l, ks⟩ := x
    unfold isV at h
    obtain ⟨lv, kv, rfl, hk, hn, hs, ⟨a, cap, ⟨o, rfl, hc1, hc2, ho⟩, hvs⟩, ⟨a2, cap2, ⟨o2, rfl, hc3, hc4, ho2⟩, hks⟩⟩ := h
    unfold maxLen at hs hc2 hc4
    have hsz : sizeV (.mk k b n s l ks) = 1 + s.size + keysS ks + sizeVs l := by rw [sizeV]
    have hSL : sizeVs l ≤ N := by omega
    have HC := Lib.hid (counts_le_size l)
    have HWV : Hid (walkV (.mk k b n s l ks) = .mk k b n s l ks :: walkVs l) := Lib.hid (by rw [walkV])
    obtain ⟨i0, hi, hz0, hz1, hz2⟩ := info_parts infoV
    have HX : Hid (isVsL w0 [.mk k b n s l ks] [.int .i8 k, .bool b, .int .i64 n, .string s, .slice o l.length cap, .slice o2 ks.length cap2]) := Lib.hid (by
      unfold isVsL
      exact ⟨_, _, _, _, _, _, [], rfl, h00, by unfold isVsL; rfl⟩)
    have HV := Lib.hid hvs
    have HB0 : Hid (KB w (w.alloc (.cells #[.int .i8 k, .bool b, .int .i64 n, .string s, .slice o l.length cap, .slice o2 ks.length cap2] 26))) := Lib.hid ((Below.refl _ _).alloc (Nat.le_refl _) _)
    have H4 : Hid ((w.alloc (.cells #[.int .i8 k, .bool b, .int .i64 n, .string s, .slice o l.length cap, .slice o2 ks.length cap2] 26)).cell? ⟨w.heap.size, 4, none⟩ = some (.slice o l.length cap)) := Lib.hid (by simp)
    have HZ : Hid ((w.alloc (.cells #[.int .i8 k, .bool b, .int .i64 n, .string s, .slice o l.length cap, .slice o2 ks.length cap2] 26)).heap.size = w.heap.size + 1) := Lib.hid (by simp)
    have H00 := Lib.hid h0
    have HS : Hid (RW w0 (w.alloc (.cells #[.int .i8 k, .bool b, .int .i64 n, .string s, .slice o l.length cap, .slice o2 ks.length cap2] 26)) [.mk k b n s l ks] (.slice (some ⟨w.heap.size + 1, 0, none⟩) 1 1) ((w.alloc (.cells #[.int .i8 k, .bool b, .int .i64 n, .string s, .slice o l.length cap, .slice o2 ks.length cap2] 26)).alloc (.cells #[.int .i8 k, .bool b, .int .i64 n, .string s, .slice o l.length cap, .slice o2 ks.length cap2] 26))) := Lib.hid (by
      rw [← HZ.out]
      exact rw_start HX.out rfl)
    clear hk hn hsz hN hvs hks h00 ho2 h0 HX
    go_enter Tryd.func33, Tryd.ntmps33
    go_wp2_with fail
    generalize hW1 : w.alloc (.cells #[.int .i8 k, .bool b, .int .i64 n, .string s, .slice o l.length cap, .slice o2 ks.length cap2] 26) = W1 at *
    clear hW1
    go_loopw [3, 4] (fun out i wr => ∃ j : Nat, j ≤ l.length ∧ i = .int .i64 j ∧ RW w0 W1 (.mk k b n s l ks :: walkVs (l.take j)) out wr) (fun _ i _ => l.length - (intOf i).toNat)
    case atStart => exact ⟨0, by omega, rfl, by simpa [walkVs] using HS.out⟩
    case round =>
      obtain ⟨j, hj, rfl, hR⟩ := hrel
      obtain ⟨hB, hKr⟩ : Below W1.heap.size W1 wr ∧ KB w0 wr := by
        obtain ⟨xs, _, _, h3⟩ := hR
        exact ⟨h3, H00.out.trans ((HB0.out.trans (h3.mono HB0.out.size)).mono H00.out.size)⟩
      have b4 := cell_below hB _ _ H4.out
      by_cases hlt : j < l.length
      · obtain rfl := ho (by omega)
        obtain ⟨c0, c1, c2, c3, c4, c5, g0, g1, g2, g3, g4, g5, hx5⟩ := isVs_at l a j hlt HV.out
        have g0 := cell_below hKr _ _ g0
        have g1 := cell_below hKr _ _ g1
        have g2 := cell_below hKr _ _ g2
        have g3 := cell_below hKr _ _ g3
        have g4 := cell_below hKr _ _ g4
        have g5 := cell_below hKr _ _ g5
        have HI := Lib.hid (walk_any N l[j] _ w0 wr (by have := sizeVs_get l j hlt; omega) (by omega) hx5 hKr)
        have hln : (V.mk k b n s l ks :: walkVs (l.take (j + 1))).length ≤ 1000001 := by
          have h1 := countVs_take_le l (j + 1)
          have h2 := HC.out
          rw [List.length_cons, walks_len]; omega
        have hws : V.mk k b n s l ks :: walkVs (l.take (j + 1)) = (V.mk k b n s l ks :: walkVs (l.take j)) ++ walkV l[j] := by rw [walkVs_snoc l j hlt]; rfl
        have hwp : 0 < (walkV l[j]).length := by
          obtain ⟨_, _, _, _, _, _⟩ := l[j]
          rw [walkV, List.length_cons]; omega
        have hAp : 0 < (V.mk k b n s l ks :: walkVs (l.take j)).length := by rw [List.length_cons]; omega
        rw [hws] at hln
        have HWS := Lib.hid hws
        have HR := Lib.hid hR
        clear hx5 hKr hB hR hws
        generalize walkV l[j] = M at *
        generalize (V.mk k b n s l ks :: walkVs (l.take j)) = A at *
        go_wp2_with fail
        refine HI.out.mono ?_
        rintro e w5 ⟨r, rfl, hr⟩
        obtain ⟨g', cp', rfl, ys, hy1, hy2, hy3⟩ := hr.form hwp
        have hb5 : Below wr.heap.size wr w5 := by
          obtain ⟨_, _, _, h3⟩ := hr
          exact h3
        have hR5 := HR.out.below hb5
        obtain ⟨xs, hx1, hx2, hx3⟩ := hR5
        have hlen := isVsL_len _ _ hy2
        have hone := isVsL_one _ _ hy2
        rw [List.length_append] at hln
        clear hr hb5 HI HR
        go_wp2_with (at_builtin; refine wpList_append_own _ rfl _ _ 23 rfl W1.heap.size 26 i0 _ 6 80 Tryd.underlying23 hi hz0 hz1 hz2 rfl (by decide) _ _ _ rfl hx1 ⟨g', 0, none⟩ M.length cp' ys rfl hlen hy3 hone ?d3 ?d4 ?d5 ?_)
        case d3 => unfold maxLen; omega
        case d4 => omega
        case d5 => exact hx3.size
        intro v' w6 hown' hgrow _
        have hR6 : RW w0 W1 (A ++ M) v' w6 := ⟨xs ++ ys, by rw [List.length_append]; exact hown', isVsL_app _ _ _ _ hx2 hy2, hx3.grown hgrow hx3.size (fun q hq => (hx1.lt q hq).1)⟩
        clear hown' hgrow hx1 hx2 hx3 hy1 hy2 hy3 hone hlen
        go_wp2_with fail
        go_roundw
        case rel => exact ⟨j + 1, by omega, by go_num, by rw [HWS.out]; exact hR6⟩
        case measure => simp [intOf]; omega
      · have HE : Hid (RW w0 w (walkV (.mk k b n s l ks)) u3 wr) := Lib.hid (by
          rw [HWV.out]
          rw [List.take_of_length_le (by omega)] at hR
          exact hR.base HB0.out)
        clear hR hB hKr
        go_wp2_with fail
        go_ret
        exact ⟨_, rfl, HE.out⟩
end Go.Proofs.YtdbfpojgaalfmaaDoor
