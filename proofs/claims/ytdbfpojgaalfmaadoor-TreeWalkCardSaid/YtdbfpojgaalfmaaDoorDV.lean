/-
  The library's slices.Values over a list of values.
-/
import Derived.Test.YtdbfpojgaalfmaaDoorDK
set_option linter.unusedVariables false
namespace Go.Proofs.YtdbfpojgaalfmaaDoor
open Go.RowKit Go.Shelf
attribute [local go_sem] Oper.semAt_some

/-- A value and how it lies; of the value holds Q. -/
def El (w0 : World) (Q : V → Prop) : Type := { p : V × Value // isV w0 p.1 p.2 ∧ Q p.1 }
def encEl {w0 : World} {Q : V → Prop} (x : El w0 Q) : Array Value := #[x.1.2]

theorem values_in (n : Nat) (o : Option Addr) (len cap : Nat) (w : World) :
    CallsIn Fence.wide n Tryd.prog 68 #[.slice o len cap] w fun e w' => e = .returned (.func (.func 92) #[] #[.pointer (some ⟨w.heap.size, 0, none⟩)]) ∧ w' = w.alloc (.cells #[.slice o len cap] 23) := by
  refine callsIn_of_wp Tryd.func68 rfl trivial ?_ rfl
  simp only [Tryd.ntmps68, List.size_toArray, List.length_cons, List.length_nil, Nat.reduceAdd, Nat.reduceSub, Array.replicate_succ, Array.replicate_zero, List.push_toArray, List.append_toArray, List.nil_append, List.cons_append]
  gi_wp2
  go_ret
  exact ⟨rfl, rfl⟩

set_option maxRecDepth 100000 in
set_option maxHeartbeats 2000000 in
theorem values1_in (n : Nat) (hn : 1 ≤ n) (w0 : World) (hi : Nat) (Q : V → Prop) (L : List V) (hQ : ∀ y ∈ L, Q y) (hL : L.length ≤ 1000000) (o : Option Addr) (a : Addr) (cap : Nat) (ho : 0 < L.length → o = some a) (hvs : isVs w0 L a) (l Bs : Nat) (J Jx : List (El w0 Q) → World → Prop)
    (W : World) (hW : Below w0.heap.size w0 W) (hJ : AbidesFrom W.heap.size J)
    (hY : ∀ pre x W1, J pre W1 → pre.length < L.length → YieldAt Fence.wide (n - 1) Tryd.prog l (encEl x) W1 fun e W' =>
      (e = .returned (.bool true) ∧ J (pre ++ [x]) W' ∧ KC w0.heap.size hi W1 W') ∨ (e = .returned (.bool false) ∧ Jx (pre ++ [x]) W'))
    (hBs : W.cell? ⟨Bs, 0, none⟩ = some (.slice o L.length cap)) (h0 : J [] W) :
    CallsIn Fence.wide n Tryd.prog 92 #[.func (.yield l) #[] #[], .pointer (some ⟨Bs, 0, none⟩)] W fun e W' => (∃ v, e = .returned v) ∧
      ((∃ xs, xs.map (·.1.1) = L ∧ J xs W') ∨ (∃ pre, pre.map (·.1.1) <+: L ∧ Jx pre W')) := by
  have HV : Hid (isVs w0 L a) := Lib.hid hvs
  clear hvs
  refine callsIn_of_wp Tryd.func92 rfl trivial ?_ rfl
  simp only [Tryd.ntmps92, List.size_toArray, List.length_cons, List.length_nil, Nat.reduceAdd, Nat.reduceSub, Array.replicate_succ, Array.replicate_zero, List.push_toArray, List.append_toArray, List.nil_append, List.cons_append]
  gi_wp2
  gi_loopw [7] (fun i wr => ∃ (k : Nat) (pre : List (El w0 Q)), k ≤ L.length ∧ i = .int .i64 k ∧ Hid (pre.map (·.1.1) = L.take k) ∧ J pre wr ∧ Below w0.heap.size w0 wr)
    (fun i _ => L.length - (intOf i).toNat)
  case atStart => exact ⟨0, [], Nat.zero_le _, rfl, Lib.hid rfl, h0, hW⟩
  case round =>
    obtain ⟨k, pre, hk, rfl, hpre, hJs, hnx⟩ := hrel
    by_cases hlt : k < L.length
    · obtain rfl := ho (by omega)
      obtain ⟨k', b', n', s', o1, m1, p1, o2, m2, p2, g0, g1, g2, g3, g4, g5, hx5⟩ := isVs_sl L a k hlt HV.out
      have r0 := cell_below hnx _ _ g0
      have r1 := cell_below hnx _ _ g1
      have r2 := cell_below hnx _ _ g2
      have r3 := cell_below hnx _ _ g3
      have r4 := cell_below hnx _ _ g4
      have r5 := cell_below hnx _ _ g5
      have hpl : pre.length = k := by
        have := congrArg List.length hpre.out
        rw [List.length_map, List.length_take] at this; omega
      have HX := Lib.hid hx5
      have HR := Lib.hid hnx
      have HJ := Lib.hid hJs
      clear g0 g1 g2 g3 g4 g5 hx5 hnx hJs
      obtain ⟨X, hXe⟩ : ∃ X : El w0 Q, X.1 = (L[k], .agg #[.int .i8 k', .bool b', .int .i64 n', .string s', .slice o1 m1 p1, .slice o2 m2 p2]) := ⟨⟨_, HX.out, hQ _ (List.getElem_mem _)⟩, rfl⟩
      have hen : encEl X = #[.agg #[.int .i8 k', .bool b', .int .i64 n', .string s', .slice o1 m1 p1, .slice o2 m2 p2]] := by unfold encEl; rw [hXe]
      obtain ⟨fn, tmps, assign, body, hy, hR⟩ := hY pre X (wr.alloc (.cells #[.int .i8 k', .bool b', .int .i64 n', .string s', .slice o1 m1 p1, .slice o2 m2 p2] 26))
        (hJ _ _ _ none HJ.out (World.grownBy_alloc _ _ _) (fun r e => by cases e)) (by omega)
      rw [hen] at hy
      have HP : Hid ((pre ++ [X]).map (fun x : El w0 Q => x.1.1) = L.take (k + 1)) := Lib.hid (by rw [List.map_append, hpre.out, List.take_succ_eq_append_getElem hlt, List.map_cons, hXe]; rfl)
      have HR2 := Lib.hid hR
      clear hR hen hXe
      gi_wp2_with fail
      refine HR2.out.mono ?_
      rintro e W3 (⟨rfl, hJ3, hk3⟩ | ⟨rfl, hJx3⟩)
      · have HJ3 := Lib.hid hJ3
        have HK3 := Lib.hid hk3
        clear hJ3 hk3
        gi_wp2_with fail
        go_roundw
        case rel => exact ⟨k + 1, _, by omega, by go_num, HP, HJ3.out, (HR.out.alloc HR.out.size _).trans HK3.out.1⟩
        case measure => simp [intOf]; omega
      · have HJ3 := Lib.hid hJx3
        clear hJx3
        gi_wp2_with fail
        refine bodyPost_ret (results_none rfl _ _ _) rfl ?_
        exact ⟨⟨_, rfl⟩, .inr ⟨_, by rw [HP.out]; exact List.take_prefix _ _, HJ3.out⟩⟩
    · have HJ := Lib.hid hJs
      obtain rfl : k = L.length := by omega
      gi_wp2_with fail
      go_end0
      exact ⟨⟨_, rfl⟩, .inl ⟨_, by rw [hpre.out, List.take_length], HJ.out⟩⟩

/-- slices.Values(L): all of L, in order; or a beginning. -/
theorem values_stops (n : Nat) (hn : 1 ≤ n) (w0 : World) (hi : Nat) (Q : V → Prop) (L : List V) (hQ : ∀ y ∈ L, Q y) (hL : L.length ≤ 1000000) (o : Option Addr) (a : Addr) (cap : Nat) (ho : 0 < L.length → o = some a) (hvs : isVs w0 L a) (Bs : Nat) (w : World) (hw : Below w0.heap.size w0 w)
    (hB : Bs < w.heap.size) (hBs : w.cell? ⟨Bs, 0, none⟩ = some (.slice o L.length cap)) :
    SeqStopsK Fence.wide n Tryd.prog 92 #[.pointer (some ⟨Bs, 0, none⟩)] (encEl (w0 := w0) (Q := Q)) (KC w0.heap.size hi) (fun xs => xs.map (·.1.1) = L) (fun pre => pre.map (·.1.1) <+: L) L.length w := fun l J Jx W hW hJ _ hY h0 =>
  values1_in n hn w0 hi Q L hQ hL o a cap ho hvs l Bs J Jx W (hw.trans (hW.mono hw.size)) hJ hY ((hW.cell (p := ⟨Bs, 0, none⟩) hB).trans hBs) h0
end Go.Proofs.YtdbfpojgaalfmaaDoor
