/-
  The program's all, as an iterator; Count.
-/
import Derived.Test.YtdbfpojgaalfmaaDoorDA2
set_option linter.unusedVariables false
namespace Go.Proofs.YtdbfpojgaalfmaaDoor
open Go.RowKit Go.Shelf
attribute [local go_sem] Oper.semAt_some

theorem all_in (n : Nat) (cs : Array Value) (k : Int) (b : Bool) (m : Int) (s : ByteArray) (o : Option Addr) (m1 c1 : Nat) (o2 : Option Addr) (m2 c2 : Nat) (hcs : cs = #[.int .i8 k, .bool b, .int .i64 m, .string s, .slice o m1 c1, .slice o2 m2 c2]) (w : World) :
    CallsIn Fence.wide n Tryd.prog 50 #[.agg cs] w fun e w' => e = .returned (.func (.func 69) #[] #[.pointer (some ⟨w.heap.size, 0, none⟩)]) ∧ w' = w.alloc (.cells cs 26) := by
  subst hcs
  refine callsIn_of_wp Tryd.func50 rfl trivial ?_ rfl
  simp only [Tryd.ntmps50, List.size_toArray, List.length_cons, List.length_nil, Nat.reduceAdd, Nat.reduceSub, Array.replicate_succ, Array.replicate_zero, List.push_toArray, List.append_toArray, List.nil_append, List.cons_append]
  gi_wp2
  go_ret
  exact ⟨rfl, rfl⟩

/-- all(x): x, then its parts, each with its own; or a beginning. -/
theorem all_seq (n : Nat) (hn : 1 ≤ n) (w0 : World) (hi : Nat) (Q : V → Prop) (x : V) (vx : Value) (hx : isV w0 x vx) (hQ : ∀ y ∈ walkV x, Q y) (hM : (walkV x).length ≤ 1000000) (Bs : Nat) (w : World) (hw : Below w0.heap.size w0 w) (hhi : hi ≤ w.heap.size) (hB : Bs < w.heap.size)
    (cs : Array Value) (hcs : vx = .agg cs) (hBs : w.heap[Bs]? = some (.cells cs 26 (0, 0))) :
    Seq n 69 #[.pointer (some ⟨Bs, 0, none⟩)] (encEl (w0 := w0) (Q := Q)) (KC w0.heap.size hi) (fun xs => xs.map (·.1.1) = walkV x) (fun pre => pre.map (·.1.1) <+: walkV x) 1000001 w := fun l J Jx W hW hJ hJx hY h0 =>
  all1_in n hn w0 hi Q x vx hx hQ hM l Bs J Jx W (hw.trans (hW.mono hw.size)) (Nat.le_trans hhi hW.size) hJ hJx hY cs hcs ((hW.block Bs hB).trans hBs) h0

theorem walk_le (x : V) : (walkV x).length ≤ sizeV x := by rw [walk_len]; exact count_le_size x

/-- A struct in a new block, and two more blocks. -/
theorem boxes3 (w : World) (o0 : Obj) (t1 : TypeId) (v1 : Value) (cs : Array Value) (t2 : TypeId) :
    ∃ W0, ((w.alloc o0).alloc (.cells #[v1] t1)).alloc (.cells cs t2) = W0 ∧ Below w.heap.size w W0 ∧ W0.heap.size = w.heap.size + 1 + 1 + 1 ∧ Boxed W0 (w.heap.size + 1) t1 v1 ∧ W0.heap[w.heap.size + 1 + 1]? = some (.cells cs t2 (0, 0)) := by
  have b1 := (Boxed.new (w.alloc o0) t1 v1).alloc (.cells cs t2)
  have b2 := World.alloc_heap_new ((w.alloc o0).alloc (.cells #[v1] t1)) (.cells cs t2)
  simp only [World.size_alloc] at b1 b2
  exact ⟨_, rfl, by go_grown, by simp, b1, b2⟩

set_option maxRecDepth 100000 in
set_option maxHeartbeats 4000000 in
theorem pcount_any (x : V) (v : Value) (w : World) (hM : sizeV x ≤ 1000000) (h : isV w x v) :
    Calls Tryd.prog 21 #[v] w fun e w' => e = .returned (.int .i64 (countV x)) ∧ Below w.heap.size w w' := by
  have hwl := walk_le x
  have HX := Lib.hid h
  have HM : Hid ((walkV x).length ≤ 1000000 ∧ (walkV x).length = countV x) := Lib.hid ⟨by omega, walk_len x⟩
  obtain ⟨k, b, n, s, o, m, c, o2, m2, c2, rfl⟩ := isV_six h
  obtain ⟨r, hr⟩ : ∃ r, countV x = r := ⟨_, rfl⟩
  rw [hr] at HM ⊢
  clear h hr hwl
  refine (callsIn_wide (n := 9)).1 ?_
  refine callsIn_of_wp_marks Tryd.func21 rfl trivial ?_ rfl
  simp only [Tryd.ntmps21, List.size_toArray, List.length_cons, List.length_nil, Nat.reduceAdd, Nat.reduceSub, Array.replicate_succ, Array.replicate_zero, List.push_toArray, List.append_toArray, List.nil_append, List.cons_append]
  gi_wp2_with fail
  refine ⟨trivial, ?_⟩
  refine (all_in _ _ _ _ _ _ _ _ _ _ _ _ rfl _).mono ?_
  rintro e w' ⟨rfl, rfl⟩
  gi_wp2_with fail
  obtain ⟨W0, hW0, hB0, hsz, bN, bS⟩ := boxes3 w (.cells #[.int .i8 k, .bool b, .int .i64 n, .string s, .slice o m c, .slice o2 m2 c2] 26) 3 (.int .i64 0) #[.int .i8 k, .bool b, .int .i64 n, .string s, .slice o m c, .slice o2 m2 c2] 26
  rw [hW0]
  clear hW0
  refine range_own (by omega) (gf := 69) (lb := #[.pointer (some ⟨w.heap.size + 1 + 1, 0, none⟩)]) rfl (enters_of Tryd.func69 (by kernel_rfl) rfl)
    (all_seq (9 - 1) (by omega) w (w.heap.size + 1 + 1 + 1) (fun _ => True) x _ HX.out (fun _ _ => trivial) HM.out.1 (w.heap.size + 1 + 1) W0 hB0 (by omega) (by omega) _ rfl bS) kc_t (kc_b (by omega)) (Below.refl _ _) (fun _ => rfl)
    (fun pre W => Boxed W (w.heap.size + 1) 3 (.int .i64 (pre.length : Nat)) ∧ Below w.heap.size w W)
    (fun _ _ _ => False) ?hI (fun _ _ _ _ _ hs _ _ => hs) ?h0
    (fun x a' W => a' = {
      tmps :=
        #[.agg #[.int .i8 k, .bool b, .int .i64 n, .string s, .slice o m c, .slice o2 m2 c2], .pointer (some ⟨w.heap.size, 0, none⟩), .int .i64 0, .pointer (some ⟨w.heap.size + 1, 0, none⟩), .agg #[.int .i8 k, .bool b, .int .i64 n, .string s, .slice o m c, .slice o2 m2 c2],
          .func (.func 69) #[] #[.pointer (some ⟨w.heap.size + 1 + 1, 0, none⟩)], x.1.2, undef, undef, undef],
      defers := [] })
    (fun _ _ _ _ _ _ _ _ h => h) ?assign ?body ?done ?stop
  case hI => exact Free.and (free_boxed (by omega) _ _) (free_below (by omega) (Nat.le_refl _))
  case h0 => exact ⟨bN, hB0⟩
  case assign =>
    rintro l' pre x W K ⟨b1, hB1⟩ hK
    have HK := Lib.hid hK
    clear hK
    have hen : encEl x = #[x.1.2] := rfl
    rw [hen]
    clear hen
    gi_wp2_with fail
    exact HK.out _ _ (KeepsFrom.refl _ _) (kc_refl _ _ _) ⟨b1, hB1⟩ rfl
  case body =>
    rintro l' pre x a' W hl _ ⟨b1, hB1⟩ rfl hlen
    have c2 := b1.cell
    have f2 := b1.frozen
    have B1 := Lib.hid b1
    have HB := Lib.hid hB1
    have HP : Hid ((pre ++ [x]).length = pre.length + 1) := Lib.hid (by simp)
    generalize pre.length = y at *
    clear b1 hB1
    gi_wp2_with fail
    have hz := HB.out.size
    exact ⟨(KeepsOthers.setCell _ _ _).from _, kc_set _ (by omega) (by omega) (by omega), by rw [HP.out]; exact B1.out.set _, HB.out.setCell (p := ⟨w.heap.size + 1, 0, none⟩) (by simp) _⟩
  case done =>
    rintro D xs W hD hS ⟨b1, hB1⟩ hK
    have hl : xs.length = r := by
      have := congrArg List.length hS
      rw [List.length_map, HM.out.2] at this; exact this
    rw [hl] at b1
    have c2 := b1.cell
    have HB := Lib.hid hB1
    have HK := Lib.hid hK
    clear hS hl b1 hB1 hK hB0 bN bS
    gi_wp2_with fail
    refine ⟨by simp, .inl ⟨_, _, rfl, run_takeDeferred HK.out, ?_⟩⟩
    exact ⟨_, results_tmp rfl _ _ _, rfl, HB.out.trans (belowK_b (w := w) (Nat.le_refl _) W D _ _ (by omega) HK.out rfl rfl)⟩
  case stop =>
    rintro D c pre W hD hS h
    exact h.elim
end Go.Proofs.YtdbfpojgaalfmaaDoor
