/-
  The program's journal: Append, whole.
-/
import Derived.Test.YtbjdbphnccdpbaaJe
set_option linter.unusedVariables false
namespace Go.Proofs.Ytbjdbphnccdpbaa
open Go.RowKit Go.Shelf Go.Lib Go.Deep

theorem box5 (w : World) (t1 t2 t3 t4 t5 : TypeId) (v1 v2 v3 v4 : Value) (cs : Array Value) (W : World) (hW : ((((w.alloc (.cells #[v1] t1)).alloc (.cells #[v2] t2)).alloc (.cells #[v3] t3)).alloc (.cells #[v4] t4)).alloc (.cells cs t5) = W) :
    Below w.heap.size w W ∧ Boxed W w.heap.size t1 v1 ∧ Boxed W (w.heap.size + 1) t2 v2 ∧ Boxed W (w.heap.size + 2) t3 v3 ∧ Boxed W (w.heap.size + 3) t4 v4 ∧ W.heap[w.heap.size + 4]? = some (.cells cs t5 (0, 0)) := by
  subst hW
  have h2 := World.alloc_heap_new (w.alloc (.cells #[v1] t1)) (.cells #[v2] t2)
  have h3 := World.alloc_heap_new ((w.alloc (.cells #[v1] t1)).alloc (.cells #[v2] t2)) (.cells #[v3] t3)
  have h4 := World.alloc_heap_new (((w.alloc (.cells #[v1] t1)).alloc (.cells #[v2] t2)).alloc (.cells #[v3] t3)) (.cells #[v4] t4)
  have h5 := World.alloc_heap_new ((((w.alloc (.cells #[v1] t1)).alloc (.cells #[v2] t2)).alloc (.cells #[v3] t3)).alloc (.cells #[v4] t4)) (.cells cs t5)
  simp only [World.size_alloc] at h2 h3 h4 h5
  refine ⟨by go_grown, (((Boxed.new w t1 v1).alloc _ |>.alloc _).alloc _).alloc _, ((Boxed.alloc (W := (w.alloc (.cells #[v1] t1)).alloc (.cells #[v2] t2)) h2 _).alloc _).alloc _, (Boxed.alloc (W := ((w.alloc (.cells #[v1] t1)).alloc (.cells #[v2] t2)).alloc (.cells #[v3] t3)) h3 _).alloc _, Boxed.alloc (W := (((w.alloc (.cells #[v1] t1)).alloc (.cells #[v2] t2)).alloc (.cells #[v3] t3)).alloc (.cells #[v4] t4)) h4 _, h5⟩
theorem row_keep {B : Nat → Prop} {W W' : World} {k : Nat} {o : Obj} (h : Fr B W W') (hk : W.heap[k]? = some o) (hB : ¬ B k) : W'.heap[k]? = some o := h.2 k o hk hB
theorem row_cell {W : World} {g i : Nat} {cs : Array Value} {t : TypeId} (hg : W.heap[g]? = some (.cells cs t (0, 0))) (v : Value) (hi : cs[i]? = some v) : W.cell? ((⟨g, 0, none⟩ : Addr).add i) = some v := by
  have hadd : (⟨g, 0, none⟩ : Addr).add i = ⟨g, i, none⟩ := by unfold Addr.add; split <;> simp_all
  rw [hadd, cell_of_row W g i cs _ _ hg]
  exact hi
/-- What Append does with a disk. -/
def AppR (s : DS) (x : List UInt8) (r : Int × DS) : Prop := (frE x ≠ 0 ∧ r = (frE x, s)) ∨ (frE x = 0 ∧ s.dn = true ∧ r = (60, s)) ∨ (frE x = 0 ∧ s.dn = false ∧ App3 s (frameL x) r)
theorem fr_ok {x : List UInt8} (h : frE x = 0) : goodL x ∧ frB x = frameL x := by
  unfold frE at h
  by_cases h0 : x.length = 0
  · rw [if_pos h0] at h; omega
  · rw [if_neg h0] at h
    by_cases h1 : 524288 < x.length
    · rw [if_pos h1] at h; omega
    · exact ⟨⟨by omega, by omega⟩, by unfold frB; rw [if_pos ⟨by omega, by omega⟩]⟩
theorem be_up {s : DS} (h : beD s = 0) : s.dn = false ∧ byD s = s.f := by
  unfold beD at h
  cases hd : s.dn
  · exact ⟨rfl, by unfold byD; rw [if_neg (by simp [hd])]⟩
  · rw [if_pos hd] at h; omega
theorem be_down {s : DS} (h : beD s ≠ 0) : s.dn = true ∧ beD s = 60 := by
  unfold beD at h ⊢
  cases hd : s.dn
  · rw [if_neg (by simp [hd])] at h; exact absurd rfl h
  · exact ⟨rfl, by rw [if_pos rfl]⟩
theorem DQ.of_below {t : TypeId} {base b : Nat} {s : DS} {v : Value} {W W' : World} {n : Int} (h : Dk t base b s v W) (hb : Below W.heap.size W W') : DQ t base b v W (n, s) (.returned (.int .i64 n)) W' := DQ.none h hb
/-- The three deeds' functions. -/
def gA : Nat → Nat
  | 0 => 28
  | 1 => 30
  | _ => 31
def pb (n : Nat) : Value := .pointer (some ⟨n, 0, none⟩)
def lA (n : Nat) : Nat → Array Value
  | 0 => #[pb (n + 1), pb (n + 2)]
  | 1 => #[pb n, pb (n + 3)]
  | _ => #[pb (n + 3), pb n, pb (n + 2)]
/-- Ahead of deed number k. -/
def JA (w : World) (base b : Nat) (s : DS) (v u : Value) (x : List UInt8) : Nat → World → Prop
  | 3, W => ∃ r, r.1 = 0 ∧ AppR s x r ∧ DQ 52 base b v w r (.returned (.int .i64 r.1)) W
  | k, W => Below w.heap.size w W ∧ W.heap[w.heap.size + 4]? = some (.cells #[.func (.func (gA 0)) #[] (lA w.heap.size 0), .func (.func (gA 1)) #[] (lA w.heap.size 1), .func (.func (gA 2)) #[] (lA w.heap.size 2)] 37 (0, 0)) ∧
      Boxed W w.heap.size 25 (pb b) ∧ Boxed W (w.heap.size + 1) 27 u ∧
      (∃ v1, Boxed W (w.heap.size + 2) 27 v1 ∧ (k = 0 → v1 = .slice none 0 0) ∧ (1 ≤ k → frE x = 0 ∧ ow w.heap.size W v1 (frB x))) ∧
      (∃ v2, Boxed W (w.heap.size + 3) 27 v2 ∧ (k ≤ 1 → v2 = .slice none 0 0) ∧ (2 ≤ k → beD s = 0 ∧ ow w.heap.size W v2 (byD s)))
theorem JA.mem {w : World} {base b : Nat} {s : DS} {v u : Value} {x : List UInt8} {k : Nat} {W : World} (hk : k < 3) (h : JA w base b s v u x k W) : W.heap[w.heap.size + 4]? = some (.cells #[.func (.func (gA 0)) #[] (lA w.heap.size 0), .func (.func (gA 1)) #[] (lA w.heap.size 1), .func (.func (gA 2)) #[] (lA w.heap.size 2)] 37 (0, 0)) := by
  match k, hk with
  | 0, _ => exact h.2.1
  | 1, _ => exact h.2.1
  | 2, _ => exact h.2.1
set_option maxRecDepth 100000 in
theorem enters_A : ∀ k, k < 3 → ∀ args w, (callFunc (gA k) args).run Try.prog w = .ok (.enter (gA k) args) w := fun k hk => by
  match k, hk with
  | 0, _ => exact enters_of Try.func28 (by kernel_rfl) rfl
  | 1, _ => exact enters_of Try.func30 (by kernel_rfl) rfl
  | 2, _ => exact enters_of Try.func31 (by kernel_rfl) rfl
theorem JA.deed {w : World} {base b : Nat} {s : DS} {v u : Value} {x : List UInt8} (h : Dk 52 base b s v w) (hbase : base ≤ w.heap.size) (hx : rd w x u) (k : Nat) (hk : k < 3) (W : World) (hJ : JA w base b s v u x k W) :
    Calls Try.prog (gA k) (lA w.heap.size k) W fun e W' => ∃ i, e = .returned (.int .i64 i) ∧ ((i = 0 ∧ JA w base b s v u x (k + 1) W') ∨ (i ≠ 0 ∧ ∃ r : Int × DS, r.1 = i ∧ AppR s x r ∧ DQ 52 base b v w r (.returned (.int .i64 r.1)) W')) := by
  match k, hk with
  | 0, _ =>
    obtain ⟨q1, q2, q3, q4, ⟨v1, q5, q6, _⟩, ⟨v2, q8, q9, _⟩⟩ := hJ
    have q6 := q6 rfl
    subst q6
    refine (ja1_any x W q4 q5 (hx.below q1)).mono ?_
    rintro e W' ⟨rfl, hq⟩
    obtain ⟨v', r1, r2, r3⟩ := hq.out
    have hb' : Below w.heap.size w W' := q1.trans (r3.below (fun k hk => by omega) q1.size)
    by_cases hE : frE x = 0
    · exact ⟨_, rfl, .inl ⟨hE, hb', row_keep r3 q2 (by omega), r3.boxed q3 (by omega), r3.boxed q4 (by omega), ⟨v', r1, fun h => absurd h (by omega), fun _ => ⟨hE, r2.mono q1.size⟩⟩, ⟨v2, r3.boxed q8 (by omega), fun _ => q9 (by omega), fun h => absurd h (by omega)⟩⟩⟩
    · exact ⟨_, rfl, .inr ⟨hE, (frE x, s), rfl, .inl ⟨hE, rfl⟩, DQ.of_below h hb'⟩⟩
  | 1, _ =>
    obtain ⟨q1, q2, q3, q4, ⟨v1, q5, _, q7⟩, ⟨v2, q8, q9, _⟩⟩ := hJ
    have q9 := q9 (by omega)
    subst q9
    obtain ⟨hE, hO⟩ := q7 (by omega)
    refine (ja2_any W (h.below q1) q3 q8).mono ?_
    rintro e W' ⟨rfl, hq⟩
    obtain ⟨v', r1, r2, r3⟩ := hq.out
    have hb' : Below w.heap.size w W' := q1.trans (r3.below (fun k hk => by omega) q1.size)
    by_cases hB : beD s = 0
    · exact ⟨_, rfl, .inl ⟨hB, hb', row_keep r3 q2 (by omega), r3.boxed q3 (by omega), r3.boxed q4 (by omega), ⟨v1, r3.boxed q5 (by omega), fun h => absurd h (by omega), fun _ => ⟨hE, hO.keep fun k o hk ho => r3.2 k o ho (hO.not_box q8 (by decide) k hk)⟩⟩, ⟨v', r1, fun h => absurd h (by omega), fun _ => ⟨hB, r2.mono q1.size⟩⟩⟩⟩
    · obtain ⟨d1, d2⟩ := be_down hB
      exact ⟨_, rfl, .inr ⟨hB, (60, s), d2.symm, .inr (.inl ⟨hE, d1, rfl⟩), DQ.of_below h hb'⟩⟩
  | 2, _ =>
    obtain ⟨q1, q2, q3, q4, ⟨v1, q5, _, q7⟩, ⟨v2, q8, _, q10⟩⟩ := hJ
    obtain ⟨hE, hO⟩ := q7 (by omega)
    obtain ⟨hB, hP⟩ := q10 (by omega)
    obtain ⟨d1, d2⟩ := be_up hB
    obtain ⟨g1, g2⟩ := fr_ok hE
    rw [d2] at hP
    rw [g2] at hO
    refine (ja3_any W (h.below q1) (Nat.le_trans hbase q1.size) (by have := g1.2; rw [frame_length]; omega) q3 q8 q5 hP.rd hO.rd).mono ?_
    rintro e W' ⟨r, rfl, hq⟩
    have hR : AppR s x r := .inr (.inr ⟨hE, d1, hq.out.1⟩)
    by_cases h0 : r.1 = 0
    · exact ⟨_, rfl, .inl ⟨h0, r, h0, hR, hq.out.2.from q1⟩⟩
    · exact ⟨_, rfl, .inr ⟨h0, r, rfl, hR, hq.out.2.from q1⟩⟩

set_option maxRecDepth 100000 in
set_option maxHeartbeats 4000000 in
theorem japp_any {base b : Nat} {s : DS} {v u : Value} {x : List UInt8} (w : World) (h : Dk 52 base b s v w) (hbase : base ≤ w.heap.size) (hx : rd w x u) :
    Calls Try.prog 10 #[.pointer (some ⟨b, 0, none⟩), u] w fun e w' => ∃ r : Int × DS, e = .returned (.int .i64 r.1) ∧ Hid (AppR s x r ∧ DQ 52 base b v w r (.returned (.int .i64 r.1)) w') := by
  have HC : Hid (∀ W, ((((w.alloc (.cells #[pb b] 25)).alloc (.cells #[u] 27)).alloc (.cells #[.slice none 0 0] 27)).alloc (.cells #[.slice none 0 0] 27)).alloc (.cells #[.func (.func (gA 0)) #[] (lA w.heap.size 0), .func (.func (gA 1)) #[] (lA w.heap.size 1), .func (.func (gA 2)) #[] (lA w.heap.size 2)] 37) = W →
      Calls Try.prog 27 #[.slice (some ⟨w.heap.size + 4, 0, none⟩) 3 3] W fun e w' => ∃ r : Int × DS, e = .returned (.int .i64 r.1) ∧ Hid (AppR s x r ∧ DQ 52 base b v w r (.returned (.int .i64 r.1)) w')) := Lib.hid fun W hW => by
    obtain ⟨k0, k1, k2, k3, k4, k5⟩ := box5 w _ _ _ _ _ _ _ _ _ _ W hW
    refine (first_deeds 3 ⟨w.heap.size + 4, 0, none⟩ gA (lA w.heap.size) (JA w base b s v u x) (fun i W' => ∃ r : Int × DS, r.1 = i ∧ AppR s x r ∧ DQ 52 base b v w r (.returned (.int .i64 r.1)) W') W (by omega) (fun k hk W' hJ => row_cell (hJ.mem hk) _ ?_) enters_A (JA.deed h hbase hx) ⟨k0, k5, k1, k2, ⟨_, k3, fun _ => rfl, fun h => absurd h (by omega)⟩, ⟨_, k4, fun _ => rfl, fun h => absurd h (by omega)⟩⟩).mono ?_
    · match k, hk with
      | 0, _ => rfl
      | 1, _ => rfl
      | 2, _ => rfl
    · rintro e w' ⟨i, rfl, hq⟩
      rcases hq.out with ⟨rfl, r, r1, r2, r3⟩ | ⟨_, r, rfl, r2, r3⟩
      · exact ⟨r, by rw [r1], Lib.hid ⟨r2, r3⟩⟩
      · exact ⟨r, rfl, Lib.hid ⟨r2, r3⟩⟩
  obtain ⟨o, c, rfl, _⟩ := hx.form
  clear h hbase hx
  go_enter Try.func10, Try.ntmps10
  go_wp2_with (go_at_call 27; go_loud (refine (HC.out _ rfl).mono ?_))
  rintro e w2 ⟨r, rfl, HQ⟩
  go_wp2_with fail
  go_ret
  exact ⟨r, rfl, HQ⟩
end Go.Proofs.Ytbjdbphnccdpbaa
