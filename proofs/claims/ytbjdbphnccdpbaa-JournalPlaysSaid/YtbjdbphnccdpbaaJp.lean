/-
  The program's journal: Open, Rows.
-/
import Derived.Test.YtbjdbphnccdpbaaJo
set_option linter.unusedVariables false
namespace Go.Proofs.Ytbjdbphnccdpbaa
open Go.RowKit Go.Shelf Go.Lib Go.Deep

set_option maxRecDepth 100000 in
set_option maxHeartbeats 4000000 in
theorem jo1_nil {Nd Nf : Nat} (w : World) (hd : Boxed w Nd 25 (.pointer none)) (hf : Boxed w Nf 27 (.slice none 0 0)) (hne : Nd < w.heap.size) :
    Calls Try.prog 46 #[.pointer (some ⟨Nd, 0, none⟩), .pointer (some ⟨Nf, 0, none⟩)] w fun e w' => e = .returned (.int .i64 1) ∧ Hid (Fr (fun k => k = Nf) w w') := by
  have cd := hd.cell
  have HC := Lib.hid (bytes_nil w)
  have STEP : Hid (∀ w2, Below w.heap.size w w2 → w2.cell? ⟨Nf, 0, none⟩ = some (.slice none 0 0) ∧ w2.frozen? ⟨Nf, 0, none⟩ = false ∧ Hid (Fr (fun k => k = Nf) w (w2.setCell ⟨Nf, 0, none⟩ (.slice none 0 0)))) := Lib.hid fun w2 hq => by
    have hb := boxed_below hf hq
    exact ⟨hb.cell, hb.frozen, Lib.hid ((Fr.of_below hq).trans (Fr.set w2 Nf 0 _ rfl))⟩
  clear hd hf
  go_enter Try.func46, Try.ntmps46
  go_wp2_with (go_at_call 9; refine HC.out.mono ?_; rintro e w2 ⟨rfl, hq⟩; obtain ⟨y1, y2, y3⟩ := STEP.out _ hq; clear hq)
  go_ret
  exact ⟨rfl, y3⟩
/-- What Open answers. -/
def opL (s : DS) : List (List UInt8) := if (openD s).1 = 0 then (scanL s.f).1 else []
def opT (s : DS) : Nat := if (openD s).1 = 0 then (scanL s.f).2 else 0
/-- The two deeds' functions. -/
def gO : Nat → Nat
  | 0 => 46
  | _ => 47
def lO (n : Nat) : Nat → Array Value
  | 0 => #[pb n, pb (n + 3)]
  | _ => #[pb (n + 3), pb (n + 1), pb (n + 2), pb n]
def rowO (n : Nat) : Array Value := #[.func (.func (gO 0)) #[] (lO n 0), .func (.func (gO 1)) #[] (lO n 1)]
set_option maxRecDepth 100000 in
theorem enters_O : ∀ k, k < 2 → ∀ args w, (callFunc (gO k) args).run Try.prog w = .ok (.enter (gO k) args) w := fun k hk => by
  match k, hk with
  | 0, _ => exact enters_of Try.func46 (by kernel_rfl) rfl
  | 1, _ => exact enters_of Try.func47 (by kernel_rfl) rfl
/-- The disk behind Open. -/
def OE (w : World) (base b : Nat) (s : DS) (v v' : Value) (W : World) : Prop := Dk 52 base b (openD s).2 v' W ∧ (v'.ownBlock = v.ownBlock ∨ ∀ k, v'.ownBlock = some k → w.heap.size ≤ k) ∧ Fr (Fp b v) w W
/-- Ahead of deed number k. -/
def JO (w : World) (base b : Nat) (s : DS) (v : Value) : Nat → World → Prop
  | 2, W => (openD s).1 = 0 ∧ ∃ o c v', Boxed W (w.heap.size + 1) 28 (.slice o (scanL s.f).1.length c) ∧ Boxed W (w.heap.size + 2) 3 (.int .i64 ((scanL s.f).2 : Nat)) ∧ OE w base b s v v' W ∧ rwP (fun k => w.heap.size + 5 ≤ k ∧ v'.ownBlock ≠ some k) fit W (scanL s.f).1 (.slice o (scanL s.f).1.length c)
  | k, W => Below w.heap.size w W ∧ W.heap[w.heap.size + 4]? = some (.cells (rowO w.heap.size) 37 (0, 0)) ∧
      Boxed W w.heap.size 25 (pb b) ∧ Boxed W (w.heap.size + 1) 28 (.slice none 0 0) ∧ Boxed W (w.heap.size + 2) 3 (.int .i64 0) ∧
      ∃ v2, Boxed W (w.heap.size + 3) 27 v2 ∧ (k = 0 → v2 = .slice none 0 0) ∧ (1 ≤ k → beD s = 0 ∧ ow w.heap.size W v2 (byD s))
/-- Where a deed tells an error. -/
def XO (w : World) (base b : Nat) (s : DS) (v : Value) (i : Int) (W : World) : Prop := i = (openD s).1 ∧ ∃ vr vt v', Boxed W (w.heap.size + 1) 28 vr ∧ Boxed W (w.heap.size + 2) 3 vt ∧ OE w base b s v v' W
theorem JO.deed {w : World} {base b : Nat} {s : DS} {v : Value} (h : Dk 52 base b s v w) (hbase : base ≤ w.heap.size) (k : Nat) (hk : k < 2) (W : World) (hJ : JO w base b s v k W) :
    Calls Try.prog (gO k) (lO w.heap.size k) W fun e W' => ∃ i, e = .returned (.int .i64 i) ∧ ((i = 0 ∧ JO w base b s v (k + 1) W') ∨ (i ≠ 0 ∧ XO w base b s v i W')) := by
  match k, hk with
  | 0, _ =>
    obtain ⟨q1, q2, q3, q4, q5, v2, q8, q9, _⟩ := hJ
    have q9 := q9 rfl
    subst q9
    refine (jo1_any W (h.below q1) q3 q8).mono ?_
    rintro e W' ⟨rfl, hq⟩
    obtain ⟨v', r1, r2, r3⟩ := hq.out
    have hb' : Below w.heap.size w W' := q1.trans (r3.below (fun k hk => by omega) q1.size)
    by_cases hB : beD s = 0
    · exact ⟨_, rfl, .inl ⟨hB, hb', row_keep r3 q2 (by omega), r3.boxed q3 (by omega), r3.boxed q4 (by omega), r3.boxed q5 (by omega), v', r1, fun h => absurd h (by omega), fun _ => ⟨hB, r2.mono q1.size⟩⟩⟩
    · obtain ⟨d1, d2⟩ := be_down hB
      have hop : openD s = (60, s) := by unfold openD; rw [if_pos d1]
      refine ⟨_, rfl, .inr ⟨hB, by rw [hop]; exact d2, _, _, v, r3.boxed q4 (by omega), r3.boxed q5 (by omega), ?_⟩⟩
      unfold OE
      rw [hop]
      exact ⟨h.below hb', .inl rfl, Fr.of_below hb'⟩
  | 1, _ =>
    obtain ⟨q1, q2, q3, q4, q5, v2, q8, _, q10⟩ := hJ
    obtain ⟨hB, hP⟩ := q10 (by omega)
    obtain ⟨d1, d2⟩ := be_up hB
    rw [d2] at hP
    have hz : w.heap.size + 5 ≤ W.heap.size := (Array.getElem?_eq_some_iff.1 q2).1
    refine (jo2_any W (h.below q1) d1 (Nat.le_trans hbase q1.size) (by omega) q8 q4 q5 q3 hP.rd hP.fit).mono ?_
    rintro e W' ⟨rfl, hq⟩
    obtain ⟨o, c, v', r1, r2, r3, r4, r5, r6⟩ := hq.out
    have hE : OE w base b s v v' W' := ⟨r3, r4.imp id (fun h k hk => Nat.le_trans q1.size (h k hk)), ((Fr.of_below (B := fun k => Fp b v k ∨ k = w.heap.size + 1 ∨ k = w.heap.size + 2) q1).trans r5).mono (fun k hk e => by rcases e with e | e | e; exact e; omega; omega)⟩
    by_cases h0 : (openD s).1 = 0
    · exact ⟨_, rfl, .inl ⟨h0, h0, o, c, v', r1, r2, hE, r6.imp (fun k hk => ⟨by omega, hk.2⟩)⟩⟩
    · exact ⟨_, rfl, .inr ⟨h0, rfl, _, _, v', r1, r2, hE⟩⟩
theorem rwP_nil (P : Nat → Prop) (E : Value → Prop) (W : World) : rwP P E W [] (.slice none 0 0) := ⟨none, ⟨0, 0, none⟩, 0, rfl, Nat.le_refl _, by unfold maxLen; omega, fun h => absurd h (by simp), fun i h => absurd h (by simp)⟩
/-- The last two stores leave the disk and the rows. -/
theorem open_fin {w W W' : World} {base b n : Nat} {s : DS} {v v' vr vt : Value} (h : OE w base b s v v' W) (hn : w.heap.size ≤ n) (h1 : Boxed W n 28 vr) (h2 : Boxed W (n + 1) 3 vt) (hF : Fr (fun k => k = n ∨ k = n + 1) W W') : OE w base b s v v' W' := by
  obtain ⟨q1, q2, q3⟩ := h
  refine ⟨q1.fr hF (fun k hk e => ?_), q2, ((q3.mono (C := fun k => Fp b v k ∨ k = n ∨ k = n + 1) (fun k _ e => .inl e)).trans (hF.mono (fun k _ e => .inr e))).mono (fun k hk e => by rcases e with e | e | e; exact e; omega; omega)⟩
  rcases e with rfl | rfl
  · exact q1.not_box h1 (by decide) (by decide) hk
  · exact q1.not_box h2 (by decide) (by decide) hk
set_option maxRecDepth 100000 in
set_option maxHeartbeats 8000000 in
theorem jopen_any {base b : Nat} {s : DS} {v : Value} (w : World) (h : Dk 52 base b s v w) (hbase : base ≤ w.heap.size) :
    Calls Try.prog 15 #[.pointer (some ⟨b, 0, none⟩)] w fun e w' => ∃ o c, e = .returned (.tuple #[.slice o (opL s).length c, .int .i64 (opT s : Nat), .int .i64 (openD s).1]) ∧ Hid (∃ v', OE w base b s v v' w' ∧ rwP (fun k => w.heap.size ≤ k ∧ v'.ownBlock ≠ some k) fit w' (opL s) (.slice o (opL s).length c)) := by
  have HC : Hid (∀ W, ((((w.alloc (.cells #[pb b] 25)).alloc (.cells #[.slice none 0 0] 28)).alloc (.cells #[.int .i64 0] 3)).alloc (.cells #[.slice none 0 0] 27)).alloc (.cells (rowO w.heap.size) 37) = W →
      Calls Try.prog 27 #[.slice (some ⟨w.heap.size + 4, 0, none⟩) 2 2] W fun e w' => ∃ i, e = .returned (.int .i64 i) ∧ Hid ((i = 0 ∧ JO w base b s v 2 w') ∨ (i ≠ 0 ∧ XO w base b s v i w'))) := Lib.hid fun W hW => by
    obtain ⟨k0, k1, k2, k3, k4, k5⟩ := box5 w _ _ _ _ _ _ _ _ _ _ W hW
    refine (first_deeds 2 ⟨w.heap.size + 4, 0, none⟩ gO (lO w.heap.size) (JO w base b s v) (XO w base b s v) W (by omega) (fun k hk W' hJ => ?_) enters_O (JO.deed h hbase) ⟨k0, k5, k1, k2, k3, _, k4, fun _ => rfl, fun h => absurd h (by omega)⟩)
    match k, hk with
    | 0, _ => exact row_cell hJ.2.1 _ rfl
    | 1, _ => exact row_cell hJ.2.1 _ rfl
  clear h hbase
  by_cases hE : (openD s).1 = 0
  · have HC2 : Hid (∀ W, ((((w.alloc (.cells #[pb b] 25)).alloc (.cells #[.slice none 0 0] 28)).alloc (.cells #[.int .i64 0] 3)).alloc (.cells #[.slice none 0 0] 27)).alloc (.cells (rowO w.heap.size) 37) = W →
        Calls Try.prog 27 #[.slice (some ⟨w.heap.size + 4, 0, none⟩) 2 2] W fun e w' => e = .returned (.int .i64 0) ∧ Hid (JO w base b s v 2 w')) := Lib.hid fun W hW => (HC.out W hW).mono fun e w' ⟨i, h1, h2⟩ => by
      rcases h2.out with ⟨h3, h4⟩ | ⟨h4, h3, _⟩
      · subst h3
        exact ⟨h1, Lib.hid h4⟩
      · exact absurd (h3.trans hE) h4
    have e1 : opL s = (scanL s.f).1 := by unfold opL; rw [if_pos hE]
    have e2 : opT s = (scanL s.f).2 := by unfold opT; rw [if_pos hE]
    have HFIN : Hid (∀ W, JO w base b s v 2 W → ∃ o c, W.cell? ⟨w.heap.size + 1, 0, none⟩ = some (.slice o (scanL s.f).1.length c) ∧ W.frozen? ⟨w.heap.size + 1, 0, none⟩ = false ∧ W.cell? ⟨w.heap.size + 1 + 1, 0, none⟩ = some (.int .i64 ((scanL s.f).2 : Nat)) ∧ W.frozen? ⟨w.heap.size + 1 + 1, 0, none⟩ = false ∧
        (∀ W9, ((W.setCell ⟨w.heap.size + 1, 0, none⟩ (.slice o (scanL s.f).1.length c)).setCell ⟨w.heap.size + 1 + 1, 0, none⟩ (.int .i64 ((scanL s.f).2 : Nat))).drew = W9 → W9.cell? ⟨w.heap.size + 1, 0, none⟩ = some (.slice o (scanL s.f).1.length c) ∧ W9.cell? ⟨w.heap.size + 1 + 1, 0, none⟩ = some (.int .i64 ((scanL s.f).2 : Nat)) ∧ Hid (∃ v', OE w base b s v v' W9 ∧ rwP (fun k => w.heap.size ≤ k ∧ v'.ownBlock ≠ some k) fit W9 (scanL s.f).1 (.slice o (scanL s.f).1.length c)))) := Lib.hid fun W hJ => by
      obtain ⟨_, o, c, v', q1, q2, q3, q4⟩ := hJ
      refine ⟨o, c, q1.cell, q1.frozen, q2.cell, q2.frozen, fun W9 hW9 => ?_⟩
      have hF : Fr (fun k => k = w.heap.size + 1 ∨ k = w.heap.size + 1 + 1) W W9 := by
        rw [← hW9]
        exact (((Fr.set (B := fun k => k = w.heap.size + 1 ∨ k = w.heap.size + 1 + 1) W _ 0 _ (.inl rfl)).trans (Fr.set _ (w.heap.size + 1 + 1) 0 _ (.inr rfl)))).trans ⟨⟨rfl, rfl, rfl, Nat.le_refl _⟩, fun _ _ h _ => h⟩
      have c1 : Boxed W9 (w.heap.size + 1) 28 (.slice o (scanL s.f).1.length c) := by rw [← hW9]; exact (q1.set _).other (B' := w.heap.size + 2) (by omega) _
      have c2 : Boxed W9 (w.heap.size + 2) 3 (.int .i64 ((scanL s.f).2 : Nat)) := by rw [← hW9]; exact (q2.other (B' := w.heap.size + 1) (by omega) _).set _
      exact ⟨c1.cell, c2.cell, Lib.hid ⟨v', open_fin q3 (by omega) q1 q2 hF, (q4.fr hF (fun k hk e => by rcases e with e | e <;> omega)).imp (fun k hk => ⟨by omega, hk.2⟩)⟩⟩
    rw [e1, e2, hE]
    generalize (scanL s.f).2 = T at *
    generalize (scanL s.f).1 = L at *
    clear HC e1 e2 hE
    go_enter Try.func15, Try.ntmps15
    go_wp2_with (go_at_call 27; go_loud (refine (HC2.out _ rfl).mono ?_))
    rintro e w2 ⟨rfl, hq⟩
    obtain ⟨o, c, y1, y2, y3, y4, y5⟩ := HFIN.out _ hq.out
    have Y5 := Lib.hid y5
    clear hq y5 HC2 HFIN
    go_wp2_with fail
    go_region_with (fail)
    all_goals
      go_wp2_with fail
      obtain ⟨z1, z2, z3⟩ := Y5.out _ rfl
      generalize ((w2.setCell ⟨w.heap.size + 1, 0, none⟩ (.slice o L.length c)).setCell ⟨w.heap.size + 1 + 1, 0, none⟩ (.int .i64 (T : Nat))).drew = W9 at *
      refine bodyPost_ret (v := .tuple #[.slice o L.length c, .int .i64 (T : Nat), .int .i64 0]) ?_ rfl ⟨o, c, rfl, z3⟩
      simp [results, Try.results15, go_sem, z1, z2]
  · have HC2 : Hid (∀ W, ((((w.alloc (.cells #[pb b] 25)).alloc (.cells #[.slice none 0 0] 28)).alloc (.cells #[.int .i64 0] 3)).alloc (.cells #[.slice none 0 0] 27)).alloc (.cells (rowO w.heap.size) 37) = W →
        Calls Try.prog 27 #[.slice (some ⟨w.heap.size + 4, 0, none⟩) 2 2] W fun e w' => e = .returned (.int .i64 (openD s).1) ∧ Hid (XO w base b s v (openD s).1 w')) := Lib.hid fun W hW => (HC.out W hW).mono fun e w' ⟨i, h1, h2⟩ => by
      rcases h2.out with ⟨h3, h4, _⟩ | ⟨h4, h3, h5⟩
      · exact absurd h4 hE
      · subst h3
        exact ⟨h1, Lib.hid ⟨rfl, h5⟩⟩
    have e1 : opL s = [] := by unfold opL; rw [if_neg hE]
    have e2 : opT s = 0 := by unfold opT; rw [if_neg hE]
    have te : ((openD s).1 != 0) = true := by simpa using hE
    have HFIN : Hid (∀ W, XO w base b s v (openD s).1 W → ∃ vr vt, W.cell? ⟨w.heap.size + 1, 0, none⟩ = some vr ∧ W.frozen? ⟨w.heap.size + 1, 0, none⟩ = false ∧ W.cell? ⟨w.heap.size + 1 + 1, 0, none⟩ = some vt ∧ W.frozen? ⟨w.heap.size + 1 + 1, 0, none⟩ = false ∧
        (∀ W9, (W.setCell ⟨w.heap.size + 1, 0, none⟩ (.slice none 0 0)).setCell ⟨w.heap.size + 1 + 1, 0, none⟩ (.int .i64 0) = W9 → W9.cell? ⟨w.heap.size + 1, 0, none⟩ = some (.slice none 0 0) ∧ W9.cell? ⟨w.heap.size + 1 + 1, 0, none⟩ = some (.int .i64 0) ∧ Hid (∃ v', OE w base b s v v' W9 ∧ rwP (fun k => w.heap.size ≤ k ∧ v'.ownBlock ≠ some k) fit W9 [] (.slice none 0 0)))) := Lib.hid fun W hJ => by
      obtain ⟨_, vr, vt, v', q1, q2, q3⟩ := hJ
      refine ⟨vr, vt, q1.cell, q1.frozen, q2.cell, q2.frozen, fun W9 hW9 => ?_⟩
      have hF : Fr (fun k => k = w.heap.size + 1 ∨ k = w.heap.size + 1 + 1) W W9 := by
        rw [← hW9]
        exact (Fr.set (B := fun k => k = w.heap.size + 1 ∨ k = w.heap.size + 1 + 1) W _ 0 _ (.inl rfl)).trans (Fr.set _ (w.heap.size + 1 + 1) 0 _ (.inr rfl))
      have c1 : Boxed W9 (w.heap.size + 1) 28 (.slice none 0 0) := by rw [← hW9]; exact (q1.set _).other (B' := w.heap.size + 2) (by omega) _
      have c2 : Boxed W9 (w.heap.size + 2) 3 (.int .i64 0) := by rw [← hW9]; exact (q2.other (B' := w.heap.size + 1) (by omega) _).set _
      exact ⟨c1.cell, c2.cell, Lib.hid ⟨v', open_fin q3 (by omega) q1 q2 hF, rwP_nil _ _ _⟩⟩
    rw [e1, e2]
    generalize hr : (openD s).1 = r at *
    clear HC e1 e2 hE
    go_enter Try.func15, Try.ntmps15
    go_wp2_with (go_at_call 27; go_loud (refine (HC2.out _ rfl).mono ?_))
    rintro e w2 ⟨rfl, hq⟩
    obtain ⟨vr, vt, y1, y2, y3, y4, y5⟩ := HFIN.out _ hq.out
    have Y5 := Lib.hid y5
    clear hq y5 HC2 HFIN
    go_wp2_with fail
    obtain ⟨z1, z2, z3⟩ := Y5.out _ rfl
    generalize (w2.setCell ⟨w.heap.size + 1, 0, none⟩ (.slice none 0 0)).setCell ⟨w.heap.size + 1 + 1, 0, none⟩ (.int .i64 0) = W9 at *
    refine bodyPost_ret (v := .tuple #[.slice none 0 0, .int .i64 0, .int .i64 r]) ?_ rfl ⟨none, 0, rfl, z3⟩
    simp [results, Try.results15, go_sem, z1, z2]
end Go.Proofs.Ytbjdbphnccdpbaa
