/-
  The program's frames: All.
-/
import Derived.Test.YtjpkokmokdaddaaGm
set_option linter.unusedVariables false
namespace Go.Proofs.Ytjpkokmokdaddaa
open Go.RowKit Go.Shelf Go.Lib
attribute [local go_sem] Oper.semAt_some

/-- What All tells of load number k: it reads so. -/
def PreA (L : List (List UInt8)) (k : Nat) (v : Value) (W : World) : Prop := ∃ a, v = .slice (some a) (lk L k).length (lk L k).length ∧ rd W (lk L k) v
theorem buf.load {P : Nat → Prop} {W : World} {Y : List UInt8} {vY : Value} {k : Nat} {v : Value} (h : buf P W Y vY) (hk : k < (scanL Y).1.length) (hp : PreF (adr vY) (scanL Y).1 k v W) : PreA (scanL Y).1 k v W := by
  obtain ⟨q1, q2, q3, q4, q5⟩ := at_load Y k hk
  obtain ⟨o, a, c, rfl, h1, h2, h3, h4⟩ := id h.1
  obtain rfl := h3 (by omega)
  refine ⟨_, hp, ?_⟩
  unfold PreF at hp
  subst hp
  have := h.1.part (atL (scanL Y).1 k + 4) (lk (scanL Y).1 k).length (lk (scanL Y).1 k).length q5 (Nat.le_refl _) (by unfold maxLen; omega)
  rw [q2] at this
  exact this
theorem yield_any {m : Nat} (m' : Nat) {l : Nat} {args : Array Value} {W : World} {R : Ending → World → Prop} (h : YieldAt Fence.wide m Try.prog l args W R) : YieldAt Fence.wide m' Try.prog l args W R := by
  obtain ⟨f, t, s, b, h1, h2, h3⟩ := h
  exact ⟨f, t, s, b, h1, h2, fun c cs _ => h3 c cs (fun d hd => by cases hd)⟩
theorem free_buf {P : Nat → Prop} {Y : List UInt8} {vY : Value} (B : Nat) : Free (β := Nat) B (fun _ W => buf P W Y vY) := fun _ _ _ _ hs hg hr => hs.free hg hr
set_option maxRecDepth 100000 in
set_option maxHeartbeats 4000000 in
theorem all1_seq (n : Nat) (hn : 1 ≤ n) (P : Nat → Prop) (Y : List UInt8) (v : Value) (Bx : Nat) (w : World) (hr : rd w Y v) (hf : fit v) (hl : Y.length ≤ 1000000) (hBx : Boxed w Bx 22 v) (hP : ∀ k, w.heap.size ≤ k → P k) :
    SeqK n 20 #[.pointer (some ⟨Bx, 0, none⟩)] (encF (scanL Y).1) P (PreA (scanL Y).1) (scanL Y).1.length w := fun l J Jx W hW hJ hJx hY h0 => by
  obtain ⟨o, c, rfl, _⟩ := hr.form
  have hB2 : Boxed W Bx 22 (.slice o Y.length c) := (hW.block Bx (Array.getElem?_eq_some_iff.1 hBx).1).trans hBx
  have hC := clone_any Y _ W (hr.below hW) hf hl
  have HC := Lib.hid (hC.mono fun e w' h => Lib.hid h)
  have cB := hB2.cell
  have HB2 := Lib.hid hB2
  have HW := Lib.hid hW
  have HY := Lib.hid hY
  have H0 := Lib.hid h0
  have HJ := Lib.hid hJ
  have HJx := Lib.hid hJx
  clear hB2 hr hf hC hW hY h0 hBx hJ hJx
  refine callsIn_of_wp Try.func20 rfl trivial ?_ rfl
  simp only [Try.ntmps20, List.size_toArray, List.length_cons, List.length_nil, Nat.reduceAdd, Nat.reduceSub, Array.replicate_succ, Array.replicate_zero, List.push_toArray, List.append_toArray, List.nil_append, List.cons_append]
  gi_wp2_with fail
  refine ⟨trivial, ?_⟩
  refine (callsIn_wide.2 HC.out).mono ?_
  rintro e W1 hq
  obtain ⟨o1, c1, rfl, hq1⟩ := hq.out
  gi_wp2_with fail
  refine ⟨trivial, ?_⟩
  refine (frames_in _ _ _ _ _).mono ?_
  rintro e w' ⟨rfl, rfl⟩
  obtain ⟨W2, hW2⟩ : ∃ W2, W1.alloc (.cells #[.slice o1 Y.length c1] 22) = W2 := ⟨_, rfl⟩
  obtain ⟨hb2, bS, hz2⟩ : Below W1.heap.size W1 W2 ∧ Boxed W2 W1.heap.size 22 (.slice o1 Y.length c1) ∧ W2.heap.size = W1.heap.size + 1 := by
    rw [← hW2]
    exact ⟨(Below.refl _ _).alloc (Nat.le_refl _) _, Boxed.new W1 _ _, by simp⟩
  rw [hW2]
  have hb12 : Below W.heap.size W W2 := hq1.out.2.trans (hb2.mono hq1.out.2.size)
  have hbuf : buf P W2 Y (.slice o1 Y.length c1) := ⟨(ow.rd hq1.out.1).below hb2, hq1.out.1.fit, fun a n c' h hx => by
    cases h
    have := (hq1.out.1.lt a.block (by simp [Value.ownBlock])).1
    exact hP _ (Nat.le_trans HW.out.size this)⟩
  have SQ := frames_seq 9 (by omega) P Y _ W1.heap.size W2 hbuf bS (hP _ (Nat.le_trans HW.out.size hq1.out.2.size))
  have J2 := (HJ.out.and (free_buf (P := P) (Y := Y) (vY := .slice o1 Y.length c1) W.heap.size)).up hb12.size
  have Jx2 := HJx.out.up hb12.size
  have RES := SQ l (fun k W => J k W ∧ buf P W Y (.slice o1 Y.length c1)) Jx W2 (Below.refl _ _) J2 Jx2 (fun k v W1 hk hj hp => by
    refine YieldAt.mono (yield_any 8 (HY.out k v W1 hk hj.1 (hj.2.load hk hp))) ?_
    rintro e W' (⟨rfl, h1, h2⟩ | h)
    · exact .inl ⟨rfl, ⟨h1, hj.2.kk h2⟩, h2⟩
    · exact .inr h) ⟨HJ.out.step H0.out hb12, hbuf⟩
  have HRES := Lib.hid ((callsIn_wide (n := 9)).1 RES)
  clear RES J2 Jx2 SQ hbuf hb12 hb2 bS hz2 hW2 hq hq1
  gi_wp2_with fail
  refine ⟨trivial, ?_⟩
  refine (callsIn_wide.2 HRES.out).mono ?_
  rintro e W' ⟨⟨v, rfl⟩, hq⟩
  have HQ : Hid (J (scanL Y).1.length W' ∨ ∃ k, k < (scanL Y).1.length ∧ Jx k W') := Lib.hid (hq.imp And.left id)
  clear hq
  gi_wp2_with fail
  refine bodyPost_end (results_none rfl _ _ _) rfl ?_
  exact ⟨⟨_, rfl⟩, HQ.out⟩
set_option maxRecDepth 100000 in
set_option maxHeartbeats 4000000 in
theorem pall_any (x : List UInt8) (v : Value) (w : World) (hx : rd w x v) (hf : fit v) (hl : x.length ≤ 1000000) : Calls Try.prog 17 #[v] w fun e w' => ∃ Bx o c, e = .returned (.func (.func 20) #[] #[.pointer (some ⟨Bx, 0, none⟩)]) ∧ Hid (Boxed w' Bx 22 (.slice o (wholeB x).length c) ∧ ow w.heap.size w' (.slice o (wholeB x).length c) (wholeB x) ∧ Below w.heap.size w w') := by
  obtain ⟨o, c, rfl, _⟩ := hx.form
  have HW := Lib.hid ((whole_any x _ w hx hf hl).mono fun e w' h => Lib.hid h)
  obtain ⟨Y, hY⟩ : ∃ Y, wholeB x = Y := ⟨_, rfl⟩
  rw [hY] at HW ⊢
  clear hx hf hl hY
  go_enter Try.func17, Try.ntmps17
  go_wp2_with (go_at_call 19; refine HW.out.mono ?_)
  rintro e w1 hq
  obtain ⟨o1, c1, rfl, hq1⟩ := hq.out
  have HQ : Hid (Boxed (w1.alloc (.cells #[.slice o1 Y.length c1] 22)) w1.heap.size 22 (.slice o1 Y.length c1) ∧ ow w.heap.size (w1.alloc (.cells #[.slice o1 Y.length c1] 22)) (.slice o1 Y.length c1) Y ∧ Below w.heap.size w (w1.alloc (.cells #[.slice o1 Y.length c1] 22))) := Lib.hid (by
    have hb : Below w1.heap.size w1 (w1.alloc (.cells #[.slice o1 Y.length c1] 22)) := (Below.refl _ _).alloc (Nat.le_refl _) _
    exact ⟨Boxed.new w1 _ _, ow_rd_below hq1.out.1 hb, hq1.out.2.trans (hb.mono hq1.out.2.size)⟩)
  clear hq hq1 HW
  go_wp2_with fail
  go_ret
  exact ⟨_, o1, c1, rfl, HQ⟩
end Go.Proofs.Ytjpkokmokdaddaa
