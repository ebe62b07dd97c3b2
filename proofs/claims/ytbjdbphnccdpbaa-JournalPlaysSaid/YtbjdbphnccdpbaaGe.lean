/-
  The program's frames: the iterator's contract; bytes.Clone; whole.
-/
import Derived.Test.YtbjdbphnccdpbaaGd
set_option linter.unusedVariables false
namespace Go.Proofs.Ytbjdbphnccdpbaa
open Go.RowKit Go.Shelf Go.Lib
attribute [local go_sem] Oper.semAt_some

def adr : Value → Addr
  | .slice (some a) _ _ => a
  | _ => ⟨0, 0, none⟩
theorem scan_nil : scanL [] = ([], 0) := rfl
set_option maxRecDepth 100000 in
set_option maxHeartbeats 4000000 in
theorem frames1_nil (n : Nat) (hn : 1 ≤ n) (l Bx : Nat) (J : World → Prop) (W : World) (hBx : Boxed W Bx 27 (.slice none 0 0)) (h0 : J W) :
    CallsIn Fence.wide n Try.prog 70 #[.func (.yield l) #[] #[], .pointer (some ⟨Bx, 0, none⟩)] W fun e W' => (∃ v, e = .returned v) ∧ J W' := by
  have HBX := Lib.hid hBx
  have HJ := Lib.hid h0
  clear hBx h0
  refine callsIn_of_wp Try.func70 rfl trivial ?_ rfl
  simp only [Try.ntmps70, List.size_toArray, List.length_cons, List.length_nil, Nat.reduceAdd, Nat.reduceSub, Array.replicate_succ, Array.replicate_zero, List.push_toArray, List.append_toArray, List.nil_append, List.cons_append]
  gi_wp2_with fail
  gi_loopw [3] (fun av wr => av = .int .i64 0 ∧ wr = W) (fun av _ => 1)
  case atStart => exact ⟨rfl, rfl⟩
  case round =>
    obtain ⟨rfl, rfl⟩ := hrel
    have cX := HBX.out.cell
    have hF := first_any [] _ wr (rd_nil wr)
    have HF := Lib.hid hF
    clear hF
    gi_wp2_with first
      | (refine ⟨trivial, ?_⟩; refine (callsIn_wide.2 HF.out).mono ?_; rintro e w0 ⟨rfl, rfl⟩)
    refine ⟨fun f h => (by cases h), ?_⟩
    gi_wp2_with fail
    refine bodyPost_ret (results_none rfl _ _ _) rfl ?_
    exact ⟨⟨_, rfl⟩, HJ.out⟩
theorem frames_in (n : Nat) (o : Option Addr) (m c : Nat) (w : World) :
    CallsIn Fence.wide n Try.prog 63 #[.slice o m c] w fun e w' => e = .returned (.func (.func 70) #[] #[.pointer (some ⟨w.heap.size, 0, none⟩)]) ∧ w' = w.alloc (.cells #[.slice o m c] 27) := by
  refine callsIn_of_wp Try.func63 rfl trivial ?_ rfl
  simp only [Try.ntmps63, List.size_toArray, List.length_cons, List.length_nil, Nat.reduceAdd, Nat.reduceSub, Array.replicate_succ, Array.replicate_zero, List.push_toArray, List.append_toArray, List.nil_append, List.cons_append]
  gi_wp2
  go_ret
  exact ⟨rfl, rfl⟩
theorem frames_seq (n : Nat) (hn : 1 ≤ n) (P : Nat → Prop) (x : List UInt8) (v : Value) (Bx : Nat) (w : World) (hb : buf P w x v) (hBx : Boxed w Bx 27 v) (hPB : P Bx) :
    SeqK n 70 #[.pointer (some ⟨Bx, 0, none⟩)] (encF (scanL x).1) P (PreF (adr v) (scanL x).1) (scanL x).1.length w := fun l J Jx W hW hJ hJx hY h0 => by
  have hb2 := hb.kk (KK.below (P := P) hW)
  have hB2 : Boxed W Bx 27 v := (hW.block Bx (Array.getElem?_eq_some_iff.1 hBx).1).trans hBx
  rcases hb.2.1 with rfl | ⟨a, m, c, rfl⟩
  · obtain ⟨o2, c2, e2, _⟩ := hb.1.form
    have : x = [] := by
      simp only [Value.slice.injEq] at e2
      exact List.eq_nil_of_length_eq_zero e2.2.1.symm
    subst this
    exact (frames1_nil n hn l Bx (J 0) W hB2 h0).mono fun e W' h => ⟨h.1, .inl h.2⟩
  · obtain ⟨o2, c2, e2, _⟩ := hb.1.form
    simp only [Value.slice.injEq] at e2
    obtain ⟨e3, rfl, rfl⟩ := e2
    exact frames1_in n hn P x a c l Bx J Jx W hb2 hB2 hPB hJ hJx hY h0

theorem nil_yes (w : World) : (binOp .eql 27 (.slice none 0 0) (.slice none 0 0)).run Try.prog w = .ok (.bool true) w := by kernel_rfl
theorem nil_no (a : Addr) (n c : Nat) (w : World) : (binOp .eql 27 (.slice (some a) n c) (.slice none 0 0)).run Try.prog w = .ok (.bool false) w := by kernel_rfl
set_option maxRecDepth 100000 in
set_option maxHeartbeats 4000000 in
/-- bytes.Clone: the same bytes in new memory. -/
theorem clone_any (x : List UInt8) (v : Value) (w : World) (hx : rd w x v) (hf : fit v) (hl : x.length ≤ 4000000) : Calls Try.prog 67 #[v] w fun e w' => ∃ o c, e = .returned (.slice o x.length c) ∧ Hid (ow w.heap.size w' (.slice o x.length c) x ∧ Below w.heap.size w w') := by
  rcases hf with rfl | ⟨a, m, c, rfl⟩
  · have : x = [] := by
      obtain ⟨o2, c2, e2, _⟩ := hx.form
      simp only [Value.slice.injEq] at e2
      exact List.eq_nil_of_length_eq_zero e2.2.1.symm
    subst this
    clear hx
    have hny := nil_yes w
    go_enter Try.func67, Try.ntmps67
    go_wp2_with fail
    go_ret
    exact ⟨none, 0, rfl, Lib.hid ⟨.inl ⟨rfl, rfl⟩, Below.refl _ _⟩⟩
  · obtain ⟨o2, c2, e2, hc1, hc2⟩ := hx.form
    simp only [Value.slice.injEq] at e2
    obtain ⟨rfl, rfl, rfl⟩ := e2
    have HX := Lib.hid hx
    have HC := Lib.hid (And.intro hc1 hc2)
    have hb1 : Below w.heap.size w (w.alloc (.cells #[] 5)) := (Below.refl _ _).alloc (Nat.le_refl _) _
    have HB1 := Lib.hid hb1
    have HX1 := Lib.hid (hx.below hb1)
    have HO := Lib.hid (ow.new (base := w.heap.size) (W := w) [] #[] 0 (Nat.le_refl _) (Nat.le_refl _) (by unfold maxLen; omega) (Nat.zero_le _) rfl)
    have hnn := nil_no a x.length c w
    have HXL : Hid (x.length ≤ 140737488351232) := Lib.hid (by omega)
    clear hx hb1 hc1 hc2 hl
    go_enter Try.func67, Try.ntmps67
    go_wp2_with (at_builtin; refine wpList_app_ow rfl _ _ rfl w.heap.size (.slice (some ⟨w.heap.size, 0, none⟩) 0 0) (.slice (some a) x.length c) [] x rfl rfl HO.out HX1.out (by rw [List.length_nil, Nat.zero_add]; exact HXL.out) HB1.out.size ?_)
    intro o2 c2 w2 own2 gr2 at2
    try simp only [List.length_nil, Nat.zero_add, List.nil_append] at own2
    have HQ : Hid (ow w.heap.size w2 (.slice o2 x.length c2) x ∧ Below w.heap.size w w2) := Lib.hid ⟨own2, HB1.out.trans ((Fr.grown (B := fun k => k = w.heap.size) gr2 (fun r hr => by simp [Value.ownBlock] at hr; omega)).below (fun k hk => by omega) HB1.out.size)⟩
    clear own2 gr2 at2
    go_wp2_with fail
    go_ret
    exact ⟨o2, c2, rfl, HQ⟩
end Go.Proofs.Ytbjdbphnccdpbaa
