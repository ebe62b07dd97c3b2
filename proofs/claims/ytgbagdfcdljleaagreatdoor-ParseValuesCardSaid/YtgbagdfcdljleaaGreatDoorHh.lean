/-
  Parse's walk: words.
-/
import Derived.Test.YtgbagdfcdljleaaGreatDoorHg
import Derived.Test.YtgbagdfcdljleaaGreatDoorHp
set_option linter.unusedVariables false
set_option linter.unusedSimpArgs false
namespace Go.Proofs.YtgbagdfcdljleaaGreatDoor
open Go.RowKit Go.Maps

section
variable {W0 W : World} {b : Nat} {s : ByteArray} {d : Int} {k : Nat} {op : List Fm} {ov : Value} {ys : List Value} {B : Nat → Prop}
theorem pre_take (l p : List UInt8) : Lib.hasPrefix l p = decide (l.take p.length = p) := by
  unfold Lib.hasPrefix
  rw [Bool.eq_iff_iff, decide_eq_true_iff, List.isPrefixOf_iff_prefix, List.prefix_iff_eq_take]
  exact ⟨fun h => h.symm, fun h => h.symm⟩
/-- What word leaves. -/
def WordR (W0 : World) (b : Nat) (s : ByteArray) (d : Int) (k : Nat) (op : List Fm) (ov : Value) (ys : List Value) (B : Nat → Prop) (W : World) (p : List UInt8) (v : Value) (e : Ending) (W' : World) : Prop :=
  if (s.data.toList.drop k).take p.length = p then e = .returned v ∧ PW W0 b s d (k + p.length) op ov ys B W' ∧ Kb b W W' else e = faulted k 40 ∧ Below W0.heap.size W0 W'
set_option maxRecDepth 100000 in
set_option maxHeartbeats 1000000 in
theorem word_any (h : PW W0 b s d k op ov ys B W) (hk : k ≤ s.size) (hs : s.size ≤ 4294967296) (p : ByteArray) (hp : p.size ≤ 10) (kd : Int) (bo : Bool) :
    Calls Tryz.prog 34 #[.pointer (some ⟨b, 0, none⟩), .string p, .agg #[.int .i8 kd, .bool bo, .int .i64 0, .string ⟨#[]⟩, .slice none 0 0, .slice none 0 0]] W fun e W' => WordR W0 b s d k op ov ys B W p.data.toList (.agg #[.int .i8 kd, .bool bo, .int .i64 0, .string ⟨#[]⟩, .slice none 0 0, .slice none 0 0]) e W' := by
  have c0 := (h.alloc (.cells #[.int .i8 kd, .bool bo, .int .i64 0, .string ⟨#[]⟩, .slice none 0 0, .slice none 0 0] 28)).c0
  obtain ⟨r, hr⟩ : ∃ r, decide ((s.data.toList.drop k).take p.data.toList.length = p.data.toList) = r := ⟨_, rfl⟩
  have hlen : p.data.toList.length = p.size := toList_length p
  have HP : ∀ w, Calls Tryz.prog 50 #[.string (s.extract k s.size), .string p] w fun e w' => e = .returned (.bool r) ∧ w' = w := fun w => by
    have := Tryz.strings_HasPrefix (s.extract k s.size) p w
    rw [Nu.ext_drop, pre_take, hr] at this
    exact this
  have HP := Lib.hid HP
  unfold WordR
  have HH := Lib.hid h
  have hk' : (k : Int) ≤ (s.size : Int) := by omega
  clear h
  have HQ : ∀ (X : World) m, Calls Tryz.prog 50 #[.string (s.extract k s.size), .string p] (X.drewN m) fun e w'' => e = .returned (.bool r) ∧ ∃ m', w'' = X.drewN m' := fun X m => Calls.quiet_of_same (HP.out _)
  have HQ := Lib.hid HQ
  clear HP
  cases r with
  | true =>
    simp only [if_pos (of_decide_eq_true hr)]
    rw [hlen]
    clear hr hlen
    go_enter Tryz.func34, Tryz.ntmps34
    have h1 := (HH.out.alloc (.cells #[.int .i8 kd, .bool bo, .int .i64 0, .string ⟨#[]⟩, .slice none 0 0, .slice none 0 0] 28)).alloc (.cells #[.int .i8 0, .bool false, .int .i64 0, .string ⟨#[]⟩, .slice none 0 0, .slice none 0 0] 28)
    have c0 := h1.c0
    have c1 := h1.c1
    have f1 := h1.fz 1
    have H1 := Lib.hid h1
    clear h1
    go_wp2_with fail
    go_quiet (exact HQ.out _ _)
    have HB := Lib.hid (H1.out.below (below_dN (Below.refl _ _) nq))
    have hbn : b < W.heap.size := HH.out.blt
    go_wp2_with fail
    refine bodyPost_ret (v := .agg #[.int .i8 kd, .bool bo, .int .i64 0, .string ⟨#[]⟩, .slice none 0 0, .slice none 0 0]) (by simp [results, Tryz.results34, go_sem]) rfl ?_
    have o := HH.out.off (W.heap.size + 1) (by omega)
    refine ⟨rfl, ((((((HB.out.at (k + p.size)).st' o 0 _).st' o 1 _).st' o 2 _).st' o 3 _).st' o 4 _).st' o 5 _, ?_⟩
    have hN : W.heap.size ≤ W.heap.size + 1 := Nat.le_succ _
    exact ((((((((((Kb.refl b W).alloc _).alloc _).drewN nq).set_b 1 _).set_new hN 0 _).set_new hN 1 _).set_new hN 2 _).set_new hN 3 _).set_new hN 4 _).set_new hN 5 _
  | false =>
    simp only [if_neg (of_decide_eq_false hr)]
    clear hr hlen
    go_enter Tryz.func34, Tryz.ntmps34
    have h1 := (HH.out.alloc (.cells #[.int .i8 kd, .bool bo, .int .i64 0, .string ⟨#[]⟩, .slice none 0 0, .slice none 0 0] 28)).alloc (.cells #[.int .i8 0, .bool false, .int .i64 0, .string ⟨#[]⟩, .slice none 0 0, .slice none 0 0] 28)
    have c0 := h1.c0
    have c1 := h1.c1
    have H1 := Lib.hid h1
    clear h1
    go_wp2_with fail
    go_quiet (exact HQ.out _ _)
    go_wp2_with fail
    exact ⟨rfl, rfl, (H1.out.below (below_dN (Below.refl _ _) nq)).kb⟩
end
end Go.Proofs.YtgbagdfcdljleaaGreatDoor
