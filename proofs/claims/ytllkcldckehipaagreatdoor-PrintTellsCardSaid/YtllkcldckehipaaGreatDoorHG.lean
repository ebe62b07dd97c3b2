/-
  strings.Repeat of two blanks, few times. · The closure that goes by lines. · The program's Broad: a page whose parts have a line each.
-/
import Derived.Test.YtllkcldckehipaaGreatDoorShelfR
import Derived.Test.YtllkcldckehipaaGreatDoorGA
import Derived.IntWalk
import Derived.RangeFuncBox
import Derived.Lib.Hide
import Derived.Test.YtllkcldckehipaaGreatDoorHE
import Derived.Deep.RegionHeld3
set_option linter.unusedVariables false
set_option linter.unusedSimpArgs false
namespace Go.Proofs.YtllkcldckehipaaGreatDoor
open Go.RowKit

def spaces : ByteArray := ⟨#[32, 32, 32, 32, 32, 32, 32, 32, 32, 32, 32, 32, 32, 32, 32, 32, 32, 32, 32, 32, 32, 32, 32, 32, 32, 32, 32, 32, 32, 32, 32, 32, 32, 32, 32, 32, 32, 32, 32, 32, 32, 32, 32, 32, 32, 32, 32, 32, 32, 32, 32, 32, 32, 32, 32, 32, 32, 32, 32, 32, 32, 32, 32, 32, 32, 32, 32, 32, 32, 32, 32, 32, 32, 32, 32, 32, 32, 32, 32, 32, 32, 32, 32, 32, 32, 32, 32, 32, 32, 32, 32, 32, 32, 32, 32, 32, 32, 32, 32, 32, 32, 32, 32, 32, 32, 32, 32, 32, 32, 32, 32, 32, 32, 32, 32, 32, 32, 32, 32, 32, 32, 32, 32, 32, 32, 32, 32, 32]⟩
theorem cut_rep (m n : Nat) (h : n ≤ m) : (⟨(List.replicate m 32).toArray⟩ : ByteArray).extract 0 n = ⟨(List.replicate n 32).toArray⟩ := by
  apply ByteArray.ext
  simp only [ByteArray.data_extract]
  apply Array.ext'
  simp
  omega
set_option maxRecDepth 100000 in
theorem spaces_cut (n : Nat) (h : n ≤ 128) : spaces.extract 0 n = ⟨(List.replicate n 32).toArray⟩ := by
  have e : spaces = ⟨(List.replicate 128 32).toArray⟩ := rfl
  rw [e]
  exact cut_rep 128 n h

set_option maxRecDepth 100000 in
set_option maxHeartbeats 4000000 in
theorem repeat_any (c : Nat) (hc : c ≤ 62) (w : World) : Calls Tryz.prog 42 #[.string ⟨#[32, 32]⟩, .int .i64 c] w fun e w' => e = .returned (.string ⟨(List.replicate (2 * c) 32).toArray⟩) ∧ w' = w := by
  by_cases h0 : c = 0
  · subst h0
    go_enter Tryz.func42, Tryz.ntmps42
    go_wp2_with fail
    go_ret
    exact ⟨rfl, rfl⟩
  by_cases h1 : c = 1
  · subst h1
    go_enter Tryz.func42, Tryz.ntmps42
    go_wp2_with fail
    go_ret
    exact ⟨rfl, rfl⟩
  have HM := Lib.hid (Tryz.bits_Mul 2 c (by omega) (by omega) w)
  rw [Nat.div_eq_of_lt (by omega : 2 * c < 18446744073709551616), Nat.mod_eq_of_lt (by omega : 2 * c < 18446744073709551616)] at HM
  have HP := Lib.hid (Tryz.strings_HasPrefix spaces ⟨#[32, 32]⟩ w)
  rw [show Lib.hasPrefix spaces.data.toList (⟨#[32, 32]⟩ : ByteArray).data.toList = true by decide] at HP
  have HX := Lib.hid (spaces_cut (2 * c) (by omega))
  obtain ⟨n, hn⟩ : ∃ n, 2 * c = n := ⟨_, rfl⟩
  rw [hn] at HM HX ⊢
  have hn1 : n ≤ 124 := by omega
  have hn2 : 4 ≤ n := by omega
  have z0 : decide ((c : Int) < 0) = false := decide_eq_false (by omega)
  have z1 : ((c : Int) == 0) = false := beq_eq_false_iff_ne.2 (by omega)
  have z2 : ((c : Int) == 1) = false := beq_eq_false_iff_ne.2 (by omega)
  have z3 : decide ((9223372036854775807 : Int) < (n : Int)) = false := decide_eq_false (by omega)
  have z4 : decide ((n : Int) ≤ 128) = true := decide_eq_true (by omega)
  have z5 : decide (n ≤ 128) = true := decide_eq_true (by omega)
  have z6 : IntKind.u64.wrap (c : Int) = (c : Int) := by rw [IntKind.wrap_u64]; omega
  have z7 : IntKind.i64.wrap (n : Int) = (n : Int) := IntWalk.i64_in _ (by omega)
  clear hn
  unfold spaces at HP
  go_enter Tryz.func42, Tryz.ntmps42
  go_wp2_with fail
  refine HM.out.mono ?_
  rintro e w' ⟨rfl, hw⟩
  subst hw
  have z8 : decide ((0 : Int) < ((0 : Nat) : Int)) = false := rfl
  go_wp2_with fail
  refine HP.out.mono ?_
  rintro e w' ⟨rfl, hw⟩
  subst hw
  unfold spaces at HX
  have hx := HX.out
  go_wp2_with fail
  go_ret
  exact ⟨by simp, rfl⟩
end Go.Proofs.YtllkcldckehipaaGreatDoor

namespace Go.Proofs.YtllkcldckehipaaGreatDoor
open Go.RowKit Go.Shelf

def C2 : ByteArray := ⟨#[58, 32]⟩
def I2 (d : Nat) : List UInt8 := 10 :: List.replicate (2 * d) 32
theorem I2_len (d : Nat) : (I2 d).length = 1 + 2 * d := by unfold I2; simp; omega
theorem I2_str (c : Nat) : (⟨#[10]⟩ : ByteArray) ++ ⟨(List.replicate (2 * c) 32).toArray⟩ = ⟨(I2 c).toArray⟩ := by
  apply ByteArray.ext
  simp [I2]
set_option maxRecDepth 100000 in
set_option maxHeartbeats 4000000 in
/-- The closure, so many levels deeper. -/
theorem lines1_any (D d c : Nat) (k : Int) (hk : (d : Int) + k = (c : Int)) (hc : c ≤ 62) (hd : d ≤ 62) (w : World) (h : Boxed w D 3 (.int .i64 d)) :
    Calls Tryz.prog 41 #[.int .i64 k, .pointer (some ⟨D, 0, none⟩)] w fun e w' => e = .returned (.string ⟨(I2 c).toArray⟩) ∧ w' = w.setCell ⟨D, 0, none⟩ (.int .i64 c) := by
  have r0 := h.cell
  have f0 := h.frozen
  have h2 := (h.set (.int .i64 c)).cell
  have w1 : IntKind.i64.wrap ((d : Int) + k) = (c : Int) := by rw [hk]; exact IntWalk.i64_in _ (by omega)
  have HR := Lib.hid (repeat_any c hc)
  have HI := Lib.hid (I2_str c)
  clear h
  go_enter Tryz.func41, Tryz.ntmps41
  go_wp2_with fail
  refine (HR.out _).mono ?_
  rintro e w' ⟨rfl, hw⟩
  subst hw
  have hsz : (⟨(List.replicate (2 * c) 32).toArray⟩ : ByteArray).size ≤ 200 := by simp [ByteArray.size]; omega
  obtain ⟨S, hS⟩ : ∃ S : ByteArray, S = ⟨(List.replicate (2 * c) 32).toArray⟩ := ⟨_, rfl⟩
  rw [← hS] at hsz HI ⊢
  clear hS
  go_wp2_with fail
  go_ret
  exact ⟨by rw [← HI.out]; rfl, rfl⟩
set_option maxRecDepth 100000 in
set_option maxHeartbeats 2000000 in
theorem lines_any (w : World) : Calls Tryz.prog 25 #[] w fun e w' => e = .returned (.func (.func 41) #[] #[.pointer (some ⟨w.heap.size, 0, none⟩)]) ∧ w' = w.alloc (.cells #[.int .i64 0] 3) := by
  go_enter Tryz.func25, Tryz.ntmps25
  go_wp2_with fail
  go_ret
  exact ⟨rfl, rfl⟩
end Go.Proofs.YtllkcldckehipaaGreatDoor

namespace Go.Proofs.YtllkcldckehipaaGreatDoor
open Go.RowKit Go.Shelf

def StB (D : Nat) (d : Nat) (W : World) : Prop := Boxed W D 3 (.int .i64 d)
theorem pgv_other {H b D : Nat} {C : ByteArray} {L : Value} {cs : List UInt8} {ov : Bool} {W : World} (h : PG H b C L cs ov W) (hD : D < H) (hne : D ≠ b) (i : Nat) (u : Value) : PG H b C L cs ov (W.setCell ⟨D, i, none⟩ u) := by
  obtain ⟨p, v, hp, h1, h2, h3, h4⟩ := h
  refine ⟨p, v, hp, h1, by simpa [World.setCell] using h2, (Below.heap_setCell _ _ _ _ (fun e => hne e.symm)).trans h3, ?_⟩
  exact h4.kept (row := some D) ⟨rfl, rfl, rfl, by simp [World.setCell], fun k _ hk => Below.heap_setCell _ _ _ _ (fun e => hk (by simp [e]))⟩ (.inr (fun e => by
    have := (h4.lt D e).1
    omega))
theorem pctxB (H b D : Nat) (hb : 2 ≤ b) (hD : 2 ≤ D) (hH : D < H) (hne : D ≠ b) : Pctx H b D C2 41 #[.pointer (some ⟨D, 0, none⟩)] I2 (StB D) := by
  refine ⟨hb, hD, hH, enters_of Tryz.func41 (by kernel_rfl) rfl, fun d hd => ⟨fun W hW hst => ?_, fun W hW hst => ?_⟩, fun k W W' hst hk => ?_⟩
  · refine (lines1_any D d (d + 1) 1 (by omega) (by omega) (by omega) W hst).mono ?_
    rintro e w' ⟨rfl, rfl⟩
    exact ⟨rfl, Boxed.set _ hst, FK.setD _ _ _, fun L cs ov hp => pgv_other hp hH hne _ _⟩
  · refine (lines1_any D (d + 1) d (-1) (by omega) (by omega) (by omega) W hst).mono ?_
    rintro e w' ⟨rfl, rfl⟩
    exact ⟨rfl, Boxed.set _ hst, FK.setD _ _ _, fun L cs ov hp => pgv_other hp hH hne _ _⟩
  · exact hk.boxed hst hne hne (by decide)
set_option maxRecDepth 100000 in
set_option maxHeartbeats 4000000 in
theorem broad_any (x : V) (v : Value) (w : World) (hE : Env w) (hM : sizeV x ≤ 1000000) (hF : fineV x) (h : isV w x v) :
    Calls Tryz.prog 10 #[v] w fun e w' => e = .returned (.tuple #[.string ⟨(outS [58, 32] I2 x).toArray⟩, .int .i64 (outE [58, 32] I2 x)]) ∧ Below w.heap.size w w' := by
  obtain ⟨k, b, n, s, o, m, c, o2, m2, c2, rfl⟩ := isV_six h
  have hn := World.alloc_heap_new w (.cells #[.int .i8 k, .bool b, .int .i64 n, .string s, .slice o m c, .slice o2 m2 c2] 26)
  have hb := kbA (w := w) (o := .cells #[.int .i8 k, .bool b, .int .i64 n, .string s, .slice o m c, .slice o2 m2 c2] 26)
  have hE2 := hE.1
  have hz : (w.alloc (.cells #[.int .i8 k, .bool b, .int .i64 n, .string s, .slice o m c, .slice o2 m2 c2] 26)).heap.size = w.heap.size + 1 := by simp
  have HP : Hid (∀ w0, KB w w0 → w0.heap.size = w.heap.size + 1 → ∀ w1, w1 = ((w0.alloc (.cells #[.int .i64 0] 3)).alloc (.cells #[.pointer none, .slice none 0 0, .string C2, .func (.func 41) #[] #[.pointer (some ⟨w0.heap.size, 0, none⟩)], .bool false] 46)) → Calls Tryz.prog 19 #[.agg #[.int .i8 k, .bool b, .int .i64 n, .string s, .slice o m c, .slice o2 m2 c2], .pointer (some ⟨w0.heap.size + 1, 0, none⟩)] w1 fun e w' => e = .returned (.tuple #[.string ⟨(outS [58, 32] I2 x).toArray⟩, .int .i64 (outE [58, 32] I2 x)]) ∧ Below w0.heap.size w1 w') := Lib.hid (by
    rintro w0 hK hz0 w1 rfl
    have hb1 : Below w0.heap.size w0 ((w0.alloc (.cells #[.int .i64 0] 3)).alloc (.cells #[.pointer none, .slice none 0 0, .string C2, .func (.func 41) #[] #[.pointer (some ⟨w0.heap.size, 0, none⟩)], .bool false] 46)) := by go_grown
    have hb2 := hK.trans (hb1.mono hK.size)
    have hn0 := World.alloc_heap_new w0 (.cells #[.int .i64 0] 3)
    have hn1 := World.alloc_heap_new (w0.alloc (.cells #[.int .i64 0] 3)) (.cells #[.pointer none, .slice none 0 0, .string C2, .func (.func 41) #[] #[.pointer (some ⟨w0.heap.size, 0, none⟩)], .bool false] 46)
    rw [World.size_alloc] at hn1
    have hbx : StB w0.heap.size 0 ((w0.alloc (.cells #[.int .i64 0] 3)).alloc (.cells #[.pointer none, .slice none 0 0, .string C2, .func (.func 41) #[] #[.pointer (some ⟨w0.heap.size, 0, none⟩)], .bool false] 46)) := (Below.heap_alloc _ _ _ (by simp)).trans hn0
    refine (printed_any (b := w0.heap.size + 1) (D := w0.heap.size) (lo := w0.heap.size) (C := C2) (I := I2) (St := StB w0.heap.size) x _ _ (hE.kb hb2) hM hF
      (fun H hH => pctxB H (w0.heap.size + 1) w0.heap.size (by omega) (by omega) (by simp at hH; omega) (by omega)) (by decide) (fun d hd => by rw [I2_len]; omega) ⟨by omega, by omega⟩ (by simp) (isVa_mono (fun q hq => by
        have hq' : q < w.heap.size := hq
        exact ⟨by simp; omega, by omega, by omega⟩) _ _ (isVa_keep (fun a c _ hc => cell_below hb2 a c hc) _ _ (isVa_of _ _ h))) hn1 hbx).mono ?_
    rintro e w' ⟨rfl, hb3⟩
    exact ⟨rfl, hb3⟩)
  have HB := Lib.hid hb
  have HN := Lib.hid hn
  have HZ := Lib.hid hz
  unfold C2 at HP
  clear h hE hM hF hb hE2 hn hz
  go_enter Tryz.func10, Tryz.ntmps10
  go_wp2_with fail
  generalize w.alloc (.cells #[.int .i8 k, .bool b, .int .i64 n, .string s, .slice o m c, .slice o2 m2 c2] 26) = w0 at *
  have HBD : Hid (Below w0.heap.size w0 (w0.drew.alloc (.cells #[.int .i64 0] 3))) := Lib.hid ((Below.refl _ _).drew.alloc (Nat.le_refl _) _)
  have HBE : Hid (Below w0.heap.size w0 ((w0.drew.alloc (.cells #[.int .i64 0] 3)).alloc (.cells #[.pointer none, .slice none 0 0, .string ⟨#[58, 32]⟩, .func (.func 41) #[] #[.pointer (some ⟨w0.drew.heap.size, 0, none⟩)], .bool false] 46))) := Lib.hid (HBD.out.alloc (Nat.le_trans (Nat.le_refl _) HBD.out.size) _)
  have HS6 : Hid (∀ W, Below w0.heap.size w0 W → W.cell? ⟨w.heap.size, 0, none⟩ = some (.int .i8 k) ∧ W.cell? ⟨w.heap.size, 1, none⟩ = some (.bool b) ∧ W.cell? ⟨w.heap.size, 2, none⟩ = some (.int .i64 n) ∧ W.cell? ⟨w.heap.size, 3, none⟩ = some (.string s) ∧ W.cell? ⟨w.heap.size, 4, none⟩ = some (.slice o m c) ∧ W.cell? ⟨w.heap.size, 5, none⟩ = some (.slice o2 m2 c2)) := Lib.hid fun W hW => six_cells ((hW.block _ (Array.getElem?_eq_some_iff.1 HN.out).1).trans HN.out)
  obtain ⟨r0, r1, r2, r3, r4, r5⟩ := six_cells HN.out
  go_region_held3 (fun w' => w'.cell? ⟨w.heap.size, 0, none⟩ = some (.int .i8 k) ∧ w'.cell? ⟨w.heap.size, 1, none⟩ = some (.bool b) ∧ w'.cell? ⟨w.heap.size, 2, none⟩ = some (.int .i64 n) ∧ w'.cell? ⟨w.heap.size, 3, none⟩ = some (.string s) ∧ w'.cell? ⟨w.heap.size, 4, none⟩ = some (.slice o m c) ∧ w'.cell? ⟨w.heap.size, 5, none⟩ = some (.slice o2 m2 c2)) (first | go_keep)
    (first
      | (go_at_call 25; refine (lines_any _).mono ?_; rintro e w3 ⟨rfl, rfl⟩; obtain ⟨r0, r1, r2, r3, r4, r5⟩ := HS6.out _ HBD.out)
      | (go_at_call 19; refine (HP.out w0.drew HB.out.drew HZ.out _ rfl).mono ?_; rintro e w4 ⟨rfl, hb4⟩; obtain ⟨r0, r1, r2, r3, r4, r5⟩ := HS6.out _ (HBE.out.trans hb4)))
  all_goals
    have HB4 := Lib.hid (HB.out.trans ((HBE.out.trans hb4).mono HB.out.size))
    clear hb4
    go_wp2_with fail
    go_ret2
    exact ⟨rfl, HB4.out⟩
end Go.Proofs.YtllkcldckehipaaGreatDoor
