/-
  Parse: the law's own texts, the law, what the rows lay.
-/
import Derived.Test.YtgbagdfcdljleaaDoorIA
import Derived.Test.YtgbagdfcdljleaaDoorRows
import Derived.Test.YtgbagdfcdljleaaDoorEsc
import Derived.Lib.LaidU8
import Derived.PinnedBridge
import Derived.ProofKit
import Derived.OpenShut
import Derived.ShutString
import Derived.ChangeOld
import Derived.LaidMore
import Derived.Lay
set_option linter.unusedVariables false
set_option linter.unusedSimpArgs false
namespace Go.Proofs.YtgbagdfcdljleaaDoor
open Go.RowKit Go.Maps

def wkT1 : List UInt8 := [123, 34, 97, 34, 58, 91, 49, 44, 110, 117, 108, 108, 93, 125]
def wkT2 : List UInt8 := [91, 49, 44, 93]
def wkT3 : List UInt8 := [123, 34, 97, 34, 58, 49, 44, 34, 97, 34, 58, 50, 125]
def wkB1 (r : Except Er V) : Bool :=
  match r with
  | .ok (.mk k _ _ _ [.mk _ _ _ _ [_, _] _] _) => decide (k = 5)
  | _ => false
def wkB2 (r : Except Er V) (a b : Nat) : Bool :=
  match r with
  | .error q => decide (q.1 = a) && decide (q.2 = b)
  | _ => false
theorem wk2 : wkB2 (parM wkT2) 3 40 = true := by kernel_rfl
theorem wk3 : wkB2 (parM wkT3) 7 41 = true := by kernel_rfl
theorem wk1 : wkB1 (parM wkT1) = true := by kernel_rfl
theorem wkE1 : ∃ b n s k1 b1 n1 s1 y z ks1 ks, parM wkT1 = .ok (.mk 5 b n s [.mk k1 b1 n1 s1 [y, z] ks1] ks) := by
  have h := wk1
  unfold wkB1 at h
  split at h
  · rename_i h1; rw [h1]; have := of_decide_eq_true h; subst this; exact ⟨_, _, _, _, _, _, _, _, _, _, _, rfl⟩
  · cases h
theorem wkE2 {l : List UInt8} {a b : Nat} (h : wkB2 (parM l) a b = true) : parM l = .error (a, b) := by
  unfold wkB2 at h
  split at h
  · rename_i q h1
    rw [h1]
    simp at h
    obtain ⟨q1, q2⟩ := q
    obtain ⟨rfl, rfl⟩ := h
    rfl
  · cases h
def Wk1 (w : World) (e : Ending) (w1 : World) : Prop :=
  ∃ b n s a cap o' n' cap' o2 cap2, e = .returned (.tuple #[.agg #[.int .i8 5, .bool b, .int .i64 n, .string s, .slice (some a) 1 cap, .slice o' n' cap'], .int .i64 0, .int .i64 0]) ∧ w1.cell? (a.add 4) = some (.slice o2 2 cap2) ∧ 1 ≤ cap ∧ cap ≤ maxLen ∧ 2 ≤ cap2 ∧ cap2 ≤ maxLen ∧ Below w.heap.size w w1
theorem wk_form {w : World} {e : Ending} {w1 : World} (h1 : ParR w (parM wkT1) e w1) : Wk1 w e w1 := by
  obtain ⟨b1, n1, s1, k2, b2, n2, s2, y, z, ks2, ks1, hp⟩ := wkE1
  rw [hp] at h1
  obtain ⟨val, rfl, hv, hb1⟩ := h1
  unfold isV at hv
  obtain ⟨lv, kv, rfl, _, _, _, ⟨a, cap, ⟨o, rfl, hle, hcl, ho⟩, hm⟩, ⟨a', cap', ⟨o', rfl, hle', hcl', ho'⟩, _⟩⟩ := hv
  simp only [List.length_cons, List.length_nil] at hle ho
  obtain rfl := ho (by omega)
  unfold isVs at hm
  obtain ⟨⟨c0, c1, c2, c3, c4, c5, m0, m1, m2, m3, m4, m5, hq⟩, _⟩ := hm
  unfold isV at hq
  obtain ⟨lv, kv, hq, _, _, _, ⟨a2, cap2, ⟨o2, rfl, hle2, hcl2, ho2⟩, _⟩, _⟩ := hq
  simp only [Value.agg.injEq, Array.mk.injEq, List.cons.injEq, and_true] at hq
  obtain ⟨rfl, rfl, rfl, rfl, rfl, rfl⟩ := hq
  simp only [List.length_cons, List.length_nil] at hle2 m4
  exact ⟨_, _, _, _, _, _, _, _, _, _, rfl, m4, hle, hcl, hle2, hcl2, hb1⟩
def wkS1 : ByteArray := ⟨#[123, 34, 97, 34, 58, 91, 49, 44, 110, 117, 108, 108, 93, 125]⟩
def wkS2 : ByteArray := ⟨#[91, 49, 44, 93]⟩
def wkS3 : ByteArray := ⟨#[123, 34, 97, 34, 58, 49, 44, 34, 97, 34, 58, 50, 125]⟩
theorem wkC1 (w : World) (hE : Ru.Env w) : Calls Tryd.prog 8 #[.string wkS1] w fun e w1 => Wk1 w e w1 :=
  (Parse_any wkS1 (by decide) w hE).mono fun e w1 h => wk_form h
theorem wkC2 (w : World) (hE : Ru.Env w) : Calls Tryd.prog 8 #[.string wkS2] w fun e w1 => e = .returned (.tuple #[zeroV, .int .i64 3, .int .i64 40]) ∧ Below w.heap.size w w1 :=
  (Parse_any wkS2 (by decide) w hE).mono fun e w1 h => by
    have h : ParR w (parM wkT2) e w1 := h
    rw [wkE2 wk2] at h
    exact h
theorem wkC3 (w : World) (hE : Ru.Env w) : Calls Tryd.prog 8 #[.string wkS3] w fun e w1 => e = .returned (.tuple #[zeroV, .int .i64 7, .int .i64 41]) ∧ Below w.heap.size w w1 :=
  (Parse_any wkS3 (by decide) w hE).mono fun e w1 h => by
    have h : ParR w (parM wkT3) e w1 := h
    rw [wkE2 wk3] at h
    exact h
/-- A new box of a value, written at once. -/
theorem newbox (w1 : World) (cs : Array Value) {X : World} (hX : X = w1.alloc (.cells cs 28)) :
    Below w1.heap.size w1 X ∧ Bx X w1.heap.size cs 28 := by
  subst hX
  exact ⟨(Below.refl _ w1).alloc (Nat.le_refl _) _, Bx.new w1 _ _⟩
set_option maxRecDepth 100000 in
set_option maxHeartbeats 1000000 in
theorem wakes_any (w : World) (hE : Ru.Env w) :
    Calls Tryd.prog 7 #[] w fun e w' => e = .returned (.bool true) ∧ Below w.heap.size w w' := by
  have H1 := Lib.hid (wkC1 w hE)
  have HE := Lib.hid hE
  unfold wkS1 at H1
  clear hE
  go_enter Tryd.func7, Tryd.ntmps7
  go_wp2_with fail
  refine H1.out.mono ?_
  rintro e w1 ⟨b, n, s, a, cap, o', n', cap', o2, cap2, rfl, hm, hc1, hc2, hc3, hc4, hb⟩
  have HM := Lib.hid hm
  have HC := Lib.hid (And.intro hc1 (And.intro hc2 (And.intro hc3 hc4)))
  have HB := Lib.hid hb
  clear hm hc1 hc2 hc3 hc4 hb H1
  go_upto_region 2 with fail
  obtain ⟨X, hX⟩ : ∃ X, X = w1.alloc (.cells #[.int .i8 5, .bool b, .int .i64 n, .string s, .slice (some a) 1 cap, .slice o' n' cap'] 28) := ⟨_, rfl⟩
  rw [← hX]
  obtain ⟨kX, bx⟩ := newbox w1 _ hX
  have hmX : X.cell? (a.add 4) = some (.slice o2 2 cap2) := (kX.cell (World.block_lt_of_cell? _ _ HM.out)).trans HM.out
  have HM2 := Lib.hid hmX
  have HX := Lib.hid bx
  have hw : Below w.heap.size w X := HB.out.trans (kX.mono HB.out.size)
  have H2 := Lib.hid (wkC2 X (HE.out.below hw HE.out.1))
  have HW := Lib.hid hw
  unfold wkS2 at H2
  generalize w1.heap.size = q1 at *
  clear hX kX bx hw hmX HM
  go_wp2_with fail
  refine H2.out.mono ?_
  rintro e w2 ⟨rfl, hb2⟩
  have HB2 := Lib.hid hb2
  clear hb2 H2
  unfold zeroV
  go_upto_region 3 with fail
  obtain ⟨Y, hY⟩ : ∃ Y, Y = w2.alloc (.cells #[.int .i8 0, .bool false, .int .i64 0, .string ⟨#[]⟩, .slice none 0 0, .slice none 0 0] 28) := ⟨_, rfl⟩
  rw [← hY]
  obtain ⟨kY, -⟩ := newbox w2 _ hY
  have hxy : Below X.heap.size X Y := HB2.out.trans (kY.mono HB2.out.size)
  have HXY := Lib.hid hxy
  have H3 := Lib.hid (wkC3 Y (HE.out.below (HW.out.trans (hxy.mono HW.out.size)) HE.out.1))
  unfold wkS3 at H3
  generalize w2.heap.size = q2 at *
  clear hY kY hxy
  go_wp2_with fail
  refine H3.out.mono ?_
  rintro e w3 ⟨rfl, hb3⟩
  have HB3 := Lib.hid hb3
  clear hb3 H3
  unfold zeroV
  go_upto_region 4 with fail
  obtain ⟨Z, hZ⟩ : ∃ Z, Z = w3.alloc (.cells #[.int .i8 0, .bool false, .int .i64 0, .string ⟨#[]⟩, .slice none 0 0, .slice none 0 0] 28) := ⟨_, rfl⟩
  rw [← hZ]
  obtain ⟨kZ, -⟩ := newbox w3 _ hZ
  have hyz : Below Y.heap.size Y Z := HB3.out.trans (kZ.mono HB3.out.size)
  have hxz : Below X.heap.size X Z := HXY.out.trans (hyz.mono HXY.out.size)
  have bz := HX.out.below hxz
  have h0 : Z.cell? ⟨q1, 0, none⟩ = some (.int .i8 5) := bz.cell 0
  have h4 : Z.cell? ⟨q1, 4, none⟩ = some (.slice (some a) 1 cap) := bz.cell 4
  have hm : Z.cell? (a.add 4) = some (.slice o2 2 cap2) := (hxz.cell (World.block_lt_of_cell? _ _ HM2.out)).trans HM2.out
  have hm : Z.cell? ⟨a.block, a.off + 4, none⟩ = some (.slice o2 2 cap2) := hm
  obtain ⟨hc1, hc2, hc3, hc4⟩ := HC.out
  have HWZ := Lib.hid (HW.out.trans (hxz.mono HW.out.size))
  generalize w3.heap.size = q3 at *
  clear HX HM2 HC HB HB2 HB3 HXY HW HE hZ kZ hyz hxz bz
  go_wp2_with fail
  refine bodyPost_ret (v := .bool true) (by simp [results, Tryd.results7, go_sem]) rfl ?_
  first | exact ⟨rfl, HWZ.out⟩ | exact ⟨rfl, HWZ.out.drew⟩
end Go.Proofs.YtgbagdfcdljleaaDoor

namespace Go.Proofs.YtgbagdfcdljleaaDoor
open Go.RowKit Go.Maps

def grB (n : Nat) : Bool := decide (3000 < n ∧ n ≤ 4096) || decide (9000 < n)
set_option maxRecDepth 100000 in
set_option maxHeartbeats 1000000 in
theorem great_any (s : ByteArray) (w : World) :
    Calls Tryd.prog 6 #[.string s] w fun e w' => e = .returned (.bool (grB s.size)) ∧ w' = w := by
  unfold grB
  rcases Nat.lt_or_ge 3000 s.size with h1 | h1
  · rcases Nat.lt_or_ge 4096 s.size with h2 | h2
    · rcases Nat.lt_or_ge 9000 s.size with h3 | h3
      · rw [decide_eq_false (by omega : ¬ (3000 < s.size ∧ s.size ≤ 4096)), decide_eq_true h3]
        have a1 : decide ((3000 : Int) < (s.size : Int)) = true := decide_eq_true (by omega)
        have a2 : decide (3000 < s.size) = true := decide_eq_true h1
        have b1 : decide ((s.size : Int) ≤ 4096) = false := decide_eq_false (by omega)
        have b2 : decide (s.size ≤ 4096) = false := decide_eq_false (by omega)
        have c1 : decide ((9000 : Int) < (s.size : Int)) = true := decide_eq_true (by omega)
        have c2 : decide (9000 < s.size) = true := decide_eq_true h3
        clear h1 h2 h3
        go_enter Tryd.func6, Tryd.ntmps6
        go_wp2_with fail
        refine bodyPost_ret (v := .bool true) (by simp [results, Tryd.results6, go_sem]) rfl ?_
        exact ⟨rfl, rfl⟩
      · rw [decide_eq_false (by omega : ¬ (3000 < s.size ∧ s.size ≤ 4096)), decide_eq_false (by omega : ¬ 9000 < s.size)]
        have a1 : decide ((3000 : Int) < (s.size : Int)) = true := decide_eq_true (by omega)
        have a2 : decide (3000 < s.size) = true := decide_eq_true h1
        have b1 : decide ((s.size : Int) ≤ 4096) = false := decide_eq_false (by omega)
        have b2 : decide (s.size ≤ 4096) = false := decide_eq_false (by omega)
        have c1 : decide ((9000 : Int) < (s.size : Int)) = false := decide_eq_false (by omega)
        have c2 : decide (9000 < s.size) = false := decide_eq_false (by omega)
        clear h1 h2 h3
        go_enter Tryd.func6, Tryd.ntmps6
        go_wp2_with fail
        refine bodyPost_ret (v := .bool false) (by simp [results, Tryd.results6, go_sem]) rfl ?_
        exact ⟨rfl, rfl⟩
    · rw [decide_eq_true (And.intro h1 h2), Bool.true_or]
      have a1 : decide ((3000 : Int) < (s.size : Int)) = true := decide_eq_true (by omega)
      have a2 : decide (3000 < s.size) = true := decide_eq_true h1
      have b1 : decide ((s.size : Int) ≤ 4096) = true := decide_eq_true (by omega)
      have b2 : decide (s.size ≤ 4096) = true := decide_eq_true h2
      clear h1 h2
      go_enter Tryd.func6, Tryd.ntmps6
      go_wp2_with fail
      refine bodyPost_ret (v := .bool true) (by simp [results, Tryd.results6, go_sem]) rfl ?_
      exact ⟨rfl, rfl⟩
  · rw [decide_eq_false (by omega : ¬ (3000 < s.size ∧ s.size ≤ 4096)), decide_eq_false (by omega : ¬ 9000 < s.size)]
    have a1 : decide ((3000 : Int) < (s.size : Int)) = false := decide_eq_false (by omega)
    have a2 : decide (3000 < s.size) = false := decide_eq_false (by omega)
    have c1 : decide ((9000 : Int) < (s.size : Int)) = false := decide_eq_false (by omega)
    have c2 : decide (9000 < s.size) = false := decide_eq_false (by omega)
    clear h1
    go_enter Tryd.func6, Tryd.ntmps6
    go_wp2_with fail
    refine bodyPost_ret (v := .bool false) (by simp [results, Tryd.results6, go_sem]) rfl ?_
    exact ⟨rfl, rfl⟩
theorem parM_err {s : List UInt8} {r : Er} (h : parM s = .error r) : r.2 ≠ 0 := by
  unfold parM at h
  split at h
  · cases h; decide
  rename_i h0
  have hk : bl s 0 ≤ s.length := bl_le s 0 (Nat.zero_le _)
  rw [valI_M hk] at h
  split at h
  · rename_i r' h1; cases h; exact valM_err hk h1
  · split at h
    · cases h; exact (by decide : (40 : Nat) ≠ 0)
    · cases h
theorem isV_form {W : World} {x : V} {v : Value} (h : isV W x v) : ∃ bo nu te o1 n1 c1 o2 n2 c2, v = .agg #[.int .i8 x.kind, .bool bo, .int .i64 nu, .string te, .slice o1 n1 c1, .slice o2 n2 c2] := by
  obtain ⟨k, bo, n, te, l, ks⟩ := x
  unfold isV at h
  obtain ⟨lv, kv, rfl, _, _, _, ⟨a, cap, ⟨o, rfl, _⟩, _⟩, ⟨a2, cap2, ⟨o2, rfl, _⟩, _⟩⟩ := h
  exact ⟨_, _, _, _, _, _, _, _, _, rfl⟩
set_option maxRecDepth 100000 in
set_option maxHeartbeats 1000000 in
theorem cuts_great (s : ByteArray) (cut : Int) (hs : 3000 < s.size) (w : World) (hE : Ru.Env w) :
    Calls Tryd.prog 5 #[.string s, .int .i64 cut] w fun e w' => e = .returned (.bool true) ∧ Below w.heap.size w w' := by
  have HW := Lib.hid (wakes_any w hE)
  have HG := Lib.hid (great_any s w)
  have a1 : decide ((3000 : Int) < (s.size : Int)) = true := decide_eq_true (by omega)
  have a2 : decide (3000 < s.size) = true := decide_eq_true hs
  clear hE
  cases hg : grB s.size with
  | true =>
    rw [hg] at HG
    clear hs hg
    go_enter Tryd.func5, Tryd.ntmps5
    go_wp2_with fail
    refine HG.out.mono ?_
    rintro e w1 ⟨rfl, rfl⟩
    go_wp2_with fail
    refine HW.out.mono ?_
    rintro e w2 ⟨rfl, hb⟩
    have HBB := Lib.hid hb
    clear hb
    go_wp2_with fail
    refine bodyPost_ret (v := .bool true) (by simp [results, Tryd.results5, go_sem]) rfl ?_
    first | exact ⟨rfl, HBB.out⟩ | exact ⟨rfl, HBB.out.drew⟩
  | false =>
    rw [hg] at HG
    clear hs hg
    go_enter Tryd.func5, Tryd.ntmps5
    go_wp2_with fail
    refine HG.out.mono ?_
    rintro e w1 ⟨rfl, rfl⟩
    go_wp2_with fail
    refine HW.out.mono ?_
    rintro e w2 ⟨rfl, hb⟩
    have HBB := Lib.hid hb
    clear hb
    go_wp2_with fail
    refine bodyPost_ret (v := .bool true) (by simp [results, Tryd.results5, go_sem]) rfl ?_
    first | exact ⟨rfl, HBB.out⟩ | exact ⟨rfl, HBB.out.drew⟩
theorem grB_small {n : Nat} (h : n ≤ 3000) : grB n = false := by
  unfold grB
  rw [decide_eq_false (by omega), decide_eq_false (by omega)]
  rfl
set_option maxRecDepth 100000 in
set_option maxHeartbeats 1000000 in
theorem cuts_err (s : ByteArray) (cut : Int) (hs : s.size ≤ 3000) {a c : Nat} (hp : parM s.data.toList = .error (a, c)) (w : World) (hE : Ru.Env w) :
    Calls Tryd.prog 5 #[.string s, .int .i64 cut] w fun e w' => e = .returned (.bool true) ∧ Below w.heap.size w w' := by
  have HG := Lib.hid (great_any s w)
  rw [grB_small hs] at HG
  have HP := Lib.hid (Parse_any s (by omega) w hE)
  rw [hp] at HP
  have a1 : decide ((3000 : Int) < (s.size : Int)) = false := decide_eq_false (by omega)
  have a2 : decide (3000 < s.size) = false := decide_eq_false (by omega)
  have hne : c ≠ 0 := parM_err hp
  have t1 : ((c : Int) == 0) = false := by rw [beq_eq_false_iff_ne]; omega
  have t2 : ((c : Int) != 0) = true := by rw [bne_iff_ne]; omega
  have HE := Lib.hid hE
  clear hs hp hne hE
  go_enter Tryd.func5, Tryd.ntmps5
  go_wp2_with fail
  refine HG.out.mono ?_
  rintro e w1 ⟨rfl, rfl⟩
  go_wp2_with fail
  refine HP.out.mono ?_
  rintro e w1 ⟨rfl, hb⟩
  have HB := Lib.hid hb
  clear hb
  unfold zeroV
  go_upto_region 4 with fail
  obtain ⟨X, hX⟩ : ∃ X, X = w1.alloc (.cells #[.int .i8 0, .bool false, .int .i64 0, .string ⟨#[]⟩, .slice none 0 0, .slice none 0 0] 28) := ⟨_, rfl⟩
  rw [← hX]
  obtain ⟨kX, -⟩ := newbox w1 _ hX
  have HW := Lib.hid (wakes_any X (HE.out.below (HB.out.trans (kX.mono HB.out.size)) HE.out.1))
  have hwx := HB.out.trans (kX.mono HB.out.size)
  have HWX := Lib.hid hwx
  clear hX kX hwx
  go_wp2_with fail
  refine HW.out.mono ?_
  rintro e w2 ⟨rfl, hb⟩
  have HBB := Lib.hid (HWX.out.trans (hb.mono HWX.out.size))
  clear hb
  go_wp2_with fail
  refine bodyPost_ret (v := .bool true) (by simp [results, Tryd.results5, go_sem]) rfl ?_
  first | exact ⟨rfl, HBB.out⟩ | exact ⟨rfl, HBB.out.drew⟩
end Go.Proofs.YtgbagdfcdljleaaDoor

namespace Go.Proofs.YtgbagdfcdljleaaDoor
open Go.RowKit Go.Maps

theorem parX (t : ByteArray) (ht : t.size ≤ 50000) {n c : Nat} (hx : parM t.data.toList = .error (n, c)) (w : World) (hE : Ru.Env w) :
    Calls Tryd.prog 8 #[.string t] w fun e w' => e = .returned (.tuple #[zeroV, .int .i64 n, .int .i64 c]) ∧ Below w.heap.size w w' :=
  (Parse_any t ht w hE).mono fun e w' h => by
    rw [hx] at h
    exact h
theorem parC (t : ByteArray) (ht : t.size ≤ 50000) (kd : Int) (h : (∃ q, parM t.data.toList = .error q) ∨ kd = 2) (w : World) (hE : Ru.Env w) :
    Calls Tryd.prog 8 #[.string t] w fun e w' => ∃ (k : Int) (b : Bool) (n : Int) (x : ByteArray) (o1 : Option Addr) (n1 c1 : Nat) (o2 : Option Addr) (n2 c2 p c : Nat), e = .returned (.tuple #[.agg #[.int .i8 k, .bool b, .int .i64 n, .string x, .slice o1 n1 c1, .slice o2 n2 c2], .int .i64 p, .int .i64 c]) ∧ (c ≠ 0 ∨ kd = 2) ∧ Below w.heap.size w w' :=
  (Parse_any t ht w hE).mono fun e w' h' => by
    cases hp : parM t.data.toList with
    | error q =>
      rw [hp] at h'
      exact ⟨_, _, _, _, _, _, _, _, _, _, _, _, h'.1, .inl (parM_err hp), h'.2⟩
    | ok v =>
      rw [hp] at h'
      obtain ⟨val, rfl, hv, hb⟩ := h'
      obtain ⟨bo, nu, te, o1, n1, c1, o2, n2, c2, rfl⟩ := isV_form hv
      refine ⟨_, _, _, _, _, _, _, _, _, _, 0, 0, rfl, .inr ?_, hb⟩
      rcases h with ⟨q, h⟩ | h
      · rw [hp] at h; cases h
      · exact h
theorem ext_list (s : ByteArray) (C : Nat) : (s.extract 0 C).data.toList = s.data.toList.take C := by
  rw [ByteArray.data_extract, Array.toList_extract]
  simp
theorem ext_size {s : ByteArray} {C : Nat} (h : C ≤ s.size) (hs : s.size ≤ 3000) : (s.extract 0 C).size ≤ 50000 := by
  rw [ByteArray.size_extract]
  omega
theorem cutN (cut : Int) {K E : Nat} (h : K < E) (hE : E ≤ 3000) : ∃ (D C : Nat) (r1 r2 r3 : Int), wrap64 ((E : Int) - (K : Int)) = (D : Int) ∧ (D : Int) ≠ 0 ∧ wrap64 (cut.tmod (D : Int) + (E : Int)) = r1 ∧ wrap64 (r1 - (K : Int)) = r2 ∧ r2.tmod (D : Int) = r3 ∧ wrap64 ((K : Int) + r3) = (C : Int) ∧ K ≤ C ∧ C < E := by
  have h1 : cut.tmod ((E - K : Nat) : Int) < ((E - K : Nat) : Int) := Int.tmod_lt_of_pos cut (by omega)
  have h2 : -((E - K : Nat) : Int) < cut.tmod ((E - K : Nat) : Int) := Int.lt_tmod_of_pos cut (by omega)
  obtain ⟨r, hr⟩ : ∃ r, cut.tmod ((E - K : Nat) : Int) = r := ⟨_, rfl⟩
  rw [hr] at h1 h2
  have h4 := Int.emod_nonneg (r + (E : Int) - (K : Int)) (show ((E - K : Nat) : Int) ≠ 0 by omega)
  have h5 := Int.emod_lt_of_pos (r + (E : Int) - (K : Int)) (show 0 < ((E - K : Nat) : Int) by omega)
  refine ⟨E - K, K + ((r + (E : Int) - (K : Int)) % ((E - K : Nat) : Int)).toNat, r + E, r + E - K, (r + (E : Int) - (K : Int)) % ((E - K : Nat) : Int), ?_, by omega, ?_, ?_, ?_, ?_, by omega, by omega⟩
  · rw [wrap64]; omega
  · rw [hr, wrap64]; omega
  · rw [wrap64]; omega
  · exact Int.tmod_eq_emod_of_nonneg (by omega)
  · generalize (r + (E : Int) - (K : Int)) % ((E - K : Nat) : Int) = m at *
    rw [wrap64]; omega
theorem app_size {s : ByteArray} (hs : s.size ≤ 3000) : (s ++ (⟨#[120]⟩ : ByteArray)).size ≤ 50000 := by
  rw [ByteArray.size_append]
  have : (⟨#[120]⟩ : ByteArray).size = 1 := rfl
  omega
theorem app_list (s : ByteArray) : (s ++ (⟨#[120]⟩ : ByteArray)).data.toList = s.data.toList ++ [120] := by simp
set_option maxRecDepth 100000 in
set_option maxHeartbeats 1000000 in
theorem cuts_ok (s : ByteArray) (cut : Int) (hs : s.size ≤ 3000) {v : V} (hp : parM s.data.toList = .ok v) (w : World) (hE : Ru.Env w) :
    Calls Tryd.prog 5 #[.string s, .int .i64 cut] w fun e w' => e = .returned (.bool true) ∧ Below w.heap.size w w' := by
  have HG := Lib.hid (great_any s w)
  rw [grB_small hs] at HG
  have HP := Lib.hid (Parse_any s (by omega) w hE)
  rw [hp] at HP
  have a1 : decide ((3000 : Int) < (s.size : Int)) = false := decide_eq_false (by omega)
  have a2 : decide (3000 < s.size) = false := decide_eq_false (by omega)
  obtain ⟨_, p1, E, p2, p3, p4, p5⟩ := parM_ok hp
  have hx := par_x hp (by rw [toList_length]; omega)
  have hcut : ∀ c : Nat, bl s.data.toList 0 ≤ c → c < E → (∃ q, parM (s.data.toList.take c) = .error q) ∨ v.kind = 2 := fun c h1 h2 => par_cut hp p2 h1 h2
  obtain ⟨K, hK⟩ : ∃ K, bl s.data.toList 0 = K := ⟨_, rfl⟩
  rw [toList_length] at p1 p4 p5 hx
  rw [hK] at p1 p2 p3 hcut
  have hB0 : ∀ w, Calls Tryd.prog 14 #[.string s, .int .i64 0] w fun e w' => e = .returned (.int .i64 (K : Nat)) ∧ w' = w := fun w => by
    have := Blanks_any s 0 (by omega) w
    rw [show wiN s.size 0 = 0 by unfold wiN; omega, hK] at this
    exact this
  have hB1 : ∀ w, Calls Tryd.prog 14 #[.string s, .int .i64 (E : Nat)] w fun e w' => e = .returned (.int .i64 (s.size : Nat)) ∧ w' = w := fun w => by
    have := Blanks_any s (E : Nat) (by omega) w
    rw [wiN_in p4, p5] at this
    exact this
  have hV : ∀ w, Ru.Env w → Calls Tryd.prog 15 #[.string s, .int .i64 (K : Nat), .int .i64 1] w fun e w' => AnsR w (.ok (v, E)) e w' := fun w hw => p2 ▸ Value_any s K 1 (by omega) (by omega) (by decide) (by decide) w hw
  have hX : ∀ w, Ru.Env w → Calls Tryd.prog 8 #[.string (s ++ ⟨#[120]⟩)] w fun e w' => e = .returned (.tuple #[zeroV, .int .i64 (s.size : Nat), .int .i64 40]) ∧ Below w.heap.size w w' := fun w hw => parX _ (app_size hs) ((congrArg parM (app_list s)).trans hx) w hw
  have HB0 := Lib.hid hB0
  have HB1 := Lib.hid hB1
  have HV := Lib.hid hV
  have HX := Lib.hid hX
  have HC := Lib.hid hcut
  have HE := Lib.hid hE
  have HN := Lib.hid (And.intro p3 (And.intro p4 hs))
  have e1 : decide ((E : Int) ≤ (K : Int)) = false := decide_eq_false (by omega)
  have e2 : decide (E ≤ K) = false := decide_eq_false (by omega)
  clear hB0 hB1 hV hX hcut hE hx hp p1 p2 p3 p4 p5 hs hK
  go_enter Tryd.func5, Tryd.ntmps5
  go_wp2_with fail
  refine HG.out.mono ?_
  rintro e w1 ⟨rfl, rfl⟩
  go_wp2_with fail
  refine HP.out.mono ?_
  rintro e w2 ⟨val, rfl, hv, hb⟩
  obtain ⟨bo, nu, te, o1, n1, c1, o2, n2, c2, rfl⟩ := isV_form hv
  have HB := Lib.hid hb
  generalize v.kind = kd at *
  clear hb hv HP
  go_upto_region 4 with fail
  obtain ⟨X, hX⟩ : ∃ X, X = w2.alloc (.cells #[.int .i8 kd, .bool bo, .int .i64 nu, .string te, .slice o1 n1 c1, .slice o2 n2 c2] 28) := ⟨_, rfl⟩
  rw [← hX]
  obtain ⟨kX, bX⟩ := newbox w2 _ hX
  have hw := HB.out.trans (kX.mono HB.out.size)
  have HW := Lib.hid hw
  have BX := Lib.hid bX
  have HV1 := Lib.hid (HV.out X (HE.out.below hw HE.out.1))
  generalize w2.heap.size = q1 at *
  clear hX kX bX hw HV HB
  go_upto_region 6 with fail
  go_wp2_with fail
  refine (HB0.out _).mono ?_
  rintro e w0 ⟨rfl, h0⟩
  have h0 := h0.symm
  subst h0
  go_wp2_with fail
  refine HV1.out.mono ?_
  rintro e w3 ⟨val, S, rfl, hv, -, hb3⟩
  obtain ⟨kd', bo', nu', te', o1', n1', c1', o2', n2', c2', rfl⟩ := isVa_form hv
  have HB3 := Lib.hid hb3
  clear hb3 hv HV1
  go_upto_region 8 with fail
  obtain ⟨Y, hY⟩ : ∃ Y, Y = w3.alloc (.cells #[.int .i8 kd', .bool bo', .int .i64 nu', .string te', .slice o1' n1' c1', .slice o2' n2' c2'] 28) := ⟨_, rfl⟩
  rw [← hY]
  obtain ⟨kY, -⟩ := newbox w3 _ hY
  have hxy : Below X.heap.size X Y := HB3.out.trans (kY.mono HB3.out.size)
  have hwy := HW.out.trans (hxy.mono HW.out.size)
  have BY := Lib.hid (BX.out.below hxy)
  have HWY := Lib.hid hwy
  have HX1 := Lib.hid (HX.out Y (HE.out.below hwy HE.out.1))
  generalize w3.heap.size = q2 at *
  clear hY kY hxy hwy HB3 HX BX HW
  have g9 : ¬ 9223372036854775807 < s.size + 1 := by have := HN.out.2.2; omega
  have g8 : ¬ 9223372036854775807 < s.size + (⟨#[120]⟩ : ByteArray).size := g9
  have g7 : ((s.size : Int) != (s.size : Int)) = false := by simp
  go_wp2_with fail
  refine (HB1.out _).mono ?_
  rintro e w0 ⟨rfl, h0⟩
  have h0 := h0.symm
  subst h0
  go_wp2_with fail
  refine HX1.out.mono ?_
  rintro e w5 ⟨rfl, hb5⟩
  have HB5 := Lib.hid hb5
  clear hb5 HX1
  unfold zeroV
  go_upto_region 11 with fail
  obtain ⟨Z, hZ⟩ : ∃ Z, Z = w5.alloc (.cells #[.int .i8 0, .bool false, .int .i64 0, .string ⟨#[]⟩, .slice none 0 0, .slice none 0 0] 28) := ⟨_, rfl⟩
  rw [← hZ]
  obtain ⟨kZ, bZ⟩ := newbox w5 _ hZ
  have hyz : Below Y.heap.size Y Z := HB5.out.trans (kZ.mono HB5.out.size)
  have hwz := HWY.out.trans (hyz.mono HWY.out.size)
  have BZ := Lib.hid (BY.out.below hyz)
  have HWZ := Lib.hid hwz
  have z0 : Z.cell? ⟨q1, 0, none⟩ = some (.int .i8 kd) := BZ.out.cell 0
  have z1 : Z.cell? ⟨w5.heap.size, 0, none⟩ = some (.int .i8 0) := bZ.cell 0
  generalize w5.heap.size = q3 at *
  clear hZ kZ bZ hyz hwz BY HWY HB5
  obtain ⟨D, C, r1, r2, r3, f1, f0, f2, f3, f4, f5, hKC, hCE⟩ := cutN cut HN.out.1 (Nat.le_trans HN.out.2.1 HN.out.2.2)
  have f01 : ((D : Int) == 0) = false := by rw [beq_eq_false_iff_ne]; exact f0
  have f02 : decide ((D : Int) = 0) = false := decide_eq_false f0
  have hCs : C ≤ s.size := Nat.le_of_lt (Nat.lt_of_lt_of_le hCE HN.out.2.1)
  have HP := Lib.hid (parC (s.extract 0 C) (ext_size hCs HN.out.2.2) kd (by rw [ext_list s C]; exact HC.out C hKC hCE) Z (HE.out.below HWZ.out HE.out.1))
  clear hKC hCE HC
  obtain ⟨t, ht⟩ : ∃ t, (kd != 2) = t := ⟨_, rfl⟩
  have HT := Lib.hid ht
  cases t
  all_goals
    go_upto_region 13 with fail
    clear z1 ht e1 e2 g7 a1 a2
    go_wp2_with fail
    refine HP.out.mono ?_
    rintro e w6 ⟨k6, b6, n6, x6, o16, n16, c16, o26, n26, c26, p6, c6, rfl, hck, hb6⟩
    have HK6 := Lib.hid hck
    have HB6 := Lib.hid hb6
    clear hck hb6 HP
    go_upto_region 15 with fail
    obtain ⟨V6, hV6⟩ : ∃ V6, V6 = w6.alloc (.cells #[.int .i8 k6, .bool b6, .int .i64 n6, .string x6, .slice o16 n16 c16, .slice o26 n26 c26] 28) := ⟨_, rfl⟩
    rw [← hV6]
    obtain ⟨kV, -⟩ := newbox w6 _ hV6
    have hzv : Below Z.heap.size Z V6 := HB6.out.trans (kV.mono HB6.out.size)
    have HW := Lib.hid (wakes_any V6 (HE.out.below (HWZ.out.trans (hzv.mono HWZ.out.size)) HE.out.1))
    have z0 : V6.cell? ⟨q1, 0, none⟩ = some (.int .i8 kd) := (BZ.out.below hzv).cell 0
    have hwv := HWZ.out.trans (hzv.mono HWZ.out.size)
    have HWV := Lib.hid hwv
    generalize w6.heap.size = q4 at *
    clear hV6 kV hzv hwv HB6 HWZ HE BZ
    by_cases hc6 : c6 = 0
    · have hk2 : kd = 2 := HK6.out.resolve_left (fun h => h hc6)
      subst hc6
      subst hk2
      first
      | (clear HK6 HT
         go_wp2_with fail
         refine HW.out.mono ?_
         rintro e w7 ⟨rfl, hb⟩
         have HBB := Lib.hid (HWV.out.trans (hb.mono HWV.out.size))
         clear hb
         go_wp2_with fail
         refine bodyPost_ret (v := .bool true) (by simp [results, Tryd.results5, go_sem]) rfl ?_
         first | exact ⟨rfl, HBB.out⟩ | exact ⟨rfl, HBB.out.drew⟩)
      | exact absurd HT.out (by decide)
    · have t1 : ((c6 : Int) != 0) = true := by rw [bne_iff_ne]; omega
      have t2 : ((c6 : Int) == 0) = false := by rw [beq_eq_false_iff_ne]; omega
      clear hc6 HK6
      go_wp2_with fail
      refine HW.out.mono ?_
      rintro e w7 ⟨rfl, hb⟩
      have HBB := Lib.hid (HWV.out.trans (hb.mono HWV.out.size))
      clear hb
      go_wp2_with fail
      refine bodyPost_ret (v := .bool true) (by simp [results, Tryd.results5, go_sem]) rfl ?_
      first | exact ⟨rfl, HBB.out⟩ | exact ⟨rfl, HBB.out.drew⟩
/-- ParseCuts holds at every text and every cut. -/
theorem cuts_any (s : ByteArray) (cut : Int) (w : World) (hE : Ru.Env w) :
    Calls Tryd.prog 5 #[.string s, .int .i64 cut] w fun e w' => e = .returned (.bool true) ∧ Below w.heap.size w w' := by
  by_cases h : 3000 < s.size
  · exact cuts_great s cut h w hE
  · cases hp : parM s.data.toList with
    | error q => exact cuts_err s cut (by omega) (a := q.1) (c := q.2) hp w hE
    | ok v => exact cuts_ok s cut (by omega) hp w hE
end Go.Proofs.YtgbagdfcdljleaaDoor

namespace Go.Proofs.YtgbagdfcdljleaaDoor.Ru
open Go.ChangeShapes Go.WideShapes Go.ChangeAt Go.RowKit Go.Shelf
open Go.ChangeMaps (open_string shut_string)

theorem accept_eq : (Rows.laid_unicode_utf8_acceptRanges : DataW Unit) = Lib.acceptData := by kernel_rfl
theorem first_eq : Rows.laid_unicode_utf8_first = Lib.firstData := Pinned.utf8First_eq

theorem cell_of_iface {P : Program} {w : World} {fuel : Nat} {t : TypeId} {cs : List Value} {ms : Array (String × TypeId)} {n : String} {d : DataW Unit} {p : List MemPlace} (ht : P.underlying t = some (.interface ms))
    (h : DataW.trod (fun _ => ()) P w 0 (fun _ => true) false fuel t cs = some (.iface n d, p)) : ∃ u v, cs = [.iface u v] := by
  cases fuel with
  | zero => simp [DataW.trod] at h
  | succ fuel =>
    simp only [DataW.trod, ht] at h
    split at h <;> simp_all

theorem env_of_laid {laid : List (String × DataW Unit)} (hm : ("unicode/utf8.first", Rows.laid_unicode_utf8_first) ∈ laid) (hm2 : ("unicode/utf8.acceptRanges", Rows.laid_unicode_utf8_acceptRanges) ∈ laid) (hm3 : ("strconv.ErrSyntax", Rows.laid_strconv_ErrSyntax) ∈ laid)
    {W : World} (h : laidMet Tryd.prog laid W) (h7 : 7 ≤ W.heap.size) : Env W := by
  have r1 := Lib.laidMet.reads h hm
  have r2 := Lib.laidMet.reads h hm2
  have r3 := Lib.laidMet.reads h hm3
  rw [first_eq] at r1
  rw [accept_eq] at r2
  refine ⟨h7, utf8Tabs_of_reads Tryd.lays260 Tryd.u8Extra r1 r2, ?_⟩
  obtain ⟨g, t, cs, fuel, p, hg, ht, hv, hd⟩ := r3
  obtain rfl := Option.some.inj ((show Tryd.prog.globalNamed "strconv.ErrSyntax" = some 3 by kernel_rfl).symm.trans hg)
  obtain rfl := Option.some.inj ((show (Tryd.prog.globals[3]?).map (·.type) = some 100 by kernel_rfl).symm.trans ht)
  obtain ⟨u, v, hcs⟩ := cell_of_iface Tryd.underlying100 hd
  refine ⟨.iface u v, ?_, .inr ⟨u, v, rfl⟩⟩
  rw [World.var?_cell hg hv 0, ← Array.getElem?_toList, hcs]; rfl
theorem size_of_laid {laid : List (String × DataW Unit)} (hm : ("math/bits.deBruijn64tab", Rows.laid_math_bits_deBruijn64tab) ∈ laid) {W : World} (h : laidMet Tryd.prog laid W) : 7 ≤ W.heap.size := by
  obtain ⟨g, t, cs, fuel, p, hg, ht, hv, hd⟩ := Lib.laidMet.reads h hm
  obtain rfl := Option.some.inj ((show Tryd.prog.globalNamed "math/bits.deBruijn64tab" = some 7 by kernel_rfl).symm.trans hg)
  obtain rfl := Option.some.inj ((show (Tryd.prog.globals[7]?).map (·.type) = some 150 by kernel_rfl).symm.trans ht)
  have hne : cs.toList ≠ [] := by
    intro e
    rw [e] at hd
    cases fuel with
    | zero => simp [DataW.trod] at hd
    | succ fuel =>
      have hc : Tryd.prog.cellsOf 150 = 64 := by kernel_rfl
      simp [DataW.trod, Tryd.underlying150, hc] at hd
  obtain ⟨x, xs, hx⟩ : ∃ x xs, cs.toList = x :: xs := by
    cases h : cs.toList with
    | nil => exact absurd h hne
    | cons x xs => exact ⟨_, _, rfl⟩
  have h0 : W.cell? ⟨7, 0, none⟩ = some x := by rw [World.var?_cell hg hv 0, ← Array.getElem?_toList, hx]; rfl
  exact Nat.le_of_lt (World.block_lt_of_cell? _ _ h0)
end Go.Proofs.YtgbagdfcdljleaaDoor.Ru
