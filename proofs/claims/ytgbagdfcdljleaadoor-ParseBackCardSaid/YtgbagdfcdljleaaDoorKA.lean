/-
  hoarding/hoardinglaw04.wakes: three texts that stand there. · ParseCuts: the law. · What the rows' condition on the package variables gives the walks: unicode/utf8's two tables, and that strconv.ErrSyntax holds an error value. · The plain machine is made of parts: what is read within an open list or object is read as a value by itself, so much deeper. · What an argument of type Value reads as: a tree. · Contracts of Fits, Digit, digits, Text, Len, of the reference of package number. · A value's text, with blanks between all signs, is read as the value: plainly. · What is read may be: plainly; and the text of a value, with blanks around, read. · The law's text of a value. · What the reference's Check says is what was said of the texts' values; reading a value's text. · ParseBack: the law.
-/
import Derived.Test.YtgbagdfcdljleaaDoorIA
import Derived.Test.YtgbagdfcdljleaaDoorRows
import Derived.Test.YtgbagdfcdljleaaDoorEsc
import Derived.Lib.LaidU8
import Derived.PinnedBridge
import Derived.ProofKit
import Derived.OpenShut
import Derived.ShutString
import Derived.ChangeOld
import Derived.LaidMore
import Derived.Lay
import Derived.Test.YtgbagdfcdljleaaDoorHz
import Derived.Test.YtgbagdfcdljleaaDoorTV
import Derived.Deep.Slices
import Derived.Deep.Fields
import Derived.Test.YtgbagdfcdljleaaDoorNA
import Derived.Test.YtgbagdfcdljleaaDoorNM2
import Derived.Test.YtgbagdfcdljleaaDoorRA
import Derived.Test.YtgbagdfcdljleaaDoorTB
import Derived.Test.YtgbagdfcdljleaaDoorRC
import Derived.Test.YtgbagdfcdljleaaDoorTD
set_option linter.unusedVariables false
set_option linter.unusedSimpArgs false
namespace Go.Proofs.YtgbagdfcdljleaaDoor
open Go.RowKit Go.Maps

def wkT1 : List UInt8 := [123, 34, 97, 34, 58, 91, 49, 44, 110, 117, 108, 108, 93, 125]
def wkT2 : List UInt8 := [91, 49, 44, 93]
def wkT3 : List UInt8 := [123, 34, 97, 34, 58, 49, 44, 34, 97, 34, 58, 50, 125]
def wkB1 (r : Except Er V) : Bool :=
  match r with
  | .ok (.mk k _ _ _ [.mk _ _ _ _ [_, _] _] _) => decide (k = 5)
  | _ => false
def wkB2 (r : Except Er V) (a b : Nat) : Bool :=
  match r with
  | .error q => decide (q.1 = a) && decide (q.2 = b)
  | _ => false
theorem wk2 : wkB2 (parM wkT2) 3 40 = true := by kernel_rfl
theorem wk3 : wkB2 (parM wkT3) 7 41 = true := by kernel_rfl
theorem wk1 : wkB1 (parM wkT1) = true := by kernel_rfl
theorem wkE1 : ∃ b n s k1 b1 n1 s1 y z ks1 ks, parM wkT1 = .ok (.mk 5 b n s [.mk k1 b1 n1 s1 [y, z] ks1] ks) := by
  have h := wk1
  unfold wkB1 at h
  split at h
  · rename_i h1; rw [h1]; have := of_decide_eq_true h; subst this; exact ⟨_, _, _, _, _, _, _, _, _, _, _, rfl⟩
  · cases h
theorem wkE2 {l : List UInt8} {a b : Nat} (h : wkB2 (parM l) a b = true) : parM l = .error (a, b) := by
  unfold wkB2 at h
  split at h
  · rename_i q h1
    rw [h1]
    simp at h
    obtain ⟨q1, q2⟩ := q
    obtain ⟨rfl, rfl⟩ := h
    rfl
  · cases h
def Wk1 (w : World) (e : Ending) (w1 : World) : Prop :=
  ∃ b n s a cap o' n' cap' o2 cap2, e = .returned (.tuple #[.agg #[.int .i8 5, .bool b, .int .i64 n, .string s, .slice (some a) 1 cap, .slice o' n' cap'], .int .i64 0, .int .i64 0]) ∧ w1.cell? (a.add 4) = some (.slice o2 2 cap2) ∧ 1 ≤ cap ∧ cap ≤ maxLen ∧ 2 ≤ cap2 ∧ cap2 ≤ maxLen ∧ Below w.heap.size w w1
theorem wk_form {w : World} {e : Ending} {w1 : World} (h1 : ParR w (parM wkT1) e w1) : Wk1 w e w1 := by
  obtain ⟨b1, n1, s1, k2, b2, n2, s2, y, z, ks2, ks1, hp⟩ := wkE1
  rw [hp] at h1
  obtain ⟨val, rfl, hv, hb1⟩ := h1
  unfold isV at hv
  obtain ⟨lv, kv, rfl, _, _, _, ⟨a, cap, ⟨o, rfl, hle, hcl, ho⟩, hm⟩, ⟨a', cap', ⟨o', rfl, hle', hcl', ho'⟩, _⟩⟩ := hv
  simp only [List.length_cons, List.length_nil] at hle ho
  obtain rfl := ho (by omega)
  unfold isVs at hm
  obtain ⟨⟨c0, c1, c2, c3, c4, c5, m0, m1, m2, m3, m4, m5, hq⟩, _⟩ := hm
  unfold isV at hq
  obtain ⟨lv, kv, hq, _, _, _, ⟨a2, cap2, ⟨o2, rfl, hle2, hcl2, ho2⟩, _⟩, _⟩ := hq
  simp only [Value.agg.injEq, Array.mk.injEq, List.cons.injEq, and_true] at hq
  obtain ⟨rfl, rfl, rfl, rfl, rfl, rfl⟩ := hq
  simp only [List.length_cons, List.length_nil] at hle2 m4
  exact ⟨_, _, _, _, _, _, _, _, _, _, rfl, m4, hle, hcl, hle2, hcl2, hb1⟩
def wkS1 : ByteArray := ⟨#[123, 34, 97, 34, 58, 91, 49, 44, 110, 117, 108, 108, 93, 125]⟩
def wkS2 : ByteArray := ⟨#[91, 49, 44, 93]⟩
def wkS3 : ByteArray := ⟨#[123, 34, 97, 34, 58, 49, 44, 34, 97, 34, 58, 50, 125]⟩
theorem wkC1 (w : World) (hE : Ru.Env w) : Calls Tryd.prog 8 #[.string wkS1] w fun e w1 => Wk1 w e w1 :=
  (Parse_any wkS1 (by decide) w hE).mono fun e w1 h => wk_form h
theorem wkC2 (w : World) (hE : Ru.Env w) : Calls Tryd.prog 8 #[.string wkS2] w fun e w1 => e = .returned (.tuple #[zeroV, .int .i64 3, .int .i64 40]) ∧ Below w.heap.size w w1 :=
  (Parse_any wkS2 (by decide) w hE).mono fun e w1 h => by
    have h : ParR w (parM wkT2) e w1 := h
    rw [wkE2 wk2] at h
    exact h
theorem wkC3 (w : World) (hE : Ru.Env w) : Calls Tryd.prog 8 #[.string wkS3] w fun e w1 => e = .returned (.tuple #[zeroV, .int .i64 7, .int .i64 41]) ∧ Below w.heap.size w w1 :=
  (Parse_any wkS3 (by decide) w hE).mono fun e w1 h => by
    have h : ParR w (parM wkT3) e w1 := h
    rw [wkE2 wk3] at h
    exact h
/-- A new box of a value, written at once. -/
theorem newbox (w1 : World) (cs : Array Value) {X : World} (hX : X = w1.alloc (.cells cs 28)) :
    Below w1.heap.size w1 X ∧ Bx X w1.heap.size cs 28 := by
  subst hX
  exact ⟨(Below.refl _ w1).alloc (Nat.le_refl _) _, Bx.new w1 _ _⟩
set_option maxRecDepth 100000 in
set_option maxHeartbeats 1000000 in
theorem wakes_any (w : World) (hE : Ru.Env w) :
    Calls Tryd.prog 7 #[] w fun e w' => e = .returned (.bool true) ∧ Below w.heap.size w w' := by
  have H1 := Lib.hid (wkC1 w hE)
  have HE := Lib.hid hE
  unfold wkS1 at H1
  clear hE
  go_enter Tryd.func7, Tryd.ntmps7
  go_wp2_with fail
  refine H1.out.mono ?_
  rintro e w1 ⟨b, n, s, a, cap, o', n', cap', o2, cap2, rfl, hm, hc1, hc2, hc3, hc4, hb⟩
  have HM := Lib.hid hm
  have HC := Lib.hid (And.intro hc1 (And.intro hc2 (And.intro hc3 hc4)))
  have HB := Lib.hid hb
  clear hm hc1 hc2 hc3 hc4 hb H1
  go_upto_region 2 with fail
  obtain ⟨X, hX⟩ : ∃ X, X = w1.alloc (.cells #[.int .i8 5, .bool b, .int .i64 n, .string s, .slice (some a) 1 cap, .slice o' n' cap'] 28) := ⟨_, rfl⟩
  rw [← hX]
  obtain ⟨kX, bx⟩ := newbox w1 _ hX
  have hmX : X.cell? (a.add 4) = some (.slice o2 2 cap2) := (kX.cell (World.block_lt_of_cell? _ _ HM.out)).trans HM.out
  have HM2 := Lib.hid hmX
  have HX := Lib.hid bx
  have hw : Below w.heap.size w X := HB.out.trans (kX.mono HB.out.size)
  have H2 := Lib.hid (wkC2 X (HE.out.below hw HE.out.1))
  have HW := Lib.hid hw
  unfold wkS2 at H2
  generalize w1.heap.size = q1 at *
  clear hX kX bx hw hmX HM
  go_wp2_with fail
  refine H2.out.mono ?_
  rintro e w2 ⟨rfl, hb2⟩
  have HB2 := Lib.hid hb2
  clear hb2 H2
  unfold zeroV
  go_upto_region 3 with fail
  obtain ⟨Y, hY⟩ : ∃ Y, Y = w2.alloc (.cells #[.int .i8 0, .bool false, .int .i64 0, .string ⟨#[]⟩, .slice none 0 0, .slice none 0 0] 28) := ⟨_, rfl⟩
  rw [← hY]
  obtain ⟨kY, -⟩ := newbox w2 _ hY
  have hxy : Below X.heap.size X Y := HB2.out.trans (kY.mono HB2.out.size)
  have HXY := Lib.hid hxy
  have H3 := Lib.hid (wkC3 Y (HE.out.below (HW.out.trans (hxy.mono HW.out.size)) HE.out.1))
  unfold wkS3 at H3
  generalize w2.heap.size = q2 at *
  clear hY kY hxy
  go_wp2_with fail
  refine H3.out.mono ?_
  rintro e w3 ⟨rfl, hb3⟩
  have HB3 := Lib.hid hb3
  clear hb3 H3
  unfold zeroV
  go_upto_region 4 with fail
  obtain ⟨Z, hZ⟩ : ∃ Z, Z = w3.alloc (.cells #[.int .i8 0, .bool false, .int .i64 0, .string ⟨#[]⟩, .slice none 0 0, .slice none 0 0] 28) := ⟨_, rfl⟩
  rw [← hZ]
  obtain ⟨kZ, -⟩ := newbox w3 _ hZ
  have hyz : Below Y.heap.size Y Z := HB3.out.trans (kZ.mono HB3.out.size)
  have hxz : Below X.heap.size X Z := HXY.out.trans (hyz.mono HXY.out.size)
  have bz := HX.out.below hxz
  have h0 : Z.cell? ⟨q1, 0, none⟩ = some (.int .i8 5) := bz.cell 0
  have h4 : Z.cell? ⟨q1, 4, none⟩ = some (.slice (some a) 1 cap) := bz.cell 4
  have hm : Z.cell? (a.add 4) = some (.slice o2 2 cap2) := (hxz.cell (World.block_lt_of_cell? _ _ HM2.out)).trans HM2.out
  have hm : Z.cell? ⟨a.block, a.off + 4, none⟩ = some (.slice o2 2 cap2) := hm
  obtain ⟨hc1, hc2, hc3, hc4⟩ := HC.out
  have HWZ := Lib.hid (HW.out.trans (hxz.mono HW.out.size))
  generalize w3.heap.size = q3 at *
  clear HX HM2 HC HB HB2 HB3 HXY HW HE hZ kZ hyz hxz bz
  go_wp2_with fail
  refine bodyPost_ret (v := .bool true) (by simp [results, Tryd.results7, go_sem]) rfl ?_
  first | exact ⟨rfl, HWZ.out⟩ | exact ⟨rfl, HWZ.out.drew⟩
end Go.Proofs.YtgbagdfcdljleaaDoor

namespace Go.Proofs.YtgbagdfcdljleaaDoor
open Go.RowKit Go.Maps

def grB (n : Nat) : Bool := decide (3000 < n ∧ n ≤ 4096) || decide (9000 < n)
set_option maxRecDepth 100000 in
set_option maxHeartbeats 1000000 in
theorem great_any (s : ByteArray) (w : World) :
    Calls Tryd.prog 6 #[.string s] w fun e w' => e = .returned (.bool (grB s.size)) ∧ w' = w := by
  unfold grB
  rcases Nat.lt_or_ge 3000 s.size with h1 | h1
  · rcases Nat.lt_or_ge 4096 s.size with h2 | h2
    · rcases Nat.lt_or_ge 9000 s.size with h3 | h3
      · rw [decide_eq_false (by omega : ¬ (3000 < s.size ∧ s.size ≤ 4096)), decide_eq_true h3]
        have a1 : decide ((3000 : Int) < (s.size : Int)) = true := decide_eq_true (by omega)
        have a2 : decide (3000 < s.size) = true := decide_eq_true h1
        have b1 : decide ((s.size : Int) ≤ 4096) = false := decide_eq_false (by omega)
        have b2 : decide (s.size ≤ 4096) = false := decide_eq_false (by omega)
        have c1 : decide ((9000 : Int) < (s.size : Int)) = true := decide_eq_true (by omega)
        have c2 : decide (9000 < s.size) = true := decide_eq_true h3
        clear h1 h2 h3
        go_enter Tryd.func6, Tryd.ntmps6
        go_wp2_with fail
        refine bodyPost_ret (v := .bool true) (by simp [results, Tryd.results6, go_sem]) rfl ?_
        exact ⟨rfl, rfl⟩
      · rw [decide_eq_false (by omega : ¬ (3000 < s.size ∧ s.size ≤ 4096)), decide_eq_false (by omega : ¬ 9000 < s.size)]
        have a1 : decide ((3000 : Int) < (s.size : Int)) = true := decide_eq_true (by omega)
        have a2 : decide (3000 < s.size) = true := decide_eq_true h1
        have b1 : decide ((s.size : Int) ≤ 4096) = false := decide_eq_false (by omega)
        have b2 : decide (s.size ≤ 4096) = false := decide_eq_false (by omega)
        have c1 : decide ((9000 : Int) < (s.size : Int)) = false := decide_eq_false (by omega)
        have c2 : decide (9000 < s.size) = false := decide_eq_false (by omega)
        clear h1 h2 h3
        go_enter Tryd.func6, Tryd.ntmps6
        go_wp2_with fail
        refine bodyPost_ret (v := .bool false) (by simp [results, Tryd.results6, go_sem]) rfl ?_
        exact ⟨rfl, rfl⟩
    · rw [decide_eq_true (And.intro h1 h2), Bool.true_or]
      have a1 : decide ((3000 : Int) < (s.size : Int)) = true := decide_eq_true (by omega)
      have a2 : decide (3000 < s.size) = true := decide_eq_true h1
      have b1 : decide ((s.size : Int) ≤ 4096) = true := decide_eq_true (by omega)
      have b2 : decide (s.size ≤ 4096) = true := decide_eq_true h2
      clear h1 h2
      go_enter Tryd.func6, Tryd.ntmps6
      go_wp2_with fail
      refine bodyPost_ret (v := .bool true) (by simp [results, Tryd.results6, go_sem]) rfl ?_
      exact ⟨rfl, rfl⟩
  · rw [decide_eq_false (by omega : ¬ (3000 < s.size ∧ s.size ≤ 4096)), decide_eq_false (by omega : ¬ 9000 < s.size)]
    have a1 : decide ((3000 : Int) < (s.size : Int)) = false := decide_eq_false (by omega)
    have a2 : decide (3000 < s.size) = false := decide_eq_false (by omega)
    have c1 : decide ((9000 : Int) < (s.size : Int)) = false := decide_eq_false (by omega)
    have c2 : decide (9000 < s.size) = false := decide_eq_false (by omega)
    clear h1
    go_enter Tryd.func6, Tryd.ntmps6
    go_wp2_with fail
    refine bodyPost_ret (v := .bool false) (by simp [results, Tryd.results6, go_sem]) rfl ?_
    exact ⟨rfl, rfl⟩
theorem parM_err {s : List UInt8} {r : Er} (h : parM s = .error r) : r.2 ≠ 0 := by
  unfold parM at h
  split at h
  · cases h; decide
  rename_i h0
  have hk : bl s 0 ≤ s.length := bl_le s 0 (Nat.zero_le _)
  rw [valI_M hk] at h
  split at h
  · rename_i r' h1; cases h; exact valM_err hk h1
  · split at h
    · cases h; exact (by decide : (40 : Nat) ≠ 0)
    · cases h
theorem isV_form {W : World} {x : V} {v : Value} (h : isV W x v) : ∃ bo nu te o1 n1 c1 o2 n2 c2, v = .agg #[.int .i8 x.kind, .bool bo, .int .i64 nu, .string te, .slice o1 n1 c1, .slice o2 n2 c2] := by
  obtain ⟨k, bo, n, te, l, ks⟩ := x
  unfold isV at h
  obtain ⟨lv, kv, rfl, _, _, _, ⟨a, cap, ⟨o, rfl, _⟩, _⟩, ⟨a2, cap2, ⟨o2, rfl, _⟩, _⟩⟩ := h
  exact ⟨_, _, _, _, _, _, _, _, _, rfl⟩
set_option maxRecDepth 100000 in
set_option maxHeartbeats 1000000 in
theorem cuts_great (s : ByteArray) (cut : Int) (hs : 3000 < s.size) (w : World) (hE : Ru.Env w) :
    Calls Tryd.prog 5 #[.string s, .int .i64 cut] w fun e w' => e = .returned (.bool true) ∧ Below w.heap.size w w' := by
  have HW := Lib.hid (wakes_any w hE)
  have HG := Lib.hid (great_any s w)
  have a1 : decide ((3000 : Int) < (s.size : Int)) = true := decide_eq_true (by omega)
  have a2 : decide (3000 < s.size) = true := decide_eq_true hs
  clear hE
  cases hg : grB s.size with
  | true =>
    rw [hg] at HG
    clear hs hg
    go_enter Tryd.func5, Tryd.ntmps5
    go_wp2_with fail
    refine HG.out.mono ?_
    rintro e w1 ⟨rfl, rfl⟩
    go_wp2_with fail
    refine HW.out.mono ?_
    rintro e w2 ⟨rfl, hb⟩
    have HBB := Lib.hid hb
    clear hb
    go_wp2_with fail
    refine bodyPost_ret (v := .bool true) (by simp [results, Tryd.results5, go_sem]) rfl ?_
    first | exact ⟨rfl, HBB.out⟩ | exact ⟨rfl, HBB.out.drew⟩
  | false =>
    rw [hg] at HG
    clear hs hg
    go_enter Tryd.func5, Tryd.ntmps5
    go_wp2_with fail
    refine HG.out.mono ?_
    rintro e w1 ⟨rfl, rfl⟩
    go_wp2_with fail
    refine HW.out.mono ?_
    rintro e w2 ⟨rfl, hb⟩
    have HBB := Lib.hid hb
    clear hb
    go_wp2_with fail
    refine bodyPost_ret (v := .bool true) (by simp [results, Tryd.results5, go_sem]) rfl ?_
    first | exact ⟨rfl, HBB.out⟩ | exact ⟨rfl, HBB.out.drew⟩
theorem grB_small {n : Nat} (h : n ≤ 3000) : grB n = false := by
  unfold grB
  rw [decide_eq_false (by omega), decide_eq_false (by omega)]
  rfl
set_option maxRecDepth 100000 in
set_option maxHeartbeats 1000000 in
theorem cuts_err (s : ByteArray) (cut : Int) (hs : s.size ≤ 3000) {a c : Nat} (hp : parM s.data.toList = .error (a, c)) (w : World) (hE : Ru.Env w) :
    Calls Tryd.prog 5 #[.string s, .int .i64 cut] w fun e w' => e = .returned (.bool true) ∧ Below w.heap.size w w' := by
  have HG := Lib.hid (great_any s w)
  rw [grB_small hs] at HG
  have HP := Lib.hid (Parse_any s (by omega) w hE)
  rw [hp] at HP
  have a1 : decide ((3000 : Int) < (s.size : Int)) = false := decide_eq_false (by omega)
  have a2 : decide (3000 < s.size) = false := decide_eq_false (by omega)
  have hne : c ≠ 0 := parM_err hp
  have t1 : ((c : Int) == 0) = false := by rw [beq_eq_false_iff_ne]; omega
  have t2 : ((c : Int) != 0) = true := by rw [bne_iff_ne]; omega
  have HE := Lib.hid hE
  clear hs hp hne hE
  go_enter Tryd.func5, Tryd.ntmps5
  go_wp2_with fail
  refine HG.out.mono ?_
  rintro e w1 ⟨rfl, rfl⟩
  go_wp2_with fail
  refine HP.out.mono ?_
  rintro e w1 ⟨rfl, hb⟩
  have HB := Lib.hid hb
  clear hb
  unfold zeroV
  go_upto_region 4 with fail
  obtain ⟨X, hX⟩ : ∃ X, X = w1.alloc (.cells #[.int .i8 0, .bool false, .int .i64 0, .string ⟨#[]⟩, .slice none 0 0, .slice none 0 0] 28) := ⟨_, rfl⟩
  rw [← hX]
  obtain ⟨kX, -⟩ := newbox w1 _ hX
  have HW := Lib.hid (wakes_any X (HE.out.below (HB.out.trans (kX.mono HB.out.size)) HE.out.1))
  have hwx := HB.out.trans (kX.mono HB.out.size)
  have HWX := Lib.hid hwx
  clear hX kX hwx
  go_wp2_with fail
  refine HW.out.mono ?_
  rintro e w2 ⟨rfl, hb⟩
  have HBB := Lib.hid (HWX.out.trans (hb.mono HWX.out.size))
  clear hb
  go_wp2_with fail
  refine bodyPost_ret (v := .bool true) (by simp [results, Tryd.results5, go_sem]) rfl ?_
  first | exact ⟨rfl, HBB.out⟩ | exact ⟨rfl, HBB.out.drew⟩
end Go.Proofs.YtgbagdfcdljleaaDoor

namespace Go.Proofs.YtgbagdfcdljleaaDoor.Ru
open Go.ChangeShapes Go.WideShapes Go.ChangeAt Go.RowKit Go.Shelf
open Go.ChangeMaps (open_string shut_string)

theorem accept_eq : (Rows.laid_unicode_utf8_acceptRanges : DataW Unit) = Lib.acceptData := by kernel_rfl
theorem first_eq : Rows.laid_unicode_utf8_first = Lib.firstData := Pinned.utf8First_eq

theorem cell_of_iface {P : Program} {w : World} {fuel : Nat} {t : TypeId} {cs : List Value} {ms : Array (String × TypeId)} {n : String} {d : DataW Unit} {p : List MemPlace} (ht : P.underlying t = some (.interface ms))
    (h : DataW.trod (fun _ => ()) P w 0 (fun _ => true) false fuel t cs = some (.iface n d, p)) : ∃ u v, cs = [.iface u v] := by
  cases fuel with
  | zero => simp [DataW.trod] at h
  | succ fuel =>
    simp only [DataW.trod, ht] at h
    split at h <;> simp_all

theorem env_of_laid {laid : List (String × DataW Unit)} (hm : ("unicode/utf8.first", Rows.laid_unicode_utf8_first) ∈ laid) (hm2 : ("unicode/utf8.acceptRanges", Rows.laid_unicode_utf8_acceptRanges) ∈ laid) (hm3 : ("strconv.ErrSyntax", Rows.laid_strconv_ErrSyntax) ∈ laid)
    {W : World} (h : laidMet Tryd.prog laid W) (h7 : 7 ≤ W.heap.size) : Env W := by
  have r1 := Lib.laidMet.reads h hm
  have r2 := Lib.laidMet.reads h hm2
  have r3 := Lib.laidMet.reads h hm3
  rw [first_eq] at r1
  rw [accept_eq] at r2
  refine ⟨h7, utf8Tabs_of_reads Tryd.lays260 Tryd.u8Extra r1 r2, ?_⟩
  obtain ⟨g, t, cs, fuel, p, hg, ht, hv, hd⟩ := r3
  obtain rfl := Option.some.inj ((show Tryd.prog.globalNamed "strconv.ErrSyntax" = some 3 by kernel_rfl).symm.trans hg)
  obtain rfl := Option.some.inj ((show (Tryd.prog.globals[3]?).map (·.type) = some 100 by kernel_rfl).symm.trans ht)
  obtain ⟨u, v, hcs⟩ := cell_of_iface Tryd.underlying100 hd
  refine ⟨.iface u v, ?_, .inr ⟨u, v, rfl⟩⟩
  rw [World.var?_cell hg hv 0, ← Array.getElem?_toList, hcs]; rfl
theorem size_of_laid {laid : List (String × DataW Unit)} (hm : ("math/bits.deBruijn64tab", Rows.laid_math_bits_deBruijn64tab) ∈ laid) {W : World} (h : laidMet Tryd.prog laid W) : 7 ≤ W.heap.size := by
  obtain ⟨g, t, cs, fuel, p, hg, ht, hv, hd⟩ := Lib.laidMet.reads h hm
  obtain rfl := Option.some.inj ((show Tryd.prog.globalNamed "math/bits.deBruijn64tab" = some 7 by kernel_rfl).symm.trans hg)
  obtain rfl := Option.some.inj ((show (Tryd.prog.globals[7]?).map (·.type) = some 150 by kernel_rfl).symm.trans ht)
  have hne : cs.toList ≠ [] := by
    intro e
    rw [e] at hd
    cases fuel with
    | zero => simp [DataW.trod] at hd
    | succ fuel =>
      have hc : Tryd.prog.cellsOf 150 = 64 := by kernel_rfl
      simp [DataW.trod, Tryd.underlying150, hc] at hd
  obtain ⟨x, xs, hx⟩ : ∃ x xs, cs.toList = x :: xs := by
    cases h : cs.toList with
    | nil => exact absurd h hne
    | cons x xs => exact ⟨_, _, rfl⟩
  have h0 : W.cell? ⟨7, 0, none⟩ = some x := by rw [World.var?_cell hg hv 0, ← Array.getElem?_toList, hx]; rfl
  exact Nat.le_of_lt (World.block_lt_of_cell? _ _ h0)
end Go.Proofs.YtgbagdfcdljleaaDoor.Ru

namespace Go.Proofs.YtgbagdfcdljleaaDoor
open Go.Lib

def St.push (op : List Fm) : St → St
  | .rd k o => .rd k (o ++ op)
  | .got v k o => .got v k (o ++ op)
def mapP (op : List Fm) : Except Er St → Except Er St
  | .error q => .error q
  | .ok st => .ok (st.push op)
theorem enterM_push (s : List UInt8) (k : Nat) (o op : List Fm) (f : Fm) : enterM s k (o ++ op) f = mapP op (enterM s k o f) := by
  unfold enterM
  by_cases h : s[bl s (k + 1)]? = some f.close
  · rw [if_pos h, if_pos h]; rfl
  · rw [if_neg h, if_neg h]
    cases keyM s (bl s (k + 1)) f with
    | error r => rfl
    | ok p => obtain ⟨k', f'⟩ := p; rfl
theorem putM_push (s : List UInt8) (v : V) (k : Nat) (f : Fm) (o op : List Fm) : putM s v k f (o ++ op) = mapP op (putM s v k f o) := by
  unfold putM
  by_cases h : s[bl s k]? = some f.close
  · rw [if_pos h, if_pos h]; rfl
  · rw [if_neg h, if_neg h]
    by_cases h2 : s[bl s k]? ≠ some 44
    · rw [if_pos h2, if_pos h2]; rfl
    · rw [if_neg h2, if_neg h2]
      cases keyM s (bl s (bl s k + 1)) { f with vs := f.vs ++ [v] } with
      | error r => rfl
      | ok p => obtain ⟨k', f'⟩ := p; rfl
theorem wordM_push (s : List UInt8) (k : Nat) (o op : List Fm) (x : List UInt8) (v : V) : wordM s k (o ++ op) x v = mapP op (wordM s k o x v) := by
  unfold wordM
  by_cases h : (s.drop k).take x.length = x
  · rw [if_pos h, if_pos h]; rfl
  · rw [if_neg h, if_neg h]; rfl
theorem begM_push (s : List UInt8) (d : Int) (k : Nat) (o op : List Fm) : begM s d k (o ++ op) = mapP op (begM s (d + (op.length : Int)) k o) := by
  unfold begM
  rw [show d + ((o ++ op).length : Int) = d + (op.length : Int) + (o.length : Int) by rw [List.length_append]; omega]
  by_cases h1 : s.length ≤ k
  · rw [if_pos h1, if_pos h1]; rfl
  rw [if_neg h1, if_neg h1]
  by_cases h2 : 24 < d + (op.length : Int) + (o.length : Int)
  · rw [if_pos h2, if_pos h2]; rfl
  rw [if_neg h2, if_neg h2]
  by_cases h3 : s.getD k 0 = 110
  · rw [if_pos h3, if_pos h3]; exact wordM_push _ _ _ _ _ _
  rw [if_neg h3, if_neg h3]
  by_cases h4 : s.getD k 0 = 102
  · rw [if_pos h4, if_pos h4]; exact wordM_push _ _ _ _ _ _
  rw [if_neg h4, if_neg h4]
  by_cases h5 : s.getD k 0 = 116
  · rw [if_pos h5, if_pos h5]; exact wordM_push _ _ _ _ _ _
  rw [if_neg h5, if_neg h5]
  by_cases h6 : numB (s.getD k 0) = true
  · rw [if_pos h6, if_pos h6]
    unfold numM
    by_cases h : (Nu.scanL s k).2.2 = 0
    · rw [if_pos h, if_pos h]; rfl
    · rw [if_neg h, if_neg h]; rfl
  rw [if_neg h6, if_neg h6]
  by_cases h7 : s.getD k 0 = 34
  · rw [if_pos h7, if_pos h7]
    unfold texM
    by_cases h : (Ru.unqL s k).2.2 = 0
    · rw [if_pos h, if_pos h]; rfl
    · rw [if_neg h, if_neg h]; rfl
  rw [if_neg h7, if_neg h7]
  by_cases h8 : s.getD k 0 = 91
  · rw [if_pos h8, if_pos h8]; exact enterM_push _ _ _ _ _
  rw [if_neg h8, if_neg h8]
  by_cases h9 : s.getD k 0 = 123
  · rw [if_pos h9, if_pos h9]; exact enterM_push _ _ _ _ _
  rw [if_neg h9, if_neg h9]; rfl
/-- How the whole run goes on behind a part's own run. -/
def PartS (s : List UInt8) (d : Int) (R : Except Er (V × Nat)) (op : List Fm) : Except Er (V × Nat) → Prop
  | .error q => R = .error q
  | .ok (v, e) => RunS s d R (.got v e op)
/-- What a part's own run comes to, the whole run comes to with what is open behind it. -/
theorem run_push {s : List UInt8} {d : Int} {op : List Fm} {R : Except Er (V × Nat)} : ∀ (n : Nat) (st : St) (r : Except Er (V × Nat)), runM s (d + (op.length : Int)) n st = some r → RunS s d R (st.push op) → PartS s d R op r
  | 0, st, r, h, _ => by cases st <;> cases h
  | n + 1, .got v k [], r, h, h' => by
    rw [runM] at h
    cases h
    exact h'
  | n + 1, .got v k (f :: o), r, h, h' => by
    rw [runM] at h
    have h1 : RunS s d R (.got v k (f :: (o ++ op))) := h'
    cases e : putM s v k f o with
    | error q =>
      rw [e] at h
      cases h
      rcases h1.got with ⟨q', h2, h3⟩ | ⟨st, h2, _⟩
      · rw [putM_push, e] at h2
        cases h2
        exact h3
      · rw [putM_push, e] at h2
        cases h2
    | ok st =>
      rw [e] at h
      rcases h1.got with ⟨q', h2, h3⟩ | ⟨st', h2, h3⟩
      · rw [putM_push, e] at h2
        cases h2
      · rw [putM_push, e] at h2
        cases h2
        exact run_push n st r h h3
  | n + 1, .rd k o, r, h, h' => by
    rw [runM] at h
    have h1 : RunS s d R (.rd k (o ++ op)) := h'
    cases e : begM s (d + (op.length : Int)) k o with
    | error q =>
      rw [e] at h
      cases h
      rcases h1.rd with ⟨q', h2, h3⟩ | ⟨st, h2, _⟩
      · rw [begM_push, e] at h2
        cases h2
        exact h3
      · rw [begM_push, e] at h2
        cases h2
    | ok st =>
      rw [e] at h
      rcases h1.rd with ⟨q', h2, h3⟩ | ⟨st', h2, h3⟩
      · rw [begM_push, e] at h2
        cases h2
      · rw [begM_push, e] at h2
        cases h2
        exact run_push n st r h h3
/-- A part of the innermost list or object, read as a value by itself. -/
theorem RunS.part {s : List UInt8} {d : Int} {k : Nat} {f : Fm} {R r : Except Er (V × Nat)} (hk : k ≤ s.length) (hr : valM s k (d + 1) = r) (h : RunS s d R (.rd k [f])) : PartS s d R [f] r :=
  run_push (op := [f]) (s.length + 2) (.rd k []) r (hr ▸ valM_run s k (d + 1) hk) h
theorem RunS.start {s : List UInt8} {d : Int} {k : Nat} {R : Except Er (V × Nat)} (hk : k ≤ s.length) (hr : valM s k d = R) : RunS s d R (.rd k []) := ⟨_, hr ▸ valM_run s k d hk⟩
end Go.Proofs.YtgbagdfcdljleaaDoor

namespace Go.Proofs.YtgbagdfcdljleaaDoor
open Go.RowKit Go.ChangeShapes Go.WideShapes Go.Deep

theorem isVs_of {W : World} : ∀ (l : List V) (a : Addr), (∀ i (h : i < l.length), ∃ c0 c1 c2 c3 c4 c5, W.cell? (a.add (i * 6)) = some c0 ∧ W.cell? (a.add (i * 6 + 1)) = some c1 ∧ W.cell? (a.add (i * 6 + 2)) = some c2 ∧ W.cell? (a.add (i * 6 + 3)) = some c3 ∧ W.cell? (a.add (i * 6 + 4)) = some c4 ∧ W.cell? (a.add (i * 6 + 5)) = some c5 ∧ isV W l[i] (.agg #[c0, c1, c2, c3, c4, c5])) → isVs W l a
  | [], _, _ => by unfold isVs; trivial
  | x :: t, a, h => by
    unfold isVs
    have e : a.add 0 = a := by simp [Addr.add]
    refine ⟨?_, isVs_of t (a.add 6) (fun i hi => ?_)⟩
    · obtain ⟨c0, c1, c2, c3, c4, c5, g0, g1, g2, g3, g4, g5, hx⟩ := h 0 (by simp)
      simp only [Nat.zero_mul, Nat.zero_add, e] at g0 g1 g2 g3 g4 g5
      exact ⟨c0, c1, c2, c3, c4, c5, g0, g1, g2, g3, g4, g5, hx⟩
    · obtain ⟨c0, c1, c2, c3, c4, c5, g0, g1, g2, g3, g4, g5, hx⟩ := h (i + 1) (by simpa using hi)
      refine ⟨c0, c1, c2, c3, c4, c5, ?_, ?_, ?_, ?_, ?_, ?_, hx⟩
      · rw [add_add, show 6 + i * 6 = (i + 1) * 6 by omega]; exact g0
      · rw [add_add, show 6 + (i * 6 + 1) = (i + 1) * 6 + 1 by omega]; exact g1
      · rw [add_add, show 6 + (i * 6 + 2) = (i + 1) * 6 + 2 by omega]; exact g2
      · rw [add_add, show 6 + (i * 6 + 3) = (i + 1) * 6 + 3 by omega]; exact g3
      · rw [add_add, show 6 + (i * 6 + 4) = (i + 1) * 6 + 4 by omega]; exact g4
      · rw [add_add, show 6 + (i * 6 + 5) = (i + 1) * 6 + 5 by omega]; exact g5
theorem list_of {α : Type} [Inhabited α] (n : Nat) (P : Nat → α → Prop) (h : ∀ i, i < n → ∃ x, P i x) : ∃ l : List α, l.length = n ∧ ∀ i (hi : i < l.length), P i l[i] := by
  induction n with
  | zero => exact ⟨[], rfl, fun i hi => absurd hi (by simp)⟩
  | succ n ih =>
    obtain ⟨l, hl, hp⟩ := ih (fun i hi => h i (by omega))
    obtain ⟨x, hx⟩ := h n (by omega)
    refine ⟨l ++ [x], by simp [hl], fun i hi => ?_⟩
    by_cases e : i < l.length
    · rw [List.getElem_append_left e]; exact hp i e
    · have : i = l.length := by simp at hi; omega
      subst this
      rw [List.getElem_append_right (Nat.le_refl _)]
      simp only [Nat.sub_self, List.getElem_cons_zero]
      rw [hl]; exact hx
instance : Inhabited V := ⟨.mk 0 false 0 ⟨#[]⟩ [] []⟩
instance : Inhabited ByteArray := ⟨⟨#[]⟩⟩

theorem fieldsV : ∃ fs, Tryd.prog.underlying 28 = some (.struct fs) ∧ oneCellFields Tryd.prog fs = true ∧ fs.size = 6 ∧ fs.toList.map (·.type) = [24, 4, 3, 9, 25, 26] :=
  ⟨_, Tryd.underlying28, by kernel_rfl, by kernel_rfl, by kernel_rfl⟩

set_option maxRecDepth 100000 in
set_option maxHeartbeats 2000000 in
theorem open_val {H : Type} {enc : TypeId × Value → H} {w : World} {base : Nat} {spare : Nat → Bool} {held : Bool} (N : Nat) : ∀ (fuel : Nat) (cs : List Value) (x : DataW H × List MemPlace), fuel ≤ N → DataW.trod enc Tryd.prog w base spare held fuel 28 cs = some x → ∃ X, isV w X (.agg cs.toArray) := by
  induction N with
  | zero =>
    intro fuel cs x hN h
    obtain ⟨xs, n, hf, _⟩ := DataW.trod_struct Tryd.underlying28 h
    omega
  | succ N ih =>
    intro fuel cs x hN h
    obtain ⟨fs, hu, h1c, hsz, hty⟩ := fieldsV
    obtain ⟨xs, n, hfu, hx, hlen, hxl, hf⟩ := DataW.trod_struct hu h
    have hone := hone_of h1c
    have h6 : cs.length = 6 := hlen.trans (by kernel_rfl)
    have hg : ∀ (i t : Nat) (c : Value), [24, 4, 3, 9, 25, 26][i]? = some t → cs[i]? = some c → ∃ y, DataW.trod enc Tryd.prog w base spare held n t [c] = some y := fun i t c ht hc => by
      rw [← hty, List.getElem?_map] at ht
      obtain ⟨f, hfi, rfl⟩ := Option.map_eq_some_iff.1 ht
      have hfi' : fs[i]? = some f := by rw [← Array.getElem?_toList]; exact hfi
      have e1 := hf i f hfi'
      obtain ⟨ho, hk⟩ := hone i f hfi'
      rw [ho, hk] at e1
      have hil := (List.getElem?_eq_some_iff.1 hc).1
      rw [List.drop_eq_getElem_cons hil, (List.getElem?_eq_some_iff.1 hc).2] at e1
      have hxi : i < xs.length := by
        rw [hxl]; exact (Array.getElem?_eq_some_iff.1 hfi').1
      exact ⟨xs[i], by rw [List.getElem?_eq_getElem hxi] at e1; exact e1⟩
    match cs, h6 with
    | [c0, c1, c2, c3, c4, c5], _ =>
      obtain ⟨y0, e0⟩ := hg 0 _ c0 rfl rfl
      obtain ⟨y1, e1⟩ := hg 1 _ c1 rfl rfl
      obtain ⟨y2, e2⟩ := hg 2 _ c2 rfl rfl
      obtain ⟨y3, e3⟩ := hg 3 _ c3 rfl rfl
      obtain ⟨y4, e4⟩ := hg 4 _ c4 rfl rfl
      obtain ⟨y5, e5⟩ := hg 5 _ c5 rfl rfl
      obtain ⟨k, hk, _, wk⟩ := DataW.trod_int Tryd.underlying24 e0
      obtain ⟨b, hb, _⟩ := DataW.trod_bool Tryd.underlying4 e1
      obtain ⟨m, hm, _, wm⟩ := DataW.trod_int Tryd.underlying3 e2
      obtain ⟨s, hs, _, ws⟩ := DataW.trod_string Tryd.underlying9 e3
      obtain rfl : c0 = .int .i8 k := by simpa using hk
      obtain rfl : c1 = .bool b := by simpa using hb
      obtain rfl : c2 = .int .i64 m := by simpa using hm
      obtain rfl : c3 = .string s := by simpa using hs
      have hk2 : -128 ≤ k ∧ k ≤ 127 := by simp [Lit.wf, IntKind.min, IntKind.max, IntKind.bits, IntKind.signed] at wk; omega
      have hm2 : -9223372036854775808 ≤ m ∧ m ≤ 9223372036854775807 := by simp [Lit.wf, IntKind.min, IntKind.max, IntKind.bits, IntKind.signed] at wm; omega
      have hL : ∃ (l : List V) (a : Addr) (cap : Nat), slv c4 l.length a cap ∧ isVs w l a := by
        rcases DataW.trod_slice Tryd.underlying25 e4 with ⟨h0, _⟩ | ⟨a, len, cap, elems, rest, n', hn', h0, _, _, hlc, hcm, hel, hall, _⟩
        · exact ⟨[], ⟨0, 0, none⟩, 0, ⟨none, by simpa using h0, Nat.le_refl _, by unfold maxLen; omega, fun h => absurd h (by decide)⟩, by unfold isVs; trivial⟩
        · obtain ⟨l, hl, hp⟩ := list_of len (fun i X => ∃ c0 c1 c2 c3 c4 c5, w.cell? (a.add (i * 6)) = some c0 ∧ w.cell? (a.add (i * 6 + 1)) = some c1 ∧ w.cell? (a.add (i * 6 + 2)) = some c2 ∧ w.cell? (a.add (i * 6 + 3)) = some c3 ∧ w.cell? (a.add (i * 6 + 4)) = some c4 ∧ w.cell? (a.add (i * 6 + 5)) = some c5 ∧ isV w X (.agg #[c0, c1, c2, c3, c4, c5])) (fun i hi => by
            have hi2 := hall i hi
            rw [List.getElem?_eq_getElem (by omega)] at hi2
            obtain ⟨ds, hd1, hd2⟩ := Option.bind_eq_some_iff.1 hi2
            rw [show Tryd.prog.cellsOf 28 = 6 by kernel_rfl] at hd1
            obtain ⟨_, hdl, hdc⟩ := World.cells?_some hd1
            obtain ⟨X, hX⟩ := ih n' ds _ (by omega) hd2
            match ds, hdl with
            | [d0, d1, d2, d3, d4, d5], _ =>
              have g0 := hdc 0 (by omega)
              have g1 := hdc 1 (by omega)
              have g2 := hdc 2 (by omega)
              have g3 := hdc 3 (by omega)
              have g4 := hdc 4 (by omega)
              have g5 := hdc 5 (by omega)
              rw [add_add] at g0 g1 g2 g3 g4 g5
              exact ⟨X, d0, d1, d2, d3, d4, d5, g0, g1, g2, g3, g4, g5, hX⟩)
          subst hl
          exact ⟨l, a, cap, ⟨some a, by simpa using h0, hlc, hcm, fun _ => rfl⟩, isVs_of l a hp⟩
      have hK : ∃ ks : List ByteArray, isK w ks c5 := by
        rcases DataW.trod_slice Tryd.underlying26 e5 with ⟨h0, _⟩ | ⟨a, len, cap, elems, rest, n', hn', h0, _, _, hlc, hcm, hel, hall, _⟩
        · exact ⟨[], ⟨0, 0, none⟩, 0, ⟨none, by simpa using h0, Nat.le_refl _, by unfold maxLen; omega, fun h => absurd h (by decide)⟩, fun i h => absurd h (by simp)⟩
        · obtain ⟨l, hl, hp⟩ := list_of len (fun i (S : ByteArray) => w.cell? (a.add i) = some (.string S) ∧ S.size ≤ maxLen) (fun i hi => by
            have hi2 := hall i hi
            rw [List.getElem?_eq_getElem (by omega)] at hi2
            obtain ⟨ds, hd1, hd2⟩ := Option.bind_eq_some_iff.1 hi2
            rw [show Tryd.prog.cellsOf 9 = 1 by kernel_rfl, Nat.mul_one] at hd1
            obtain ⟨_, hdl, hdc⟩ := World.cells?_some hd1
            obtain ⟨S, hS, _, wS⟩ := DataW.trod_string Tryd.underlying9 hd2
            subst hS
            have g0 := hdc 0 (by omega)
            rw [add_add] at g0
            exact ⟨S, g0, wS⟩)
          subst hl
          exact ⟨l, a, cap, ⟨some a, by simpa using h0, hlc, hcm, fun _ => rfl⟩, hp⟩
      obtain ⟨l, a, cap, hl1, hl2⟩ := hL
      obtain ⟨ks, hks⟩ := hK
      refine ⟨.mk k b m s l ks, ?_⟩
      unfold isV
      exact ⟨c4, c5, rfl, hk2, hm2, ws, ⟨a, cap, hl1, hl2⟩, hks⟩
set_option maxRecDepth 100000 in
/-- An argument of type Value. -/
theorem open_arg {H : Type} {enc : TypeId × Value → H} {r : Reach} {b0 : Nat} {w : World} {base : Nat} {spare : Nat → Bool} {held : Bool} {v : Value} {d : DataW H} {ps : List MemPlace} (hv : Value.okWide Tryd.prog w r b0 28 v) (h : DataW.Trod enc Tryd.prog w base spare held 28 v d ps) : ∃ X, isV w X v := by
  obtain ⟨cs, rfl, hsz⟩ := okWide_struct Tryd.underlying28 hv
  obtain ⟨fuel, hf⟩ := h
  obtain ⟨X, hX⟩ := open_val fuel fuel _ _ (Nat.le_refl _) hf
  exact ⟨X, by simpa [Value.cells] using hX⟩
end Go.Proofs.YtgbagdfcdljleaaDoor

namespace Go.Proofs.YtgbagdfcdljleaaDoor.Nu
open Go.RowKit

theorem rfits_yes (n : Int) (h : fitB n = true) (w : World) : Calls Tryd.prog 36 #[.int .i64 n] w fun e w' => e = .returned (.bool true) ∧ w = w' := by
  obtain ⟨h1, h2⟩ := fitB_iff.1 h
  clear h
  go_enter Tryd.func36, Tryd.ntmps36
  go_wp2
  go_ret
  exact ⟨by simp <;> omega, rfl⟩
theorem rfits_no (n : Int) (h : fitB n = false) (w : World) : Calls Tryd.prog 36 #[.int .i64 n] w fun e w' => e = .returned (.bool false) ∧ w = w' := by
  have h' : ¬ (-9007199254740992 ≤ n ∧ n ≤ 9007199254740992) := fun e => by rw [fitB_iff.2 e] at h; cases h
  clear h
  by_cases h1 : -9007199254740992 ≤ n <;> by_cases h2 : n ≤ 9007199254740992 <;> first | (exfalso; omega) | skip
  all_goals
    clear h'
    go_enter Tryd.func36, Tryd.ntmps36
    go_wp2
    go_ret
    exact ⟨by simp <;> omega, rfl⟩
theorem rdigit_any (c : UInt8) (w : World) : Calls Tryd.prog 29 #[.int .u8 c.toNat] w fun e w' => e = .returned (.bool (isD c)) ∧ w = w' := by
  have e : isD c = (decide (48 ≤ c.toNat) && decide (c.toNat ≤ 57)) := rfl
  have E := Lib.hid e
  clear e
  by_cases h1 : 48 ≤ c.toNat <;> by_cases h2 : c.toNat ≤ 57 <;> first | (exfalso; omega) | skip
  all_goals
    go_enter Tryd.func29, Tryd.ntmps29
    go_wp2
    go_ret
    exact ⟨by rw [E.out]; simp [*] <;> omega, rfl⟩
theorem rdigit_yes (c : UInt8) (h : isD c = true) (w : World) : Calls Tryd.prog 29 #[.int .u8 c.toNat] w fun e w' => e = .returned (.bool true) ∧ w = w' := h ▸ rdigit_any c w
theorem rdigit_no (c : UInt8) (h : isD c = false) (w : World) : Calls Tryd.prog 29 #[.int .u8 c.toNat] w fun e w' => e = .returned (.bool false) ∧ w = w' := h ▸ rdigit_any c w

theorem ba_app (a b : List UInt8) : ((⟨a.toArray⟩ : ByteArray) ++ (⟨b.toArray⟩ : ByteArray)) = ⟨(a ++ b).toArray⟩ := by
  apply ByteArray.ext
  rw [ByteArray.data_append]
  simp
theorem ret_str {a b : ByteArray} (h : a = b) : Ending.returned (.string a) = .returned (.string b) := by rw [h]
theorem ret_str2 {a b : ByteArray} {v : Value} (h : a = b) : Ending.returned (.tuple #[.string a, v]) = .returned (.tuple #[.string b, v]) := by rw [h]
theorem conv_one (w : World) (d : Nat) (h : d < 10) :
    (convert 61 9 (.slice (some ⟨w.heap.size, 0, none⟩) 1 1)).run Tryd.prog (w.alloc (.cells #[.int .u8 (48 + (d : Int))] 5)) = .ok (.string ⟨[UInt8.ofNat (48 + d)].toArray⟩) (w.alloc (.cells #[.int .u8 (48 + (d : Int))] 5)) := by
  refine run_convert_bytes_back (P := Tryd.prog) _ 61 9 5 ⟨w.heap.size, 0, none⟩ 1 [UInt8.ofNat (48 + d)] Tryd.underlying61 Tryd.underlying5 Tryd.underlying9 (fun j hj => ?_)
  match j, hj with
  | 0, _ =>
    simp only [List.getElem_cons_zero]
    rw [ofD h]
    simp [Addr.add]

set_option maxRecDepth 100000 in
set_option maxHeartbeats 1000000 in
theorem rdig_one (n : Nat) (h : n < 10) (w : World) :
    Calls Tryd.prog 37 #[.int .i64 n] w fun e w' => e = .returned (.string ⟨(digs n).toArray⟩) ∧ Below w.heap.size w w' := by
  have HD := Lib.hid (digs_lt h)
  have hcv := conv_one w n h
  obtain ⟨S, hS⟩ : ∃ S : ByteArray, S = ⟨[UInt8.ofNat (48 + n)].toArray⟩ := ⟨_, rfl⟩
  rw [← hS] at hcv
  have HS := Lib.hid hS
  clear hS
  go_enter Tryd.func37, Tryd.ntmps37
  go_wp2_with fail
  go_ret
  exact ⟨by rw [HD.out, HS.out]; rfl, (Below.refl _ _).alloc (Nat.le_refl _) _⟩
set_option maxRecDepth 100000 in
set_option maxHeartbeats 1000000 in
theorem rdig_any (k : Nat) : ∀ (n : Nat) (w : World), n ≤ k → n ≤ 9007199254740992 →
    Calls Tryd.prog 37 #[.int .i64 n] w fun e w' => e = .returned (.string ⟨(digs n).toArray⟩) ∧ Below w.heap.size w w' := by
  induction k with
  | zero => intro n w hk hn; exact rdig_one n (by omega) w
  | succ k ih =>
    intro n w hk hn
    by_cases h10 : n < 10
    · exact rdig_one n h10 w
    have HD := Lib.hid (digs_ge h10)
    obtain ⟨q, hqq⟩ : ∃ q, q = n / 10 := ⟨_, rfl⟩
    have hq : (n : Int) / 10 = (q : Int) := by omega
    obtain ⟨d, hd⟩ : ∃ d, d = n % 10 := ⟨_, rfl⟩
    have hm : (n : Int) % 10 = (d : Int) := by omega
    have hd10 : d < 10 := by omega
    have h9 : ¬ (n : Int) < 10 := by omega
    have hn0 : 0 ≤ (n : Int) := by omega
    have hn1 : (n : Int) ≤ 9007199254740992 := by omega
    have HI := Lib.hid (ih q w (by omega) (by omega))
    rw [← hqq, ← hd] at HD
    have l1 := digs_len q 16 (by decide) (by omega)
    have s1 := size_arr (digs q)
    have s2 := size_arr (digs d)
    have l2 := digs_len d 16 (by decide) (by omega)
    have hdd := digs_lt hd10
    have HE : Hid (digs n = digs q ++ digs d) := Lib.hid (by rw [HD.out, hdd])
    obtain ⟨Q, hQ⟩ : ∃ S : ByteArray, S = ⟨(digs q).toArray⟩ := ⟨_, rfl⟩
    obtain ⟨D, hD⟩ : ∃ S : ByteArray, S = ⟨(digs d).toArray⟩ := ⟨_, rfl⟩
    have HJ := Lib.hid (fun w => rdig_one d hd10 w)
    rw [← hQ] at HI s1
    have HJ2 : Hid (∀ w, Calls Tryd.prog 37 #[.int .i64 d] w fun e w' => e = .returned (.string D) ∧ Below w.heap.size w w') := Lib.hid (by rw [hD]; exact HJ.out)
    rw [← hD] at s2
    have b1 : Q.size ≤ 16 := by omega
    have b2 : D.size ≤ 16 := by omega
    have HQ := Lib.hid hQ
    have HDD := Lib.hid hD
    clear ih HD hqq hd hdd HJ hQ hD l1 l2 s1 s2 h10 hk hn
    go_enter Tryd.func37, Tryd.ntmps37
    go_wp2_with (go_at_call 37; first | ((with_reducible refine HI.out.mono ?_); rintro e w2 ⟨rfl, hb⟩) | ((with_reducible refine (HJ2.out _).mono ?_); rintro e w3 ⟨rfl, hb3⟩))
    go_ret
    refine ⟨?_, hb.trans (hb3.mono hb.size)⟩
    rw [HE.out, HQ.out, HDD.out]
    exact ret_str (ba_app _ _)
set_option maxHeartbeats 600000 in
theorem rtext_any (n : Int) (w : World) :
    Calls Tryd.prog 22 #[.int .i64 n] w fun e w' => e = .returned (.tuple #[.string ⟨(txt n).toArray⟩, .int .i64 (errN (fitB n))]) ∧ Below w.heap.size w w' := by
  cases h : fitB n with
  | false =>
    have H := Lib.hid h
    have HT := Lib.hid (txt_no h)
    clear h
    go_enter Tryd.func22, Tryd.ntmps22
    go_wp2_with (go_at_call 36; refine (rfits_no _ H.out _).mono ?_; rintro e w' ⟨rfl, rfl⟩)
    go_ret2
    exact ⟨by rw [HT.out]; rfl, Below.refl _ _⟩
  | true =>
    have hf := fitB_iff.1 h
    by_cases h0 : n < 0
    · have HT := Lib.hid (txt_neg h h0)
      obtain ⟨k, hk⟩ : ∃ k : Nat, n = -(k : Int) := ⟨(-n).toNat, by omega⟩
      subst hk
      have hneg : wrap64 (-(-(k : Int))) = (k : Int) := by rw [Int.neg_neg]; unfold wrap64; omega
      have h1 : IntKind.i64.wrap (-(-(k : Int))) = (k : Int) := by rw [Int.neg_neg]; exact IntWalk.i64_in _ (by omega)
      have h0k : 0 < k := by omega
      have hk1 : k ≤ 9007199254740992 := by omega
      have HR := Lib.hid (rdig_any k k w (Nat.le_refl _) (by omega))
      have l1 := digs_len k 16 (by decide) (by omega)
      have s1 := size_arr (digs k)
      obtain ⟨Q, hQ⟩ : ∃ S : ByteArray, S = ⟨(digs k).toArray⟩ := ⟨_, rfl⟩
      rw [← hQ] at HR s1
      have b1 : Q.size ≤ 16 := by omega
      have HQ := Lib.hid hQ
      have H := Lib.hid h
      clear h hf h0 l1 s1 hQ
      go_enter Tryd.func22, Tryd.ntmps22
      go_wp2_with (first | (go_at_call 36; refine (rfits_yes _ H.out _).mono ?_; rintro e w' ⟨rfl, rfl⟩) | (go_at_call 37; (with_reducible refine HR.out.mono ?_); rintro e w2 ⟨rfl, hb⟩))
      go_ret2
      refine ⟨?_, hb⟩
      rw [HT.out, HQ.out, Int.natAbs_neg]
      exact ret_str2 (ba_app [45] _)
    · have HT := Lib.hid (txt_pos h h0)
      obtain ⟨k, hk⟩ : ∃ k : Nat, n = (k : Int) := ⟨n.toNat, by omega⟩
      subst hk
      have HR := Lib.hid (rdig_any k k w (Nat.le_refl _) (by omega))
      have l1 := digs_len k 16 (by decide) (by omega)
      have s1 := size_arr (digs k)
      obtain ⟨Q, hQ⟩ : ∃ S : ByteArray, S = ⟨(digs k).toArray⟩ := ⟨_, rfl⟩
      rw [← hQ] at HR s1
      have b1 : Q.size ≤ 16 := by omega
      have HQ := Lib.hid hQ
      have H := Lib.hid h
      clear h hf l1 s1 hQ
      go_enter Tryd.func22, Tryd.ntmps22
      go_wp2_with (first | (go_at_call 36; refine (rfits_yes _ H.out _).mono ?_; rintro e w' ⟨rfl, rfl⟩) | (go_at_call 37; (with_reducible refine HR.out.mono ?_); rintro e w2 ⟨rfl, hb⟩))
      go_ret2
      refine ⟨?_, hb⟩
      rw [HT.out, HQ.out]
      rfl
end Go.Proofs.YtgbagdfcdljleaaDoor.Nu

namespace Go.Proofs.YtgbagdfcdljleaaDoor
open Go.Lib

/-- The key of an object's part, and the colon. -/
def txK (b : List UInt8) (o : Bool) (key : ByteArray) : List UInt8 := if o then Ru.quoteL key.data.toList ++ (b ++ (58 :: b)) else []
mutual
/-- A value's text. -/
def tx (b : List UInt8) : V → List UInt8
  | .mk k bo n s l ks => if k = 0 then [110, 117, 108, 108] else if k = 1 then (if bo then [116, 114, 117, 101] else [102, 97, 108, 115, 101]) else if k = 2 then Nu.txt n else if k = 3 then Ru.quoteL s.data.toList
    else (if k = 5 then 123 else 91) :: (b ++ (txI b (decide (k = 5)) true l ks ++ [if k = 5 then 125 else 93]))
def txI (b : List UInt8) (o : Bool) : Bool → List V → List ByteArray → List UInt8
  | _, [], _ => []
  | first, x :: t, ks => (if first then [] else 44 :: b) ++ (txK b o (ks.headD ⟨#[]⟩) ++ (tx b x ++ (b ++ txI b o false t ks.tail)))
end
def validB (s : ByteArray) : Prop := validD s.data.toList = true
mutual
/-- Values that may be, but for how deep and how many. -/
def okV : V → Prop
  | .mk k bo n s l ks => (k = 0 ∧ bo = false ∧ n = 0 ∧ s = ⟨#[]⟩ ∧ l = [] ∧ ks = []) ∨ (k = 1 ∧ n = 0 ∧ s = ⟨#[]⟩ ∧ l = [] ∧ ks = []) ∨ (k = 2 ∧ bo = false ∧ Nu.fitB n = true ∧ s = ⟨#[]⟩ ∧ l = [] ∧ ks = []) ∨ (k = 3 ∧ bo = false ∧ n = 0 ∧ validB s ∧ l = [] ∧ ks = []) ∨
    (k = 4 ∧ bo = false ∧ n = 0 ∧ s = ⟨#[]⟩ ∧ ks = [] ∧ okVs l) ∨ (k = 5 ∧ bo = false ∧ n = 0 ∧ s = ⟨#[]⟩ ∧ ks.length = l.length ∧ (∀ x ∈ ks, validB x) ∧ ks.Nodup ∧ okVs l)
def okVs : List V → Prop
  | [] => True
  | x :: t => okV x ∧ okVs t
end
mutual
def dpV : V → Nat
  | .mk _ _ _ _ l _ => 1 + dpVs l
def dpVs : List V → Nat
  | [] => 0
  | x :: t => max (dpV x) (dpVs t)
end
/-- What of the keys is still to come fits what is to come of the parts. -/
def okI (o : Bool) (kk ks : List ByteArray) (n : Nat) : Prop := (o = true → ks.length = n ∧ (kk ++ ks).Nodup ∧ ∀ x ∈ ks, validB x) ∧ (o = false → ks = [] ∧ kk = [])

/-! ### Places -/
theorem at_drop {s : List UInt8} {k : Nat} {c : UInt8} {r : List UInt8} (h : s.drop k = c :: r) : s[k]? = some c := by
  have := congrArg (fun l => l[0]?) h
  simpa using this
theorem lt_drop {s : List UInt8} {k : Nat} {c : UInt8} {r : List UInt8} (h : s.drop k = c :: r) : k < s.length := by
  rcases Nat.lt_or_ge k s.length with h' | h'
  · exact h'
  · rw [List.drop_eq_nil_of_le h'] at h; cases h
theorem getD_at {s : List UInt8} {k : Nat} {c : UInt8} {r : List UInt8} (h : s.drop k = c :: r) : s.getD k 0 = c := by
  rw [List.getD, at_drop h]; rfl
theorem drop_app {s a r : List UInt8} {k : Nat} (h : s.drop k = a ++ r) : s.drop (k + a.length) = r := by
  rw [← List.drop_drop, h, List.drop_left]
theorem drop_one {s : List UInt8} {k : Nat} {c : UInt8} {r : List UInt8} (h : s.drop k = c :: r) : s.drop (k + 1) = r := drop_app (a := [c]) h
def noBl : List UInt8 → Prop
  | [] => True
  | c :: _ => isBl c = false
theorem bl_drop {s b r : List UInt8} {k : Nat} (h : s.drop k = b ++ r) (hb : ∀ c ∈ b, isBl c = true) (hr : noBl r) : bl s k = k + b.length := by
  unfold bl
  rw [h, List.takeWhile_append_of_pos hb]
  match r, hr with
  | [], _ => simp
  | c :: t, hr =>
    rw [List.takeWhile_cons, show isBl c = false from hr]
    simp
/-! ### Leaves -/
theorem unq_at {s X : List UInt8} {k : Nat} {t : List UInt8} (h : s.drop k = Ru.quoteL t ++ X) (hv : validD t = true) : Ru.unqL s k = (t, k + (Ru.quoteL t).length, 0) := by
  have hlen : (Ru.quoteL t).length = (Ru.bodyL t).length + 2 := by rw [Ru.quoteL_body]; simp
  rw [Ru.unqL_uqR _ _ _ (Nat.le_refl _)]
  have e : s.drop (k + 1) = Ru.bodyL t ++ 34 :: X := by
    rw [Ru.quoteL_body] at h
    have := drop_one (k := k) (c := 34) (r := Ru.bodyL t ++ [34] ++ X) h
    rw [this]; simp
  have hl := congrArg List.length e
  rw [List.length_drop, List.length_append] at hl
  rw [e, Ru.uqR_body X _ t (Nat.le_refl _) hv _ _ _ (by omega), hlen]
  simp
  omega
theorem num_at {s X : List UInt8} {k : Nat} {n : Int} (h : s.drop k = Nu.txt n ++ X) (hn : Nu.fitB n = true) (hX : Nu.freeB X = true) (hk : k ≤ s.length) : Nu.scanL s k = (n, ((k + (Nu.txt n).length : Nat) : Int), 0) := by
  rw [Nu.scanL_nat s k hk]
  have hs : s.take k ++ Nu.txt n ++ X = s := by rw [List.append_assoc, ← h, List.take_append_drop]
  have hl : (s.take k).length = k := by rw [List.length_take]; omega
  have := Nu.scan_text n hn (s.take k) X hX
  rw [hs, hl] at this
  exact this
theorem num_head {n : Int} (hn : Nu.fitB n = true) : ∃ c t, Nu.txt n = c :: t ∧ numB c = true := by
  by_cases h0 : n < 0
  · exact ⟨45, _, Nu.txt_neg hn h0, rfl⟩
  · obtain ⟨c, t, e, hc, _⟩ := Nu.txt_head_pos hn h0
    exact ⟨c, t, e, by unfold numB; rw [hc, Bool.or_true]⟩
theorem numB_facts {c : UInt8} (h : numB c = true) : isBl c = false ∧ c ≠ 110 ∧ c ≠ 102 ∧ c ≠ 116 := by
  unfold numB at h
  rw [Bool.or_eq_true, beq_iff_eq] at h
  rcases h with rfl | h
  · decide
  · have := Nu.isD_iff.1 h
    refine ⟨?_, ?_, ?_, ?_⟩
    · unfold isBl
      simp only [Bool.or_eq_false_iff, beq_eq_false_iff_ne]
      refine ⟨⟨⟨?_, ?_⟩, ?_⟩, ?_⟩ <;> rintro rfl <;> simp at this
    all_goals rintro rfl; simp at this
/-- The head of a value's text is no blank. -/
theorem tx_head {b : List UInt8} : ∀ (v : V), okV v → ∃ c t, tx b v = c :: t ∧ isBl c = false
  | .mk k bo n s l ks, h => by
    unfold okV at h
    unfold tx
    rcases h with ⟨rfl, _⟩ | ⟨rfl, _⟩ | ⟨rfl, _, hn, _⟩ | ⟨rfl, _⟩ | ⟨rfl, _⟩ | ⟨rfl, _⟩
    · exact ⟨_, _, rfl, by decide⟩
    · cases bo
      · exact ⟨102, _, rfl, by decide⟩
      · exact ⟨116, _, rfl, by decide⟩
    · obtain ⟨c, t, e, hc⟩ := num_head hn
      exact ⟨c, t, e, (numB_facts hc).1⟩
    · exact ⟨34, _, rfl, by decide⟩
    · exact ⟨91, _, rfl, by decide⟩
    · exact ⟨123, _, rfl, by decide⟩
theorem noBl_tx {b : List UInt8} {v : V} (h : okV v) (r : List UInt8) : noBl (tx b v ++ r) := by
  obtain ⟨c, t, e, hc⟩ := tx_head (b := b) v h
  rw [e]
  exact hc
theorem free_b {b : List UInt8} (hb : ∀ c ∈ b, isBl c = true) {c : UInt8} {r : List UInt8} (hc : Nu.freeB (c :: r) = true) : Nu.freeB (b ++ c :: r) = true := by
  match b, hb with
  | [], _ => exact hc
  | x :: t, hb =>
    have hx := hb x (by simp)
    unfold isBl at hx
    simp only [Bool.or_eq_true, beq_iff_eq] at hx
    rcases hx with ((rfl | rfl) | rfl) | rfl <;> rfl
theorem free_end {b : List UInt8} (hb : ∀ c ∈ b, isBl c = true) : Nu.freeB b = true := by
  match b, hb with
  | [], _ => rfl
  | x :: t, hb =>
    have hx := hb x (by simp)
    unfold isBl at hx
    simp only [Bool.or_eq_true, beq_iff_eq] at hx
    rcases hx with ((rfl | rfl) | rfl) | rfl <;> rfl

/-- The head of a value's text closes nothing. -/
theorem head_not93 {b : List UInt8} : ∀ (v : V), okV v → ∃ c t, tx b v = c :: t ∧ c ≠ 93 ∧ c ≠ 125
  | .mk k bo n s l ks, h => by
    unfold okV at h
    unfold tx
    rcases h with ⟨rfl, _⟩ | ⟨rfl, _⟩ | ⟨rfl, _, hn, _⟩ | ⟨rfl, _⟩ | ⟨rfl, _⟩ | ⟨rfl, _⟩
    · exact ⟨_, _, rfl, by decide, by decide⟩
    · cases bo
      · exact ⟨102, _, rfl, by decide, by decide⟩
      · exact ⟨116, _, rfl, by decide, by decide⟩
    · obtain ⟨c, t, e, hc⟩ := num_head hn
      refine ⟨c, t, e, ?_, ?_⟩ <;> rintro rfl <;> exact absurd hc (by decide)
    · exact ⟨34, _, rfl, by decide, by decide⟩
    · exact ⟨91, _, rfl, by decide, by decide⟩
    · exact ⟨123, _, rfl, by decide, by decide⟩
theorem free_items {b : List UInt8} (hb : ∀ c ∈ b, isBl c = true) (o : Bool) (t : List V) (ks : List ByteArray) (post : List UInt8) : Nu.freeB (b ++ (txI b o false t ks ++ ((if o then 125 else 93) :: post))) = true := by
  cases t with
  | nil =>
    rw [txI, List.nil_append]
    exact free_b hb (by cases o <;> rfl)
  | cons x t =>
    rw [txI]
    simp only [Bool.false_eq_true, if_false, List.cons_append]
    exact free_b hb rfl

/-! ### Steps of a run -/
section
variable {s : List UInt8} {d : Int} {R : Except Er (V × Nat)} {b : List UInt8}
theorem RunS.of_beg {k : Nat} {op : List Fm} {st : St} (h : RunS s d R (.rd k op)) (e : begM s d k op = .ok st) : RunS s d R st := by
  rcases h.rd with ⟨q, h1, h2⟩ | ⟨st', h1, h2⟩
  · rw [e] at h1; cases h1
  · rw [e] at h1; cases h1; exact h2
theorem RunS.of_put {k : Nat} {v : V} {f : Fm} {op : List Fm} {st : St} (h : RunS s d R (.got v k (f :: op))) (e : putM s v k f op = .ok st) : RunS s d R st := by
  rcases h.got with ⟨q, h1, h2⟩ | ⟨st', h1, h2⟩
  · rw [e] at h1; cases h1
  · rw [e] at h1; cases h1; exact h2
theorem word_run {k : Nat} {op : List Fm} {x r : List UInt8} {v : V} (h : s.drop k = x ++ r) : wordM s k op x v = .ok (.got v (k + x.length) op) := by
  unfold wordM
  rw [if_pos (by rw [h, List.take_left])]
theorem beg_word {k : Nat} {op : List Fm} {x r : List UInt8} {v : V} {c : UInt8} {t : List UInt8} (hx : x = c :: t) (h : s.drop k = x ++ r) (hd : d + (op.length : Int) ≤ 24)
    (hc : (c = 110 ∧ x = [110, 117, 108, 108] ∧ v = nulV) ∨ (c = 102 ∧ x = [102, 97, 108, 115, 101] ∧ v = booV false) ∨ (c = 116 ∧ x = [116, 114, 117, 101] ∧ v = booV true)) : begM s d k op = .ok (.got v (k + x.length) op) := by
  have h1 : s.drop k = c :: (t ++ r) := by rw [h, hx]; rfl
  have hk := lt_drop h1
  have hg := getD_at h1
  unfold begM
  rw [if_neg (by omega), if_neg (by omega), hg]
  rcases hc with ⟨rfl, rfl, rfl⟩ | ⟨rfl, rfl, rfl⟩ | ⟨rfl, rfl, rfl⟩
  · rw [if_pos rfl]; exact word_run h
  · rw [if_neg (by decide), if_pos rfl]; exact word_run h
  · rw [if_neg (by decide), if_neg (by decide), if_pos rfl]; exact word_run h
theorem beg_num {k : Nat} {op : List Fm} {n : Int} {X : List UInt8} (h : s.drop k = Nu.txt n ++ X) (hn : Nu.fitB n = true) (hX : Nu.freeB X = true) (hd : d + (op.length : Int) ≤ 24) : begM s d k op = .ok (.got (numV n) (k + (Nu.txt n).length) op) := by
  obtain ⟨c, t, e, hc⟩ := num_head hn
  have h1 : s.drop k = c :: (t ++ X) := by rw [h, e]; rfl
  have hk := lt_drop h1
  have hg := getD_at h1
  obtain ⟨_, n1, n2, n3⟩ := numB_facts hc
  unfold begM
  rw [if_neg (by omega), if_neg (by omega), hg, if_neg n1, if_neg n2, if_neg n3, if_pos hc]
  unfold numM
  rw [num_at h hn hX (Nat.le_of_lt hk)]
  simp
  omega
theorem beg_text {k : Nat} {op : List Fm} {t : ByteArray} {X : List UInt8} (h : s.drop k = Ru.quoteL t.data.toList ++ X) (hv : validB t) (hd : d + (op.length : Int) ≤ 24) : begM s d k op = .ok (.got (.mk 3 false 0 t [] []) (k + (Ru.quoteL t.data.toList).length) op) := by
  have h1 : s.drop k = 34 :: (Ru.bodyL t.data.toList ++ [34] ++ X) := by rw [h, Ru.quoteL_body]; rfl
  have hk := lt_drop h1
  have hg := getD_at h1
  unfold begM
  rw [if_neg (by omega), if_neg (by omega), hg, if_neg (by decide), if_neg (by decide), if_neg (by decide), if_neg (by decide), if_pos rfl]
  unfold texM
  rw [unq_at h hv]
  simp [texV]
theorem beg_open {k : Nat} {op : List Fm} {o : Bool} {r : List UInt8} (h : s.drop k = (if o then 123 else 91) :: r) (hd : d + (op.length : Int) ≤ 24) : begM s d k op = enterM s k op ⟨o, [], []⟩ := by
  have hk := lt_drop h
  have hg := getD_at h
  unfold begM
  rw [if_neg (by omega), if_neg (by omega), hg]
  cases o
  · rw [if_neg (by decide), if_neg (by decide), if_neg (by decide), if_neg (by decide), if_neg (by decide), if_pos (by rfl)]
  · rw [if_neg (by decide), if_neg (by decide), if_neg (by decide), if_neg (by decide), if_neg (by decide), if_neg (by decide), if_pos (by rfl)]
theorem key_run {k : Nat} {o : Bool} {vs : List V} {kk : List ByteArray} {key : ByteArray} {r : List UInt8} (hb : ∀ c ∈ b, isBl c = true) (h : s.drop k = txK b o key ++ r) (hr : noBl r) (hv : o = true → validB key ∧ hasK kk key.data.toList = false) :
    keyM s k ⟨o, vs, kk⟩ = .ok (k + (txK b o key).length, ⟨o, vs, if o then kk ++ [key] else kk⟩) := by
  cases o with
  | false =>
    unfold keyM
    rw [if_pos rfl]
    unfold txK
    simp
  | true =>
    obtain ⟨hv1, hv2⟩ := hv rfl
    have hK : txK b true key = Ru.quoteL key.data.toList ++ (b ++ (58 :: b)) := by unfold txK; simp
    rw [hK] at h ⊢
    rw [List.append_assoc] at h
    have hu := unq_at h hv1
    have h34 : s.drop k = 34 :: (Ru.bodyL key.data.toList ++ [34] ++ (b ++ 58 :: b ++ r)) := by rw [h, Ru.quoteL_body]; rfl
    have h2 := drop_app h
    rw [List.append_assoc] at h2
    have hb1 := bl_drop h2 hb (show noBl ((58 :: b) ++ r) from (by decide : isBl 58 = false))
    have h3 := drop_app h2
    have h58 : s.drop (k + (Ru.quoteL key.data.toList).length + b.length) = 58 :: (b ++ r) := h3
    have hb2 := bl_drop (drop_one h58) hb hr
    unfold keyM
    rw [if_neg (show ¬ (true = false) by decide), if_neg (fun e => e (at_drop h34)), hu, if_neg (fun e => e rfl)]
    simp only
    rw [if_neg (by rw [hv2]; decide), hb1, if_neg (fun e => e (at_drop h58)), hb2]
    simp only [List.length_append, List.length_cons, if_true]
    congr 2
    omega
theorem hasK_nodup {kk : List ByteArray} {key : ByteArray} {t : List ByteArray} (h : (kk ++ key :: t).Nodup) : hasK kk key.data.toList = false := by
  unfold hasK
  rw [List.any_eq_false]
  intro x hx e
  rw [beq_iff_eq] at e
  have hxk : x = key := ByteArray.ext (Array.toList_inj.1 e)
  subst hxk
  rw [List.nodup_append] at h
  exact h.2.2 x hx x (by simp) rfl
theorem okI.next {o : Bool} {kk ks : List ByteArray} {n : Nat} (h : okI o kk ks (n + 1)) : (o = true → validB (ks.headD ⟨#[]⟩) ∧ hasK kk (ks.headD ⟨#[]⟩).data.toList = false) ∧ okI o (if o then kk ++ [ks.headD ⟨#[]⟩] else kk) ks.tail n ∧ (if o then kk ++ [ks.headD ⟨#[]⟩] else kk) ++ ks.tail = kk ++ ks := by
  cases o with
  | false =>
    obtain ⟨rfl, rfl⟩ := h.2 rfl
    exact ⟨fun e => (by cases e), ⟨fun e => (by cases e), fun _ => ⟨rfl, rfl⟩⟩, rfl⟩
  | true =>
    obtain ⟨h1, h2, h3⟩ := h.1 rfl
    match ks, h1, h2, h3 with
    | key :: t, h1, h2, h3 =>
      refine ⟨fun _ => ⟨h3 key (by simp), hasK_nodup h2⟩, ⟨fun _ => ⟨by simpa using h1, ?_, fun x hx => h3 x (by simp [List.tail] at hx; simp [hx])⟩, fun e => (by cases e)⟩, ?_⟩
      · simpa using h2
      · simp
/-! ### The run over a text -/
mutual
theorem tx_run (hb : ∀ c ∈ b, isBl c = true) : ∀ (v : V) (k : Nat) (op : List Fm) (post : List UInt8), okV v → d + (op.length : Int) + (dpV v : Int) ≤ 25 → s.drop k = tx b v ++ post → Nu.freeB post = true → RunS s d R (.rd k op) → RunS s d R (.got v (k + (tx b v).length) op)
  | .mk kd bo n t l ks, k, op, post, hv, hd, hs, hf, hrun => by
    unfold dpV at hd
    have hd' : d + (op.length : Int) ≤ 24 := by omega
    unfold okV at hv
    rcases hv with ⟨rfl, rfl, rfl, rfl, rfl, rfl⟩ | ⟨rfl, rfl, rfl, rfl, rfl⟩ | ⟨rfl, rfl, hn, rfl, rfl, rfl⟩ | ⟨rfl, rfl, rfl, ht, rfl, rfl⟩ | ⟨rfl, rfl, rfl, rfl, rfl, hl⟩ | ⟨rfl, rfl, rfl, rfl, hkl, hkv, hkn, hl⟩
    · have e : tx b (.mk 0 false 0 ⟨#[]⟩ [] []) = [110, 117, 108, 108] := by unfold tx; simp
      rw [e] at hs ⊢
      exact hrun.of_beg (beg_word rfl hs hd' (.inl ⟨rfl, rfl, rfl⟩))
    · cases bo with
      | false =>
        have e : tx b (.mk 1 false 0 ⟨#[]⟩ [] []) = [102, 97, 108, 115, 101] := by unfold tx; simp
        rw [e] at hs ⊢
        exact hrun.of_beg (beg_word rfl hs hd' (.inr (.inl ⟨rfl, rfl, rfl⟩)))
      | true =>
        have e : tx b (.mk 1 true 0 ⟨#[]⟩ [] []) = [116, 114, 117, 101] := by unfold tx; simp
        rw [e] at hs ⊢
        exact hrun.of_beg (beg_word rfl hs hd' (.inr (.inr ⟨rfl, rfl, rfl⟩)))
    · have e : tx b (.mk 2 false n ⟨#[]⟩ [] []) = Nu.txt n := by unfold tx; simp
      rw [e] at hs ⊢
      exact hrun.of_beg (beg_num hs hn hf hd')
    · have e : tx b (.mk 3 false 0 t [] []) = Ru.quoteL t.data.toList := by unfold tx; simp
      rw [e] at hs ⊢
      exact hrun.of_beg (beg_text hs ht hd')
    · have e : tx b (.mk 4 false 0 ⟨#[]⟩ l []) = 91 :: (b ++ (txI b false true l [] ++ [93])) := by unfold tx; simp
      rw [e] at hs ⊢
      have := enter_run hb false l [] k op post hl ⟨fun e => (by cases e), fun _ => ⟨rfl, rfl⟩⟩ (by omega) hd' (by rw [hs]; simp) hrun
      rw [show (91 :: (b ++ (txI b false true l [] ++ [93]))).length = 1 + (b.length + ((txI b false true l []).length + 1)) by simp; omega]
      exact this
    · have e : tx b (.mk 5 false 0 ⟨#[]⟩ l ks) = 123 :: (b ++ (txI b true true l ks ++ [125])) := by unfold tx; simp
      rw [e] at hs ⊢
      have := enter_run hb true l ks k op post hl ⟨fun _ => ⟨hkl, by simpa using hkn, hkv⟩, fun e => (by cases e)⟩ (by omega) hd' (by rw [hs]; simp) hrun
      rw [show (123 :: (b ++ (txI b true true l ks ++ [125]))).length = 1 + (b.length + ((txI b true true l ks).length + 1)) by simp; omega]
      exact this
theorem enter_run (hb : ∀ c ∈ b, isBl c = true) (o : Bool) : ∀ (l : List V) (ks : List ByteArray) (k : Nat) (op : List Fm) (post : List UInt8), okVs l → okI o [] ks l.length → d + (op.length : Int) + (1 + (dpVs l : Int)) ≤ 25 → d + (op.length : Int) ≤ 24 →
    s.drop k = (if o then 123 else 91) :: (b ++ (txI b o true l ks ++ ((if o then 125 else 93) :: post))) → RunS s d R (.rd k op) → RunS s d R (.got (.mk (if o then 5 else 4) false 0 ⟨#[]⟩ l ks) (k + (1 + (b.length + ((txI b o true l ks).length + 1)))) op)
  | [], ks, k, op, post, hv, hi, hd, hd', hs, hrun => by
    have hks : ks = [] := by
      cases o
      · exact (hi.2 rfl).1
      · exact List.eq_nil_of_length_eq_zero (hi.1 rfl).1
    subst hks
    have e : txI b o true [] [] = [] := by unfold txI; rfl
    rw [e] at hs ⊢
    have h1 := drop_one hs
    have hbl := bl_drop h1 hb (by cases o; exact (by decide : isBl 93 = false); exact (by decide : isBl 125 = false))
    have h2 := drop_app h1
    have hr := hrun
    have hg : begM s d k op = .ok (.got (Fm.val ⟨o, [], []⟩) (bl s (k + 1) + 1) op) := by
      rw [beg_open hs hd']
      unfold enterM
      rw [if_pos]
      rw [hbl]
      exact (at_drop h2).trans (by cases o <;> rfl)
    have := hr.of_beg hg
    rw [hbl] at this
    rw [show k + (1 + (b.length + (([] : List UInt8).length + 1))) = k + 1 + b.length + 1 by simp; omega]
    cases o <;> exact this
  | x :: t, ks, k, op, post, hv, hi, hd, hd', hs, hrun => by
    unfold okVs at hv
    unfold dpVs at hd
    obtain ⟨hi1, hi2, hi3⟩ := hi.next
    have e : txI b o true (x :: t) ks = txK b o (ks.headD ⟨#[]⟩) ++ (tx b x ++ (b ++ txI b o false t ks.tail)) := by rw [txI]; simp
    rw [e] at hs ⊢
    have h1 := drop_one hs
    have hnb : noBl ((txK b o (ks.headD ⟨#[]⟩) ++ (tx b x ++ (b ++ txI b o false t ks.tail))) ++ ((if o then 125 else 93) :: post)) := by
      unfold txK
      cases o
      · simp only [Bool.false_eq_true, if_false, List.nil_append, List.append_assoc]
        exact noBl_tx hv.1 _
      · exact (by decide : isBl 34 = false)
    have hbl := bl_drop h1 hb hnb
    have h2 := drop_app h1
    rw [List.append_assoc] at h2
    have hnb2 : noBl ((tx b x ++ (b ++ txI b o false t ks.tail)) ++ ((if o then 125 else 93) :: post)) := by
      rw [List.append_assoc]
      exact noBl_tx hv.1 _
    have hkey := key_run (vs := []) (kk := []) hb h2 hnb2 hi1
    have hne : s[bl s (k + 1)]? ≠ some (Fm.close ⟨o, [], []⟩) := by
      rw [hbl]
      unfold txK at h2
      cases o
      · simp only [Bool.false_eq_true, if_false, List.nil_append, List.append_assoc] at h2
        have hh := head_not93 (b := b) x hv.1
        obtain ⟨c, r, ec, hc1, hc2⟩ := hh
        rw [ec] at h2
        rw [at_drop (c := c) h2]
        intro e'
        exact hc1 (Option.some.inj e')
      · have := at_drop (c := 34) h2
        rw [this]
        exact (by decide)
    have hg : begM s d k op = .ok (.rd (k + 1 + b.length + (txK b o (ks.headD ⟨#[]⟩)).length) (⟨o, [], if o then [] ++ [ks.headD ⟨#[]⟩] else []⟩ :: op)) := by
      rw [beg_open hs hd']
      unfold enterM
      rw [if_neg hne, hbl, hkey]
    have hr := hrun.of_beg hg
    have h3 := drop_app h2
    rw [List.append_assoc, List.append_assoc] at h3
    have hfr : Nu.freeB (b ++ (txI b o false t ks.tail ++ ((if o then 125 else 93) :: post))) = true := free_items hb o t ks.tail post
    have hx := tx_run hb x _ (⟨o, [], if o then [] ++ [ks.headD ⟨#[]⟩] else []⟩ :: op) _ hv.1 (by simp only [List.length_cons]; omega) h3 hfr hr
    have h4 := drop_app h3
    have hgt := got_run hb o t [] (if o then [] ++ [ks.headD ⟨#[]⟩] else []) ks.tail x _ op post hv.2 hi2 (by omega) (by omega) h4 hx
    rw [hi3] at hgt
    simp only [List.nil_append, List.length_append] at hgt ⊢
    rw [show k + (1 + (b.length + ((txK b o (ks.headD ⟨#[]⟩)).length + ((tx b x).length + (b.length + (txI b o false t ks.tail).length)) + 1))) = k + 1 + b.length + (txK b o (ks.headD ⟨#[]⟩)).length + (tx b x).length + (b.length + ((txI b o false t ks.tail).length + 1)) by omega]
    exact hgt
theorem got_run (hb : ∀ c ∈ b, isBl c = true) (o : Bool) : ∀ (t : List V) (vs : List V) (kk ks : List ByteArray) (x : V) (e : Nat) (op : List Fm) (post : List UInt8), okVs t → okI o kk ks t.length → d + (op.length : Int) + (1 + (dpVs t : Int)) ≤ 25 → d + (op.length : Int) ≤ 24 →
    s.drop e = b ++ (txI b o false t ks ++ ((if o then 125 else 93) :: post)) → RunS s d R (.got x e (⟨o, vs, kk⟩ :: op)) → RunS s d R (.got (.mk (if o then 5 else 4) false 0 ⟨#[]⟩ (vs ++ x :: t) (kk ++ ks)) (e + (b.length + ((txI b o false t ks).length + 1))) op)
  | [], vs, kk, ks, x, e, op, post, hv, hi, hd, hd', hs, hrun => by
    have hks : ks = [] := by
      cases o
      · exact (hi.2 rfl).1
      · exact List.eq_nil_of_length_eq_zero (hi.1 rfl).1
    subst hks
    have ee : txI b o false [] [] = [] := by unfold txI; rfl
    rw [ee] at hs ⊢
    have hbl := bl_drop hs hb (by cases o; exact (by decide : isBl 93 = false); exact (by decide : isBl 125 = false))
    have h2 := drop_app hs
    have hg : putM s x e ⟨o, vs, kk⟩ op = .ok (.got (Fm.val ⟨o, vs ++ [x], kk⟩) (bl s e + 1) op) := by
      unfold putM
      rw [if_pos]
      rw [hbl]
      exact (at_drop h2).trans (by cases o <;> rfl)
    have := hrun.of_put hg
    rw [hbl] at this
    rw [show e + (b.length + (([] : List UInt8).length + 1)) = e + b.length + 1 by simp; omega, List.append_nil]
    cases o <;> exact this
  | y :: t, vs, kk, ks, x, e, op, post, hv, hi, hd, hd', hs, hrun => by
    unfold okVs at hv
    unfold dpVs at hd
    obtain ⟨hi1, hi2, hi3⟩ := hi.next
    have ee : txI b o false (y :: t) ks = 44 :: (b ++ (txK b o (ks.headD ⟨#[]⟩) ++ (tx b y ++ (b ++ txI b o false t ks.tail)))) := by rw [txI]; simp
    rw [ee] at hs ⊢
    have hbl := bl_drop hs hb (show noBl _ from (by decide : isBl 44 = false))
    have h2 := drop_app hs
    have h44 : s.drop (e + b.length) = 44 :: (b ++ ((txK b o (ks.headD ⟨#[]⟩) ++ (tx b y ++ (b ++ txI b o false t ks.tail))) ++ ((if o then 125 else 93) :: post))) := by rw [h2]; simp
    have h5 := drop_one h44
    have hnb : noBl ((txK b o (ks.headD ⟨#[]⟩) ++ (tx b y ++ (b ++ txI b o false t ks.tail))) ++ ((if o then 125 else 93) :: post)) := by
      unfold txK
      cases o
      · simp only [Bool.false_eq_true, if_false, List.nil_append, List.append_assoc]
        exact noBl_tx hv.1 _
      · exact (by decide : isBl 34 = false)
    have hbl2 := bl_drop h5 hb hnb
    have h6 := drop_app h5
    rw [List.append_assoc] at h6
    have hnb2 : noBl ((tx b y ++ (b ++ txI b o false t ks.tail)) ++ ((if o then 125 else 93) :: post)) := by
      rw [List.append_assoc]
      exact noBl_tx hv.1 _
    have hkey := key_run (vs := vs ++ [x]) (kk := kk) hb h6 hnb2 hi1
    have hg : putM s x e ⟨o, vs, kk⟩ op = .ok (.rd (e + b.length + 1 + b.length + (txK b o (ks.headD ⟨#[]⟩)).length) (⟨o, vs ++ [x], if o then kk ++ [ks.headD ⟨#[]⟩] else kk⟩ :: op)) := by
      unfold putM
      rw [hbl, at_drop h44, if_neg (by cases o; exact (by decide : ¬ (some (44 : UInt8) = some 93)); exact (by decide : ¬ (some (44 : UInt8) = some 125))), if_neg (fun h => h rfl), hbl2]
      simp only
      rw [hkey]
    have hr := hrun.of_put hg
    have h7 := drop_app h6
    rw [List.append_assoc, List.append_assoc] at h7
    have hfr : Nu.freeB (b ++ (txI b o false t ks.tail ++ ((if o then 125 else 93) :: post))) = true := free_items hb o t ks.tail post
    have hx := tx_run hb y _ (⟨o, vs ++ [x], if o then kk ++ [ks.headD ⟨#[]⟩] else kk⟩ :: op) _ hv.1 (by simp only [List.length_cons]; omega) h7 hfr hr
    have h8 := drop_app h7
    have hgt := got_run hb o t (vs ++ [x]) (if o then kk ++ [ks.headD ⟨#[]⟩] else kk) ks.tail y _ op post hv.2 hi2 (by omega) (by omega) h8 hx
    rw [hi3, List.append_assoc] at hgt
    simp only [List.cons_append, List.nil_append, List.length_append, List.length_cons] at hgt ⊢
    rw [show e + (b.length + (b.length + ((txK b o (ks.headD ⟨#[]⟩)).length + ((tx b y).length + (b.length + (txI b o false t ks.tail).length))) + 1 + 1)) = e + b.length + 1 + b.length + (txK b o (ks.headD ⟨#[]⟩)).length + (tx b y).length + (b.length + ((txI b o false t ks.tail).length + 1)) by omega]
    exact hgt
end
end
end Go.Proofs.YtgbagdfcdljleaaDoor

namespace Go.Proofs.YtgbagdfcdljleaaDoor
open Go.Lib

mutual
theorem dp_depth : ∀ v : V, dpV v = Tr.depthV v
  | .mk k b n s l ks => by unfold dpV Tr.depthV; rw [dps_depth l]
theorem dps_depth : ∀ l : List V, dpVs l = Tr.depthVs l
  | [] => by unfold dpVs Tr.depthVs; rfl
  | x :: t => by unfold dpVs Tr.depthVs; rw [dp_depth x, dps_depth t]
end
theorem okVs_app : ∀ (l m : List V), okVs (l ++ m) ↔ okVs l ∧ okVs m
  | [], m => by simp [okVs]
  | x :: t, m => by simp only [List.cons_append, okVs, okVs_app t m, and_assoc]
theorem okVs_snoc {l : List V} {v : V} (h : okVs l) (hv : okV v) : okVs (l ++ [v]) := (okVs_app _ _).2 ⟨h, by simp [okVs, hv]⟩
theorem uqR_size : ∀ (n : Nat) (l : List UInt8) (q : Nat) (acc w : List UInt8) (e : Nat), Ru.uqR n l q acc = (w, e, 0) → q ≤ e ∧ w.length ≤ acc.length + 4 * (e - q)
  | 0, l, q, acc, w, e, h => by
    have := congrArg (fun x => x.2.2) h
    exact absurd this (show ¬ (10 : Nat) = 0 by decide)
  | n + 1, l, q, acc, w, e, h => by
    have no : ∀ {a : List UInt8} {b : Nat}, ¬ ((a, b, 10) : Ru.UAns) = (w, e, 0) := fun h => by
      have := congrArg (fun x : Ru.UAns => x.2.2) h
      exact absurd this (show ¬ (10 : Nat) = 0 by decide)
    rw [Ru.uqR] at h
    by_cases h0 : l = []
    · rw [if_pos h0] at h; exact absurd h no
    rw [if_neg h0] at h
    cases hb : Ru.bad l with
    | true => rw [hb, if_pos rfl] at h; exact absurd h no
    | false =>
      rw [hb, if_neg (by simp)] at h
      have hw := decodeL_width l
      by_cases h34 : (decodeL l).1 = 34
      · rw [if_pos h34] at h
        have h1 : q + 1 = e := congrArg (fun x : Ru.UAns => x.2.1) h
        have h2 : acc = w := congrArg (fun x : Ru.UAns => x.1) h
        subst h2
        omega
      rw [if_neg h34] at h
      by_cases h32 : (decodeL l).1 < 32
      · rw [if_pos h32] at h; exact absurd h no
      rw [if_neg h32] at h
      by_cases h92 : (decodeL l).1 = 92
      · rw [if_pos h92] at h
        cases he : Ru.escL l with
        | none => rw [he] at h; exact absurd h no
        | some y =>
          rw [he] at h
          obtain ⟨t, ht, _⟩ := Ru.head_ascii h0 hb h92 (by decide)
          obtain ⟨hy1, _, hy3⟩ := Ru.escL_ascii he (fun c hc => by rw [ht] at hc; simp at hc; subst hc; decide)
          have := uqR_size n _ _ _ _ _ h
          have h4 := Ru.enc_le y.1
          rw [List.length_append] at this
          omega
      · rw [if_neg h92] at h
        have := uqR_size n _ _ _ _ _ h
        have h4 := Ru.enc_le (decodeL l).1
        rw [List.length_append] at this
        omega
theorem unq_size {s w : List UInt8} {k e : Nat} (h : Ru.unqL s k = (w, e, 0)) : k < e ∧ w.length ≤ 4 * (e - (k + 1)) := by
  rw [Ru.unqL_uqR s k s.length (Nat.le_refl _)] at h
  have := uqR_size _ _ _ _ _ _ h
  simp only [List.length_nil] at this
  omega
theorem unq_valid {s w : List UInt8} {k e : Nat} (hk : s[k]? = some 34) (h : Ru.unqL s k = (w, e, 0)) : validD w = true := by
  have h1 := (Ru.unqI_valid s k).1
  rw [unqI_L hk, h] at h1
  exact h1

/-! ### What holds of the states of a run -/
def waitF (f : Fm) : Prop := okVs f.vs ∧ (f.obj = true → f.ks.length = f.vs.length + 1 ∧ f.ks.Nodup ∧ ∀ x ∈ f.ks, validB x) ∧ (f.obj = false → f.ks = [])
def preF (f : Fm) : Prop := okVs f.vs ∧ (f.obj = true → f.ks.length = f.vs.length ∧ f.ks.Nodup ∧ ∀ x ∈ f.ks, validB x) ∧ (f.obj = false → f.ks = [])
def cntS : List Fm → Nat
  | [] => 0
  | f :: t => 1 + Tr.countVs f.vs + cntS t
def szS : List Fm → Nat
  | [] => 0
  | f :: t => 1 + Tr.keysS f.ks + Tr.sizeVs f.vs + szS t
def okS (d : Int) : List Fm → Prop
  | [] => True
  | f :: t => waitF f ∧ d + (t.length : Int) + 1 + (Tr.depthVs f.vs : Int) ≤ 25 ∧ okS d t
def InvS (d : Int) : St → Prop
  | .rd k op => okS d op ∧ cntS op ≤ k ∧ szS op ≤ 5 * k
  | .got v k op => okV v ∧ d + (op.length : Int) + (Tr.depthV v : Int) ≤ 25 ∧ okS d op ∧ Tr.countV v + cntS op ≤ k ∧ Tr.sizeV v + szS op ≤ 5 * k
theorem keysS_app (a : List ByteArray) (x : ByteArray) : Tr.keysS (a ++ [x]) = Tr.keysS a + x.size := by
  unfold Tr.keysS
  simp
theorem key_inv {s : List UInt8} {k k' : Nat} {f f' : Fm} (h : keyM s k f = .ok (k', f')) (hp : preF f) : waitF f' ∧ f'.vs = f.vs ∧ k ≤ k' ∧ Tr.keysS f'.ks ≤ Tr.keysS f.ks + 4 * (k' - k) := by
  unfold keyM at h
  split at h
  · rename_i ho
    cases h
    refine ⟨⟨hp.1, fun e => (by rw [ho] at e; cases e), hp.2.2⟩, rfl, Nat.le_refl _, by omega⟩
  split at h
  · cases h
  split at h
  · cases h
  split at h
  · cases h
  split at h
  · cases h
  rename_i ho h34 hu hk h58
  cases h
  have ho : f.obj = true := by simpa using ho
  have h34 : s[k]? = some 34 := Decidable.not_not.1 h34
  have hu := unq_ok (Decidable.not_not.1 hu)
  obtain ⟨g1, g2⟩ := unq_size hu
  have g3 := bl_ge s (Ru.unqL s k).2.1
  have g6 := bl_ge s (bl s (Ru.unqL s k).2.1 + 1)
  obtain ⟨p1, p2, p3⟩ := hp.2.1 ho
  have hval := unq_valid h34 hu
  have hnk : (⟨(Ru.unqL s k).1.toArray⟩ : ByteArray) ∉ f.ks := fun hm => by
    apply hk
    unfold hasK
    rw [List.any_eq_true]
    exact ⟨_, hm, by simp⟩
  refine ⟨⟨hp.1, fun _ => ⟨by simp only [List.length_append, List.length_cons, List.length_nil, p1], ?_, ?_⟩, fun e => by rw [show f.obj = false from e] at ho; cases ho⟩, rfl, by omega, ?_⟩
  · rw [List.nodup_append]
    refine ⟨p2, by simp, fun a ha c hc => ?_⟩
    simp only [List.mem_cons, List.not_mem_nil, or_false] at hc
    subst hc
    intro e
    exact hnk (e ▸ ha)
  · intro x hx
    rcases List.mem_append.1 hx with e | e
    · exact p3 x e
    · simp only [List.mem_cons, List.not_mem_nil, or_false] at e
      subst e
      exact hval
  · show Tr.keysS (f.ks ++ [⟨(Ru.unqL s k).1.toArray⟩]) ≤ _
    rw [keysS_app, show (⟨(Ru.unqL s k).1.toArray⟩ : ByteArray).size = (Ru.unqL s k).1.length from by simp [ByteArray.size]]
    omega
theorem enter_inv {s : List UInt8} {d : Int} {k : Nat} {op : List Fm} {o : Bool} {st : St} (h : enterM s k op ⟨o, [], []⟩ = .ok st) (hd : d + (op.length : Int) ≤ 24) (h1 : okS d op) (h2 : cntS op ≤ k) (h3 : szS op ≤ 5 * k) : InvS d st := by
  unfold enterM at h
  have g1 := bl_ge s (k + 1)
  split at h
  · cases h
    refine ⟨?_, ?_, h1, ?_, ?_⟩
    · unfold Fm.val okV
      cases o
      · exact .inr (.inr (.inr (.inr (.inl ⟨rfl, rfl, rfl, rfl, rfl, by unfold okVs; trivial⟩))))
      · exact .inr (.inr (.inr (.inr (.inr ⟨rfl, rfl, rfl, rfl, rfl, fun x hx => (by cases hx), List.nodup_nil, by unfold okVs; trivial⟩))))
    · unfold Fm.val Tr.depthV Tr.depthVs
      omega
    · unfold Fm.val Tr.countV Tr.countVs
      omega
    · unfold Fm.val Tr.sizeV Tr.sizeVs Tr.keysS
      show 1 + 0 + 0 + 0 + szS op ≤ _
      omega
  · split at h
    · cases h
    · rename_i k' f' hk
      cases h
      obtain ⟨w1, w2, w3, w4⟩ := key_inv hk ⟨by unfold okVs; trivial, fun _ => ⟨rfl, List.nodup_nil, fun x hx => (by cases hx)⟩, fun _ => rfl⟩
      have w4 : Tr.keysS f'.ks ≤ 0 + 4 * (k' - bl s (k + 1)) := w4
      refine ⟨⟨w1, ?_, h1⟩, ?_, ?_⟩
      · rw [w2]
        unfold Tr.depthVs
        omega
      · unfold cntS
        rw [w2]
        unfold Tr.countVs
        omega
      · unfold szS
        rw [w2]
        unfold Tr.sizeVs
        omega
theorem put_inv {s : List UInt8} {d : Int} {v : V} {k : Nat} {f : Fm} {op : List Fm} {st : St} (h : putM s v k f op = .ok st) (hi : InvS d (.got v k (f :: op))) : InvS d st := by
  obtain ⟨i1, i2, ⟨i3, i4, i5⟩, i6, i7⟩ := hi
  unfold cntS at i6
  unfold szS at i7
  simp only [List.length_cons] at i2
  have hd1 : (Tr.depthVs (f.vs ++ [v]) : Int) = max (Tr.depthVs f.vs : Int) (Tr.depthV v : Int) := by
    rw [Tr.depthVs_app]
    show ((max (Tr.depthVs f.vs) (max (Tr.depthV v) 0) : Nat) : Int) = _
    omega
  have hc1 : Tr.countVs (f.vs ++ [v]) = Tr.countVs f.vs + Tr.countV v := by
    rw [Tr.countVs_app]
    show _ + (Tr.countV v + 0) = _
    omega
  have hs1 : Tr.sizeVs (f.vs ++ [v]) = Tr.sizeVs f.vs + Tr.sizeV v := by
    rw [Tr.sizeVs_app]
    show _ + (Tr.sizeV v + 0) = _
    omega
  unfold putM at h
  have g1 := bl_ge s k
  split at h
  · cases h
    refine ⟨?_, ?_, i5, ?_, ?_⟩
    · unfold Fm.val okV
      cases ho : f.obj with
      | false => exact .inr (.inr (.inr (.inr (.inl ⟨by simp [ho], rfl, rfl, rfl, i3.2.2 ho, okVs_snoc i3.1 i1⟩))))
      | true =>
        obtain ⟨p1, p2, p3⟩ := i3.2.1 ho
        exact .inr (.inr (.inr (.inr (.inr ⟨by simp [ho], rfl, rfl, rfl, by simp [p1], p3, p2, okVs_snoc i3.1 i1⟩))))
    · unfold Fm.val Tr.depthV
      simp only
      omega
    · unfold Fm.val Tr.countV
      simp only
      omega
    · unfold Fm.val Tr.sizeV
      simp only
      show 1 + 0 + _ + _ + szS op ≤ _
      omega
  · split at h
    · cases h
    · split at h
      · cases h
      · rename_i k' f' hk
        cases h
        have hp : preF { f with vs := f.vs ++ [v] } := ⟨okVs_snoc i3.1 i1, fun ho => by
          obtain ⟨p1, p2, p3⟩ := i3.2.1 ho
          exact ⟨by simp [p1], p2, p3⟩, i3.2.2⟩
        obtain ⟨w1, w2, w3, w4⟩ := key_inv hk hp
        have g2 := bl_ge s (bl s k + 1)
        have w4 : Tr.keysS f'.ks ≤ Tr.keysS f.ks + 4 * (k' - bl s (bl s k + 1)) := w4
        have w2 : f'.vs = f.vs ++ [v] := w2
        refine ⟨⟨w1, ?_, i5⟩, ?_, ?_⟩
        · rw [w2]
          omega
        · unfold cntS
          rw [w2]
          omega
        · unfold szS
          rw [w2]
          omega
theorem leaf_inv {d : Int} {v : V} {k k' : Nat} {op : List Fm} (hv : okV v) (hd : d + (op.length : Int) ≤ 24) (h1 : okS d op) (h2 : cntS op ≤ k) (h3 : szS op ≤ 5 * k) (hk : k < k') (hl : v.list = []) (hks : v.keys = []) (hs : v.text.size ≤ 4 * (k' - k)) : InvS d (.got v k' op) := by
  obtain ⟨a, b, c, t, l, ks⟩ := v
  have hl : l = [] := hl
  have hks : ks = [] := hks
  have hs : t.size ≤ 4 * (k' - k) := hs
  subst hl
  subst hks
  refine ⟨hv, ?_, h1, ?_, ?_⟩
  · unfold Tr.depthV Tr.depthVs; omega
  · unfold Tr.countV Tr.countVs; omega
  · unfold Tr.sizeV Tr.sizeVs Tr.keysS
    show 1 + t.size + 0 + 0 + szS op ≤ _
    omega
theorem beg_inv {s : List UInt8} {d : Int} {k : Nat} {op : List Fm} {st : St} (h : begM s d k op = .ok st) (hi : InvS d (.rd k op)) : InvS d st := by
  obtain ⟨h1, h2, h3⟩ := hi
  have hend := begM_end h
  unfold begM at h
  split at h
  · cases h
  rename_i hk
  have hk : k < s.length := by omega
  split at h
  · cases h
  have hd : d + (op.length : Int) ≤ 24 := by omega
  have hw : ∀ {x : List UInt8} {v : V}, wordM s k op x v = .ok st → okV v → v.list = [] → v.keys = [] → v.text.size = 0 → InvS d st := fun {x v} h a b c e => by
    unfold wordM at h
    split at h
    · cases h
      exact leaf_inv a hd h1 h2 h3 hend.1 b c (by omega)
    · cases h
  split at h
  · exact hw h (by unfold nulV okV; exact .inl ⟨rfl, rfl, rfl, rfl, rfl, rfl⟩) rfl rfl rfl
  split at h
  · exact hw h (by unfold booV okV; exact .inr (.inl ⟨rfl, rfl, rfl, rfl, rfl⟩)) rfl rfl rfl
  split at h
  · exact hw h (by unfold booV okV; exact .inr (.inl ⟨rfl, rfl, rfl, rfl, rfl⟩)) rfl rfl rfl
  split at h
  · unfold numM at h
    split at h
    · cases h
      obtain ⟨n, E, X, e, b1, b2, _⟩ := scan_sign (s := s) (k := k) hk
      rw [e] at hend ⊢
      refine leaf_inv ?_ hd h1 h2 h3 hend.1 rfl rfl (Nat.zero_le _)
      unfold numV okV
      exact .inr (.inr (.inl ⟨rfl, rfl, Nu.fitB_iff.2 ⟨b1, b2⟩, rfl, rfl, rfl⟩))
    · cases h
  split at h
  · rename_i h34
    unfold texM at h
    split at h
    · rename_i hu
      cases h
      have hu := unq_ok hu
      have h34 : s[k]? = some 34 := by
        rw [List.getElem?_eq_getElem hk]
        rw [List.getD, List.getElem?_eq_getElem hk] at h34
        exact congrArg some h34
      obtain ⟨g1, g2⟩ := unq_size hu
      refine leaf_inv ?_ hd h1 h2 h3 g1 rfl rfl ?_
      · unfold texV okV
        exact .inr (.inr (.inr (.inl ⟨rfl, rfl, rfl, unq_valid h34 hu, rfl, rfl⟩)))
      · show (⟨(Ru.unqL s k).1.toArray⟩ : ByteArray).size ≤ _
        rw [show (⟨(Ru.unqL s k).1.toArray⟩ : ByteArray).size = (Ru.unqL s k).1.length from by simp [ByteArray.size]]
        omega
    · cases h
  split at h
  · exact enter_inv h hd h1 h2 h3
  split at h
  · exact enter_inv h hd h1 h2 h3
  · cases h
theorem run_inv {s : List UInt8} {d : Int} {v : V} {e : Nat} : ∀ (n : Nat) (st : St), runM s d n st = some (.ok (v, e)) → InvS d st → InvS d (.got v e [])
  | 0, st, h, _ => by cases st <;> cases h
  | n + 1, .got u k [], h, hi => by rw [runM] at h; cases h; exact hi
  | n + 1, .got u k (f :: op), h, hi => by
    rw [runM] at h
    cases e : putM s u k f op with
    | error q => rw [e] at h; cases h
    | ok st => rw [e] at h; exact run_inv n st h (put_inv e hi)
  | n + 1, .rd k op, h, hi => by
    rw [runM] at h
    cases e : begM s d k op with
    | error q => rw [e] at h; cases h
    | ok st => rw [e] at h; exact run_inv n st h (beg_inv e hi)
/-- What is read may be. -/
theorem read_ok {s : List UInt8} {w : V} (h : parM s = .ok w) : okV w ∧ Tr.depthV w ≤ 24 ∧ Tr.countV w ≤ s.length ∧ Tr.sizeV w ≤ 5 * s.length := by
  unfold parM at h
  split at h
  · cases h
  have hk : bl s 0 ≤ s.length := bl_le s 0 (Nat.zero_le _)
  rw [valI_M hk] at h
  split at h
  · cases h
  · rename_i v k hv
    split at h
    · cases h
    · cases h
      have hr := valM_run s (bl s 0) 1 hk
      rw [hv] at hr
      obtain ⟨i1, i2, _, i4, i5⟩ := run_inv _ _ hr ⟨trivial, Nat.zero_le _, Nat.zero_le _⟩
      have hp := valM_place hk hv
      unfold cntS at i4
      unfold szS at i5
      simp only [List.length_nil] at i2
      exact ⟨i1, by omega, by omega, by omega⟩
/-- A value's text with blanks around is read as it, or is too long. -/
theorem text_parse {b p q : List UInt8} (hb : ∀ c ∈ b, isBl c = true) (hp : ∀ c ∈ p, isBl c = true) (hq : ∀ c ∈ q, isBl c = true) {v : V} (hv : okV v) (hd : Tr.depthV v ≤ 24) :
    parM (p ++ (tx b v ++ q)) = if 4096 < (p ++ (tx b v ++ q)).length then .error (0, 3) else .ok v := by
  obtain ⟨s, hs⟩ : ∃ s, p ++ (tx b v ++ q) = s := ⟨_, rfl⟩
  rw [hs]
  have hlen : s.length = p.length + ((tx b v).length + q.length) := by rw [← hs]; simp
  have h0 : s.drop 0 = p ++ (tx b v ++ q) := by rw [hs]; rfl
  have hbl := bl_drop h0 hp (noBl_tx hv q)
  rw [Nat.zero_add] at hbl
  have h1 := drop_app h0
  rw [Nat.zero_add] at h1
  unfold parM
  by_cases hl : 4096 < s.length
  · rw [if_pos hl, if_pos hl]
  rw [if_neg hl, if_neg hl, valI_M (by omega), hbl]
  obtain ⟨R, hR⟩ : ∃ R, valM s p.length 1 = R := ⟨_, rfl⟩
  have hrun : RunS s 1 R (.rd p.length []) := ⟨_, hR ▸ valM_run s p.length 1 (by omega)⟩
  have hg := tx_run hb v p.length [] q hv (by rw [dp_depth]; simp only [List.length_nil]; omega) h1 (free_end hq) hrun
  have hR2 := RunS.fin hg
  rw [hR, hR2]
  simp only
  have h2 := drop_app h1
  have hbl2 := bl_drop (s := s) (b := q) (r := []) (k := p.length + (tx b v).length) (by rw [h2, List.append_nil]) hq trivial
  rw [hbl2, if_neg (by omega)]
end Go.Proofs.YtgbagdfcdljleaaDoor

namespace Go.Proofs.YtgbagdfcdljleaaDoor
open Go.RowKit Go.Maps

def ba (l : List UInt8) : ByteArray := ⟨l.toArray⟩
theorem ba_app (a b : List UInt8) : ba a ++ ba b = ba (a ++ b) := by
  apply ByteArray.ext
  rw [ByteArray.data_append]
  simp [ba]
theorem ba_size (l : List UInt8) : (ba l).size = l.length := by simp [ba, ByteArray.size]
theorem ba_self (s : ByteArray) : ba s.data.toList = s := by simp [ba]
theorem txI_take (b : List UInt8) (o : Bool) : ∀ (l : List V) (ks : List ByteArray) (j : Nat) (first : Bool) (h : j < l.length), txI b o first (l.take (j + 1)) ks = txI b o first (l.take j) ks ++ ((if first = true ∧ j = 0 then [] else 44 :: b) ++ (txK b o (ks.getD j ⟨#[]⟩) ++ (tx b l[j] ++ b)))
  | x :: t, ks, 0, first, h => by
    rw [List.take_succ_cons, List.take_zero, List.take_zero, txI, txI, txI]
    cases ks <;> cases first <;> simp
  | x :: t, ks, j + 1, first, h => by
    rw [List.take_succ_cons, List.take_succ_cons, txI, txI, txI_take b o t ks.tail j false (by simpa using h)]
    have e1 : (if first = true ∧ j + 1 = 0 then ([] : List UInt8) else 44 :: b) = 44 :: b := if_neg (by omega)
    have e2 : (if false = true ∧ j = 0 then ([] : List UInt8) else 44 :: b) = 44 :: b := if_neg (by simp)
    have e3 : ks.tail.getD j (⟨#[]⟩ : ByteArray) = ks.getD (j + 1) ⟨#[]⟩ := by cases ks <;> simp
    rw [e1, e2, e3]
    simp only [List.getElem_cons_succ, List.append_assoc]
theorem txI_mono (b : List UInt8) (o : Bool) : ∀ (l : List V) (ks : List ByteArray) (j : Nat) (first : Bool), (txI b o first (l.take j) ks).length ≤ (txI b o first l ks).length
  | [], ks, j, first => by rw [List.take_nil]; exact Nat.le_refl _
  | x :: t, ks, 0, first => by rw [List.take_zero, txI]; exact Nat.zero_le _
  | x :: t, ks, j + 1, first => by
    rw [List.take_succ_cons, txI, txI]
    have := txI_mono b o t ks.tail j false
    simp only [List.length_append]
    omega
theorem quote_len (l : List UInt8) : (Ru.quoteL l).length ≤ 2 + 6 * l.length := Ru.qRune_le6 l
theorem keysS_cons (k : ByteArray) (t : List ByteArray) : Tr.keysS (k :: t) = k.size + Tr.keysS t := by simp [Tr.keysS]
mutual
theorem tx_len {b : List UInt8} (hb : b.length ≤ 4) : ∀ x : V, (tx b x).length + 20 ≤ 40 * Tr.sizeV x
  | .mk k bo n s l ks => by
    have h1 := Nu.txt_len n
    have h2 := quote_len s.data.toList
    rw [toList_length] at h2
    have h3 := txI_len hb (decide (k = 5)) true l ks
    unfold tx Tr.sizeV
    split
    · simp only [List.length_cons, List.length_nil]; omega
    split
    · split <;> (simp only [List.length_cons, List.length_nil]; omega)
    split
    · omega
    split
    · omega
    · simp only [List.length_cons, List.length_append, List.length_nil]
      omega
theorem txI_len {b : List UInt8} (hb : b.length ≤ 4) (o : Bool) : ∀ (first : Bool) (l : List V) (ks : List ByteArray), (txI b o first l ks).length ≤ 40 * Tr.sizeVs l + 6 * Tr.keysS ks
  | first, [], ks => by rw [txI]; exact Nat.zero_le _
  | first, x :: t, ks => by
    have h1 := tx_len hb x
    have h2 := txI_len hb o false t ks.tail
    have h3 : (txK b o (ks.headD ⟨#[]⟩)).length + 6 * Tr.keysS ks.tail ≤ 11 + 6 * Tr.keysS ks := by
      unfold txK
      cases o
      · cases ks with
        | nil => simp
        | cons k t => rw [keysS_cons]; simp; omega
      · cases ks with
        | nil =>
          have := quote_len (⟨#[]⟩ : ByteArray).data.toList
          simp at this ⊢
          omega
        | cons k t =>
          have := quote_len k.data.toList
          rw [toList_length] at this
          rw [keysS_cons]
          simp
          omega
    rw [txI]
    unfold Tr.sizeVs
    simp only [List.length_append]
    have h4 : (if first = true then ([] : List UInt8) else 44 :: b).length ≤ 5 := by split <;> simp <;> omega
    omega
end
theorem okVs_get : ∀ (l : List V) (j : Nat) (h : j < l.length), okVs l → okV l[j]
  | x :: t, 0, _, hv => by unfold okVs at hv; exact hv.1
  | x :: t, j + 1, h, hv => by unfold okVs at hv; exact okVs_get t j (by simpa using h) hv.2
/-- What stands ahead of the j-th part. -/
def outJ (b : List UInt8) (o : Bool) (l : List V) (ks : List ByteArray) (j : Nat) : ByteArray := ba ((if o then 123 else 91) :: (b ++ txI b o true (l.take j) ks))
theorem outJ_zero (bt : ByteArray) (o : Bool) (l : List V) (ks : List ByteArray) : outJ bt.data.toList o l ks 0 = (if o then ⟨#[123]⟩ else ⟨#[91]⟩) ++ bt := by
  unfold outJ
  rw [List.take_zero, txI, List.append_nil]
  have := ba_app [if o then 123 else 91] bt.data.toList
  rw [ba_self] at this
  rw [show ((if o then 123 else 91) :: bt.data.toList : List UInt8) = [if o then 123 else 91] ++ bt.data.toList from rfl, ← this]
  cases o <;> rfl
theorem outJ_list (bt : ByteArray) (l : List V) (ks : List ByteArray) (j : Nat) (h : j < l.length) :
    outJ bt.data.toList false l ks (j + 1) = (if j = 0 then outJ bt.data.toList false l ks j else outJ bt.data.toList false l ks j ++ ⟨#[44]⟩ ++ bt) ++ ba (tx bt.data.toList l[j]) ++ bt := by
  unfold outJ
  rw [txI_take _ _ _ _ _ _ h]
  have e : ∀ a c : List UInt8, ba a ++ ba c = ba (a ++ c) := ba_app
  have hs := ba_self bt
  by_cases h0 : j = 0
  · rw [if_pos h0, e]
    conv => rhs; rw [← hs]
    rw [e]
    unfold txK
    simp [hs, h0]
  · rw [if_neg h0, show (⟨#[44]⟩ : ByteArray) = ba [44] from rfl, e]
    conv => rhs; rw [← hs]
    rw [e, e, e]
    unfold txK
    simp [hs, h0]
theorem outJ_obj (bt : ByteArray) (l : List V) (ks : List ByteArray) (j : Nat) (h : j < l.length) :
    outJ bt.data.toList true l ks (j + 1) = (if j = 0 then outJ bt.data.toList true l ks j else outJ bt.data.toList true l ks j ++ ⟨#[44]⟩ ++ bt) ++ ba (Ru.quoteL (ks.getD j ⟨#[]⟩).data.toList) ++ bt ++ ⟨#[58]⟩ ++ bt ++ ba (tx bt.data.toList l[j]) ++ bt := by
  unfold outJ
  rw [txI_take _ _ _ _ _ _ h]
  have e : ∀ a c : List UInt8, ba a ++ ba c = ba (a ++ c) := ba_app
  have hs := ba_self bt
  by_cases h0 : j = 0
  · rw [if_pos h0, show (⟨#[58]⟩ : ByteArray) = ba [58] from rfl, e]
    conv => rhs; rw [← hs]
    rw [e, e, e, e, e]
    unfold txK
    simp [hs, h0]
  · rw [if_neg h0, show (⟨#[44]⟩ : ByteArray) = ba [44] from rfl, show (⟨#[58]⟩ : ByteArray) = ba [58] from rfl, e]
    conv => rhs; rw [← hs]
    rw [e, e, e, e, e, e, e]
    unfold txK
    simp [hs, h0]
theorem outJ_size (b : List UInt8) (o : Bool) (l : List V) (ks : List ByteArray) (j : Nat) : (outJ b o l ks j).size ≤ 1 + (b.length + (txI b o true l ks).length) := by
  unfold outJ
  have := txI_mono b o l ks j true
  rw [ba_size]
  simp only [List.length_cons, List.length_append]
  omega
theorem outJ_full (b : List UInt8) (o : Bool) (l : List V) (ks : List ByteArray) {k : Int} (hk : k = if o then 5 else 4) (bo : Bool) (n : Int) (s : ByteArray) : outJ b o l ks l.length ++ (if o then ⟨#[125]⟩ else ⟨#[93]⟩) = ba (tx b (.mk k bo n s l ks)) := by
  subst hk
  unfold outJ tx
  rw [List.take_length]
  cases o
  · show ba _ ++ ba [93] = _
    rw [ba_app]
    simp
  · show ba _ ++ ba [125] = _
    rw [ba_app]
    simp
theorem rquote_ok (s : ByteArray) (hv : validB s) (hs : s.size ≤ 20000) (w : World) :
    Calls Tryd.prog 23 #[.string s] w fun e w' => e = .returned (.tuple #[.string (ba (Ru.quoteL s.data.toList)), .int .i64 0]) ∧ Below w.heap.size w w' := by
  have := Ru.rquote_any s w hs
  unfold Ru.quoteR at this
  rw [if_pos (show Lib.validD s.data.toList = true from hv)] at this
  exact this
set_option maxRecDepth 100000 in
set_option maxHeartbeats 4000000 in
theorem ltext_any (bt : ByteArray) (hbt : bt.size ≤ 4) : ∀ (N : Nat) (x : V) (v : Value) (w : World), Tr.sizeV x ≤ N → N ≤ 20000 → okV x → isV w x v →
    Calls Tryd.prog 13 #[v, .string bt] w fun e w' => e = .returned (.string (ba (tx bt.data.toList x))) ∧ Below w.heap.size w w'
  | 0, x, v, w, hN, _, _, h => absurd (Tr.sizeV_pos x) (by omega)
  | N + 1, x, v, w, hN, hM, hv, h => by
    obtain ⟨k, bo, n, s, l, ks⟩ := x
    unfold isV at h
    obtain ⟨lv, kv, rfl, hk, hn, hs, ⟨a, cap, ⟨o, rfl, hc1, hc2, ho⟩, hvs⟩, ⟨a2, cap2, ⟨o2, rfl, hc3, hc4, ho2⟩, hks⟩⟩ := h
    have hsz : Tr.sizeV (.mk k bo n s l ks) = 1 + s.size + Tr.keysS ks + Tr.sizeVs l := by rw [Tr.sizeV]
    obtain ⟨W1, hW1⟩ : ∃ W1, W1 = w.alloc (.cells #[.int .i8 k, .bool bo, .int .i64 n, .string s, .slice o l.length cap, .slice o2 ks.length cap2] 28) := ⟨_, rfl⟩
    have kb1 : Below w.heap.size w W1 := by rw [hW1]; exact (Below.refl _ _).alloc (Nat.le_refl _) _
    have b1 : Bx W1 w.heap.size #[.int .i8 k, .bool bo, .int .i64 n, .string s, .slice o l.length cap, .slice o2 ks.length cap2] 28 := by rw [hW1]; exact Bx.new _ _ _
    have KB1 := Lib.hid kb1
    have B1 := Lib.hid b1
    have HW1 := Lib.hid hW1
    clear kb1 b1 hW1 hk hn
    unfold okV at hv
    rcases hv with ⟨rfl, rfl, rfl, rfl, rfl, rfl⟩ | ⟨rfl, rfl, rfl, rfl, rfl⟩ | ⟨rfl, rfl, hnn, rfl, rfl, rfl⟩ | ⟨rfl, rfl, rfl, hvt, rfl, rfl⟩ | ⟨rfl, rfl, rfl, rfl, rfl, hl⟩ | ⟨rfl, rfl, rfl, rfl, hkl, hkv, hkn, hl⟩
    · clear hvs hks ho ho2 hsz hN hM hbt
      simp only [List.length_nil] at HW1 B1
      have HT : Hid (ba (tx bt.data.toList (.mk 0 false 0 ⟨#[]⟩ [] [])) = ⟨#[110, 117, 108, 108]⟩) := Lib.hid (by unfold tx; simp [ba])
      have d0 : W1.cell? ⟨w.heap.size, 0, none⟩ = some (.int .i8 0) := B1.out.cell 0
      have d1 : W1.cell? ⟨w.heap.size, 1, none⟩ = some (.bool false) := B1.out.cell 1
      have d2 : W1.cell? ⟨w.heap.size, 2, none⟩ = some (.int .i64 0) := B1.out.cell 2
      have d3 : W1.cell? ⟨w.heap.size, 3, none⟩ = some (.string ⟨#[]⟩) := B1.out.cell 3
      go_enter Tryd.func13, Tryd.ntmps13
      go_upto_region 1 with fail
      rw [← HW1.out]
      go_wp2_with fail
      refine bodyPost_ret (v := .string ⟨#[110, 117, 108, 108]⟩) (by simp [results, Tryd.results13, go_sem]) rfl ?_
      exact ⟨by rw [HT.out], KB1.out⟩
    · clear hvs hks ho ho2 hsz hN hM hbt
      simp only [List.length_nil] at HW1 B1
      cases bo with
      | false =>
        have HT : Hid (ba (tx bt.data.toList (.mk 1 false 0 ⟨#[]⟩ [] [])) = ⟨#[102, 97, 108, 115, 101]⟩) := Lib.hid (by unfold tx; simp [ba])
        have d0 : W1.cell? ⟨w.heap.size, 0, none⟩ = some (.int .i8 1) := B1.out.cell 0
        have d1 : W1.cell? ⟨w.heap.size, 1, none⟩ = some (.bool false) := B1.out.cell 1
        have d2 : W1.cell? ⟨w.heap.size, 2, none⟩ = some (.int .i64 0) := B1.out.cell 2
        have d3 : W1.cell? ⟨w.heap.size, 3, none⟩ = some (.string ⟨#[]⟩) := B1.out.cell 3
        go_enter Tryd.func13, Tryd.ntmps13
        go_upto_region 1 with fail
        rw [← HW1.out]
        go_wp2_with fail
        refine bodyPost_ret (v := .string ⟨#[102, 97, 108, 115, 101]⟩) (by simp [results, Tryd.results13, go_sem]) rfl ?_
        exact ⟨by rw [HT.out], KB1.out⟩
      | true =>
        have HT : Hid (ba (tx bt.data.toList (.mk 1 true 0 ⟨#[]⟩ [] [])) = ⟨#[116, 114, 117, 101]⟩) := Lib.hid (by unfold tx; simp [ba])
        have d0 : W1.cell? ⟨w.heap.size, 0, none⟩ = some (.int .i8 1) := B1.out.cell 0
        have d1 : W1.cell? ⟨w.heap.size, 1, none⟩ = some (.bool true) := B1.out.cell 1
        have d2 : W1.cell? ⟨w.heap.size, 2, none⟩ = some (.int .i64 0) := B1.out.cell 2
        have d3 : W1.cell? ⟨w.heap.size, 3, none⟩ = some (.string ⟨#[]⟩) := B1.out.cell 3
        go_enter Tryd.func13, Tryd.ntmps13
        go_upto_region 1 with fail
        rw [← HW1.out]
        go_wp2_with fail
        refine bodyPost_ret (v := .string ⟨#[116, 114, 117, 101]⟩) (by simp [results, Tryd.results13, go_sem]) rfl ?_
        exact ⟨by rw [HT.out], KB1.out⟩
    · clear hvs hks ho ho2 hsz hN hM hbt
      simp only [List.length_nil] at HW1 B1
      have HT : Hid (ba (tx bt.data.toList (.mk 2 false n ⟨#[]⟩ [] [])) = ba (Nu.txt n)) := Lib.hid (by unfold tx; simp)
      have HX : Hid (∀ w, Calls Tryd.prog 22 #[.int .i64 n] w fun e w' => e = .returned (.tuple #[.string (ba (Nu.txt n)), .int .i64 (Nu.errN true)]) ∧ Below w.heap.size w w') := Lib.hid (fun w => by have := Nu.rtext_any n w; rw [hnn] at this; exact this)
      obtain ⟨S, hS⟩ : ∃ S, ba (Nu.txt n) = S := ⟨_, rfl⟩
      obtain ⟨er, her⟩ : ∃ er, Nu.errN true = er := ⟨_, rfl⟩
      rw [hS] at HT HX
      rw [her] at HX
      clear hS her hnn
      have d0 : W1.cell? ⟨w.heap.size, 0, none⟩ = some (.int .i8 2) := B1.out.cell 0
      have d1 : W1.cell? ⟨w.heap.size, 1, none⟩ = some (.bool false) := B1.out.cell 1
      have d2 : W1.cell? ⟨w.heap.size, 2, none⟩ = some (.int .i64 n) := B1.out.cell 2
      have d3 : W1.cell? ⟨w.heap.size, 3, none⟩ = some (.string ⟨#[]⟩) := B1.out.cell 3
      go_enter Tryd.func13, Tryd.ntmps13
      go_upto_region 1 with fail
      rw [← HW1.out]
      go_wp2_with fail
      refine (HX.out _).mono ?_
      rintro e w2 ⟨rfl, hb2⟩
      have HB2 := Lib.hid hb2
      clear hb2
      go_wp2_with fail
      refine bodyPost_ret (v := .string S) (by simp [results, Tryd.results13, go_sem]) rfl ?_
      exact ⟨by rw [HT.out], KB1.out.trans (HB2.out.mono KB1.out.size)⟩
    · clear hvs hks ho ho2 hbt
      simp only [List.length_nil] at HW1 B1
      have hs2 : s.size ≤ 20000 := by omega
      have HT : Hid (ba (tx bt.data.toList (.mk 3 false 0 s [] [])) = ba (Ru.quoteL s.data.toList)) := Lib.hid (by unfold tx; simp)
      have HX := Lib.hid (fun w => rquote_ok s hvt hs2 w)
      obtain ⟨S, hS⟩ : ∃ S, ba (Ru.quoteL s.data.toList) = S := ⟨_, rfl⟩
      rw [hS] at HT HX
      clear hS hs2 hsz hN hM hvt
      have d0 : W1.cell? ⟨w.heap.size, 0, none⟩ = some (.int .i8 3) := B1.out.cell 0
      have d1 : W1.cell? ⟨w.heap.size, 1, none⟩ = some (.bool false) := B1.out.cell 1
      have d2 : W1.cell? ⟨w.heap.size, 2, none⟩ = some (.int .i64 0) := B1.out.cell 2
      have d3 : W1.cell? ⟨w.heap.size, 3, none⟩ = some (.string s) := B1.out.cell 3
      go_enter Tryd.func13, Tryd.ntmps13
      go_upto_region 1 with fail
      rw [← HW1.out]
      go_wp2_with fail
      refine (HX.out _).mono ?_
      rintro e w2 ⟨rfl, hb2⟩
      have HB2 := Lib.hid hb2
      clear hb2
      go_wp2_with fail
      refine bodyPost_ret (v := .string S) (by simp [results, Tryd.results13, go_sem]) rfl ?_
      exact ⟨by rw [HT.out], KB1.out.trans (HB2.out.mono KB1.out.size)⟩
    · simp only [List.length_nil] at HW1 B1
      have hIH : ∀ j (hj : j < l.length) u W, isV W l[j] u → Calls Tryd.prog 13 #[u, .string bt] W fun e w' => e = .returned (.string (ba (tx bt.data.toList l[j]))) ∧ Below W.heap.size W w' := fun j hj u W hu =>
        ltext_any bt hbt N l[j] u W (by have := Tr.sizeVs_get l j hj; omega) (by omega) (okVs_get l j hj hl) hu
      have hlen : l.length ≤ 20000 := by have := Tr.sizeVs_len l; omega
      have hOs : ∀ j, (outJ bt.data.toList false l [] j).size ≤ 900000 := fun j => by
        have h1 := outJ_size bt.data.toList false l [] j
        have h2 := txI_len (b := bt.data.toList) (by rw [toList_length]; exact hbt) false true l []
        rw [toList_length] at h1
        omega
      have hXs : ∀ j (hj : j < l.length), (ba (tx bt.data.toList l[j])).size ≤ 800000 := fun j hj => by
        have h1 := tx_len (b := bt.data.toList) (by rw [toList_length]; exact hbt) l[j]
        have h2 := Tr.sizeVs_get l j hj
        rw [ba_size]
        omega
      have hfull := outJ_full bt.data.toList false l [] (k := 4) rfl false 0 ⟨#[]⟩
      have hzero := outJ_zero bt false l []
      simp only [Bool.false_eq_true, if_false, if_true] at hfull hzero
      have hstep := fun j hj => outJ_list bt l [] j hj
      obtain ⟨O, hO⟩ : ∃ O : Nat → ByteArray, outJ bt.data.toList false l [] = O := ⟨_, rfl⟩
      rw [hO] at hOs hfull hzero hstep
      have HOS := Lib.hid hOs
      have HXS := Lib.hid hXs
      have HST := Lib.hid hstep
      have HIH := Lib.hid hIH
      have HF := Lib.hid hfull
      have HZ := Lib.hid hzero.symm
      have HVS := Lib.hid hvs
      have HO := Lib.hid ho
      have z0 := hOs 0
      clear hO hOs hXs hstep hIH hfull hzero hvs ho ho2 hks hl hsz hN
      have hc2' : cap ≤ 9223372036854775807 := hc2
      have hc4' : cap2 ≤ 9223372036854775807 := hc4
      clear hc2 hc4
      have d4 : W1.cell? ⟨w.heap.size, 4, none⟩ = some (.slice o l.length cap) := B1.out.cell 4
      have d0 : W1.cell? ⟨w.heap.size, 0, none⟩ = some (.int .i8 4) := B1.out.cell 0
      have d1 : W1.cell? ⟨w.heap.size, 1, none⟩ = some (.bool false) := B1.out.cell 1
      have d2 : W1.cell? ⟨w.heap.size, 2, none⟩ = some (.int .i64 0) := B1.out.cell 2
      have d3 : W1.cell? ⟨w.heap.size, 3, none⟩ = some (.string ⟨#[]⟩) := B1.out.cell 3
      go_enter Tryd.func13, Tryd.ntmps13
      go_upto_region 1 with fail
      rw [← HW1.out]
      have hzz : (⟨#[91]⟩ : ByteArray).size = 1 := rfl
      go_wp2_with fail
      go_loopw [11, 12] (fun a i wr => ∃ j : Nat, j ≤ l.length ∧ a = .string (O j) ∧ i = .int .i64 j ∧ Hid (Below W1.heap.size W1 wr)) (fun a i _ => l.length - (intOf i).toNat)
      case atStart => exact ⟨0, Nat.zero_le _, by rw [HZ.out], rfl, Lib.hid (Below.refl _ _)⟩
      case round =>
        obtain ⟨j, hj, rfl, rfl, HB⟩ := hrel
        clear d0 d1 d2 d3 d4 z0
        have bw := B1.out.below HB.out
        have d0 : wr.cell? ⟨w.heap.size, 0, none⟩ = some (.int .i8 4) := bw.cell 0
        have d4 : wr.cell? ⟨w.heap.size, 4, none⟩ = some (.slice o l.length cap) := bw.cell 4
        have d5 : wr.cell? ⟨w.heap.size, 5, none⟩ = some (.slice o2 0 cap2) := bw.cell 5
        have zj := HOS.out j
        clear bw
        by_cases hlt : j < l.length
        · obtain rfl := HO.out (by omega)
          obtain ⟨c0, c1, c2, c3, c4, c5, g0, g1, g2, g3, g4, g5, hx5⟩ := isVs_at l a j hlt HVS.out
          have hwr : Below w.heap.size w wr := (KB1.out.trans (HB.out.mono KB1.out.size))
          have g0 := cell_below hwr _ _ g0
          have g1 := cell_below hwr _ _ g1
          have g2 := cell_below hwr _ _ g2
          have g3 := cell_below hwr _ _ g3
          have g4 := cell_below hwr _ _ g4
          have g5 := cell_below hwr _ _ g5
          have hx6 := isV_below hwr hx5
          have HX6 := Lib.hid hx6
          have hst := HST.out j hlt
          obtain ⟨X, hX⟩ : ∃ X, ba (tx bt.data.toList l[j]) = X := ⟨_, rfl⟩
          have zx := HXS.out j hlt
          have HXC : Hid (∀ u W, isV W l[j] u → Calls Tryd.prog 13 #[u, .string bt] W fun e w' => e = .returned (.string X) ∧ Below W.heap.size W w') := Lib.hid (fun u W hu => hX ▸ HIH.out j hlt u W hu)
          rw [hX] at hst zx
          clear hx5 hx6 hX hwr
          by_cases h0 : j = 0
          all_goals
            first
            | rw [if_pos h0] at hst
            | rw [if_neg h0] at hst
            have HSTJ := Lib.hid hst
            have h00 : decide ((0 : Int) < (j : Int)) = decide (0 < j) := by rw [decide_eq_decide]; omega
            first
            | have e0 : decide ((0 : Int) < (j : Int)) = true := decide_eq_true (by omega)
            | have e0 : decide ((0 : Int) < (j : Int)) = false := decide_eq_false (by omega)
            first
            | have e1 : decide (0 < j) = true := decide_eq_true (by omega)
            | have e1 : decide (0 < j) = false := decide_eq_false (by omega)
            have hc44 : (⟨#[44]⟩ : ByteArray).size = 1 := rfl
            clear h0 hst h00
            obtain ⟨Oj, hOj⟩ : ∃ x, O j = x := ⟨_, rfl⟩
            rw [hOj] at zj HSTJ ⊢
            clear hOj
            go_wp2_with fail
            refine (HXC.out _ wr HX6.out).mono ?_
            rintro e w5 ⟨rfl, hb5⟩
            have HB5 := Lib.hid hb5
            clear hb5
            go_wp2_with fail
            go_roundw
            case rel => exact ⟨j + 1, by omega, by rw [HSTJ.out], by go_num, Lib.hid (HB.out.trans (HB5.out.mono HB.out.size))⟩
            case measure => simp [intOf]; omega
        · have hje : j = l.length := by omega
          subst hje
          have hc93 : (⟨#[93]⟩ : ByteArray).size = 1 := rfl
          obtain ⟨Oj, hOj⟩ : ∃ x, O l.length = x := ⟨_, rfl⟩
          rw [hOj] at zj HF ⊢
          clear hOj hlt
          go_wp2_with fail
          refine bodyPost_ret (v := .string (Oj ++ ⟨#[93]⟩)) (by simp [results, Tryd.results13, go_sem]) rfl ?_
          exact ⟨by rw [HF.out], KB1.out.trans (HB.out.mono KB1.out.size)⟩
    · have hIH : ∀ j (hj : j < l.length) u W, isV W l[j] u → Calls Tryd.prog 13 #[u, .string bt] W fun e w' => e = .returned (.string (ba (tx bt.data.toList l[j]))) ∧ Below W.heap.size W w' := fun j hj u W hu =>
        ltext_any bt hbt N l[j] u W (by have := Tr.sizeVs_get l j hj; omega) (by omega) (okVs_get l j hj hl) hu
      have hlen : l.length ≤ 20000 := by have := Tr.sizeVs_len l; omega
      have hOs : ∀ j, (outJ bt.data.toList true l ks j).size ≤ 900000 := fun j => by
        have h1 := outJ_size bt.data.toList true l ks j
        have h2 := txI_len (b := bt.data.toList) (by rw [toList_length]; exact hbt) true true l ks
        rw [toList_length] at h1
        omega
      have hXs : ∀ j (hj : j < l.length), (ba (tx bt.data.toList l[j])).size ≤ 800000 := fun j hj => by
        have h1 := tx_len (b := bt.data.toList) (by rw [toList_length]; exact hbt) l[j]
        have h2 := Tr.sizeVs_get l j hj
        rw [ba_size]
        omega
      have hfull := outJ_full bt.data.toList true l ks (k := 5) rfl false 0 ⟨#[]⟩
      have hzero := outJ_zero bt true l ks
      simp only [Bool.false_eq_true, if_false, if_true] at hfull hzero
      have hstep := fun j hj => outJ_obj bt l ks j hj
      have hQ : ∀ j (hj : j < ks.length), (ba (Ru.quoteL ks[j].data.toList)).size ≤ 130000 ∧ ∀ w, Calls Tryd.prog 23 #[.string ks[j]] w fun e w' => e = .returned (.tuple #[.string (ba (Ru.quoteL ks[j].data.toList)), .int .i64 0]) ∧ Below w.heap.size w w' := fun j hj => by
        have h1 : ks[j].size ≤ Tr.keysS ks := by
          have : ∀ (L : List ByteArray) (i : Nat) (hi : i < L.length), L[i].size ≤ Tr.keysS L := fun L => by
            induction L with
            | nil => intro i hi; cases hi
            | cons x t ih =>
              intro i hi
              rw [keysS_cons]
              cases i with
              | zero => simp
              | succ i =>
                have := ih i (by simpa using hi)
                simp only [List.getElem_cons_succ]
                omega
          exact this ks j hj
        have h2 := quote_len ks[j].data.toList
        rw [toList_length] at h2
        refine ⟨by rw [ba_size]; omega, fun w => rquote_ok _ (hkv _ (List.getElem_mem hj)) (by omega) w⟩
      have hG : ∀ j (hj : j < ks.length), ks.getD j (⟨#[]⟩ : ByteArray) = ks[j] := fun j hj => by rw [List.getD, List.getElem?_eq_getElem hj]; rfl
      have HQ := Lib.hid hQ
      have HG := Lib.hid hG
      have HKL := Lib.hid hkl
      have HKS := Lib.hid hks
      have HO2 := Lib.hid ho2
      clear hQ hG hkv hkn hkl
      obtain ⟨O, hO⟩ : ∃ O : Nat → ByteArray, outJ bt.data.toList true l ks = O := ⟨_, rfl⟩
      rw [hO] at hOs hfull hzero hstep
      have HOS := Lib.hid hOs
      have HXS := Lib.hid hXs
      have HST := Lib.hid hstep
      have HIH := Lib.hid hIH
      have HF := Lib.hid hfull
      have HZ := Lib.hid hzero.symm
      have HVS := Lib.hid hvs
      have HO := Lib.hid ho
      have z0 := hOs 0
      clear hO hOs hXs hstep hIH hfull hzero hvs ho ho2 hks hl hsz hN
      have hc2' : cap ≤ 9223372036854775807 := hc2
      have hc4' : cap2 ≤ 9223372036854775807 := hc4
      clear hc2 hc4
      have d4 : W1.cell? ⟨w.heap.size, 4, none⟩ = some (.slice o l.length cap) := B1.out.cell 4
      have d0 : W1.cell? ⟨w.heap.size, 0, none⟩ = some (.int .i8 5) := B1.out.cell 0
      have d1 : W1.cell? ⟨w.heap.size, 1, none⟩ = some (.bool false) := B1.out.cell 1
      have d2 : W1.cell? ⟨w.heap.size, 2, none⟩ = some (.int .i64 0) := B1.out.cell 2
      have d3 : W1.cell? ⟨w.heap.size, 3, none⟩ = some (.string ⟨#[]⟩) := B1.out.cell 3
      go_enter Tryd.func13, Tryd.ntmps13
      go_upto_region 1 with fail
      rw [← HW1.out]
      have hzz : (⟨#[123]⟩ : ByteArray).size = 1 := rfl
      go_wp2_with fail
      go_loopw [11, 12] (fun a i wr => ∃ j : Nat, j ≤ l.length ∧ a = .string (O j) ∧ i = .int .i64 j ∧ Hid (Below W1.heap.size W1 wr)) (fun a i _ => l.length - (intOf i).toNat)
      case atStart => exact ⟨0, Nat.zero_le _, by rw [HZ.out], rfl, Lib.hid (Below.refl _ _)⟩
      case round =>
        obtain ⟨j, hj, rfl, rfl, HB⟩ := hrel
        clear d0 d1 d2 d3 d4 z0
        have bw := B1.out.below HB.out
        have d0 : wr.cell? ⟨w.heap.size, 0, none⟩ = some (.int .i8 5) := bw.cell 0
        have d4 : wr.cell? ⟨w.heap.size, 4, none⟩ = some (.slice o l.length cap) := bw.cell 4
        have d5 : wr.cell? ⟨w.heap.size, 5, none⟩ = some (.slice o2 ks.length cap2) := bw.cell 5
        have zj := HOS.out j
        clear bw
        by_cases hlt : j < l.length
        · obtain rfl := HO.out (by omega)
          obtain ⟨c0, c1, c2, c3, c4, c5, g0, g1, g2, g3, g4, g5, hx5⟩ := isVs_at l a j hlt HVS.out
          have hwr : Below w.heap.size w wr := (KB1.out.trans (HB.out.mono KB1.out.size))
          have g0 := cell_below hwr _ _ g0
          have g1 := cell_below hwr _ _ g1
          have g2 := cell_below hwr _ _ g2
          have g3 := cell_below hwr _ _ g3
          have g4 := cell_below hwr _ _ g4
          have g5 := cell_below hwr _ _ g5
          have hx6 := isV_below hwr hx5
          have HX6 := Lib.hid hx6
          have hst := HST.out j hlt
          obtain ⟨X, hX⟩ : ∃ X, ba (tx bt.data.toList l[j]) = X := ⟨_, rfl⟩
          have zx := HXS.out j hlt
          have HXC : Hid (∀ u W, isV W l[j] u → Calls Tryd.prog 13 #[u, .string bt] W fun e w' => e = .returned (.string X) ∧ Below W.heap.size W w') := Lib.hid (fun u W hu => hX ▸ HIH.out j hlt u W hu)
          rw [hX] at hst zx
          clear hx5 hx6 hX hwr
          have hjk : j < ks.length := by have := HKL.out; omega
          obtain rfl := HO2.out (by omega)
          have gk := cell_below (KB1.out.trans (HB.out.mono KB1.out.size)) _ _ (HKS.out j hjk).1
          obtain ⟨zq, hq⟩ := HQ.out j hjk
          rw [HG.out j hjk] at hst
          obtain ⟨Q, hQ⟩ : ∃ Q, ba (Ru.quoteL ks[j].data.toList) = Q := ⟨_, rfl⟩
          obtain ⟨kj, hkj⟩ : ∃ k, ks[j] = k := ⟨_, rfl⟩
          have HQC := Lib.hid hq
          rw [hQ] at HQC zq hst
          rw [hkj] at HQC gk
          clear hq hQ hkj
          have hjk' : (j : Int) < (ks.length : Int) := by omega
          by_cases h0 : j = 0
          all_goals
            first
            | rw [if_pos h0] at hst
            | rw [if_neg h0] at hst
            have HSTJ := Lib.hid hst
            first
            | have e0 : decide ((0 : Int) < (j : Int)) = true := decide_eq_true (by omega)
            | have e0 : decide ((0 : Int) < (j : Int)) = false := decide_eq_false (by omega)
            first
            | have e1 : decide (0 < j) = true := decide_eq_true (by omega)
            | have e1 : decide (0 < j) = false := decide_eq_false (by omega)
            have hc44 : (⟨#[44]⟩ : ByteArray).size = 1 := rfl
            have hc58 : (⟨#[58]⟩ : ByteArray).size = 1 := rfl
            clear h0 hst
            obtain ⟨Oj, hOj⟩ : ∃ x, O j = x := ⟨_, rfl⟩
            rw [hOj] at zj HSTJ ⊢
            clear hOj
            go_wp2_with fail
            refine (HQC.out _).mono ?_
            rintro e w4 ⟨rfl, hb4⟩
            have bw4 := (B1.out.below HB.out).below hb4
            have d4 : w4.cell? ⟨w.heap.size, 4, none⟩ = some (.slice (some a) l.length cap) := bw4.cell 4
            have g0 := cell_below hb4 _ _ g0
            have g1 := cell_below hb4 _ _ g1
            have g2 := cell_below hb4 _ _ g2
            have g3 := cell_below hb4 _ _ g3
            have g4 := cell_below hb4 _ _ g4
            have g5 := cell_below hb4 _ _ g5
            have HX7 := Lib.hid (isV_below hb4 HX6.out)
            have HB4 := Lib.hid (HB.out.trans (hb4.mono HB.out.size))
            clear hb4 bw4
            go_wp2_with fail
            refine (HXC.out _ w4 HX7.out).mono ?_
            rintro e w5 ⟨rfl, hb5⟩
            have HB5 := Lib.hid hb5
            clear hb5
            go_wp2_with fail
            go_roundw
            case rel => exact ⟨j + 1, by omega, by rw [HSTJ.out], by go_num, Lib.hid (HB4.out.trans (HB5.out.mono HB4.out.size))⟩
            case measure => simp [intOf]; omega
        · have hje : j = l.length := by omega
          subst hje
          have hc93 : (⟨#[125]⟩ : ByteArray).size = 1 := rfl
          obtain ⟨Oj, hOj⟩ : ∃ x, O l.length = x := ⟨_, rfl⟩
          rw [hOj] at zj HF ⊢
          clear hOj hlt
          go_wp2_with fail
          refine bodyPost_ret (v := .string (Oj ++ ⟨#[125]⟩)) (by simp [results, Tryd.results13, go_sem]) rfl ?_
          exact ⟨by rw [HF.out], KB1.out.trans (HB.out.mono KB1.out.size)⟩
end Go.Proofs.YtgbagdfcdljleaaDoor

namespace Go.Proofs.YtgbagdfcdljleaaDoor
open Go.RowKit Go.Maps

theorem own_zero {k : Int} {b : Bool} {n : Int} {s : ByteArray} {l : List V} {ks : List ByteArray} (h : Tr.ownW (.mk k b n s l ks) = 0) :
    Tr.plainP (.mk k b n s l ks) ∧ Nu.fitB n = true ∧ validB s ∧ (∀ x ∈ ks, validB x) ∧ ks.Nodup := by
  rw [Tr.ownW_mk] at h
  cases hp : Tr.plainB (.mk k b n s l ks) with
  | false => rw [hp, if_pos rfl] at h; cases h
  | true =>
    rw [hp, if_neg (by decide)] at h
    by_cases hn : n < -9007199254740992 ∨ 9007199254740992 < n
    · rw [if_pos hn] at h; cases h
    rw [if_neg hn] at h
    cases hv : Tr.validS s with
    | false => rw [hv, if_pos rfl] at h; cases h
    | true =>
      rw [hv, if_neg (by decide)] at h
      cases ha : ks.all Tr.validS with
      | false => rw [ha, if_pos rfl] at h; cases h
      | true =>
        rw [ha, if_neg (by decide)] at h
        cases ho : Tr.onceB ks with
        | false => rw [ho, if_pos rfl] at h; cases h
        | true => exact ⟨Tr.plain_eq hp, Nu.fitB_iff.2 (by omega), hv, fun x hx => List.all_eq_true.1 ha x hx, @of_decide_eq_true _ (Classical.propDecidable _) ho⟩
theorem zero_own {k : Int} {b : Bool} {n : Int} {s : ByteArray} {l : List V} {ks : List ByteArray} (h1 : Tr.plainP (.mk k b n s l ks)) (h2 : -9007199254740992 ≤ n ∧ n ≤ 9007199254740992) (h3 : validB s) (h4 : ∀ x ∈ ks, validB x) (h5 : ks.Nodup) : Tr.ownW (.mk k b n s l ks) = 0 := by
  rw [Tr.ownW_mk, Tr.plain_yes h1, if_neg (by decide), if_neg (by omega), show Tr.validS s = true from h3, if_neg (by decide), show ks.all Tr.validS = true from List.all_eq_true.2 h4, if_neg (by decide), Tr.once_yes h5, if_neg (by decide)]
theorem valid_emp : validB ⟨#[]⟩ := by rfl
mutual
theorem ok_of_wrong : ∀ x : V, Tr.wrongV x = 0 → okV x
  | .mk k b n s l ks, h => by
    rw [Tr.wrongV] at h
    by_cases h0 : Tr.ownW (.mk k b n s l ks) = 0
    · rw [if_pos h0] at h
      have hl := oks_of_wrong l h
      obtain ⟨⟨p1, p2, p3, p4, p5, p6, p7⟩, q1, q2, q3, q4⟩ := own_zero h0
      have hb : k ≠ 1 → b = false := fun e => by cases hb : b with
        | false => rfl
        | true => exact absurd (p2 hb) e
      have hn : k ≠ 2 → n = 0 := fun e => Decidable.not_not.1 fun x => e (p3 x)
      have hs : k ≠ 3 → s = ⟨#[]⟩ := fun e => Decidable.not_not.1 fun x => e (p4 x)
      have hl0 : k ≠ 4 → k ≠ 5 → l = [] := fun e e' => Decidable.not_not.1 fun x => by rcases p5 x with h | h; exact e h; exact e' h
      have hk0 : k ≠ 5 → ks = [] := fun e => List.eq_nil_of_length_eq_zero (p7 e)
      unfold okV
      by_cases k0 : k = 0
      · subst k0
        exact .inl ⟨rfl, hb (by decide), hn (by decide), hs (by decide), hl0 (by decide) (by decide), hk0 (by decide)⟩
      by_cases k1 : k = 1
      · subst k1
        exact .inr (.inl ⟨rfl, hn (by decide), hs (by decide), hl0 (by decide) (by decide), hk0 (by decide)⟩)
      by_cases k2 : k = 2
      · subst k2
        exact .inr (.inr (.inl ⟨rfl, hb (by decide), q1, hs (by decide), hl0 (by decide) (by decide), hk0 (by decide)⟩))
      by_cases k3 : k = 3
      · subst k3
        exact .inr (.inr (.inr (.inl ⟨rfl, hb (by decide), hn (by decide), q2, hl0 (by decide) (by decide), hk0 (by decide)⟩)))
      by_cases k4 : k = 4
      · subst k4
        exact .inr (.inr (.inr (.inr (.inl ⟨rfl, hb (by decide), hn (by decide), hs (by decide), hk0 (by decide), hl⟩))))
      have k5 : k = 5 := by omega
      subst k5
      exact .inr (.inr (.inr (.inr (.inr ⟨rfl, hb (by decide), hn (by decide), hs (by decide), p6 rfl, q3, q4, hl⟩))))
    · rw [if_neg h0] at h
      exact absurd h h0
theorem oks_of_wrong : ∀ l : List V, Tr.wrongVs l = 0 → okVs l
  | [], _ => by unfold okVs; trivial
  | x :: t, h => by
    rw [Tr.wrongVs] at h
    unfold okVs
    by_cases h0 : Tr.wrongV x = 0
    · rw [if_pos h0] at h
      exact ⟨ok_of_wrong x h0, oks_of_wrong t h⟩
    · rw [if_neg h0] at h
      exact absurd h h0
end
mutual
theorem wrong_of_ok : ∀ x : V, okV x → Tr.wrongV x = 0
  | .mk k b n s l ks, h => by
    unfold okV at h
    rcases h with ⟨rfl, rfl, rfl, rfl, rfl, rfl⟩ | ⟨rfl, rfl, rfl, rfl, rfl⟩ | ⟨rfl, rfl, hn, rfl, rfl, rfl⟩ | ⟨rfl, rfl, rfl, hs, rfl, rfl⟩ | ⟨rfl, rfl, rfl, rfl, rfl, hl⟩ | ⟨rfl, rfl, rfl, rfl, hkl, hkv, hkn, hl⟩
    · rw [Tr.wrongV_parts (zero_own ⟨by decide, by simp, by simp, by simp, by simp, by simp, by simp⟩ (by decide) valid_emp (by simp) List.nodup_nil)]; rfl
    · rw [Tr.wrongV_parts (zero_own ⟨by decide, by simp, by simp, by simp, by simp, by simp, by simp⟩ (by decide) valid_emp (by simp) List.nodup_nil)]; rfl
    · rw [Tr.wrongV_parts (zero_own ⟨by decide, by simp, by simp, by simp, by simp, by simp, by simp⟩ (Nu.fitB_iff.1 hn) valid_emp (by simp) List.nodup_nil)]; rfl
    · rw [Tr.wrongV_parts (zero_own ⟨by decide, by simp, by simp, by simp, by simp, by simp, by simp⟩ (by decide) hs (by simp) List.nodup_nil)]; rfl
    · rw [Tr.wrongV_parts (zero_own ⟨by decide, by simp, by simp, by simp, by simp, by simp, by simp⟩ (by decide) valid_emp (by simp) List.nodup_nil)]; exact wrongs_of_ok l hl
    · rw [Tr.wrongV_parts (zero_own ⟨by decide, by simp, by simp, by simp, by simp, fun _ => hkl, fun e => absurd rfl e⟩ (by decide) valid_emp hkv hkn)]; exact wrongs_of_ok l hl
theorem wrongs_of_ok : ∀ l : List V, okVs l → Tr.wrongVs l = 0
  | [], _ => by rw [Tr.wrongVs]
  | x :: t, h => by
    unfold okVs at h
    rw [Tr.wrongVs, if_pos (wrong_of_ok x h.1)]
    exact wrongs_of_ok t h.2
end
theorem check_ok {x : V} (h : Tr.checkV x = 0) : okV x ∧ Tr.depthV x ≤ 24 := by
  unfold Tr.checkV at h
  by_cases hd : 24 < Tr.depthV x
  · rw [if_pos hd] at h; cases h
  rw [if_neg hd] at h
  by_cases hw : Tr.wrongV x ≠ 0
  · rw [if_pos hw] at h; exact absurd h hw
  · exact ⟨ok_of_wrong x (Decidable.not_not.1 hw), by omega⟩
theorem ok_check {x : V} (h : okV x) (hd : Tr.depthV x ≤ 24) (hc : Tr.countV x ≤ 4096) : Tr.checkV x = 0 := by
  unfold Tr.checkV
  rw [if_neg (by omega), if_neg (fun e => e (wrong_of_ok x h)), if_neg (by omega)]

/-! ### Reading a text -/
set_option maxRecDepth 100000 in
set_option maxHeartbeats 1000000 in
theorem Parse_long (s : ByteArray) (hl : 4096 < s.size) (w : World) :
    Calls Tryd.prog 8 #[.string s] w fun e w' => e = .returned (.tuple #[zeroV, .int .i64 0, .int .i64 3]) ∧ Below w.heap.size w w' := by
  have g1 : decide ((4096 : Int) < (s.size : Int)) = true := decide_eq_true (by omega)
  have g2 : decide (4096 < s.size) = true := decide_eq_true hl
  go_enter Tryd.func8, Tryd.ntmps8
  go_wp2_with fail
  refine bodyPost_ret (v := .tuple #[zeroV, .int .i64 0, .int .i64 3]) (by simp [results, Tryd.results8, go_sem, zeroV]) rfl ?_
  exact ⟨rfl, by go_grown⟩
theorem Parse_text (T : ByteArray) {x : V} (hT : parM T.data.toList = if 4096 < T.data.toList.length then .error (0, 3) else .ok x) (hs : T.size ≤ 4096) (w : World) (hE : Ru.Env w) :
    Calls Tryd.prog 8 #[.string T] w fun e w' => ∃ val, e = .returned (.tuple #[val, .int .i64 0, .int .i64 0]) ∧ isV w' x val ∧ Below w.heap.size w w' := by
  have := Parse_any T (by omega) w hE
  rw [hT, if_neg (by rw [toList_length]; omega)] at this
  exact this
theorem ba_data (l : List UInt8) : (ba l).data.toList = l := by simp [ba]
theorem parse_in {bt : ByteArray} (hb : ∀ c ∈ bt.data.toList, isBl c = true) {x : V} (hv : okV x) (hd : Tr.depthV x ≤ 24) :
    parM (bt ++ ba (tx bt.data.toList x) ++ bt).data.toList = if 4096 < (bt ++ ba (tx bt.data.toList x) ++ bt).data.toList.length then .error (0, 3) else .ok x := by
  have e : (bt ++ ba (tx bt.data.toList x) ++ bt).data.toList = bt.data.toList ++ (tx bt.data.toList x ++ bt.data.toList) := by
    simp [ByteArray.data_append, ba]
  rw [e]
  exact text_parse hb hb hb hv hd
theorem parse_bare {bt : ByteArray} (hb : ∀ c ∈ bt.data.toList, isBl c = true) {x : V} (hv : okV x) (hd : Tr.depthV x ≤ 24) :
    parM (ba (tx bt.data.toList x)).data.toList = if 4096 < (ba (tx bt.data.toList x)).data.toList.length then .error (0, 3) else .ok x := by
  have := text_parse (p := []) (q := []) hb (fun c h => by cases h) (fun c h => by cases h) hv hd
  rw [List.nil_append, List.append_nil] at this
  rw [ba_data]
  exact this
/-- What stands between the signs. -/
def betw : Nat → ByteArray
  | 0 => ⟨#[]⟩
  | 1 => ⟨#[32]⟩
  | 2 => ⟨#[10, 9]⟩
  | _ => ⟨#[13, 10, 32, 32]⟩
theorem betw_ok (m : Nat) : (betw m).size ≤ 4 ∧ ∀ c ∈ (betw m).data.toList, isBl c = true := by
  unfold betw
  split <;> exact ⟨by decide, by decide⟩
theorem blanksN (k : Int) : ∃ (r : Int) (m : Nat), k.tmod 4 = r ∧ -4 < r ∧ r < 4 ∧ (r + 4).tmod 4 = (m : Int) ∧ m < 4 := by
  have h1 : k.tmod 4 < 4 := Int.tmod_lt_of_pos k (by omega)
  have h2 : -4 < k.tmod 4 := Int.lt_tmod_of_pos k (by omega)
  obtain ⟨r, hr⟩ : ∃ r, k.tmod 4 = r := ⟨_, rfl⟩
  rw [hr] at h1 h2
  have h3 := Int.emod_nonneg (r + 4) (show (4 : Int) ≠ 0 by decide)
  have h4 := Int.emod_lt_of_pos (r + 4) (show (0 : Int) < 4 by decide)
  exact ⟨r, ((r + 4) % 4).toNat, hr, h2, h1, by rw [Int.tmod_eq_emod_of_nonneg (by omega)]; omega, by omega⟩
end Go.Proofs.YtgbagdfcdljleaaDoor

namespace Go.Proofs.YtgbagdfcdljleaaDoor
open Go.RowKit Go.Maps

set_option maxRecDepth 100000 in
set_option maxHeartbeats 8000000 in
theorem back_any (x : V) (v : Value) (s : ByteArray) (bl0 : Int) (w : World) (hE : Ru.Env w) (h : isV w x v) :
    Calls Tryd.prog 4 #[v, .string s, .int .i64 bl0] w fun e w' => e = .returned (.bool true) ∧ Below w.heap.size w w' := by
  obtain ⟨bov, nuv, tev, o1v, n1v, m1v, o2v, n2v, m2v, rfl⟩ := isV_form h
  obtain ⟨kdv, hkdv⟩ : ∃ k, x.kind = k := ⟨_, rfl⟩
  rw [hkdv] at h ⊢
  obtain ⟨W0, hW0⟩ : ∃ W, W = w.alloc (.cells #[.int .i8 kdv, .bool bov, .int .i64 nuv, .string tev, .slice o1v n1v m1v, .slice o2v n2v m2v] 28) := ⟨_, rfl⟩
  have kb0 : Below w.heap.size w W0 := by rw [hW0]; exact (Below.refl _ _).alloc (Nat.le_refl _) _
  have b3 : Bx W0 w.heap.size #[.int .i8 kdv, .bool bov, .int .i64 nuv, .string tev, .slice o1v n1v m1v, .slice o2v n2v m2v] 28 := by rw [hW0]; exact Bx.new _ _ _
  have HW0 := Lib.hid hW0
  have KB0 := Lib.hid kb0
  have B3 := Lib.hid b3
  have HV0 := Lib.hid (isV_below kb0 h)
  have HE := Lib.hid hE
  have HGV := Lib.hid (Tr.great_any x _ W0 (isV_below kb0 h))
  have d0 : W0.cell? ⟨w.heap.size, 0, none⟩ = some (.int .i8 kdv) := b3.cell 0
  have d1 : W0.cell? ⟨w.heap.size, 1, none⟩ = some (.bool bov) := b3.cell 1
  have d2 : W0.cell? ⟨w.heap.size, 2, none⟩ = some (.int .i64 nuv) := b3.cell 2
  have d3 : W0.cell? ⟨w.heap.size, 3, none⟩ = some (.string tev) := b3.cell 3
  have d4 : W0.cell? ⟨w.heap.size, 4, none⟩ = some (.slice o1v n1v m1v) := b3.cell 4
  have d5 : W0.cell? ⟨w.heap.size, 5, none⟩ = some (.slice o2v n2v m2v) := b3.cell 5
  clear hW0 kb0 b3 h hE
  cases hgv : Tr.greatB x with
  | true =>
    rw [hgv] at HGV
    clear hgv hkdv
    go_enter Tryd.func4, Tryd.ntmps4
    go_upto_region 1 with fail
    rw [← HW0.out]
    go_wp2_with fail
    refine HGV.out.mono ?_
    rintro e w1 ⟨rfl, hb1⟩
    have HW1 := Lib.hid (KB0.out.trans (hb1.mono KB0.out.size))
    clear hb1
    have HKg := Lib.hid (wakes_any w1 (HE.out.below HW1.out HE.out.1))
    go_wp2_with fail
    refine HKg.out.mono ?_
    rintro e wk ⟨rfl, hbk⟩
    have HBK := Lib.hid (HW1.out.trans (hbk.mono HW1.out.size))
    clear hbk
    go_wp2_with fail
    refine bodyPost_ret (v := .bool true) (by simp [results, Tryd.results4, go_sem]) rfl ?_
    first | exact ⟨rfl, HBK.out⟩ | exact ⟨rfl, (HBK.out).drew⟩
  | false =>
    rw [hgv] at HGV
    obtain ⟨hsz, hdp⟩ := Tr.great_no hgv
    have HGS := Lib.hid (fun W => great_any s W)
    clear hgv
    cases hgs : grB s.size with
    | true =>
      rw [hgs] at HGS
      clear hgs hkdv
      go_enter Tryd.func4, Tryd.ntmps4
      go_upto_region 1 with fail
      rw [← HW0.out]
      go_wp2_with fail
      refine HGV.out.mono ?_
      rintro e w1 ⟨rfl, hb1⟩
      have HW1 := Lib.hid (KB0.out.trans (hb1.mono KB0.out.size))
      clear hb1
      go_wp2_with fail
      refine (HGS.out w1).mono ?_
      rintro e w0 ⟨rfl, h0⟩
      have h0 := h0.symm
      subst h0
      have HKs := Lib.hid (wakes_any w1 (HE.out.below HW1.out HE.out.1))
      go_wp2_with fail
      refine HKs.out.mono ?_
      rintro e wk ⟨rfl, hbk⟩
      have HBK := Lib.hid (HW1.out.trans (hbk.mono HW1.out.size))
      clear hbk
      go_wp2_with fail
      refine bodyPost_ret (v := .bool true) (by simp [results, Tryd.results4, go_sem]) rfl ?_
      first | exact ⟨rfl, HBK.out⟩ | exact ⟨rfl, (HBK.out).drew⟩
    | false =>
      rw [hgs] at HGS
      have hs9 : s.size ≤ 9000 ∧ (s.size ≤ 4096 → s.size ≤ 3000) := by
        unfold grB at hgs
        simp only [Bool.or_eq_false_iff, decide_eq_false_iff_not] at hgs
        omega
      have GSZ := Lib.hid hs9.2
      have HPS := Lib.hid (fun (W : World) (hE : Ru.Env W) => Parse_any s (by omega) W hE)
      obtain ⟨r, m, f1, f2, f3, f4, f5⟩ := blanksN bl0
      have f6 : wrap64 (r + 4) = r + 4 := by rw [wrap64]; omega
      obtain ⟨bt, hbt⟩ : ∃ b, betw m = b := ⟨_, rfl⟩
      have HBT := Lib.hid (hbt ▸ betw_ok m)
      have HCC := Lib.hid (Tr.check_any x)
      obtain ⟨cv, hcv⟩ : ∃ c, Tr.checkV x = c := ⟨_, rfl⟩
      rw [hcv] at HCC
      have HCV := Lib.hid hcv
      have HSZ := Lib.hid (And.intro hsz hdp)
      have HBM := Lib.hid hbt
      clear hgs hs9 hcv hsz hdp hbt
      go_enter Tryd.func4, Tryd.ntmps4
      go_upto_region 1 with fail
      rw [← HW0.out]
      go_wp2_with fail
      refine HGV.out.mono ?_
      rintro e w1 ⟨rfl, hb1⟩
      have HW1 := Lib.hid (KB0.out.trans (hb1.mono KB0.out.size))
      have B31 := Lib.hid (B3.out.below hb1)
      have HV1 := Lib.hid (isV_below hb1 HV0.out)
      clear hb1 HGV d0 d1 d2 d3 d4 d5 B3 HV0 HW0
      go_wp2_with fail
      refine (HGS.out w1).mono ?_
      rintro e w0 ⟨rfl, h0⟩
      have h0 := h0.symm
      subst h0
      clear HGS
      have hcell : (w1.alloc (.cells #[.string ⟨#[]⟩, .string ⟨#[32]⟩, .string ⟨#[10, 9]⟩, .string ⟨#[13, 10, 32, 32]⟩] 9)).cell? ⟨w1.heap.size, m, none⟩ = some (.string bt) := by
        rw [(Bx.new w1 _ _).cell m, ← HBM.out]
        rcases (by omega : m = 0 ∨ m = 1 ∨ m = 2 ∨ m = 3) with rfl | rfl | rfl | rfl <;> rfl
      have hcell2 : (w1.alloc (.cells #[.string ⟨#[]⟩, .string ⟨#[32]⟩, .string ⟨#[10, 9]⟩, .string ⟨#[13, 10, 32, 32]⟩] 9)).cell? ((⟨w1.heap.size, 0, none⟩ : Addr).add m) = some (.string bt) := by rw [add_at]; exact hcell
      clear HBM
      go_upto_region 4 with fail
      obtain ⟨W2, hW2⟩ : ∃ W, W = w1.alloc (.cells #[.string ⟨#[]⟩, .string ⟨#[32]⟩, .string ⟨#[10, 9]⟩, .string ⟨#[13, 10, 32, 32]⟩] 9) := ⟨_, rfl⟩
      rw [← hW2]
      have k2 : Below w1.heap.size w1 W2 := by rw [hW2]; exact (Below.refl _ _).alloc (Nat.le_refl _) _
      have b3 := B31.out.below k2
      have hv2 := isV_below k2 HV1.out
      have HW2 := Lib.hid (HW1.out.trans (k2.mono HW1.out.size))
      have HV2 := Lib.hid hv2
      have B32 := Lib.hid b3
      have HCK := Lib.hid (HCC.out _ W2 (by have := HSZ.out.1; omega) hv2)
      have d0 : W2.cell? ⟨w.heap.size, 0, none⟩ = some (.int .i8 kdv) := b3.cell 0
      have d1 : W2.cell? ⟨w.heap.size, 1, none⟩ = some (.bool bov) := b3.cell 1
      have d2 : W2.cell? ⟨w.heap.size, 2, none⟩ = some (.int .i64 nuv) := b3.cell 2
      have d3 : W2.cell? ⟨w.heap.size, 3, none⟩ = some (.string tev) := b3.cell 3
      have d4 : W2.cell? ⟨w.heap.size, 4, none⟩ = some (.slice o1v n1v m1v) := b3.cell 4
      have d5 : W2.cell? ⟨w.heap.size, 5, none⟩ = some (.slice o2v n2v m2v) := b3.cell 5
      clear hW2 k2 b3 hv2 hcell hcell2 HW1 B31 HV1 HCC f1 f2 f3 f4 f5 f6
      go_wp2_with fail
      refine HCK.out.mono ?_
      rintro e w4 ⟨rfl, hb4⟩
      have HW4 := Lib.hid (HW2.out.trans (hb4.mono HW2.out.size))
      have b3 := B32.out.below hb4
      have HV4 := Lib.hid (isV_below hb4 HV2.out)
      have B34 := Lib.hid b3
      clear hb4 HCK d0 d1 d2 d3 d4 d5 HW2 B32 HV2
      by_cases hcv : cv = 0
      · obtain ⟨okx, dpx⟩ := check_ok (HCV.out.trans hcv)
        subst hcv
        have HTX := Lib.hid (fun (u : Value) (W : World) (h : isV W x u) => ltext_any bt HBT.out.1 20000 x u W (by have := HSZ.out.1; omega) (Nat.le_refl _) okx h)
        have htl := tx_len (b := bt.data.toList) (by rw [toList_length]; exact HBT.out.1) x
        have hp1 := parse_in HBT.out.2 okx dpx
        obtain ⟨T1, hT1⟩ : ∃ T, ba (tx bt.data.toList x) = T := ⟨_, rfl⟩
        have hT1s : T1.size ≤ 200000 := by
          rw [← hT1, ba_size]
          have := HSZ.out.1
          omega
        rw [hT1] at HTX hp1
        obtain ⟨TT, hTT⟩ : ∃ T, bt ++ T1 ++ bt = T := ⟨_, rfl⟩
        rw [hTT] at hp1
        have HP1 := Lib.hid hp1
        have HTT := Lib.hid hTT
        have hbts := HBT.out.1
        have d0 : w4.cell? ⟨w.heap.size, 0, none⟩ = some (.int .i8 kdv) := b3.cell 0
        have d1 : w4.cell? ⟨w.heap.size, 1, none⟩ = some (.bool bov) := b3.cell 1
        have d2 : w4.cell? ⟨w.heap.size, 2, none⟩ = some (.int .i64 nuv) := b3.cell 2
        have d3 : w4.cell? ⟨w.heap.size, 3, none⟩ = some (.string tev) := b3.cell 3
        have d4 : w4.cell? ⟨w.heap.size, 4, none⟩ = some (.slice o1v n1v m1v) := b3.cell 4
        have d5 : w4.cell? ⟨w.heap.size, 5, none⟩ = some (.slice o2v n2v m2v) := b3.cell 5
        clear okx dpx htl hT1 hp1 hTT b3 HCV
        go_wp2_with fail
        refine (HTX.out _ w4 HV4.out).mono ?_
        rintro e w5 ⟨rfl, hb5⟩
        have HW5 := Lib.hid (HW4.out.trans (hb5.mono HW4.out.size))
        have HV5 := Lib.hid (isV_below hb5 HV4.out)
        have B35 := Lib.hid (B34.out.below hb5)
        clear hb5 HTX d0 d1 d2 d3 d4 d5 HW4 HV4 B34
        go_upto_region 6 with fail
        rw [HTT.out]
        clear HTT
        by_cases hl : 4096 < TT.size
        · have HPL := Lib.hid (Parse_long TT hl w5)
          have l1 : decide ((TT.size : Int) ≤ 4096) = false := decide_eq_false (by omega)
          have l2 : decide (TT.size ≤ 4096) = false := decide_eq_false (by omega)
          have l3 : decide ((4096 : Int) < (TT.size : Int)) = true := decide_eq_true (by omega)
          have l4 : decide (4096 < TT.size) = true := decide_eq_true hl
          clear hl HP1
          go_wp2_with fail
          refine HPL.out.mono ?_
          rintro e w6 ⟨rfl, hb6⟩
          have HB6 := Lib.hid hb6
          clear hb6 HPL
          unfold zeroV
          go_upto_region 7 with fail
          obtain ⟨Y6, hY6⟩ : ∃ Y, Y = w6.alloc (.cells #[.int .i8 0, .bool false, .int .i64 0, .string ⟨#[]⟩, .slice none 0 0, .slice none 0 0] 28) := ⟨_, rfl⟩
          rw [← hY6]
          have HW6 : Hid (Below w.heap.size w Y6) := Lib.hid (by rw [hY6]; exact (HW5.out.trans (HB6.out.mono HW5.out.size)).alloc (by have := HW5.out.size; have := HB6.out.size; omega) _)
          clear hY6 HB6 HW5 HV5 B35
          go_upto_region 9 with fail
          clear l1 l2 l3 l4
          have HP9 := Lib.hid (HPS.out Y6 (HE.out.below HW6.out HE.out.1))
          cases hps : parM s.data.toList with
          | error q =>
            obtain ⟨pa, pc⟩ := q
            have hne : pc ≠ 0 := parM_err hps
            have t1 : ((pc : Int) == 0) = false := by rw [beq_eq_false_iff_ne]; omega
            have t2 : ((pc : Int) != 0) = true := by rw [bne_iff_ne]; omega
            rw [hps] at HP9
            clear hps hne
            go_wp2_with fail
            refine HP9.out.mono ?_
            rintro e w9 ⟨rfl, hb9⟩
            have HB9 := Lib.hid hb9
            clear hb9 HP9
            unfold zeroV
            go_upto_region 10 with fail
            obtain ⟨Y9, hY9⟩ : ∃ Y, Y = w9.alloc (.cells #[.int .i8 0, .bool false, .int .i64 0, .string ⟨#[]⟩, .slice none 0 0, .slice none 0 0] 28) := ⟨_, rfl⟩
            rw [← hY9]
            have HW9 : Hid (Below w.heap.size w Y9) := Lib.hid (by rw [hY9]; exact (HW6.out.trans (HB9.out.mono HW6.out.size)).alloc (by have := HW6.out.size; have := HB9.out.size; omega) _)
            clear hY9 HB9
            have HKa := Lib.hid (wakes_any Y9 (HE.out.below HW9.out HE.out.1))
            go_wp2_with fail
            refine HKa.out.mono ?_
            rintro e wk ⟨rfl, hbk⟩
            have HBK := Lib.hid (HW9.out.trans (hbk.mono HW9.out.size))
            clear hbk
            go_wp2_with fail
            refine bodyPost_ret (v := .bool true) (by simp [results, Tryd.results4, go_sem]) rfl ?_
            first | exact ⟨rfl, HBK.out⟩ | exact ⟨rfl, (HBK.out).drew⟩
          | ok x2 =>
            rw [hps] at HP9
            obtain ⟨ok2, dp2, cn2, sz2⟩ := read_ok hps
            have hs3 : s.size ≤ 4096 := by
              unfold parM at hps
              split at hps
              · cases hps
              · rename_i h; rw [toList_length] at h; omega
            have hs3 := GSZ.out hs3
            rw [toList_length] at cn2 sz2
            have HC2 := Lib.hid (fun (u : Value) (W : World) (h : isV W x2 u) => Tr.check_any x2 u W (by omega) h)
            rw [ok_check ok2 dp2 (by omega)] at HC2
            have HT2 := Lib.hid (fun (u : Value) (W : World) (h : isV W x2 u) => ltext_any bt HBT.out.1 20000 x2 u W (by omega) (Nat.le_refl _) ok2 h)
            have hp2 := parse_bare HBT.out.2 ok2 dp2
            obtain ⟨T2, hT2⟩ : ∃ T, ba (tx bt.data.toList x2) = T := ⟨_, rfl⟩
            rw [hT2] at HT2 hp2
            have HPT := Lib.hid (fun (h : T2.size ≤ 4096) (W : World) (hE : Ru.Env W) => Parse_text T2 hp2 h W hE)
            have HSM := Lib.hid (fun (u u' : Value) (W : World) (h : isV W x2 u) (h' : isV W x2 u') => Tr.same_any (Tr.sizeV x2) x2 x2 u u' W (Nat.le_refl _) h h')
            rw [Tr.sm_yes rfl] at HSM
            clear hps ok2 dp2 cn2 sz2 hs3 hp2 hT2
            go_wp2_with fail
            refine HP9.out.mono ?_
            rintro e w9 ⟨val, rfl, hv9, hb9⟩
            obtain ⟨bo2, nu2, te2, o12, n12, m12, o22, n22, m22, rfl⟩ := isV_form hv9
            obtain ⟨kd2, hkd2⟩ : ∃ k, x2.kind = k := ⟨_, rfl⟩
            rw [hkd2] at hv9 ⊢
            have HV9 := Lib.hid hv9
            have HB9 := Lib.hid hb9
            clear hv9 hb9 HP9
            go_upto_region 10 with fail
            obtain ⟨Y9, hY9⟩ : ∃ Y, Y = w9.alloc (.cells #[.int .i8 kd2, .bool bo2, .int .i64 nu2, .string te2, .slice o12 n12 m12, .slice o22 n22 m22] 28) := ⟨_, rfl⟩
            rw [← hY9]
            have kY9 : Below w9.heap.size w9 Y9 := by rw [hY9]; exact (Below.refl _ _).alloc (Nat.le_refl _) _
            have b12 : Bx Y9 w9.heap.size #[.int .i8 kd2, .bool bo2, .int .i64 nu2, .string te2, .slice o12 n12 m12, .slice o22 n22 m22] 28 := by rw [hY9]; exact Bx.new _ _ _
            have HVY := Lib.hid (isV_below kY9 HV9.out)
            have HW9 : Hid (Below w.heap.size w Y9) := Lib.hid ((HW6.out.trans (HB9.out.mono HW6.out.size)).trans (kY9.mono (by have := HW6.out.size; have := HB9.out.size; omega)))
            have B12 := Lib.hid b12
            obtain ⟨q12, hq12⟩ : ∃ q, q = w9.heap.size := ⟨_, rfl⟩
            rw [← hq12] at B12 b12 ⊢
            have u0 : Y9.cell? ⟨q12, 0, none⟩ = some (.int .i8 kd2) := b12.cell 0
            have u1 : Y9.cell? ⟨q12, 1, none⟩ = some (.bool bo2) := b12.cell 1
            have u2 : Y9.cell? ⟨q12, 2, none⟩ = some (.int .i64 nu2) := b12.cell 2
            have u3 : Y9.cell? ⟨q12, 3, none⟩ = some (.string te2) := b12.cell 3
            have u4 : Y9.cell? ⟨q12, 4, none⟩ = some (.slice o12 n12 m12) := b12.cell 4
            have u5 : Y9.cell? ⟨q12, 5, none⟩ = some (.slice o22 n22 m22) := b12.cell 5
            clear hY9 kY9 b12 hq12 HB9 HV9
            go_wp2_with fail
            refine (HC2.out _ Y9 HVY.out).mono ?_
            rintro e wc ⟨rfl, hbc⟩
            have b12 := B12.out.below hbc
            have HVC := Lib.hid (isV_below hbc HVY.out)
            have HWC := Lib.hid (HW9.out.trans (hbc.mono HW9.out.size))
            have y0 : wc.cell? ⟨q12, 0, none⟩ = some (.int .i8 kd2) := b12.cell 0
            have y1 : wc.cell? ⟨q12, 1, none⟩ = some (.bool bo2) := b12.cell 1
            have y2 : wc.cell? ⟨q12, 2, none⟩ = some (.int .i64 nu2) := b12.cell 2
            have y3 : wc.cell? ⟨q12, 3, none⟩ = some (.string te2) := b12.cell 3
            have y4 : wc.cell? ⟨q12, 4, none⟩ = some (.slice o12 n12 m12) := b12.cell 4
            have y5 : wc.cell? ⟨q12, 5, none⟩ = some (.slice o22 n22 m22) := b12.cell 5
            have BC := Lib.hid b12
            clear b12 hbc u0 u1 u2 u3 u4 u5 HC2
            go_wp2_with fail
            refine (HT2.out _ wc HVC.out).mono ?_
            rintro e wt ⟨rfl, hbt⟩
            have HVT := Lib.hid (isV_below hbt HVC.out)
            have HWT := Lib.hid (HWC.out.trans (hbt.mono HWC.out.size))
            have BT := Lib.hid (BC.out.below hbt)
            clear hbt y0 y1 y2 y3 y4 y5 HT2 HVC HWC BC
            by_cases hl2 : 4096 < T2.size
            · have l1 : decide ((4096 : Int) < (T2.size : Int)) = true := decide_eq_true (by omega)
              have l2 : decide (4096 < T2.size) = true := decide_eq_true hl2
              clear hl2
              have HKb := Lib.hid (wakes_any wt (HE.out.below HWT.out HE.out.1))
              go_wp2_with fail
              refine HKb.out.mono ?_
              rintro e wk ⟨rfl, hbk⟩
              have HBK := Lib.hid (HWT.out.trans (hbk.mono HWT.out.size))
              clear hbk
              go_wp2_with fail
              refine bodyPost_ret (v := .bool true) (by simp [results, Tryd.results4, go_sem]) rfl ?_
              first | exact ⟨rfl, HBK.out⟩ | exact ⟨rfl, (HBK.out).drew⟩
            · have l1 : decide ((4096 : Int) < (T2.size : Int)) = false := decide_eq_false (by omega)
              have l2 : decide (4096 < T2.size) = false := decide_eq_false hl2
              have HPW := Lib.hid (HPT.out (by omega) wt (HE.out.below HWT.out HE.out.1))
              clear hl2 HPT
              go_wp2_with fail
              refine HPW.out.mono ?_
              rintro e wp ⟨val, rfl, hvp, hbp⟩
              obtain ⟨bo3, nu3, te3, o13, n13, m13, o23, n23, m23, rfl⟩ := isV_form hvp
              rw [hkd2] at hvp ⊢
              have HVP := Lib.hid hvp
              have HBP := Lib.hid hbp
              clear hvp hbp HPW
              go_upto_region 18 with fail
              obtain ⟨Z9, hZ9⟩ : ∃ Y, Y = wp.alloc (.cells #[.int .i8 kd2, .bool bo3, .int .i64 nu3, .string te3, .slice o13 n13 m13, .slice o23 n23 m23] 28) := ⟨_, rfl⟩
              rw [← hZ9]
              have kZ9 : Below wp.heap.size wp Z9 := by rw [hZ9]; exact (Below.refl _ _).alloc (Nat.le_refl _) _
              have b16 : Bx Z9 wp.heap.size #[.int .i8 kd2, .bool bo3, .int .i64 nu3, .string te3, .slice o13 n13 m13, .slice o23 n23 m23] 28 := by rw [hZ9]; exact Bx.new _ _ _
              have kTZ : Below wt.heap.size wt Z9 := HBP.out.trans (kZ9.mono HBP.out.size)
              have b12 := BT.out.below kTZ
              have hv1 := isV_below kTZ HVT.out
              have hv2 := isV_below kZ9 HVP.out
              have HS9 := Lib.hid (HSM.out _ _ Z9 hv1 hv2)
              have HWZ := Lib.hid (HWT.out.trans (kTZ.mono HWT.out.size))
              have u0 : Z9.cell? ⟨q12, 0, none⟩ = some (.int .i8 kd2) := b12.cell 0
              have u1 : Z9.cell? ⟨q12, 1, none⟩ = some (.bool bo2) := b12.cell 1
              have u2 : Z9.cell? ⟨q12, 2, none⟩ = some (.int .i64 nu2) := b12.cell 2
              have u3 : Z9.cell? ⟨q12, 3, none⟩ = some (.string te2) := b12.cell 3
              have u4 : Z9.cell? ⟨q12, 4, none⟩ = some (.slice o12 n12 m12) := b12.cell 4
              have u5 : Z9.cell? ⟨q12, 5, none⟩ = some (.slice o22 n22 m22) := b12.cell 5
              have y0 : Z9.cell? ⟨wp.heap.size, 0, none⟩ = some (.int .i8 kd2) := b16.cell 0
              have y1 : Z9.cell? ⟨wp.heap.size, 1, none⟩ = some (.bool bo3) := b16.cell 1
              have y2 : Z9.cell? ⟨wp.heap.size, 2, none⟩ = some (.int .i64 nu3) := b16.cell 2
              have y3 : Z9.cell? ⟨wp.heap.size, 3, none⟩ = some (.string te3) := b16.cell 3
              have y4 : Z9.cell? ⟨wp.heap.size, 4, none⟩ = some (.slice o13 n13 m13) := b16.cell 4
              have y5 : Z9.cell? ⟨wp.heap.size, 5, none⟩ = some (.slice o23 n23 m23) := b16.cell 5
              clear hZ9 kZ9 b16 kTZ b12 hv1 hv2 HVT HVP HBP BT HSM hkd2
              go_wp2_with fail
              refine HS9.out.mono ?_
              rintro e ws ⟨rfl, hbs⟩
              have HWS := Lib.hid (HWZ.out.trans (hbs.mono HWZ.out.size))
              clear hbs
              have HKc := Lib.hid (wakes_any ws (HE.out.below HWS.out HE.out.1))
              go_wp2_with fail
              refine HKc.out.mono ?_
              rintro e wk ⟨rfl, hbk⟩
              have HBK := Lib.hid (HWS.out.trans (hbk.mono HWS.out.size))
              clear hbk
              go_wp2_with fail
              refine bodyPost_ret (v := .bool true) (by simp [results, Tryd.results4, go_sem]) rfl ?_
              first | exact ⟨rfl, HBK.out⟩ | exact ⟨rfl, (HBK.out).drew⟩
        · have HPL := Lib.hid (Parse_text TT HP1.out (by omega) w5 (HE.out.below HW5.out HE.out.1))
          have l1 : decide ((TT.size : Int) ≤ 4096) = true := decide_eq_true (by omega)
          have l2 : decide (TT.size ≤ 4096) = true := decide_eq_true (by omega)
          have l3 : decide ((4096 : Int) < (TT.size : Int)) = false := decide_eq_false (by omega)
          have l4 : decide (4096 < TT.size) = false := decide_eq_false hl
          clear hl HP1
          go_wp2_with fail
          refine HPL.out.mono ?_
          rintro e w6 ⟨val, rfl, hv6, hb6⟩
          obtain ⟨bo1, nu1, te1, o11, n11, m11, o21, n21, m21, rfl⟩ := isV_form hv6
          rw [hkdv] at hv6 ⊢
          have HB6 := Lib.hid hb6
          have HV6 := Lib.hid hv6
          clear hb6 hv6 HPL
          go_upto_region 7 with fail
          obtain ⟨Y6, hY6⟩ : ∃ Y, Y = w6.alloc (.cells #[.int .i8 kdv, .bool bo1, .int .i64 nu1, .string te1, .slice o11 n11 m11, .slice o21 n21 m21] 28) := ⟨_, rfl⟩
          rw [← hY6]
          have k6 : Below w6.heap.size w6 Y6 := by rw [hY6]; exact (Below.refl _ _).alloc (Nat.le_refl _) _
          have b9 : Bx Y6 w6.heap.size #[.int .i8 kdv, .bool bo1, .int .i64 nu1, .string te1, .slice o11 n11 m11, .slice o21 n21 m21] 28 := by rw [hY6]; exact Bx.new _ _ _
          have k56 : Below w5.heap.size w5 Y6 := HB6.out.trans (k6.mono HB6.out.size)
          have b3 := B35.out.below k56
          have hv1 := isV_below k6 HV6.out
          have hv2 := isV_below k56 HV5.out
          have HS6 := Lib.hid (Tr.same_any (Tr.sizeV x) x x _ _ Y6 (Nat.le_refl _) hv1 hv2)
          rw [Tr.sm_yes rfl] at HS6
          have HW6 := Lib.hid (HW5.out.trans (k56.mono HW5.out.size))
          have d0 : Y6.cell? ⟨w.heap.size, 0, none⟩ = some (.int .i8 kdv) := b3.cell 0
          have d1 : Y6.cell? ⟨w.heap.size, 1, none⟩ = some (.bool bov) := b3.cell 1
          have d2 : Y6.cell? ⟨w.heap.size, 2, none⟩ = some (.int .i64 nuv) := b3.cell 2
          have d3 : Y6.cell? ⟨w.heap.size, 3, none⟩ = some (.string tev) := b3.cell 3
          have d4 : Y6.cell? ⟨w.heap.size, 4, none⟩ = some (.slice o1v n1v m1v) := b3.cell 4
          have d5 : Y6.cell? ⟨w.heap.size, 5, none⟩ = some (.slice o2v n2v m2v) := b3.cell 5
          have g0 : Y6.cell? ⟨w6.heap.size, 0, none⟩ = some (.int .i8 kdv) := b9.cell 0
          have g1 : Y6.cell? ⟨w6.heap.size, 1, none⟩ = some (.bool bo1) := b9.cell 1
          have g2 : Y6.cell? ⟨w6.heap.size, 2, none⟩ = some (.int .i64 nu1) := b9.cell 2
          have g3 : Y6.cell? ⟨w6.heap.size, 3, none⟩ = some (.string te1) := b9.cell 3
          have g4 : Y6.cell? ⟨w6.heap.size, 4, none⟩ = some (.slice o11 n11 m11) := b9.cell 4
          have g5 : Y6.cell? ⟨w6.heap.size, 5, none⟩ = some (.slice o21 n21 m21) := b9.cell 5
          clear hY6 k6 b9 k56 b3 hv1 hv2 HV6 HV5 HB6 HW5 B35
          go_wp2_with fail
          refine HS6.out.mono ?_
          rintro e w7 ⟨rfl, hb7⟩
          have HW7 := Lib.hid (HW6.out.trans (hb7.mono HW6.out.size))
          clear hb7 HS6 d0 d1 d2 d3 d4 d5 g0 g1 g2 g3 g4 g5 HW6
          go_upto_region 9 with fail
          clear l1 l2 l3 l4
          have HP9 := Lib.hid (HPS.out w7 (HE.out.below HW7.out HE.out.1))
          cases hps : parM s.data.toList with
          | error q =>
            obtain ⟨pa, pc⟩ := q
            have hne : pc ≠ 0 := parM_err hps
            have t1 : ((pc : Int) == 0) = false := by rw [beq_eq_false_iff_ne]; omega
            have t2 : ((pc : Int) != 0) = true := by rw [bne_iff_ne]; omega
            rw [hps] at HP9
            clear hps hne
            go_wp2_with fail
            refine HP9.out.mono ?_
            rintro e w9 ⟨rfl, hb9⟩
            have HB9 := Lib.hid hb9
            clear hb9 HP9
            unfold zeroV
            go_upto_region 10 with fail
            obtain ⟨Y9, hY9⟩ : ∃ Y, Y = w9.alloc (.cells #[.int .i8 0, .bool false, .int .i64 0, .string ⟨#[]⟩, .slice none 0 0, .slice none 0 0] 28) := ⟨_, rfl⟩
            rw [← hY9]
            have HW9 : Hid (Below w.heap.size w Y9) := Lib.hid (by rw [hY9]; exact (HW7.out.trans (HB9.out.mono HW7.out.size)).alloc (by have := HW7.out.size; have := HB9.out.size; omega) _)
            clear hY9 HB9
            have HKa := Lib.hid (wakes_any Y9 (HE.out.below HW9.out HE.out.1))
            go_wp2_with fail
            refine HKa.out.mono ?_
            rintro e wk ⟨rfl, hbk⟩
            have HBK := Lib.hid (HW9.out.trans (hbk.mono HW9.out.size))
            clear hbk
            go_wp2_with fail
            refine bodyPost_ret (v := .bool true) (by simp [results, Tryd.results4, go_sem]) rfl ?_
            first | exact ⟨rfl, HBK.out⟩ | exact ⟨rfl, (HBK.out).drew⟩
          | ok x2 =>
            rw [hps] at HP9
            obtain ⟨ok2, dp2, cn2, sz2⟩ := read_ok hps
            have hs3 : s.size ≤ 4096 := by
              unfold parM at hps
              split at hps
              · cases hps
              · rename_i h; rw [toList_length] at h; omega
            have hs3 := GSZ.out hs3
            rw [toList_length] at cn2 sz2
            have HC2 := Lib.hid (fun (u : Value) (W : World) (h : isV W x2 u) => Tr.check_any x2 u W (by omega) h)
            rw [ok_check ok2 dp2 (by omega)] at HC2
            have HT2 := Lib.hid (fun (u : Value) (W : World) (h : isV W x2 u) => ltext_any bt HBT.out.1 20000 x2 u W (by omega) (Nat.le_refl _) ok2 h)
            have hp2 := parse_bare HBT.out.2 ok2 dp2
            obtain ⟨T2, hT2⟩ : ∃ T, ba (tx bt.data.toList x2) = T := ⟨_, rfl⟩
            rw [hT2] at HT2 hp2
            have HPT := Lib.hid (fun (h : T2.size ≤ 4096) (W : World) (hE : Ru.Env W) => Parse_text T2 hp2 h W hE)
            have HSM := Lib.hid (fun (u u' : Value) (W : World) (h : isV W x2 u) (h' : isV W x2 u') => Tr.same_any (Tr.sizeV x2) x2 x2 u u' W (Nat.le_refl _) h h')
            rw [Tr.sm_yes rfl] at HSM
            clear hps ok2 dp2 cn2 sz2 hs3 hp2 hT2
            go_wp2_with fail
            refine HP9.out.mono ?_
            rintro e w9 ⟨val, rfl, hv9, hb9⟩
            obtain ⟨bo2, nu2, te2, o12, n12, m12, o22, n22, m22, rfl⟩ := isV_form hv9
            obtain ⟨kd2, hkd2⟩ : ∃ k, x2.kind = k := ⟨_, rfl⟩
            rw [hkd2] at hv9 ⊢
            have HV9 := Lib.hid hv9
            have HB9 := Lib.hid hb9
            clear hv9 hb9 HP9
            go_upto_region 10 with fail
            obtain ⟨Y9, hY9⟩ : ∃ Y, Y = w9.alloc (.cells #[.int .i8 kd2, .bool bo2, .int .i64 nu2, .string te2, .slice o12 n12 m12, .slice o22 n22 m22] 28) := ⟨_, rfl⟩
            rw [← hY9]
            have kY9 : Below w9.heap.size w9 Y9 := by rw [hY9]; exact (Below.refl _ _).alloc (Nat.le_refl _) _
            have b12 : Bx Y9 w9.heap.size #[.int .i8 kd2, .bool bo2, .int .i64 nu2, .string te2, .slice o12 n12 m12, .slice o22 n22 m22] 28 := by rw [hY9]; exact Bx.new _ _ _
            have HVY := Lib.hid (isV_below kY9 HV9.out)
            have HW9 : Hid (Below w.heap.size w Y9) := Lib.hid ((HW7.out.trans (HB9.out.mono HW7.out.size)).trans (kY9.mono (by have := HW7.out.size; have := HB9.out.size; omega)))
            have B12 := Lib.hid b12
            obtain ⟨q12, hq12⟩ : ∃ q, q = w9.heap.size := ⟨_, rfl⟩
            rw [← hq12] at B12 b12 ⊢
            have u0 : Y9.cell? ⟨q12, 0, none⟩ = some (.int .i8 kd2) := b12.cell 0
            have u1 : Y9.cell? ⟨q12, 1, none⟩ = some (.bool bo2) := b12.cell 1
            have u2 : Y9.cell? ⟨q12, 2, none⟩ = some (.int .i64 nu2) := b12.cell 2
            have u3 : Y9.cell? ⟨q12, 3, none⟩ = some (.string te2) := b12.cell 3
            have u4 : Y9.cell? ⟨q12, 4, none⟩ = some (.slice o12 n12 m12) := b12.cell 4
            have u5 : Y9.cell? ⟨q12, 5, none⟩ = some (.slice o22 n22 m22) := b12.cell 5
            clear hY9 kY9 b12 hq12 HB9 HV9
            go_wp2_with fail
            refine (HC2.out _ Y9 HVY.out).mono ?_
            rintro e wc ⟨rfl, hbc⟩
            have b12 := B12.out.below hbc
            have HVC := Lib.hid (isV_below hbc HVY.out)
            have HWC := Lib.hid (HW9.out.trans (hbc.mono HW9.out.size))
            have y0 : wc.cell? ⟨q12, 0, none⟩ = some (.int .i8 kd2) := b12.cell 0
            have y1 : wc.cell? ⟨q12, 1, none⟩ = some (.bool bo2) := b12.cell 1
            have y2 : wc.cell? ⟨q12, 2, none⟩ = some (.int .i64 nu2) := b12.cell 2
            have y3 : wc.cell? ⟨q12, 3, none⟩ = some (.string te2) := b12.cell 3
            have y4 : wc.cell? ⟨q12, 4, none⟩ = some (.slice o12 n12 m12) := b12.cell 4
            have y5 : wc.cell? ⟨q12, 5, none⟩ = some (.slice o22 n22 m22) := b12.cell 5
            have BC := Lib.hid b12
            clear b12 hbc u0 u1 u2 u3 u4 u5 HC2
            go_wp2_with fail
            refine (HT2.out _ wc HVC.out).mono ?_
            rintro e wt ⟨rfl, hbt⟩
            have HVT := Lib.hid (isV_below hbt HVC.out)
            have HWT := Lib.hid (HWC.out.trans (hbt.mono HWC.out.size))
            have BT := Lib.hid (BC.out.below hbt)
            clear hbt y0 y1 y2 y3 y4 y5 HT2 HVC HWC BC
            by_cases hl2 : 4096 < T2.size
            · have l1 : decide ((4096 : Int) < (T2.size : Int)) = true := decide_eq_true (by omega)
              have l2 : decide (4096 < T2.size) = true := decide_eq_true hl2
              clear hl2
              have HKb := Lib.hid (wakes_any wt (HE.out.below HWT.out HE.out.1))
              go_wp2_with fail
              refine HKb.out.mono ?_
              rintro e wk ⟨rfl, hbk⟩
              have HBK := Lib.hid (HWT.out.trans (hbk.mono HWT.out.size))
              clear hbk
              go_wp2_with fail
              refine bodyPost_ret (v := .bool true) (by simp [results, Tryd.results4, go_sem]) rfl ?_
              first | exact ⟨rfl, HBK.out⟩ | exact ⟨rfl, (HBK.out).drew⟩
            · have l1 : decide ((4096 : Int) < (T2.size : Int)) = false := decide_eq_false (by omega)
              have l2 : decide (4096 < T2.size) = false := decide_eq_false hl2
              have HPW := Lib.hid (HPT.out (by omega) wt (HE.out.below HWT.out HE.out.1))
              clear hl2 HPT
              go_wp2_with fail
              refine HPW.out.mono ?_
              rintro e wp ⟨val, rfl, hvp, hbp⟩
              obtain ⟨bo3, nu3, te3, o13, n13, m13, o23, n23, m23, rfl⟩ := isV_form hvp
              rw [hkd2] at hvp ⊢
              have HVP := Lib.hid hvp
              have HBP := Lib.hid hbp
              clear hvp hbp HPW
              go_upto_region 18 with fail
              obtain ⟨Z9, hZ9⟩ : ∃ Y, Y = wp.alloc (.cells #[.int .i8 kd2, .bool bo3, .int .i64 nu3, .string te3, .slice o13 n13 m13, .slice o23 n23 m23] 28) := ⟨_, rfl⟩
              rw [← hZ9]
              have kZ9 : Below wp.heap.size wp Z9 := by rw [hZ9]; exact (Below.refl _ _).alloc (Nat.le_refl _) _
              have b16 : Bx Z9 wp.heap.size #[.int .i8 kd2, .bool bo3, .int .i64 nu3, .string te3, .slice o13 n13 m13, .slice o23 n23 m23] 28 := by rw [hZ9]; exact Bx.new _ _ _
              have kTZ : Below wt.heap.size wt Z9 := HBP.out.trans (kZ9.mono HBP.out.size)
              have b12 := BT.out.below kTZ
              have hv1 := isV_below kTZ HVT.out
              have hv2 := isV_below kZ9 HVP.out
              have HS9 := Lib.hid (HSM.out _ _ Z9 hv1 hv2)
              have HWZ := Lib.hid (HWT.out.trans (kTZ.mono HWT.out.size))
              have u0 : Z9.cell? ⟨q12, 0, none⟩ = some (.int .i8 kd2) := b12.cell 0
              have u1 : Z9.cell? ⟨q12, 1, none⟩ = some (.bool bo2) := b12.cell 1
              have u2 : Z9.cell? ⟨q12, 2, none⟩ = some (.int .i64 nu2) := b12.cell 2
              have u3 : Z9.cell? ⟨q12, 3, none⟩ = some (.string te2) := b12.cell 3
              have u4 : Z9.cell? ⟨q12, 4, none⟩ = some (.slice o12 n12 m12) := b12.cell 4
              have u5 : Z9.cell? ⟨q12, 5, none⟩ = some (.slice o22 n22 m22) := b12.cell 5
              have y0 : Z9.cell? ⟨wp.heap.size, 0, none⟩ = some (.int .i8 kd2) := b16.cell 0
              have y1 : Z9.cell? ⟨wp.heap.size, 1, none⟩ = some (.bool bo3) := b16.cell 1
              have y2 : Z9.cell? ⟨wp.heap.size, 2, none⟩ = some (.int .i64 nu3) := b16.cell 2
              have y3 : Z9.cell? ⟨wp.heap.size, 3, none⟩ = some (.string te3) := b16.cell 3
              have y4 : Z9.cell? ⟨wp.heap.size, 4, none⟩ = some (.slice o13 n13 m13) := b16.cell 4
              have y5 : Z9.cell? ⟨wp.heap.size, 5, none⟩ = some (.slice o23 n23 m23) := b16.cell 5
              clear hZ9 kZ9 b16 kTZ b12 hv1 hv2 HVT HVP HBP BT HSM hkd2
              go_wp2_with fail
              refine HS9.out.mono ?_
              rintro e ws ⟨rfl, hbs⟩
              have HWS := Lib.hid (HWZ.out.trans (hbs.mono HWZ.out.size))
              clear hbs
              have HKc := Lib.hid (wakes_any ws (HE.out.below HWS.out HE.out.1))
              go_wp2_with fail
              refine HKc.out.mono ?_
              rintro e wk ⟨rfl, hbk⟩
              have HBK := Lib.hid (HWS.out.trans (hbk.mono HWS.out.size))
              clear hbk
              go_wp2_with fail
              refine bodyPost_ret (v := .bool true) (by simp [results, Tryd.results4, go_sem]) rfl ?_
              first | exact ⟨rfl, HBK.out⟩ | exact ⟨rfl, (HBK.out).drew⟩
      · have t3 : (cv == 0) = false := by rw [beq_eq_false_iff_ne]; exact hcv
        clear hcv b3 HCV
        go_upto_region 9 with fail
        clear t3
        have HP9 := Lib.hid (HPS.out w4 (HE.out.below HW4.out HE.out.1))
        cases hps : parM s.data.toList with
        | error q =>
          obtain ⟨pa, pc⟩ := q
          have hne : pc ≠ 0 := parM_err hps
          have t1 : ((pc : Int) == 0) = false := by rw [beq_eq_false_iff_ne]; omega
          have t2 : ((pc : Int) != 0) = true := by rw [bne_iff_ne]; omega
          rw [hps] at HP9
          clear hps hne
          go_wp2_with fail
          refine HP9.out.mono ?_
          rintro e w9 ⟨rfl, hb9⟩
          have HB9 := Lib.hid hb9
          clear hb9 HP9
          unfold zeroV
          go_upto_region 10 with fail
          obtain ⟨Y9, hY9⟩ : ∃ Y, Y = w9.alloc (.cells #[.int .i8 0, .bool false, .int .i64 0, .string ⟨#[]⟩, .slice none 0 0, .slice none 0 0] 28) := ⟨_, rfl⟩
          rw [← hY9]
          have HW9 : Hid (Below w.heap.size w Y9) := Lib.hid (by rw [hY9]; exact (HW4.out.trans (HB9.out.mono HW4.out.size)).alloc (by have := HW4.out.size; have := HB9.out.size; omega) _)
          clear hY9 HB9
          have HKa := Lib.hid (wakes_any Y9 (HE.out.below HW9.out HE.out.1))
          go_wp2_with fail
          refine HKa.out.mono ?_
          rintro e wk ⟨rfl, hbk⟩
          have HBK := Lib.hid (HW9.out.trans (hbk.mono HW9.out.size))
          clear hbk
          go_wp2_with fail
          refine bodyPost_ret (v := .bool true) (by simp [results, Tryd.results4, go_sem]) rfl ?_
          first | exact ⟨rfl, HBK.out⟩ | exact ⟨rfl, (HBK.out).drew⟩
        | ok x2 =>
          rw [hps] at HP9
          obtain ⟨ok2, dp2, cn2, sz2⟩ := read_ok hps
          have hs3 : s.size ≤ 4096 := by
            unfold parM at hps
            split at hps
            · cases hps
            · rename_i h; rw [toList_length] at h; omega
          have hs3 := GSZ.out hs3
          rw [toList_length] at cn2 sz2
          have HC2 := Lib.hid (fun (u : Value) (W : World) (h : isV W x2 u) => Tr.check_any x2 u W (by omega) h)
          rw [ok_check ok2 dp2 (by omega)] at HC2
          have HT2 := Lib.hid (fun (u : Value) (W : World) (h : isV W x2 u) => ltext_any bt HBT.out.1 20000 x2 u W (by omega) (Nat.le_refl _) ok2 h)
          have hp2 := parse_bare HBT.out.2 ok2 dp2
          obtain ⟨T2, hT2⟩ : ∃ T, ba (tx bt.data.toList x2) = T := ⟨_, rfl⟩
          rw [hT2] at HT2 hp2
          have HPT := Lib.hid (fun (h : T2.size ≤ 4096) (W : World) (hE : Ru.Env W) => Parse_text T2 hp2 h W hE)
          have HSM := Lib.hid (fun (u u' : Value) (W : World) (h : isV W x2 u) (h' : isV W x2 u') => Tr.same_any (Tr.sizeV x2) x2 x2 u u' W (Nat.le_refl _) h h')
          rw [Tr.sm_yes rfl] at HSM
          clear hps ok2 dp2 cn2 sz2 hs3 hp2 hT2
          go_wp2_with fail
          refine HP9.out.mono ?_
          rintro e w9 ⟨val, rfl, hv9, hb9⟩
          obtain ⟨bo2, nu2, te2, o12, n12, m12, o22, n22, m22, rfl⟩ := isV_form hv9
          obtain ⟨kd2, hkd2⟩ : ∃ k, x2.kind = k := ⟨_, rfl⟩
          rw [hkd2] at hv9 ⊢
          have HV9 := Lib.hid hv9
          have HB9 := Lib.hid hb9
          clear hv9 hb9 HP9
          go_upto_region 10 with fail
          obtain ⟨Y9, hY9⟩ : ∃ Y, Y = w9.alloc (.cells #[.int .i8 kd2, .bool bo2, .int .i64 nu2, .string te2, .slice o12 n12 m12, .slice o22 n22 m22] 28) := ⟨_, rfl⟩
          rw [← hY9]
          have kY9 : Below w9.heap.size w9 Y9 := by rw [hY9]; exact (Below.refl _ _).alloc (Nat.le_refl _) _
          have b12 : Bx Y9 w9.heap.size #[.int .i8 kd2, .bool bo2, .int .i64 nu2, .string te2, .slice o12 n12 m12, .slice o22 n22 m22] 28 := by rw [hY9]; exact Bx.new _ _ _
          have HVY := Lib.hid (isV_below kY9 HV9.out)
          have HW9 : Hid (Below w.heap.size w Y9) := Lib.hid ((HW4.out.trans (HB9.out.mono HW4.out.size)).trans (kY9.mono (by have := HW4.out.size; have := HB9.out.size; omega)))
          have B12 := Lib.hid b12
          obtain ⟨q12, hq12⟩ : ∃ q, q = w9.heap.size := ⟨_, rfl⟩
          rw [← hq12] at B12 b12 ⊢
          have u0 : Y9.cell? ⟨q12, 0, none⟩ = some (.int .i8 kd2) := b12.cell 0
          have u1 : Y9.cell? ⟨q12, 1, none⟩ = some (.bool bo2) := b12.cell 1
          have u2 : Y9.cell? ⟨q12, 2, none⟩ = some (.int .i64 nu2) := b12.cell 2
          have u3 : Y9.cell? ⟨q12, 3, none⟩ = some (.string te2) := b12.cell 3
          have u4 : Y9.cell? ⟨q12, 4, none⟩ = some (.slice o12 n12 m12) := b12.cell 4
          have u5 : Y9.cell? ⟨q12, 5, none⟩ = some (.slice o22 n22 m22) := b12.cell 5
          clear hY9 kY9 b12 hq12 HB9 HV9
          go_wp2_with fail
          refine (HC2.out _ Y9 HVY.out).mono ?_
          rintro e wc ⟨rfl, hbc⟩
          have b12 := B12.out.below hbc
          have HVC := Lib.hid (isV_below hbc HVY.out)
          have HWC := Lib.hid (HW9.out.trans (hbc.mono HW9.out.size))
          have y0 : wc.cell? ⟨q12, 0, none⟩ = some (.int .i8 kd2) := b12.cell 0
          have y1 : wc.cell? ⟨q12, 1, none⟩ = some (.bool bo2) := b12.cell 1
          have y2 : wc.cell? ⟨q12, 2, none⟩ = some (.int .i64 nu2) := b12.cell 2
          have y3 : wc.cell? ⟨q12, 3, none⟩ = some (.string te2) := b12.cell 3
          have y4 : wc.cell? ⟨q12, 4, none⟩ = some (.slice o12 n12 m12) := b12.cell 4
          have y5 : wc.cell? ⟨q12, 5, none⟩ = some (.slice o22 n22 m22) := b12.cell 5
          have BC := Lib.hid b12
          clear b12 hbc u0 u1 u2 u3 u4 u5 HC2
          go_wp2_with fail
          refine (HT2.out _ wc HVC.out).mono ?_
          rintro e wt ⟨rfl, hbt⟩
          have HVT := Lib.hid (isV_below hbt HVC.out)
          have HWT := Lib.hid (HWC.out.trans (hbt.mono HWC.out.size))
          have BT := Lib.hid (BC.out.below hbt)
          clear hbt y0 y1 y2 y3 y4 y5 HT2 HVC HWC BC
          by_cases hl2 : 4096 < T2.size
          · have l1 : decide ((4096 : Int) < (T2.size : Int)) = true := decide_eq_true (by omega)
            have l2 : decide (4096 < T2.size) = true := decide_eq_true hl2
            clear hl2
            have HKb := Lib.hid (wakes_any wt (HE.out.below HWT.out HE.out.1))
            go_wp2_with fail
            refine HKb.out.mono ?_
            rintro e wk ⟨rfl, hbk⟩
            have HBK := Lib.hid (HWT.out.trans (hbk.mono HWT.out.size))
            clear hbk
            go_wp2_with fail
            refine bodyPost_ret (v := .bool true) (by simp [results, Tryd.results4, go_sem]) rfl ?_
            first | exact ⟨rfl, HBK.out⟩ | exact ⟨rfl, (HBK.out).drew⟩
          · have l1 : decide ((4096 : Int) < (T2.size : Int)) = false := decide_eq_false (by omega)
            have l2 : decide (4096 < T2.size) = false := decide_eq_false hl2
            have HPW := Lib.hid (HPT.out (by omega) wt (HE.out.below HWT.out HE.out.1))
            clear hl2 HPT
            go_wp2_with fail
            refine HPW.out.mono ?_
            rintro e wp ⟨val, rfl, hvp, hbp⟩
            obtain ⟨bo3, nu3, te3, o13, n13, m13, o23, n23, m23, rfl⟩ := isV_form hvp
            rw [hkd2] at hvp ⊢
            have HVP := Lib.hid hvp
            have HBP := Lib.hid hbp
            clear hvp hbp HPW
            go_upto_region 18 with fail
            obtain ⟨Z9, hZ9⟩ : ∃ Y, Y = wp.alloc (.cells #[.int .i8 kd2, .bool bo3, .int .i64 nu3, .string te3, .slice o13 n13 m13, .slice o23 n23 m23] 28) := ⟨_, rfl⟩
            rw [← hZ9]
            have kZ9 : Below wp.heap.size wp Z9 := by rw [hZ9]; exact (Below.refl _ _).alloc (Nat.le_refl _) _
            have b16 : Bx Z9 wp.heap.size #[.int .i8 kd2, .bool bo3, .int .i64 nu3, .string te3, .slice o13 n13 m13, .slice o23 n23 m23] 28 := by rw [hZ9]; exact Bx.new _ _ _
            have kTZ : Below wt.heap.size wt Z9 := HBP.out.trans (kZ9.mono HBP.out.size)
            have b12 := BT.out.below kTZ
            have hv1 := isV_below kTZ HVT.out
            have hv2 := isV_below kZ9 HVP.out
            have HS9 := Lib.hid (HSM.out _ _ Z9 hv1 hv2)
            have HWZ := Lib.hid (HWT.out.trans (kTZ.mono HWT.out.size))
            have u0 : Z9.cell? ⟨q12, 0, none⟩ = some (.int .i8 kd2) := b12.cell 0
            have u1 : Z9.cell? ⟨q12, 1, none⟩ = some (.bool bo2) := b12.cell 1
            have u2 : Z9.cell? ⟨q12, 2, none⟩ = some (.int .i64 nu2) := b12.cell 2
            have u3 : Z9.cell? ⟨q12, 3, none⟩ = some (.string te2) := b12.cell 3
            have u4 : Z9.cell? ⟨q12, 4, none⟩ = some (.slice o12 n12 m12) := b12.cell 4
            have u5 : Z9.cell? ⟨q12, 5, none⟩ = some (.slice o22 n22 m22) := b12.cell 5
            have y0 : Z9.cell? ⟨wp.heap.size, 0, none⟩ = some (.int .i8 kd2) := b16.cell 0
            have y1 : Z9.cell? ⟨wp.heap.size, 1, none⟩ = some (.bool bo3) := b16.cell 1
            have y2 : Z9.cell? ⟨wp.heap.size, 2, none⟩ = some (.int .i64 nu3) := b16.cell 2
            have y3 : Z9.cell? ⟨wp.heap.size, 3, none⟩ = some (.string te3) := b16.cell 3
            have y4 : Z9.cell? ⟨wp.heap.size, 4, none⟩ = some (.slice o13 n13 m13) := b16.cell 4
            have y5 : Z9.cell? ⟨wp.heap.size, 5, none⟩ = some (.slice o23 n23 m23) := b16.cell 5
            clear hZ9 kZ9 b16 kTZ b12 hv1 hv2 HVT HVP HBP BT HSM hkd2
            go_wp2_with fail
            refine HS9.out.mono ?_
            rintro e ws ⟨rfl, hbs⟩
            have HWS := Lib.hid (HWZ.out.trans (hbs.mono HWZ.out.size))
            clear hbs
            have HKc := Lib.hid (wakes_any ws (HE.out.below HWS.out HE.out.1))
            go_wp2_with fail
            refine HKc.out.mono ?_
            rintro e wk ⟨rfl, hbk⟩
            have HBK := Lib.hid (HWS.out.trans (hbk.mono HWS.out.size))
            clear hbk
            go_wp2_with fail
            refine bodyPost_ret (v := .bool true) (by simp [results, Tryd.results4, go_sem]) rfl ?_
            first | exact ⟨rfl, HBK.out⟩ | exact ⟨rfl, (HBK.out).drew⟩
end Go.Proofs.YtgbagdfcdljleaaDoor
