/-
  hoarding/hoardinglaw04.wakes: three texts that stand there. · ParseCuts: the law. · What the rows' condition on the package variables gives the walks: unicode/utf8's two tables, and that strconv.ErrSyntax holds an error value. · The plain machine is made of parts: what is read within an open list or object is read as a value by itself, so much deeper. · The reference of package parse: blanks, words. · The reference's lists and objects while they are read, in memory; what follows of a run. · The reference's list. · The reference's object. · The reference's Value. · The reference's Parse. · ParseReads: the law.
-/
import Derived.Test.YtgbagdfcdljleaaDoorIA
import Derived.Test.YtgbagdfcdljleaaDoorRows
import Derived.Test.YtgbagdfcdljleaaDoorEsc
import Derived.Lib.LaidU8
import Derived.PinnedBridge
import Derived.ProofKit
import Derived.OpenShut
import Derived.ShutString
import Derived.ChangeOld
import Derived.LaidMore
import Derived.Lay
import Derived.Test.YtgbagdfcdljleaaDoorHz
import Derived.Test.YtgbagdfcdljleaaDoorHB
import Derived.Test.YtgbagdfcdljleaaDoorRC
import Derived.Test.YtgbagdfcdljleaaDoorRN
import Derived.Test.YtgbagdfcdljleaaDoorTB
set_option linter.unusedVariables false
set_option linter.unusedSimpArgs false
namespace Go.Proofs.YtgbagdfcdljleaaDoor
open Go.RowKit Go.Maps

def wkT1 : List UInt8 := [123, 34, 97, 34, 58, 91, 49, 44, 110, 117, 108, 108, 93, 125]
def wkT2 : List UInt8 := [91, 49, 44, 93]
def wkT3 : List UInt8 := [123, 34, 97, 34, 58, 49, 44, 34, 97, 34, 58, 50, 125]
def wkB1 (r : Except Er V) : Bool :=
  match r with
  | .ok (.mk k _ _ _ [.mk _ _ _ _ [_, _] _] _) => decide (k = 5)
  | _ => false
def wkB2 (r : Except Er V) (a b : Nat) : Bool :=
  match r with
  | .error q => decide (q.1 = a) && decide (q.2 = b)
  | _ => false
theorem wk2 : wkB2 (parM wkT2) 3 40 = true := by kernel_rfl
theorem wk3 : wkB2 (parM wkT3) 7 41 = true := by kernel_rfl
theorem wk1 : wkB1 (parM wkT1) = true := by kernel_rfl
theorem wkE1 : ∃ b n s k1 b1 n1 s1 y z ks1 ks, parM wkT1 = .ok (.mk 5 b n s [.mk k1 b1 n1 s1 [y, z] ks1] ks) := by
  have h := wk1
  unfold wkB1 at h
  split at h
  · rename_i h1; rw [h1]; have := of_decide_eq_true h; subst this; exact ⟨_, _, _, _, _, _, _, _, _, _, _, rfl⟩
  · cases h
theorem wkE2 {l : List UInt8} {a b : Nat} (h : wkB2 (parM l) a b = true) : parM l = .error (a, b) := by
  unfold wkB2 at h
  split at h
  · rename_i q h1
    rw [h1]
    simp at h
    obtain ⟨q1, q2⟩ := q
    obtain ⟨rfl, rfl⟩ := h
    rfl
  · cases h
def Wk1 (w : World) (e : Ending) (w1 : World) : Prop :=
  ∃ b n s a cap o' n' cap' o2 cap2, e = .returned (.tuple #[.agg #[.int .i8 5, .bool b, .int .i64 n, .string s, .slice (some a) 1 cap, .slice o' n' cap'], .int .i64 0, .int .i64 0]) ∧ w1.cell? (a.add 4) = some (.slice o2 2 cap2) ∧ 1 ≤ cap ∧ cap ≤ maxLen ∧ 2 ≤ cap2 ∧ cap2 ≤ maxLen ∧ Below w.heap.size w w1
theorem wk_form {w : World} {e : Ending} {w1 : World} (h1 : ParR w (parM wkT1) e w1) : Wk1 w e w1 := by
  obtain ⟨b1, n1, s1, k2, b2, n2, s2, y, z, ks2, ks1, hp⟩ := wkE1
  rw [hp] at h1
  obtain ⟨val, rfl, hv, hb1⟩ := h1
  unfold isV at hv
  obtain ⟨lv, kv, rfl, _, _, _, ⟨a, cap, ⟨o, rfl, hle, hcl, ho⟩, hm⟩, ⟨a', cap', ⟨o', rfl, hle', hcl', ho'⟩, _⟩⟩ := hv
  simp only [List.length_cons, List.length_nil] at hle ho
  obtain rfl := ho (by omega)
  unfold isVs at hm
  obtain ⟨⟨c0, c1, c2, c3, c4, c5, m0, m1, m2, m3, m4, m5, hq⟩, _⟩ := hm
  unfold isV at hq
  obtain ⟨lv, kv, hq, _, _, _, ⟨a2, cap2, ⟨o2, rfl, hle2, hcl2, ho2⟩, _⟩, _⟩ := hq
  simp only [Value.agg.injEq, Array.mk.injEq, List.cons.injEq, and_true] at hq
  obtain ⟨rfl, rfl, rfl, rfl, rfl, rfl⟩ := hq
  simp only [List.length_cons, List.length_nil] at hle2 m4
  exact ⟨_, _, _, _, _, _, _, _, _, _, rfl, m4, hle, hcl, hle2, hcl2, hb1⟩
def wkS1 : ByteArray := ⟨#[123, 34, 97, 34, 58, 91, 49, 44, 110, 117, 108, 108, 93, 125]⟩
def wkS2 : ByteArray := ⟨#[91, 49, 44, 93]⟩
def wkS3 : ByteArray := ⟨#[123, 34, 97, 34, 58, 49, 44, 34, 97, 34, 58, 50, 125]⟩
theorem wkC1 (w : World) (hE : Ru.Env w) : Calls Tryd.prog 8 #[.string wkS1] w fun e w1 => Wk1 w e w1 :=
  (Parse_any wkS1 (by decide) w hE).mono fun e w1 h => wk_form h
theorem wkC2 (w : World) (hE : Ru.Env w) : Calls Tryd.prog 8 #[.string wkS2] w fun e w1 => e = .returned (.tuple #[zeroV, .int .i64 3, .int .i64 40]) ∧ Below w.heap.size w w1 :=
  (Parse_any wkS2 (by decide) w hE).mono fun e w1 h => by
    have h : ParR w (parM wkT2) e w1 := h
    rw [wkE2 wk2] at h
    exact h
theorem wkC3 (w : World) (hE : Ru.Env w) : Calls Tryd.prog 8 #[.string wkS3] w fun e w1 => e = .returned (.tuple #[zeroV, .int .i64 7, .int .i64 41]) ∧ Below w.heap.size w w1 :=
  (Parse_any wkS3 (by decide) w hE).mono fun e w1 h => by
    have h : ParR w (parM wkT3) e w1 := h
    rw [wkE2 wk3] at h
    exact h
/-- A new box of a value, written at once. -/
theorem newbox (w1 : World) (cs : Array Value) {X : World} (hX : X = w1.alloc (.cells cs 28)) :
    Below w1.heap.size w1 X ∧ Bx X w1.heap.size cs 28 := by
  subst hX
  exact ⟨(Below.refl _ w1).alloc (Nat.le_refl _) _, Bx.new w1 _ _⟩
set_option maxRecDepth 100000 in
set_option maxHeartbeats 1000000 in
theorem wakes_any (w : World) (hE : Ru.Env w) :
    Calls Tryd.prog 7 #[] w fun e w' => e = .returned (.bool true) ∧ Below w.heap.size w w' := by
  have H1 := Lib.hid (wkC1 w hE)
  have HE := Lib.hid hE
  unfold wkS1 at H1
  clear hE
  go_enter Tryd.func7, Tryd.ntmps7
  go_wp2_with fail
  refine H1.out.mono ?_
  rintro e w1 ⟨b, n, s, a, cap, o', n', cap', o2, cap2, rfl, hm, hc1, hc2, hc3, hc4, hb⟩
  have HM := Lib.hid hm
  have HC := Lib.hid (And.intro hc1 (And.intro hc2 (And.intro hc3 hc4)))
  have HB := Lib.hid hb
  clear hm hc1 hc2 hc3 hc4 hb H1
  go_upto_region 2 with fail
  obtain ⟨X, hX⟩ : ∃ X, X = w1.alloc (.cells #[.int .i8 5, .bool b, .int .i64 n, .string s, .slice (some a) 1 cap, .slice o' n' cap'] 28) := ⟨_, rfl⟩
  rw [← hX]
  obtain ⟨kX, bx⟩ := newbox w1 _ hX
  have hmX : X.cell? (a.add 4) = some (.slice o2 2 cap2) := (kX.cell (World.block_lt_of_cell? _ _ HM.out)).trans HM.out
  have HM2 := Lib.hid hmX
  have HX := Lib.hid bx
  have hw : Below w.heap.size w X := HB.out.trans (kX.mono HB.out.size)
  have H2 := Lib.hid (wkC2 X (HE.out.below hw HE.out.1))
  have HW := Lib.hid hw
  unfold wkS2 at H2
  generalize w1.heap.size = q1 at *
  clear hX kX bx hw hmX HM
  go_wp2_with fail
  refine H2.out.mono ?_
  rintro e w2 ⟨rfl, hb2⟩
  have HB2 := Lib.hid hb2
  clear hb2 H2
  unfold zeroV
  go_upto_region 3 with fail
  obtain ⟨Y, hY⟩ : ∃ Y, Y = w2.alloc (.cells #[.int .i8 0, .bool false, .int .i64 0, .string ⟨#[]⟩, .slice none 0 0, .slice none 0 0] 28) := ⟨_, rfl⟩
  rw [← hY]
  obtain ⟨kY, -⟩ := newbox w2 _ hY
  have hxy : Below X.heap.size X Y := HB2.out.trans (kY.mono HB2.out.size)
  have HXY := Lib.hid hxy
  have H3 := Lib.hid (wkC3 Y (HE.out.below (HW.out.trans (hxy.mono HW.out.size)) HE.out.1))
  unfold wkS3 at H3
  generalize w2.heap.size = q2 at *
  clear hY kY hxy
  go_wp2_with fail
  refine H3.out.mono ?_
  rintro e w3 ⟨rfl, hb3⟩
  have HB3 := Lib.hid hb3
  clear hb3 H3
  unfold zeroV
  go_upto_region 4 with fail
  obtain ⟨Z, hZ⟩ : ∃ Z, Z = w3.alloc (.cells #[.int .i8 0, .bool false, .int .i64 0, .string ⟨#[]⟩, .slice none 0 0, .slice none 0 0] 28) := ⟨_, rfl⟩
  rw [← hZ]
  obtain ⟨kZ, -⟩ := newbox w3 _ hZ
  have hyz : Below Y.heap.size Y Z := HB3.out.trans (kZ.mono HB3.out.size)
  have hxz : Below X.heap.size X Z := HXY.out.trans (hyz.mono HXY.out.size)
  have bz := HX.out.below hxz
  have h0 : Z.cell? ⟨q1, 0, none⟩ = some (.int .i8 5) := bz.cell 0
  have h4 : Z.cell? ⟨q1, 4, none⟩ = some (.slice (some a) 1 cap) := bz.cell 4
  have hm : Z.cell? (a.add 4) = some (.slice o2 2 cap2) := (hxz.cell (World.block_lt_of_cell? _ _ HM2.out)).trans HM2.out
  have hm : Z.cell? ⟨a.block, a.off + 4, none⟩ = some (.slice o2 2 cap2) := hm
  obtain ⟨hc1, hc2, hc3, hc4⟩ := HC.out
  have HWZ := Lib.hid (HW.out.trans (hxz.mono HW.out.size))
  generalize w3.heap.size = q3 at *
  clear HX HM2 HC HB HB2 HB3 HXY HW HE hZ kZ hyz hxz bz
  go_wp2_with fail
  refine bodyPost_ret (v := .bool true) (by simp [results, Tryd.results7, go_sem]) rfl ?_
  first | exact ⟨rfl, HWZ.out⟩ | exact ⟨rfl, HWZ.out.drew⟩
end Go.Proofs.YtgbagdfcdljleaaDoor

namespace Go.Proofs.YtgbagdfcdljleaaDoor
open Go.RowKit Go.Maps

def grB (n : Nat) : Bool := decide (3000 < n ∧ n ≤ 4096) || decide (9000 < n)
set_option maxRecDepth 100000 in
set_option maxHeartbeats 1000000 in
theorem great_any (s : ByteArray) (w : World) :
    Calls Tryd.prog 6 #[.string s] w fun e w' => e = .returned (.bool (grB s.size)) ∧ w' = w := by
  unfold grB
  rcases Nat.lt_or_ge 3000 s.size with h1 | h1
  · rcases Nat.lt_or_ge 4096 s.size with h2 | h2
    · rcases Nat.lt_or_ge 9000 s.size with h3 | h3
      · rw [decide_eq_false (by omega : ¬ (3000 < s.size ∧ s.size ≤ 4096)), decide_eq_true h3]
        have a1 : decide ((3000 : Int) < (s.size : Int)) = true := decide_eq_true (by omega)
        have a2 : decide (3000 < s.size) = true := decide_eq_true h1
        have b1 : decide ((s.size : Int) ≤ 4096) = false := decide_eq_false (by omega)
        have b2 : decide (s.size ≤ 4096) = false := decide_eq_false (by omega)
        have c1 : decide ((9000 : Int) < (s.size : Int)) = true := decide_eq_true (by omega)
        have c2 : decide (9000 < s.size) = true := decide_eq_true h3
        clear h1 h2 h3
        go_enter Tryd.func6, Tryd.ntmps6
        go_wp2_with fail
        refine bodyPost_ret (v := .bool true) (by simp [results, Tryd.results6, go_sem]) rfl ?_
        exact ⟨rfl, rfl⟩
      · rw [decide_eq_false (by omega : ¬ (3000 < s.size ∧ s.size ≤ 4096)), decide_eq_false (by omega : ¬ 9000 < s.size)]
        have a1 : decide ((3000 : Int) < (s.size : Int)) = true := decide_eq_true (by omega)
        have a2 : decide (3000 < s.size) = true := decide_eq_true h1
        have b1 : decide ((s.size : Int) ≤ 4096) = false := decide_eq_false (by omega)
        have b2 : decide (s.size ≤ 4096) = false := decide_eq_false (by omega)
        have c1 : decide ((9000 : Int) < (s.size : Int)) = false := decide_eq_false (by omega)
        have c2 : decide (9000 < s.size) = false := decide_eq_false (by omega)
        clear h1 h2 h3
        go_enter Tryd.func6, Tryd.ntmps6
        go_wp2_with fail
        refine bodyPost_ret (v := .bool false) (by simp [results, Tryd.results6, go_sem]) rfl ?_
        exact ⟨rfl, rfl⟩
    · rw [decide_eq_true (And.intro h1 h2), Bool.true_or]
      have a1 : decide ((3000 : Int) < (s.size : Int)) = true := decide_eq_true (by omega)
      have a2 : decide (3000 < s.size) = true := decide_eq_true h1
      have b1 : decide ((s.size : Int) ≤ 4096) = true := decide_eq_true (by omega)
      have b2 : decide (s.size ≤ 4096) = true := decide_eq_true h2
      clear h1 h2
      go_enter Tryd.func6, Tryd.ntmps6
      go_wp2_with fail
      refine bodyPost_ret (v := .bool true) (by simp [results, Tryd.results6, go_sem]) rfl ?_
      exact ⟨rfl, rfl⟩
  · rw [decide_eq_false (by omega : ¬ (3000 < s.size ∧ s.size ≤ 4096)), decide_eq_false (by omega : ¬ 9000 < s.size)]
    have a1 : decide ((3000 : Int) < (s.size : Int)) = false := decide_eq_false (by omega)
    have a2 : decide (3000 < s.size) = false := decide_eq_false (by omega)
    have c1 : decide ((9000 : Int) < (s.size : Int)) = false := decide_eq_false (by omega)
    have c2 : decide (9000 < s.size) = false := decide_eq_false (by omega)
    clear h1
    go_enter Tryd.func6, Tryd.ntmps6
    go_wp2_with fail
    refine bodyPost_ret (v := .bool false) (by simp [results, Tryd.results6, go_sem]) rfl ?_
    exact ⟨rfl, rfl⟩
theorem parM_err {s : List UInt8} {r : Er} (h : parM s = .error r) : r.2 ≠ 0 := by
  unfold parM at h
  split at h
  · cases h; decide
  rename_i h0
  have hk : bl s 0 ≤ s.length := bl_le s 0 (Nat.zero_le _)
  rw [valI_M hk] at h
  split at h
  · rename_i r' h1; cases h; exact valM_err hk h1
  · split at h
    · cases h; exact (by decide : (40 : Nat) ≠ 0)
    · cases h
theorem isV_form {W : World} {x : V} {v : Value} (h : isV W x v) : ∃ bo nu te o1 n1 c1 o2 n2 c2, v = .agg #[.int .i8 x.kind, .bool bo, .int .i64 nu, .string te, .slice o1 n1 c1, .slice o2 n2 c2] := by
  obtain ⟨k, bo, n, te, l, ks⟩ := x
  unfold isV at h
  obtain ⟨lv, kv, rfl, _, _, _, ⟨a, cap, ⟨o, rfl, _⟩, _⟩, ⟨a2, cap2, ⟨o2, rfl, _⟩, _⟩⟩ := h
  exact ⟨_, _, _, _, _, _, _, _, _, rfl⟩
set_option maxRecDepth 100000 in
set_option maxHeartbeats 1000000 in
theorem cuts_great (s : ByteArray) (cut : Int) (hs : 3000 < s.size) (w : World) (hE : Ru.Env w) :
    Calls Tryd.prog 5 #[.string s, .int .i64 cut] w fun e w' => e = .returned (.bool true) ∧ Below w.heap.size w w' := by
  have HW := Lib.hid (wakes_any w hE)
  have HG := Lib.hid (great_any s w)
  have a1 : decide ((3000 : Int) < (s.size : Int)) = true := decide_eq_true (by omega)
  have a2 : decide (3000 < s.size) = true := decide_eq_true hs
  clear hE
  cases hg : grB s.size with
  | true =>
    rw [hg] at HG
    clear hs hg
    go_enter Tryd.func5, Tryd.ntmps5
    go_wp2_with fail
    refine HG.out.mono ?_
    rintro e w1 ⟨rfl, rfl⟩
    go_wp2_with fail
    refine HW.out.mono ?_
    rintro e w2 ⟨rfl, hb⟩
    have HBB := Lib.hid hb
    clear hb
    go_wp2_with fail
    refine bodyPost_ret (v := .bool true) (by simp [results, Tryd.results5, go_sem]) rfl ?_
    first | exact ⟨rfl, HBB.out⟩ | exact ⟨rfl, HBB.out.drew⟩
  | false =>
    rw [hg] at HG
    clear hs hg
    go_enter Tryd.func5, Tryd.ntmps5
    go_wp2_with fail
    refine HG.out.mono ?_
    rintro e w1 ⟨rfl, rfl⟩
    go_wp2_with fail
    refine HW.out.mono ?_
    rintro e w2 ⟨rfl, hb⟩
    have HBB := Lib.hid hb
    clear hb
    go_wp2_with fail
    refine bodyPost_ret (v := .bool true) (by simp [results, Tryd.results5, go_sem]) rfl ?_
    first | exact ⟨rfl, HBB.out⟩ | exact ⟨rfl, HBB.out.drew⟩
theorem grB_small {n : Nat} (h : n ≤ 3000) : grB n = false := by
  unfold grB
  rw [decide_eq_false (by omega), decide_eq_false (by omega)]
  rfl
set_option maxRecDepth 100000 in
set_option maxHeartbeats 1000000 in
theorem cuts_err (s : ByteArray) (cut : Int) (hs : s.size ≤ 3000) {a c : Nat} (hp : parM s.data.toList = .error (a, c)) (w : World) (hE : Ru.Env w) :
    Calls Tryd.prog 5 #[.string s, .int .i64 cut] w fun e w' => e = .returned (.bool true) ∧ Below w.heap.size w w' := by
  have HG := Lib.hid (great_any s w)
  rw [grB_small hs] at HG
  have HP := Lib.hid (Parse_any s (by omega) w hE)
  rw [hp] at HP
  have a1 : decide ((3000 : Int) < (s.size : Int)) = false := decide_eq_false (by omega)
  have a2 : decide (3000 < s.size) = false := decide_eq_false (by omega)
  have hne : c ≠ 0 := parM_err hp
  have t1 : ((c : Int) == 0) = false := by rw [beq_eq_false_iff_ne]; omega
  have t2 : ((c : Int) != 0) = true := by rw [bne_iff_ne]; omega
  have HE := Lib.hid hE
  clear hs hp hne hE
  go_enter Tryd.func5, Tryd.ntmps5
  go_wp2_with fail
  refine HG.out.mono ?_
  rintro e w1 ⟨rfl, rfl⟩
  go_wp2_with fail
  refine HP.out.mono ?_
  rintro e w1 ⟨rfl, hb⟩
  have HB := Lib.hid hb
  clear hb
  unfold zeroV
  go_upto_region 4 with fail
  obtain ⟨X, hX⟩ : ∃ X, X = w1.alloc (.cells #[.int .i8 0, .bool false, .int .i64 0, .string ⟨#[]⟩, .slice none 0 0, .slice none 0 0] 28) := ⟨_, rfl⟩
  rw [← hX]
  obtain ⟨kX, -⟩ := newbox w1 _ hX
  have HW := Lib.hid (wakes_any X (HE.out.below (HB.out.trans (kX.mono HB.out.size)) HE.out.1))
  have hwx := HB.out.trans (kX.mono HB.out.size)
  have HWX := Lib.hid hwx
  clear hX kX hwx
  go_wp2_with fail
  refine HW.out.mono ?_
  rintro e w2 ⟨rfl, hb⟩
  have HBB := Lib.hid (HWX.out.trans (hb.mono HWX.out.size))
  clear hb
  go_wp2_with fail
  refine bodyPost_ret (v := .bool true) (by simp [results, Tryd.results5, go_sem]) rfl ?_
  first | exact ⟨rfl, HBB.out⟩ | exact ⟨rfl, HBB.out.drew⟩
end Go.Proofs.YtgbagdfcdljleaaDoor

namespace Go.Proofs.YtgbagdfcdljleaaDoor.Ru
open Go.ChangeShapes Go.WideShapes Go.ChangeAt Go.RowKit Go.Shelf
open Go.ChangeMaps (open_string shut_string)

theorem accept_eq : (Rows.laid_unicode_utf8_acceptRanges : DataW Unit) = Lib.acceptData := by kernel_rfl
theorem first_eq : Rows.laid_unicode_utf8_first = Lib.firstData := Pinned.utf8First_eq

theorem cell_of_iface {P : Program} {w : World} {fuel : Nat} {t : TypeId} {cs : List Value} {ms : Array (String × TypeId)} {n : String} {d : DataW Unit} {p : List MemPlace} (ht : P.underlying t = some (.interface ms))
    (h : DataW.trod (fun _ => ()) P w 0 (fun _ => true) false fuel t cs = some (.iface n d, p)) : ∃ u v, cs = [.iface u v] := by
  cases fuel with
  | zero => simp [DataW.trod] at h
  | succ fuel =>
    simp only [DataW.trod, ht] at h
    split at h <;> simp_all

theorem env_of_laid {laid : List (String × DataW Unit)} (hm : ("unicode/utf8.first", Rows.laid_unicode_utf8_first) ∈ laid) (hm2 : ("unicode/utf8.acceptRanges", Rows.laid_unicode_utf8_acceptRanges) ∈ laid) (hm3 : ("strconv.ErrSyntax", Rows.laid_strconv_ErrSyntax) ∈ laid)
    {W : World} (h : laidMet Tryd.prog laid W) (h7 : 7 ≤ W.heap.size) : Env W := by
  have r1 := Lib.laidMet.reads h hm
  have r2 := Lib.laidMet.reads h hm2
  have r3 := Lib.laidMet.reads h hm3
  rw [first_eq] at r1
  rw [accept_eq] at r2
  refine ⟨h7, utf8Tabs_of_reads Tryd.lays260 Tryd.u8Extra r1 r2, ?_⟩
  obtain ⟨g, t, cs, fuel, p, hg, ht, hv, hd⟩ := r3
  obtain rfl := Option.some.inj ((show Tryd.prog.globalNamed "strconv.ErrSyntax" = some 3 by kernel_rfl).symm.trans hg)
  obtain rfl := Option.some.inj ((show (Tryd.prog.globals[3]?).map (·.type) = some 100 by kernel_rfl).symm.trans ht)
  obtain ⟨u, v, hcs⟩ := cell_of_iface Tryd.underlying100 hd
  refine ⟨.iface u v, ?_, .inr ⟨u, v, rfl⟩⟩
  rw [World.var?_cell hg hv 0, ← Array.getElem?_toList, hcs]; rfl
theorem size_of_laid {laid : List (String × DataW Unit)} (hm : ("math/bits.deBruijn64tab", Rows.laid_math_bits_deBruijn64tab) ∈ laid) {W : World} (h : laidMet Tryd.prog laid W) : 7 ≤ W.heap.size := by
  obtain ⟨g, t, cs, fuel, p, hg, ht, hv, hd⟩ := Lib.laidMet.reads h hm
  obtain rfl := Option.some.inj ((show Tryd.prog.globalNamed "math/bits.deBruijn64tab" = some 7 by kernel_rfl).symm.trans hg)
  obtain rfl := Option.some.inj ((show (Tryd.prog.globals[7]?).map (·.type) = some 150 by kernel_rfl).symm.trans ht)
  have hne : cs.toList ≠ [] := by
    intro e
    rw [e] at hd
    cases fuel with
    | zero => simp [DataW.trod] at hd
    | succ fuel =>
      have hc : Tryd.prog.cellsOf 150 = 64 := by kernel_rfl
      simp [DataW.trod, Tryd.underlying150, hc] at hd
  obtain ⟨x, xs, hx⟩ : ∃ x xs, cs.toList = x :: xs := by
    cases h : cs.toList with
    | nil => exact absurd h hne
    | cons x xs => exact ⟨_, _, rfl⟩
  have h0 : W.cell? ⟨7, 0, none⟩ = some x := by rw [World.var?_cell hg hv 0, ← Array.getElem?_toList, hx]; rfl
  exact Nat.le_of_lt (World.block_lt_of_cell? _ _ h0)
end Go.Proofs.YtgbagdfcdljleaaDoor.Ru

namespace Go.Proofs.YtgbagdfcdljleaaDoor
open Go.Lib

def St.push (op : List Fm) : St → St
  | .rd k o => .rd k (o ++ op)
  | .got v k o => .got v k (o ++ op)
def mapP (op : List Fm) : Except Er St → Except Er St
  | .error q => .error q
  | .ok st => .ok (st.push op)
theorem enterM_push (s : List UInt8) (k : Nat) (o op : List Fm) (f : Fm) : enterM s k (o ++ op) f = mapP op (enterM s k o f) := by
  unfold enterM
  by_cases h : s[bl s (k + 1)]? = some f.close
  · rw [if_pos h, if_pos h]; rfl
  · rw [if_neg h, if_neg h]
    cases keyM s (bl s (k + 1)) f with
    | error r => rfl
    | ok p => obtain ⟨k', f'⟩ := p; rfl
theorem putM_push (s : List UInt8) (v : V) (k : Nat) (f : Fm) (o op : List Fm) : putM s v k f (o ++ op) = mapP op (putM s v k f o) := by
  unfold putM
  by_cases h : s[bl s k]? = some f.close
  · rw [if_pos h, if_pos h]; rfl
  · rw [if_neg h, if_neg h]
    by_cases h2 : s[bl s k]? ≠ some 44
    · rw [if_pos h2, if_pos h2]; rfl
    · rw [if_neg h2, if_neg h2]
      cases keyM s (bl s (bl s k + 1)) { f with vs := f.vs ++ [v] } with
      | error r => rfl
      | ok p => obtain ⟨k', f'⟩ := p; rfl
theorem wordM_push (s : List UInt8) (k : Nat) (o op : List Fm) (x : List UInt8) (v : V) : wordM s k (o ++ op) x v = mapP op (wordM s k o x v) := by
  unfold wordM
  by_cases h : (s.drop k).take x.length = x
  · rw [if_pos h, if_pos h]; rfl
  · rw [if_neg h, if_neg h]; rfl
theorem begM_push (s : List UInt8) (d : Int) (k : Nat) (o op : List Fm) : begM s d k (o ++ op) = mapP op (begM s (d + (op.length : Int)) k o) := by
  unfold begM
  rw [show d + ((o ++ op).length : Int) = d + (op.length : Int) + (o.length : Int) by rw [List.length_append]; omega]
  by_cases h1 : s.length ≤ k
  · rw [if_pos h1, if_pos h1]; rfl
  rw [if_neg h1, if_neg h1]
  by_cases h2 : 24 < d + (op.length : Int) + (o.length : Int)
  · rw [if_pos h2, if_pos h2]; rfl
  rw [if_neg h2, if_neg h2]
  by_cases h3 : s.getD k 0 = 110
  · rw [if_pos h3, if_pos h3]; exact wordM_push _ _ _ _ _ _
  rw [if_neg h3, if_neg h3]
  by_cases h4 : s.getD k 0 = 102
  · rw [if_pos h4, if_pos h4]; exact wordM_push _ _ _ _ _ _
  rw [if_neg h4, if_neg h4]
  by_cases h5 : s.getD k 0 = 116
  · rw [if_pos h5, if_pos h5]; exact wordM_push _ _ _ _ _ _
  rw [if_neg h5, if_neg h5]
  by_cases h6 : numB (s.getD k 0) = true
  · rw [if_pos h6, if_pos h6]
    unfold numM
    by_cases h : (Nu.scanL s k).2.2 = 0
    · rw [if_pos h, if_pos h]; rfl
    · rw [if_neg h, if_neg h]; rfl
  rw [if_neg h6, if_neg h6]
  by_cases h7 : s.getD k 0 = 34
  · rw [if_pos h7, if_pos h7]
    unfold texM
    by_cases h : (Ru.unqL s k).2.2 = 0
    · rw [if_pos h, if_pos h]; rfl
    · rw [if_neg h, if_neg h]; rfl
  rw [if_neg h7, if_neg h7]
  by_cases h8 : s.getD k 0 = 91
  · rw [if_pos h8, if_pos h8]; exact enterM_push _ _ _ _ _
  rw [if_neg h8, if_neg h8]
  by_cases h9 : s.getD k 0 = 123
  · rw [if_pos h9, if_pos h9]; exact enterM_push _ _ _ _ _
  rw [if_neg h9, if_neg h9]; rfl
/-- How the whole run goes on behind a part's own run. -/
def PartS (s : List UInt8) (d : Int) (R : Except Er (V × Nat)) (op : List Fm) : Except Er (V × Nat) → Prop
  | .error q => R = .error q
  | .ok (v, e) => RunS s d R (.got v e op)
/-- What a part's own run comes to, the whole run comes to with what is open behind it. -/
theorem run_push {s : List UInt8} {d : Int} {op : List Fm} {R : Except Er (V × Nat)} : ∀ (n : Nat) (st : St) (r : Except Er (V × Nat)), runM s (d + (op.length : Int)) n st = some r → RunS s d R (st.push op) → PartS s d R op r
  | 0, st, r, h, _ => by cases st <;> cases h
  | n + 1, .got v k [], r, h, h' => by
    rw [runM] at h
    cases h
    exact h'
  | n + 1, .got v k (f :: o), r, h, h' => by
    rw [runM] at h
    have h1 : RunS s d R (.got v k (f :: (o ++ op))) := h'
    cases e : putM s v k f o with
    | error q =>
      rw [e] at h
      cases h
      rcases h1.got with ⟨q', h2, h3⟩ | ⟨st, h2, _⟩
      · rw [putM_push, e] at h2
        cases h2
        exact h3
      · rw [putM_push, e] at h2
        cases h2
    | ok st =>
      rw [e] at h
      rcases h1.got with ⟨q', h2, h3⟩ | ⟨st', h2, h3⟩
      · rw [putM_push, e] at h2
        cases h2
      · rw [putM_push, e] at h2
        cases h2
        exact run_push n st r h h3
  | n + 1, .rd k o, r, h, h' => by
    rw [runM] at h
    have h1 : RunS s d R (.rd k (o ++ op)) := h'
    cases e : begM s (d + (op.length : Int)) k o with
    | error q =>
      rw [e] at h
      cases h
      rcases h1.rd with ⟨q', h2, h3⟩ | ⟨st, h2, _⟩
      · rw [begM_push, e] at h2
        cases h2
        exact h3
      · rw [begM_push, e] at h2
        cases h2
    | ok st =>
      rw [e] at h
      rcases h1.rd with ⟨q', h2, h3⟩ | ⟨st', h2, h3⟩
      · rw [begM_push, e] at h2
        cases h2
      · rw [begM_push, e] at h2
        cases h2
        exact run_push n st r h h3
/-- A part of the innermost list or object, read as a value by itself. -/
theorem RunS.part {s : List UInt8} {d : Int} {k : Nat} {f : Fm} {R r : Except Er (V × Nat)} (hk : k ≤ s.length) (hr : valM s k (d + 1) = r) (h : RunS s d R (.rd k [f])) : PartS s d R [f] r :=
  run_push (op := [f]) (s.length + 2) (.rd k []) r (hr ▸ valM_run s k (d + 1) hk) h
theorem RunS.start {s : List UInt8} {d : Int} {k : Nat} {R : Except Er (V × Nat)} (hk : k ≤ s.length) (hr : valM s k d = R) : RunS s d R (.rd k []) := ⟨_, hr ▸ valM_run s k d hk⟩
end Go.Proofs.YtgbagdfcdljleaaDoor

namespace Go.Proofs.YtgbagdfcdljleaaDoor
open Go.RowKit Go.Maps

theorem isBl_eq (c : UInt8) : isBl c = (((c.toNat : Int) == 32) || ((c.toNat : Int) == 9) || ((c.toNat : Int) == 10) || ((c.toNat : Int) == 13)) := by
  have key : ∀ n : Nat, n < 256 → (c == UInt8.ofNat n) = ((c.toNat : Int) == (n : Int)) := fun n hn => by
    rw [Bool.eq_iff_iff, beq_iff_eq, beq_iff_eq]
    constructor
    · intro h; rw [h]; simp; omega
    · intro h
      have : c.toNat = n := by omega
      rw [← this]; simp
  unfold isBl
  rw [show (32 : UInt8) = UInt8.ofNat 32 from rfl, show (9 : UInt8) = UInt8.ofNat 9 from rfl, show (10 : UInt8) = UInt8.ofNat 10 from rfl, show (13 : UInt8) = UInt8.ofNat 13 from rfl, key 32 (by decide), key 9 (by decide), key 10 (by decide), key 13 (by decide)]
  rfl
set_option maxRecDepth 100000 in
set_option maxHeartbeats 2000000 in
theorem rBlanks_any (s : ByteArray) (at_ : Int) (hs : s.size ≤ 4294967296) (w : World) :
    Calls Tryd.prog 17 #[.string s, .int .i64 at_] w fun e w' => e = .returned (.int .i64 (bl s.data.toList (wiN s.size at_))) ∧ w' = w := by
  obtain ⟨k, hk⟩ : ∃ k, wiN s.size at_ = k := ⟨_, rfl⟩
  have hks : k ≤ s.size := hk ▸ wiN_le _ _
  have hd : ∃ a : Int, (if at_ < 0 then (0 : Int) else at_) = a ∧ (if (s.size : Int) < a then (s.size : Int) else a) = (k : Int) := by
    refine ⟨_, rfl, ?_⟩
    unfold wiN at hk
    split <;> split <;> omega
  obtain ⟨a, ha1, ha2⟩ := hd
  rw [hk]
  clear hk
  go_enter Tryd.func17, Tryd.ntmps17
  go_wp2_with fail
  go_loop [1] (fun i => ∃ j : Nat, k ≤ j ∧ j ≤ s.size ∧ i = .int .i64 j ∧ ∀ q, k ≤ q → q < j → isBl (s.data.toList.getD q 0) = true) (fun i => s.size - (intOf i).toNat)
  case atStart => exact ⟨k, Nat.le_refl _, hks, by first | rfl | rw [ha1, ha2] | (congr 1; omega), fun q h1 h2 => by omega⟩
  case round =>
    obtain ⟨j, h1, h2, rfl, h3⟩ := hrel
    have H3 := Lib.hid h3
    clear h3 ha1 ha2
    by_cases hj : j < s.size
    · have hg : s.data.toList.getD j 0 = s[j] := by rw [List.getD, toList_getElem s j hj]; rfl
      have HG := Lib.hid hg
      have hb := isBl_eq s[j]
      have HB := Lib.hid hb
      clear hg hb
      cases t1 : (((s[j]).toNat : Int) == 32) with
      | true =>
        go_wp2_with fail
        go_round
        case rel => exact ⟨j + 1, by omega, by omega, by go_num, fun q q1 q2 => by
          by_cases e : q = j
          · rw [e, HG.out, HB.out, t1]; rfl
          · exact H3.out q q1 (by omega)⟩
        case measure => simp [intOf]; omega
      | false =>
        cases t2 : (((s[j]).toNat : Int) == 9) with
        | true =>
          go_wp2_with fail
          go_round
          case rel => exact ⟨j + 1, by omega, by omega, by go_num, fun q q1 q2 => by
            by_cases e : q = j
            · rw [e, HG.out, HB.out, t1, t2]; rfl
            · exact H3.out q q1 (by omega)⟩
          case measure => simp [intOf]; omega
        | false =>
          cases t3 : (((s[j]).toNat : Int) == 10) with
          | true =>
            go_wp2_with fail
            go_round
            case rel => exact ⟨j + 1, by omega, by omega, by go_num, fun q q1 q2 => by
              by_cases e : q = j
              · rw [e, HG.out, HB.out, t1, t2, t3]; rfl
              · exact H3.out q q1 (by omega)⟩
            case measure => simp [intOf]; omega
          | false =>
            cases t4 : (((s[j]).toNat : Int) == 13) with
            | true =>
              go_wp2_with fail
              go_round
              case rel => exact ⟨j + 1, by omega, by omega, by go_num, fun q q1 q2 => by
                by_cases e : q = j
                · rw [e, HG.out, HB.out, t1, t2, t3, t4]; rfl
                · exact H3.out q q1 (by omega)⟩
              case measure => simp [intOf]; omega
            | false =>
              have hq := Lib.hid (bl_of (j - k) k j (by omega) (by rw [toList_length]; exact h2) H3.out (fun _ => by rw [HG.out, HB.out, t1, t2, t3, t4]; rfl))
              go_wp2_with fail
              go_ret
              exact ⟨by rw [hq.out]; rfl, rfl⟩
    · have hje : j = s.size := by omega
      have hq := Lib.hid (bl_of (j - k) k j (by omega) (by rw [toList_length]; exact h2) H3.out (fun h => by rw [toList_length] at h; omega))
      subst hje
      go_wp2_with fail
      go_ret
      exact ⟨by rw [hq.out]; rfl, rfl⟩
/-- In place. -/
theorem rBlanks_in (s : ByteArray) {k : Nat} (hk : k ≤ s.size) (hs : s.size ≤ 4294967296) (w : World) :
    Calls Tryd.prog 17 #[.string s, .int .i64 k] w fun e w' => e = .returned (.int .i64 (bl s.data.toList k)) ∧ w' = w := by
  have := rBlanks_any s k hs w
  rwa [wiN_in hk] at this
theorem ext_drop_take (s : ByteArray) (k n : Nat) : (s.extract k (k + n)).data.toList = (s.data.toList.drop k).take n := by
  have := Lib.extract_toList s k (k + n)
  rw [show (s.extract k (k + n)).data.toList = (s.extract k (k + n)).toList from (Lib.toList_data _).symm, this, Nat.add_sub_cancel_left]
set_option maxRecDepth 100000 in
set_option maxHeartbeats 1000000 in
theorem begins_any (s p : ByteArray) (k : Nat) (hk : k ≤ s.size) (hs : s.size ≤ 4294967296) (hp : p.size ≤ 100) (w : World) :
    Calls Tryd.prog 28 #[.string s, .int .i64 k, .string p] w fun e w' => e = .returned (.bool (decide ((s.data.toList.drop k).take p.data.toList.length = p.data.toList))) ∧ w' = w := by
  rw [toList_length p]
  by_cases h : k + p.size ≤ s.size
  · obtain ⟨q, hq⟩ : ∃ q, ((s.extract k (k + p.size)).toList == p.toList) = q := ⟨_, rfl⟩
    have hd : decide ((s.data.toList.drop k).take p.size = p.data.toList) = q := by
      rw [← hq, Lib.toList_data, Lib.toList_data, ext_drop_take, Bool.eq_iff_iff, decide_eq_true_iff, beq_iff_eq]
    rw [hd]
    have h1 : decide ((p.size : Int) ≤ (s.size : Int) - (k : Int)) = true := decide_eq_true (by omega)
    have h2 : (k : Int) + (p.size : Int) ≤ (s.size : Int) := by omega
    have h3 : (k : Int) ≤ (k : Int) + (p.size : Int) := by omega
    clear hd
    go_enter Tryd.func28, Tryd.ntmps28
    go_wp2_with fail
    go_ret
    exact ⟨rfl, rfl⟩
  · have hd : decide ((s.data.toList.drop k).take p.size = p.data.toList) = false := decide_eq_false fun e => by
      have := congrArg List.length e
      rw [List.length_take, List.length_drop, toList_length, toList_length] at this
      omega
    rw [hd]
    have h1 : decide ((p.size : Int) ≤ (s.size : Int) - (k : Int)) = false := decide_eq_false (by omega)
    clear hd
    go_enter Tryd.func28, Tryd.ntmps28
    go_wp2_with fail
    go_ret
    exact ⟨rfl, rfl⟩
end Go.Proofs.YtgbagdfcdljleaaDoor

namespace Go.Proofs.YtgbagdfcdljleaaDoor
open Go.RowKit Go.Maps

/-! ### What follows of a run -/
def GoS (s : List UInt8) (d : Int) (R : Except Er (V × Nat)) : Except Er St → Prop
  | .error q => R = .error q
  | .ok st => RunS s d R st
def KeyS (s : List UInt8) (d : Int) (R : Except Er (V × Nat)) (k : Nat) (f : Fm) : Prop :=
  match keyM s k f with
  | .error q => R = .error q
  | .ok (k', f') => RunS s d R (.rd k' [f'])
theorem GoS.of {s : List UInt8} {d : Int} {R : Except Er (V × Nat)} {k : Nat} (h : RunS s d R (.rd k [])) : GoS s d R (begM s d k []) := by
  rcases h.rd with ⟨q, h1, h2⟩ | ⟨st, h1, h2⟩ <;> rw [h1] <;> exact h2
theorem GoS.enter {s : List UInt8} {d : Int} {R : Except Er (V × Nat)} {k : Nat} {f : Fm} (h : GoS s d R (enterM s k [] f)) :
    (s[bl s (k + 1)]? = some f.close → R = .ok (f.val, bl s (k + 1) + 1)) ∧ (s[bl s (k + 1)]? ≠ some f.close → KeyS s d R (bl s (k + 1)) f) := by
  unfold enterM at h
  constructor
  · intro e
    rw [if_pos e] at h
    exact RunS.fin h
  · intro e
    rw [if_neg e] at h
    unfold KeyS
    cases hk : keyM s (bl s (k + 1)) f with
    | error q => rw [hk] at h; exact h
    | ok p => obtain ⟨k', f'⟩ := p; rw [hk] at h; exact h
theorem RunS.putS {s : List UInt8} {d : Int} {R : Except Er (V × Nat)} {k : Nat} {v : V} {f : Fm} (h : RunS s d R (.got v k [f])) :
    (s[bl s k]? = some f.close → R = .ok (Fm.val { f with vs := f.vs ++ [v] }, bl s k + 1)) ∧
    (s[bl s k]? ≠ some f.close → s[bl s k]? ≠ some 44 → R = .error (bl s k, 40)) ∧
    (s[bl s k]? ≠ some f.close → s[bl s k]? = some 44 → KeyS s d R (bl s (bl s k + 1)) { f with vs := f.vs ++ [v] }) := by
  have h' : GoS s d R (putM s v k f []) := by
    rcases h.got with ⟨q, h1, h2⟩ | ⟨st, h1, h2⟩ <;> rw [h1] <;> exact h2
  unfold putM at h'
  refine ⟨fun e => ?_, fun e e2 => ?_, fun e e2 => ?_⟩
  · rw [if_pos e] at h'
    exact RunS.fin h'
  · rw [if_neg e, if_pos e2] at h'
    exact h'
  · rw [if_neg e, if_neg (fun h => h e2)] at h'
    unfold KeyS
    cases hk : keyM s (bl s (bl s k + 1)) { f with vs := f.vs ++ [v] } with
    | error q => rw [hk] at h'; exact h'
    | ok p => obtain ⟨k', f'⟩ := p; rw [hk] at h'; exact h'
theorem KeyS.list {s : List UInt8} {d : Int} {R : Except Er (V × Nat)} {k : Nat} {vs : List V} {ks : List ByteArray} (h : KeyS s d R k ⟨false, vs, ks⟩) : RunS s d R (.rd k [⟨false, vs, ks⟩]) := h
theorem KeyS.obj {s : List UInt8} {d : Int} {R : Except Er (V × Nat)} {k : Nat} {vs : List V} {ks : List ByteArray} (h : KeyS s d R k ⟨true, vs, ks⟩) :
    (s[k]? ≠ some 34 → R = .error (k, 40)) ∧
    (s[k]? = some 34 → (Ru.unqL s k).2.2 ≠ 0 → R = .error ((Ru.unqL s k).2.1, (Ru.unqL s k).2.2)) ∧
    (s[k]? = some 34 → (Ru.unqL s k).2.2 = 0 → hasK ks (Ru.unqL s k).1 = true → R = .error (k, 41)) ∧
    (s[k]? = some 34 → (Ru.unqL s k).2.2 = 0 → hasK ks (Ru.unqL s k).1 = false → s[bl s (Ru.unqL s k).2.1]? ≠ some 58 → R = .error (bl s (Ru.unqL s k).2.1, 40)) ∧
    (s[k]? = some 34 → (Ru.unqL s k).2.2 = 0 → hasK ks (Ru.unqL s k).1 = false → s[bl s (Ru.unqL s k).2.1]? = some 58 → RunS s d R (.rd (bl s (bl s (Ru.unqL s k).2.1 + 1)) [⟨true, vs, ks ++ [⟨(Ru.unqL s k).1.toArray⟩]⟩])) := by
  unfold KeyS keyM at h
  rw [if_neg (show ¬ (true = false) by decide)] at h
  refine ⟨fun e => ?_, fun e e2 => ?_, fun e e2 e3 => ?_, fun e e2 e3 e4 => ?_, fun e e2 e3 e4 => ?_⟩
  · rw [if_pos e] at h; exact h
  · rw [if_neg (fun x => x e), if_pos e2] at h; exact h
  · rw [if_neg (fun x => x e), if_neg (fun x => x e2), if_pos e3] at h; exact h
  · rw [if_neg (fun x => x e), if_neg (fun x => x e2), if_neg (by rw [e3]; decide), if_pos e4] at h; exact h
  · rw [if_neg (fun x => x e), if_neg (fun x => x e2), if_neg (by rw [e3]; decide), if_neg (fun x => x e4)] at h; exact h
theorem sgn_yes (s : ByteArray) (k : Nat) (h : k < s.size) (c : UInt8) (e : s.data.toList[k]? = some c) : (((s[k]'h).toNat : Int) == (c.toNat : Int)) = true := by
  rw [toList_getElem s k h] at e
  rw [beq_iff_eq, Option.some.inj e]
theorem sgn_no (s : ByteArray) (k : Nat) (h : k < s.size) (c : UInt8) (e : s.data.toList[k]? ≠ some c) : (((s[k]'h).toNat : Int) == (c.toNat : Int)) = false := by
  rw [toList_getElem s k h] at e
  rw [beq_eq_false_iff_ne]
  intro e'
  exact e (congrArg some (UInt8.toNat_inj.1 (by omega)))
theorem sgn_yes' (s : ByteArray) (k : Nat) (h : k < s.size) (c : UInt8) (e : s.data.toList[k]? = some c) : (((s[k]'h).toNat : Int) != (c.toNat : Int)) = false := by
  rw [bne, sgn_yes s k h c e]; rfl
theorem sgn_no' (s : ByteArray) (k : Nat) (h : k < s.size) (c : UInt8) (e : s.data.toList[k]? ≠ some c) : (((s[k]'h).toNat : Int) != (c.toNat : Int)) = true := by
  rw [bne, sgn_no s k h c e]; rfl
theorem none_at (s : ByteArray) (k : Nat) (h : ¬ k < s.size) (c : UInt8) : s.data.toList[k]? ≠ some c := by
  rw [List.getElem?_eq_none (by rw [toList_length]; omega)]
  exact fun e => by cases e

/-! ### In memory -/
structure LW (w : World) (kd : Int) (vs : List V) (ks : List ByteArray) (lv kv : Value) (xs : List Value) (S : Nat → Prop) (W : World) : Prop where
  kb : Below w.heap.size w W
  z6 : Bx W w.heap.size zeroC 28
  z9 : Bx W (w.heap.size + 1) #[.int .i8 kd, .bool false, .int .i64 0, .string ⟨#[]⟩, lv, kv] 28
  lo : W.ownsRow (w.heap.size + 2) 28 6 lv vs.length xs
  ko : W.ownsRow (w.heap.size + 2) 9 1 kv ks.length (ks.map .string)
  la : Ow.isVsLa W S vs xs
  kz : ∀ k ∈ ks, k.size ≤ 1000000
  hS : ∀ q, S q → w.heap.size + 2 ≤ q ∧ q < W.heap.size ∧ lv.ownBlock ≠ some q ∧ kv.ownBlock ≠ some q
section
variable {w W W' y : World} {kd : Int} {vs : List V} {ks : List ByteArray} {lv kv lv' kv' : Value} {xs : List Value} {S Sv : Nat → Prop}
theorem LW.keep (h : LW w kd vs ks lv kv xs S W) (hb : Below w.heap.size w W') (hsz : W.heap.size ≤ W'.heap.size) (hk : ∀ q, w.heap.size ≤ q → q < W.heap.size → W'.heap[q]? = W.heap[q]?) : LW w kd vs ks lv kv xs S W' where
  kb := hb
  z6 := h.z6.kp (hk _ (Nat.le_refl _) h.z6.lt)
  z9 := h.z9.kp (hk _ (Nat.le_succ _) h.z9.lt)
  lo := own_kp h.lo fun q e => hk q (by have := (h.lo.lt q e).1; omega) (h.lo.lt q e).2
  ko := own_kp h.ko fun q e => hk q (by have := (h.ko.lt q e).1; omega) (h.ko.lt q e).2
  la := la_kp h.la fun q e => hk q (by have := (h.hS q e).1; omega) (h.hS q e).2.1
  kz := h.kz
  hS := fun q e => ⟨(h.hS q e).1, Nat.lt_of_lt_of_le (h.hS q e).2.1 hsz, (h.hS q e).2.2⟩
theorem LW.below (h : LW w kd vs ks lv kv xs S W) (hb : Below W.heap.size W W') : LW w kd vs ks lv kv xs S W' :=
  h.keep (h.kb.trans (hb.mono h.kb.size)) hb.size fun q _ hq => hb.block q hq
theorem LW.alloc (h : LW w kd vs ks lv kv xs S W) (o : Obj) : LW w kd vs ks lv kv xs S (W.alloc o) := h.below ((Below.refl _ _).alloc (Nat.le_refl _) o)
theorem LW.start (w : World) (kd : Int) : LW w kd [] [] (.slice none 0 0) (.slice none 0 0) [] (fun _ => False) ((w.alloc (.cells zeroC 28)).alloc (.cells #[.int .i8 kd, .bool false, .int .i64 0, .string ⟨#[]⟩, .slice none 0 0, .slice none 0 0] 28)) where
  kb := ((Below.refl _ _).alloc (Nat.le_refl _) _).alloc (by simp) _
  z6 := (Bx.new w _ _).alloc _
  z9 := by
    have := Bx.new (w.alloc (.cells zeroC 28)) #[.int .i8 kd, .bool false, .int .i64 0, .string ⟨#[]⟩, .slice none 0 0, .slice none 0 0] 28
    rwa [World.size_alloc] at this
  lo := World.ownsRow_nil _ _ _ _
  ko := World.ownsRow_nil _ _ _ _
  la := rfl
  kz := fun k hk => by cases hk
  hS := fun q e => e.elim
/-- A part is put behind the others. -/
theorem LW.put {v : V} {c0 c1 c2 c3 c4 c5 : Value} (h : LW w kd vs ks lv kv xs S W) (hva : isVa W Sv v (.agg #[c0, c1, c2, c3, c4, c5])) (hSv : ∀ q, Sv q → w.heap.size + 2 ≤ q ∧ q < W.heap.size ∧ lv.ownBlock ≠ some q ∧ kv.ownBlock ≠ some q)
    (own' : y.ownsRow (w.heap.size + 2) 28 6 lv' (vs.length + 1) (xs ++ [c0, c1, c2, c3, c4, c5])) (gr : W.grownBy y lv.ownBlock) (at' : lv'.ownBlock = lv.ownBlock ∨ lv'.ownBlock = some W.heap.size) :
    LW w kd (vs ++ [v]) ks lv' kv (xs ++ [c0, c1, c2, c3, c4, c5]) (fun q => S q ∨ Sv q) (y.setCell ⟨w.heap.size + 1, 4, none⟩ lv') := by
  have hlk := types_apart h.lo h.ko (by decide)
  have hl : ∀ q, lv.ownBlock = some q → w.heap.size + 2 ≤ q ∧ q < W.heap.size := fun q e => h.lo.lt q e
  have hk : ∀ q, q < W.heap.size → lv.ownBlock ≠ some q → q ≠ w.heap.size + 1 → (y.setCell ⟨w.heap.size + 1, 4, none⟩ lv').heap[q]? = W.heap[q]? := fun q h1 h2 h3 =>
    (Below.heap_setCell _ _ _ _ h3).trans (gr.block q h1 (fun e => h2 e.symm))
  have h9 := h.z9.lt
  have hsz : W.heap.size ≤ (y.setCell ⟨w.heap.size + 1, 4, none⟩ lv').heap.size := by simpa using gr.size
  refine ⟨(h.kb.grown gr h.kb.size (fun q e => by have := (hl q e).1; omega)).setCell (Nat.le_succ _) _, ?_, ?_, ?_, ?_, ?_, h.kz, ?_⟩
  · exact h.z6.kp (hk _ h.z6.lt (fun e => by have := (hl _ e).1; omega) (by omega))
  · have hz : y.heap[w.heap.size + 1]? = some (.cells #[.int .i8 kd, .bool false, .int .i64 0, .string ⟨#[]⟩, lv, kv] 28 (0, 0)) := (gr.block _ h9 (fun e => by have := (hl _ e.symm).1; omega)).trans h.z9
    exact heap_setCell_same y _ 4 _ _ lv' hz
  · rw [List.length_append]
    exact own_kp own' fun q e => Below.heap_setCell _ _ _ _ (by have := (own'.lt q e).1; show q ≠ w.heap.size + 1; omega)
  · exact own_kp h.ko fun q e => hk q (h.ko.lt q e).2 (fun e' => hlk q e' e) (by have := (h.ko.lt q e).1; omega)
  · refine Ow.la_app _ _ _ _ (Ow.la_mono (fun q e => .inl e) _ _ (la_kp h.la fun q e => ?_)) (Ow.la_single (isVa_mono (fun q e => .inr e) _ _ (isVa_kp hva fun q e => ?_)))
    · have h1 := h.hS q e
      exact hk q h1.2.1 h1.2.2.1 (by omega)
    · have h1 := hSv q e
      exact hk q h1.2.1 h1.2.2.1 (by omega)
  · rintro q (e | e)
    · have h1 := h.hS q e
      refine ⟨h1.1, by omega, fun e' => ?_, h1.2.2.2⟩
      rcases at' with a | a
      · exact h1.2.2.1 (a ▸ e')
      · rw [a] at e'
        have := Option.some.inj e'
        omega
    · have h1 := hSv q e
      refine ⟨h1.1, by omega, fun e' => ?_, h1.2.2.2⟩
      rcases at' with a | a
      · exact h1.2.2.1 (a ▸ e')
      · rw [a] at e'
        have := Option.some.inj e'
        omega
/-- A key is put behind the others. -/
theorem LW.key {K : ByteArray} (h : LW w kd vs ks lv kv xs S W) (hK : K.size ≤ 1000000)
    (own' : y.ownsRow (w.heap.size + 2) 9 1 kv' (ks.length + 1) (ks.map .string ++ [.string K])) (gr : W.grownBy y kv.ownBlock) (at' : kv'.ownBlock = kv.ownBlock ∨ kv'.ownBlock = some W.heap.size) :
    LW w kd vs (ks ++ [K]) lv kv' xs S (y.setCell ⟨w.heap.size + 1, 5, none⟩ kv') := by
  have hlk := types_apart h.lo h.ko (by decide)
  have hl : ∀ q, kv.ownBlock = some q → w.heap.size + 2 ≤ q ∧ q < W.heap.size := fun q e => h.ko.lt q e
  have hk : ∀ q, q < W.heap.size → kv.ownBlock ≠ some q → q ≠ w.heap.size + 1 → (y.setCell ⟨w.heap.size + 1, 5, none⟩ kv').heap[q]? = W.heap[q]? := fun q h1 h2 h3 =>
    (Below.heap_setCell _ _ _ _ h3).trans (gr.block q h1 (fun e => h2 e.symm))
  have h9 := h.z9.lt
  have hsz : W.heap.size ≤ (y.setCell ⟨w.heap.size + 1, 5, none⟩ kv').heap.size := by simpa using gr.size
  refine ⟨(h.kb.grown gr h.kb.size (fun q e => by have := (hl q e).1; omega)).setCell (Nat.le_succ _) _, ?_, ?_, ?_, ?_, ?_, ?_, ?_⟩
  · exact h.z6.kp (hk _ h.z6.lt (fun e => by have := (hl _ e).1; omega) (by omega))
  · have hz : y.heap[w.heap.size + 1]? = some (.cells #[.int .i8 kd, .bool false, .int .i64 0, .string ⟨#[]⟩, lv, kv] 28 (0, 0)) := (gr.block _ h9 (fun e => by have := (hl _ e.symm).1; omega)).trans h.z9
    exact heap_setCell_same y _ 5 _ _ kv' hz
  · exact own_kp h.lo fun q e => hk q (h.lo.lt q e).2 (fun e' => hlk q e e') (by have := (h.lo.lt q e).1; omega)
  · rw [List.length_append, List.map_append]
    exact own_kp own' fun q e => Below.heap_setCell _ _ _ _ (by have := (own'.lt q e).1; show q ≠ w.heap.size + 1; omega)
  · exact la_kp h.la fun q e => by
      have h1 := h.hS q e
      exact hk q h1.2.1 h1.2.2.2 (by omega)
  · intro k hk
    rcases List.mem_append.1 hk with e | e
    · exact h.kz k e
    · simp only [List.mem_cons, List.not_mem_nil, or_false] at e
      subst e; exact hK
  · intro q e
    have h1 := h.hS q e
    refine ⟨h1.1, by omega, h1.2.2.1, fun e' => ?_⟩
    rcases at' with a | a
    · exact h1.2.2.2 (a ▸ e')
    · rw [a] at e'
      have := Option.some.inj e'
      omega
/-- The whole, as a value. -/
theorem LW.val (h : LW w kd vs ks lv kv xs S W) (hkd : -128 ≤ kd ∧ kd ≤ 127) : isVa W (fun q => w.heap.size + 2 ≤ q ∧ q < W.heap.size) (.mk kd false 0 ⟨#[]⟩ vs ks) (.agg #[.int .i8 kd, .bool false, .int .i64 0, .string ⟨#[]⟩, lv, kv]) := by
  unfold isVa
  have hlt := h.lo.lt
  have hlk := h.ko.lt
  refine ⟨lv, kv, rfl, hkd, by decide, by decide, ?_, ?_⟩
  · obtain ⟨o, ad, c, rfl, h1, h2, h3, h4, h5⟩ := Ow.own_form h.lo
    refine ⟨ad, c, ⟨o, rfl, h1, h2, h3⟩, fun h0 => ?_, ?_⟩
    · have := h3 h0
      subst this
      exact hlt _ rfl
    · exact isVas_mono (fun q e => ⟨(h.hS q e).1, (h.hS q e).2.1⟩) _ _ (Ow.la_vas _ _ _ h.la h5)
  · obtain ⟨o, ad, c, rfl, h1, h2, h3, h4, h5⟩ := Ow.own_form h.ko
    refine ⟨ad, c, ⟨o, rfl, h1, h2, h3⟩, fun h0 => ?_, fun i hi => ⟨h5 i _ ?_, ?_⟩⟩
    · have := h3 h0
      subst this
      exact hlk _ rfl
    · rw [List.getElem?_map, List.getElem?_eq_getElem hi]; rfl
    · exact Nat.le_trans (h.kz _ (List.getElem_mem hi)) (by decide)
theorem six_below' {w0 W : World} {n q : Nat} (h : Below n w0 W) (hq : n ≤ q) (c0 c1 c2 c3 c4 c5 : Value) : Below n w0 ((((((W.setCell ⟨q, 0, none⟩ c0).setCell ⟨q, 1, none⟩ c1).setCell ⟨q, 2, none⟩ c2).setCell ⟨q, 3, none⟩ c3).setCell ⟨q, 4, none⟩ c4).setCell ⟨q, 5, none⟩ c5) :=
  (((((h.setCell (p := ⟨q, 0, none⟩) hq c0).setCell (p := ⟨q, 1, none⟩) hq c1).setCell (p := ⟨q, 2, none⟩) hq c2).setCell (p := ⟨q, 3, none⟩) hq c3).setCell (p := ⟨q, 4, none⟩) hq c4).setCell (p := ⟨q, 5, none⟩) hq c5
theorem LW.ans (h : LW w kd vs ks lv kv xs S W) (hkd : -128 ≤ kd ∧ kd ≤ 127) (e : Nat) :
    AnsR w (.ok (.mk kd false 0 ⟨#[]⟩ vs ks, e)) (.returned (.tuple #[.agg #[.int .i8 kd, .bool false, .int .i64 0, .string ⟨#[]⟩, lv, kv], .int .i64 e, .int .i64 0])) ((((((W.setCell ⟨w.heap.size, 0, none⟩ (.int .i8 kd)).setCell ⟨w.heap.size, 1, none⟩ (.bool false)).setCell ⟨w.heap.size, 2, none⟩ (.int .i64 0)).setCell ⟨w.heap.size, 3, none⟩ (.string ⟨#[]⟩)).setCell ⟨w.heap.size, 4, none⟩ lv).setCell ⟨w.heap.size, 5, none⟩ kv) :=
  ⟨_, _, rfl, isVa_kp (h.val hkd) fun q e => six_heap _ _ _ _ _ _ _ _ (by have := e.1; omega), fun q e => by have := e.1; omega, six_below' h.kb (Nat.le_refl _) _ _ _ _ _ _⟩
theorem LW.err (h : LW w kd vs ks lv kv xs S W) (a c : Nat) :
    AnsR w (.error (a, c)) (.returned (.tuple #[zeroV, .int .i64 a, .int .i64 c])) ((((((W.setCell ⟨w.heap.size, 0, none⟩ (.int .i8 0)).setCell ⟨w.heap.size, 1, none⟩ (.bool false)).setCell ⟨w.heap.size, 2, none⟩ (.int .i64 0)).setCell ⟨w.heap.size, 3, none⟩ (.string ⟨#[]⟩)).setCell ⟨w.heap.size, 4, none⟩ (.slice none 0 0)).setCell ⟨w.heap.size, 5, none⟩ (.slice none 0 0)) :=
  ⟨rfl, six_below' h.kb (Nat.le_refl _) _ _ _ _ _ _⟩
end
end Go.Proofs.YtgbagdfcdljleaaDoor

namespace Go.Proofs.YtgbagdfcdljleaaDoor
open Go.RowKit Go.Maps

set_option maxRecDepth 100000 in
set_option maxHeartbeats 4000000 in
theorem rlist_any (s : ByteArray) (k : Nat) (d : Int) (hk : k < s.size) (hs : s.size ≤ 20000) (hd1 : -9223372036854775808 ≤ d) (hd2 : d ≤ 24) (w : World)
    (IH : ∀ k', k < k' → k' ≤ s.size → ∀ w, Calls Tryd.prog 16 #[.string s, .int .i64 (k' : Nat), .int .i64 (d + 1)] w fun e w' => AnsR w (valM s.data.toList k' (d + 1)) e w')
    (R : Except Er (V × Nat)) (hR : GoS s.data.toList d R (enterM s.data.toList k [] ⟨false, [], []⟩)) :
    Calls Tryd.prog 32 #[.string s, .int .i64 k, .int .i64 d] w fun e w' => AnsR w R e w' := by
  obtain ⟨e1, e2⟩ := hR.enter
  obtain ⟨K, hK⟩ : ∃ K, bl s.data.toList (k + 1) = K := ⟨_, rfl⟩
  rw [hK] at e1 e2
  have hKs : K ≤ s.size := by
    have := bl_le s.data.toList (k + 1) (by rw [toList_length]; omega)
    rwa [hK, toList_length] at this
  have hkK : k < K := by
    have := bl_ge s.data.toList (k + 1)
    omega
  have HB : Hid (∀ w, Calls Tryd.prog 17 #[.string s, .int .i64 ((k : Int) + 1)] w fun e w' => e = .returned (.int .i64 (K : Nat)) ∧ w' = w) := Lib.hid (fun w => by
    have := rBlanks_in s (k := k + 1) (by omega) (by omega) w
    rw [hK] at this
    exact this)
  have HE1 := Lib.hid e1
  have HE2 := Lib.hid e2
  have HS := Lib.hid (LW.start w 4)
  unfold zeroC at HS
  have HI := Lib.hid IH
  clear hR hK IH e1 e2
  go_enter Tryd.func32, Tryd.ntmps32
  go_upto_region 2 with fail
  obtain ⟨X, hX⟩ : ∃ X, X = ((w.alloc (.cells #[.int .i8 0, .bool false, .int .i64 0, .string ⟨#[]⟩, .slice none 0 0, .slice none 0 0] 28)).alloc (.cells #[.int .i8 4, .bool false, .int .i64 0, .string ⟨#[]⟩, .slice none 0 0, .slice none 0 0] 28)) := ⟨_, rfl⟩
  rw [← hX] at HS ⊢
  clear hX
  go_wp2_with fail
  refine (HB.out X).mono ?_
  rintro e w0 ⟨rfl, h0⟩
  have h0 := h0.symm
  subst h0
  clear HB
  by_cases hc : s.data.toList[K]? = some 93
  · have hK2 : K < s.size := Nat.lt_of_not_le fun h => none_at s K (by omega) 93 hc
    have b1 : (((s[K]'hK2).toNat : Int) == 93) = true := sgn_yes s K hK2 93 hc
    obtain rfl := HE1.out hc
    have a1 : decide ((K : Int) < (s.size : Int)) = true := decide_eq_true (by omega)
    have a2 : decide (K < s.size) = true := decide_eq_true (by omega)
    have a3 : decide ((s.size : Int) ≤ (K : Int)) = false := decide_eq_false (by omega)
    have a4 : decide (s.size ≤ K) = false := decide_eq_false (by omega)
    clear hc HE1 HE2 HI
    have bxe := HS.out.z6
    unfold zeroC at bxe
    have q0 : X.cell? ⟨w.heap.size, 0, none⟩ = some (.int .i8 0) := bxe.cell 0
    have qf0 := bxe.frozen 0
    have q1 : X.cell? ⟨w.heap.size, 1, none⟩ = some (.bool false) := bxe.cell 1
    have qf1 := bxe.frozen 1
    have q2 : X.cell? ⟨w.heap.size, 2, none⟩ = some (.int .i64 0) := bxe.cell 2
    have qf2 := bxe.frozen 2
    have q3 : X.cell? ⟨w.heap.size, 3, none⟩ = some (.string ⟨#[]⟩) := bxe.cell 3
    have qf3 := bxe.frozen 3
    have q4 : X.cell? ⟨w.heap.size, 4, none⟩ = some (.slice none 0 0) := bxe.cell 4
    have qf4 := bxe.frozen 4
    have q5 : X.cell? ⟨w.heap.size, 5, none⟩ = some (.slice none 0 0) := bxe.cell 5
    have qf5 := bxe.frozen 5
    have bx9 := HS.out.z9
    have p0 : X.cell? ⟨w.heap.size + 1, 0, none⟩ = some (.int .i8 4) := bx9.cell 0
    have p1 : X.cell? ⟨w.heap.size + 1, 1, none⟩ = some (.bool false) := bx9.cell 1
    have p2 : X.cell? ⟨w.heap.size + 1, 2, none⟩ = some (.int .i64 0) := bx9.cell 2
    have p3 : X.cell? ⟨w.heap.size + 1, 3, none⟩ = some (.string ⟨#[]⟩) := bx9.cell 3
    have p4 : X.cell? ⟨w.heap.size + 1, 4, none⟩ = some (.slice none 0 0) := bx9.cell 4
    have p5 : X.cell? ⟨w.heap.size + 1, 5, none⟩ = some (.slice none 0 0) := bx9.cell 5
    clear bxe bx9
    have hans := HS.out.ans (by decide) (K + 1)
    rw [show ((K + 1 : Nat) : Int) = (K : Int) + 1 from rfl] at hans
    have HANS := Lib.hid hans
    clear hans
    go_wp2_with fail
    refine bodyPost_ret (v := .tuple #[.agg #[.int .i8 4, .bool false, .int .i64 0, .string ⟨#[]⟩, .slice none 0 0, .slice none 0 0], .int .i64 ((K : Int) + 1), .int .i64 0]) (by simp [results, Tryd.results32, go_sem, q0, q1, q2, q3, q4, q5]) rfl ?_
    exact HANS.out
  have HR0 := Lib.hid (KeyS.list (HE2.out hc))
  obtain ⟨i0, hi, hz0, hz1, hz2⟩ := info_parts infoVal
  by_cases hK2 : K < s.size
  all_goals
    first
    | (have b1 : (((s[K]'hK2).toNat : Int) == 93) = false := sgn_no s K hK2 93 hc
       have a1 : decide ((K : Int) < (s.size : Int)) = true := decide_eq_true (by omega)
       have a2 : decide (K < s.size) = true := decide_eq_true (by omega)
       have a3 : decide ((s.size : Int) ≤ (K : Int)) = false := decide_eq_false (by omega)
       have a4 : decide (s.size ≤ K) = false := decide_eq_false (by omega)
       clear hc HE1 HE2
       skip)
    | (
       have a1 : decide ((K : Int) < (s.size : Int)) = false := decide_eq_false (by omega)
       have a2 : decide (K < s.size) = false := decide_eq_false (by omega)
       have a3 : decide ((s.size : Int) ≤ (K : Int)) = true := decide_eq_true (by omega)
       have a4 : decide (s.size ≤ K) = true := decide_eq_true (by omega)
       clear hc HE1 HE2
       skip)
    go_wp2_with fail
    go_loopw [10] (fun i wr => ∃ (j : Nat) (vs : List V) (lv : Value) (xs : List Value) (S : Nat → Prop), j ≤ s.size ∧ k < j ∧ i = .int .i64 j ∧ vs.length ≤ j ∧ Hid (LW w 4 vs [] lv (.slice none 0 0) xs S wr) ∧ Hid (RunS s.data.toList d R (.rd j [⟨false, vs, []⟩]))) (fun i _ => s.size - (intOf i).toNat)
    case atStart => exact ⟨K, [], _, [], _, hKs, hkK, rfl, Nat.zero_le _, HS, HR0⟩
    case round =>
      clear a1 a2 a3 a4 HS HR0
      try clear b1
      clear hKs hkK
      obtain ⟨j, vs, lv, xs, S, hj, hkj, rfl, hvl, HL, HR⟩ := hrel
      obtain ⟨r, hr⟩ : ∃ r, valM s.data.toList j (d + 1) = r := ⟨_, rfl⟩
      have hpart := HR.out.part (by rw [toList_length]; exact hj) hr
      have HV := Lib.hid (HI.out j hkj hj wr)
      rw [hr] at HV
      cases r with
      | error q =>
        obtain ⟨a, c⟩ := q
        have hne : c ≠ 0 := valM_err (by rw [toList_length]; exact hj) hr
        have hRe : R = .error (a, c) := hpart
        subst hRe
        have t1 : ((c : Int) == 0) = false := by rw [beq_eq_false_iff_ne]; omega
        have t2 : ((c : Int) != 0) = true := by rw [bne_iff_ne]; omega
        clear hr hpart HR hne
        go_wp2_with fail
        refine HV.out.mono ?_
        rintro e w5 ⟨rfl, hb5⟩
        unfold zeroV
        go_upto_region 6 with fail
        obtain ⟨Y, hY⟩ : ∃ Y, Y = w5.alloc (.cells #[.int .i8 0, .bool false, .int .i64 0, .string ⟨#[]⟩, .slice none 0 0, .slice none 0 0] 28) := ⟨_, rfl⟩
        have hl : LW w 4 vs [] lv (.slice none 0 0) xs S Y := by rw [hY]; exact (HL.out.below hb5).alloc _
        rw [← hY]
        have HF := Lib.hid hl
        clear hY hl hb5 HL HV
        have bxe := HF.out.z6
        unfold zeroC at bxe
        have q0 : Y.cell? ⟨w.heap.size, 0, none⟩ = some (.int .i8 0) := bxe.cell 0
        have qf0 := bxe.frozen 0
        have q1 : Y.cell? ⟨w.heap.size, 1, none⟩ = some (.bool false) := bxe.cell 1
        have qf1 := bxe.frozen 1
        have q2 : Y.cell? ⟨w.heap.size, 2, none⟩ = some (.int .i64 0) := bxe.cell 2
        have qf2 := bxe.frozen 2
        have q3 : Y.cell? ⟨w.heap.size, 3, none⟩ = some (.string ⟨#[]⟩) := bxe.cell 3
        have qf3 := bxe.frozen 3
        have q4 : Y.cell? ⟨w.heap.size, 4, none⟩ = some (.slice none 0 0) := bxe.cell 4
        have qf4 := bxe.frozen 4
        have q5 : Y.cell? ⟨w.heap.size, 5, none⟩ = some (.slice none 0 0) := bxe.cell 5
        have qf5 := bxe.frozen 5
        clear bxe
        go_wp2_with fail
        refine bodyPost_ret (v := .tuple #[zeroV, .int .i64 (a : Nat), .int .i64 (c : Nat)]) (by simp [results, Tryd.results32, go_sem, zeroV, q0, q1, q2, q3, q4, q5]) rfl ?_
        exact HF.out.err _ _
      | ok p =>
        obtain ⟨x, E⟩ := p
        have hrun : RunS s.data.toList d R (.got x E [⟨false, vs, []⟩]) := hpart
        obtain ⟨f1, f2, f3⟩ := hrun.putS
        have hE := valM_place (by rw [toList_length]; exact hj) hr
        rw [toList_length] at hE
        obtain ⟨K2, hK2⟩ : ∃ K2, bl s.data.toList E = K2 := ⟨_, rfl⟩
        have hK2s : K2 ≤ s.size := by
          have := bl_le s.data.toList E (by rw [toList_length]; exact hE.2)
          rwa [hK2, toList_length] at this
        have hEK : E ≤ K2 := hK2 ▸ bl_ge s.data.toList E
        have HB2 : Hid (∀ w, Calls Tryd.prog 17 #[.string s, .int .i64 (E : Nat)] w fun e w' => e = .returned (.int .i64 (K2 : Nat)) ∧ w' = w) := Lib.hid (fun w => by
          have := rBlanks_in s hE.2 (by omega) w
          rwa [hK2] at this)
        rw [hK2] at f1 f2 f3
        have F1 := Lib.hid f1
        have F2 := Lib.hid f2
        have F3 := Lib.hid f3
        have hjK : j ≤ K2 := by omega
        clear hr hpart HR hrun f1 f2 f3 hK2 hEK
        go_wp2_with fail
        refine HV.out.mono ?_
        rintro e w5 ⟨val, Sv, rfl, hva, hSv, hb5⟩
        obtain ⟨kd, bo, nu, te, o1, n1, m1, o2, n2, m2, rfl⟩ := isVa_form hva
        obtain ⟨oL, aL, cL, rfl, hL1, hL2, -, -, -⟩ := Ow.own_form HL.out.lo
        have HVA := Lib.hid (Ow.isVa_lt _ _ hva)
        have HL5 := Lib.hid (HL.out.below hb5)
        have HSv : Hid (∀ q, Sv q → wr.heap.size ≤ q) := Lib.hid hSv
        clear hva hSv HV hE
        go_upto_region 8 with fail
        obtain ⟨X5, hX5⟩ : ∃ X, X = w5.alloc (.cells #[.int .i8 kd, .bool bo, .int .i64 nu, .string te, .slice o1 n1 m1, .slice o2 n2 m2] 28) := ⟨_, rfl⟩
        have k5 : Below w5.heap.size w5 X5 := by rw [hX5]; exact (Below.refl _ _).alloc (Nat.le_refl _) _
        have b11 : Bx X5 w5.heap.size #[.int .i8 kd, .bool bo, .int .i64 nu, .string te, .slice o1 n1 m1, .slice o2 n2 m2] 28 := by rw [hX5]; exact Bx.new _ _ _
        rw [← hX5]
        have hl6 := (HL5.out.below k5).alloc (.cells #[.int .i8 kd, .bool bo, .int .i64 nu, .string te, .slice o1 n1 m1, .slice o2 n2 m2] 28)
        have bx9 := (HL5.out.below k5).z9
        have p4 : X5.cell? ⟨w.heap.size + 1, 4, none⟩ = some (.slice oL vs.length cL) := bx9.cell 4
        have g0 : X5.cell? ⟨w5.heap.size, 0, none⟩ = some (.int .i8 kd) := b11.cell 0
        have g1 : X5.cell? ⟨w5.heap.size, 1, none⟩ = some (.bool bo) := b11.cell 1
        have g2 : X5.cell? ⟨w5.heap.size, 2, none⟩ = some (.int .i64 nu) := b11.cell 2
        have g3 : X5.cell? ⟨w5.heap.size, 3, none⟩ = some (.string te) := b11.cell 3
        have g4 : X5.cell? ⟨w5.heap.size, 4, none⟩ = some (.slice o1 n1 m1) := b11.cell 4
        have g5 : X5.cell? ⟨w5.heap.size, 5, none⟩ = some (.slice o2 n2 m2) := b11.cell 5
        have hv6 := isVa_kp (W' := X5.alloc (.cells #[.int .i8 kd, .bool bo, .int .i64 nu, .string te, .slice o1 n1 m1, .slice o2 n2 m2] 28)) HVA.out fun q e => (Below.heap_alloc _ _ _ (Nat.lt_of_lt_of_le e.2 k5.size)).trans (k5.block q e.2)
        have hs6 : ∀ q, (Sv q ∧ q < w5.heap.size) → w.heap.size + 2 ≤ q ∧ q < (X5.alloc (.cells #[.int .i8 kd, .bool bo, .int .i64 nu, .string te, .slice o1 n1 m1, .slice o2 n2 m2] 28)).heap.size ∧ (Value.slice oL vs.length cL).ownBlock ≠ some q ∧ (Value.slice none 0 0).ownBlock ≠ some q := fun q e => by
          have h1 := HSv.out q e.1
          have h2 := HL.out.z9.lt
          have h3 := k5.size
          refine ⟨by omega, by simp; omega, fun e' => ?_, fun e' => ?_⟩
          · have := (HL.out.lo.lt q e').2; omega
          · have := (HL.out.ko.lt q e').2; omega
        have HL6 := Lib.hid hl6
        have HV6 := Lib.hid hv6
        have HS6 := Lib.hid hs6
        have hsz5 : w.heap.size + 2 ≤ (X5.alloc (.cells #[.int .i8 kd, .bool bo, .int .i64 nu, .string te, .slice o1 n1 m1, .slice o2 n2 m2] 28)).heap.size := by have := hl6.z9.lt; omega
        have HZ5 := Lib.hid hsz5
        obtain ⟨nv, hnv⟩ : ∃ nv, nv = vs.length := ⟨_, rfl⟩
        have HNV := Lib.hid hnv
        rw [← hnv] at p4 hL1
        have hnvl : nv ≤ 20000 := by omega
        have HLO : Hid ((X5.alloc (.cells #[.int .i8 kd, .bool bo, .int .i64 nu, .string te, .slice o1 n1 m1, .slice o2 n2 m2] 28)).ownsRow (w.heap.size + 2) 28 6 (.slice oL nv cL) nv xs) := Lib.hid (by rw [hnv]; exact hl6.lo)
        clear hX5 k5 b11 bx9 hl6 hv6 hs6 hsz5 hb5 HL5 HSv HVA hnv HL
        go_wp2_with (at_builtin; refine Ow.wpList_append_row_at rfl _ _ 25 rfl (w.heap.size + 2) 28 i0 _ 6 80 Tryd.underlying25 hi hz0 hz1 hz2 rfl (by decide) _ _ _ rfl HLO.out _ ⟨X5.heap.size, 0, none⟩ 1 1 [.int .i8 kd, .bool bo, .int .i64 nu, .string te, .slice o1 n1 m1, .slice o2 n2 m2] rfl (fun _ => rfl) rfl ?c1 ?c2 ?c3 ?c4 ?c5 ?_)
        case c1 => exact news_at (Bx.new _ _ _)
        case c2 => exact Ow.isV_one (isV_of_a _ _ HV6.out)
        case c3 => unfold maxLen; omega
        case c4 => omega
        case c5 => exact HZ5.out
        intro o' c' y own' gr at'
        rw [HNV.out] at own' gr at'
        have h9 := HL6.out.z9.kp (gr.block _ HL6.out.z9.lt (fun e => by have := (HL6.out.lo.lt _ e.symm).1; omega))
        have p4' : y.cell? ⟨w.heap.size + 1, 4, none⟩ = some (.slice oL vs.length cL) := h9.cell 4
        have pf4 := h9.frozen 4
        have HN := Lib.hid (LW.put HL6.out HV6.out HS6.out own' gr (by rw [World.size_alloc]; exact at'))
        rw [← HNV.out] at HN p4'
        clear own' gr at' h9 p4 HL6 HV6 HS6 HLO HZ5 g0 g1 g2 g3 g4 g5
        go_upto_region 9 with fail
        obtain ⟨Z, hZ⟩ : ∃ Z, Z = y.setCell ⟨w.heap.size + 1, 4, none⟩ (.slice o' (nv + 1) c') := ⟨_, rfl⟩
        rw [← hZ] at HN ⊢
        clear hZ p4' pf4
        go_wp2_with fail
        refine (HB2.out Z).mono ?_
        rintro e w0 ⟨rfl, h0⟩
        have h0 := h0.symm
        subst h0
        clear HB2
        by_cases hc : s.data.toList[K2]? = some 93
        · have hlt : K2 < s.size := Nat.lt_of_not_le fun h => none_at s K2 (by omega) 93 hc
          have b1 : (((s[K2]'hlt).toNat : Int) == 93) = true := sgn_yes s K2 hlt 93 hc
          obtain rfl := F1.out hc
          have a1 : decide ((K2 : Int) < (s.size : Int)) = true := decide_eq_true (by omega)
          have a2 : decide (K2 < s.size) = true := decide_eq_true (by omega)
          have a3 : decide ((s.size : Int) ≤ (K2 : Int)) = false := decide_eq_false (by omega)
          have a4 : decide (s.size ≤ K2) = false := decide_eq_false (by omega)
          clear hc F1 F2 F3 HI
          have bxe := HN.out.z6
          unfold zeroC at bxe
          have q0 : Z.cell? ⟨w.heap.size, 0, none⟩ = some (.int .i8 0) := bxe.cell 0
          have qf0 := bxe.frozen 0
          have q1 : Z.cell? ⟨w.heap.size, 1, none⟩ = some (.bool false) := bxe.cell 1
          have qf1 := bxe.frozen 1
          have q2 : Z.cell? ⟨w.heap.size, 2, none⟩ = some (.int .i64 0) := bxe.cell 2
          have qf2 := bxe.frozen 2
          have q3 : Z.cell? ⟨w.heap.size, 3, none⟩ = some (.string ⟨#[]⟩) := bxe.cell 3
          have qf3 := bxe.frozen 3
          have q4 : Z.cell? ⟨w.heap.size, 4, none⟩ = some (.slice none 0 0) := bxe.cell 4
          have qf4 := bxe.frozen 4
          have q5 : Z.cell? ⟨w.heap.size, 5, none⟩ = some (.slice none 0 0) := bxe.cell 5
          have qf5 := bxe.frozen 5
          have bx9 := HN.out.z9
          have p0 : Z.cell? ⟨w.heap.size + 1, 0, none⟩ = some (.int .i8 4) := bx9.cell 0
          have p1 : Z.cell? ⟨w.heap.size + 1, 1, none⟩ = some (.bool false) := bx9.cell 1
          have p2 : Z.cell? ⟨w.heap.size + 1, 2, none⟩ = some (.int .i64 0) := bx9.cell 2
          have p3 : Z.cell? ⟨w.heap.size + 1, 3, none⟩ = some (.string ⟨#[]⟩) := bx9.cell 3
          have p4 : Z.cell? ⟨w.heap.size + 1, 4, none⟩ = some (.slice o' (nv + 1) c') := bx9.cell 4
          have p5 : Z.cell? ⟨w.heap.size + 1, 5, none⟩ = some (.slice none 0 0) := bx9.cell 5
          clear bxe bx9
          have hans := HN.out.ans (by decide) (K2 + 1)
          rw [show ((K2 + 1 : Nat) : Int) = (K2 : Int) + 1 from rfl] at hans
          have HANS := Lib.hid hans
          clear hans
          go_wp2_with fail
          refine bodyPost_ret (v := .tuple #[.agg #[.int .i8 4, .bool false, .int .i64 0, .string ⟨#[]⟩, .slice o' (nv + 1) c', .slice none 0 0], .int .i64 ((K2 : Int) + 1), .int .i64 0]) (by simp [results, Tryd.results32, go_sem, q0, q1, q2, q3, q4, q5]) rfl ?_
          exact HANS.out
        by_cases hlt : K2 < s.size
        · have b1 : (((s[K2]'hlt).toNat : Int) == 93) = false := sgn_no s K2 hlt 93 hc
          have a1 : decide ((K2 : Int) < (s.size : Int)) = true := decide_eq_true (by omega)
          have a2 : decide (K2 < s.size) = true := decide_eq_true (by omega)
          have a3 : decide ((s.size : Int) ≤ (K2 : Int)) = false := decide_eq_false (by omega)
          have a4 : decide (s.size ≤ K2) = false := decide_eq_false (by omega)
          by_cases h44 : s.data.toList[K2]? = some 44
          · have b2 : (((s[K2]'hlt).toNat : Int) == 44) = true := sgn_yes s K2 hlt 44 h44
            have b3 : (((s[K2]'hlt).toNat : Int) != 44) = false := sgn_yes' s K2 hlt 44 h44
            have HR3 := Lib.hid (KeyS.list (F3.out hc h44))
            obtain ⟨K3, hK3⟩ : ∃ K3, bl s.data.toList (K2 + 1) = K3 := ⟨_, rfl⟩
            have hK3s : K3 ≤ s.size := by
              have := bl_le s.data.toList (K2 + 1) (by rw [toList_length]; omega)
              rwa [hK3, toList_length] at this
            have hKK : K2 + 1 ≤ K3 := hK3 ▸ bl_ge s.data.toList (K2 + 1)
            have HB3 : Hid (∀ w, Calls Tryd.prog 17 #[.string s, .int .i64 ((K2 : Int) + 1)] w fun e w' => e = .returned (.int .i64 (K3 : Nat)) ∧ w' = w) := Lib.hid (fun w => by
              have := rBlanks_in s (k := K2 + 1) (by omega) (by omega) w
              rw [hK3] at this
              exact this)
            rw [hK3] at HR3
            have hvl3 : (vs ++ [x]).length ≤ K3 := by rw [List.length_append]; simp only [List.length_cons, List.length_nil]; omega
            clear hc h44 F1 F2 F3 hK3
            go_wp2_with fail
            refine (HB3.out Z).mono ?_
            rintro e w0 ⟨rfl, h0⟩
            have h0 := h0.symm
            subst h0
            clear HB3
            go_wp2_with fail
            go_roundw
            case rel => exact ⟨K3, vs ++ [x], _, _, _, hK3s, by omega, by go_num, hvl3, HN, HR3⟩
            case measure => simp [intOf]; omega
          · have b2 : (((s[K2]'hlt).toNat : Int) == 44) = false := sgn_no s K2 hlt 44 h44
            have b3 : (((s[K2]'hlt).toNat : Int) != 44) = true := sgn_no' s K2 hlt 44 h44
            obtain rfl := F2.out hc h44
            clear hc h44 F1 F2 F3 HI
            have bxe := HN.out.z6
            unfold zeroC at bxe
            have q0 : Z.cell? ⟨w.heap.size, 0, none⟩ = some (.int .i8 0) := bxe.cell 0
            have qf0 := bxe.frozen 0
            have q1 : Z.cell? ⟨w.heap.size, 1, none⟩ = some (.bool false) := bxe.cell 1
            have qf1 := bxe.frozen 1
            have q2 : Z.cell? ⟨w.heap.size, 2, none⟩ = some (.int .i64 0) := bxe.cell 2
            have qf2 := bxe.frozen 2
            have q3 : Z.cell? ⟨w.heap.size, 3, none⟩ = some (.string ⟨#[]⟩) := bxe.cell 3
            have qf3 := bxe.frozen 3
            have q4 : Z.cell? ⟨w.heap.size, 4, none⟩ = some (.slice none 0 0) := bxe.cell 4
            have qf4 := bxe.frozen 4
            have q5 : Z.cell? ⟨w.heap.size, 5, none⟩ = some (.slice none 0 0) := bxe.cell 5
            have qf5 := bxe.frozen 5
            clear bxe
            go_wp2_with fail
            refine bodyPost_ret (v := .tuple #[zeroV, .int .i64 (K2 : Nat), .int .i64 (40 : Nat)]) (by simp [results, Tryd.results32, go_sem, zeroV, q0, q1, q2, q3, q4, q5]) rfl ?_
            exact HN.out.err _ _
        · obtain rfl := F2.out hc (none_at s K2 hlt 44)
          have a1 : decide ((K2 : Int) < (s.size : Int)) = false := decide_eq_false (by omega)
          have a2 : decide (K2 < s.size) = false := decide_eq_false (by omega)
          have a3 : decide ((s.size : Int) ≤ (K2 : Int)) = true := decide_eq_true (by omega)
          have a4 : decide (s.size ≤ K2) = true := decide_eq_true (by omega)
          clear hc hlt F1 F2 F3 HI
          have bxe := HN.out.z6
          unfold zeroC at bxe
          have q0 : Z.cell? ⟨w.heap.size, 0, none⟩ = some (.int .i8 0) := bxe.cell 0
          have qf0 := bxe.frozen 0
          have q1 : Z.cell? ⟨w.heap.size, 1, none⟩ = some (.bool false) := bxe.cell 1
          have qf1 := bxe.frozen 1
          have q2 : Z.cell? ⟨w.heap.size, 2, none⟩ = some (.int .i64 0) := bxe.cell 2
          have qf2 := bxe.frozen 2
          have q3 : Z.cell? ⟨w.heap.size, 3, none⟩ = some (.string ⟨#[]⟩) := bxe.cell 3
          have qf3 := bxe.frozen 3
          have q4 : Z.cell? ⟨w.heap.size, 4, none⟩ = some (.slice none 0 0) := bxe.cell 4
          have qf4 := bxe.frozen 4
          have q5 : Z.cell? ⟨w.heap.size, 5, none⟩ = some (.slice none 0 0) := bxe.cell 5
          have qf5 := bxe.frozen 5
          clear bxe
          go_wp2_with fail
          refine bodyPost_ret (v := .tuple #[zeroV, .int .i64 (K2 : Nat), .int .i64 (40 : Nat)]) (by simp [results, Tryd.results32, go_sem, zeroV, q0, q1, q2, q3, q4, q5]) rfl ?_
          exact HN.out.err _ _
end Go.Proofs.YtgbagdfcdljleaaDoor

namespace Go.Proofs.YtgbagdfcdljleaaDoor
open Go.RowKit Go.Maps

theorem beq_toL {S T : ByteArray} (h : S ≠ T) : (S.toList == T.toList) = false := by
  rw [beq_eq_false_iff_ne]
  intro e
  apply h
  rw [Lib.toList_data, Lib.toList_data] at e
  exact ByteArray.ext (Array.toList_inj.1 e)
theorem hasK_yes {ks : List ByteArray} {K : ByteArray} {t : List UInt8} (hK : K = ⟨t.toArray⟩) {m : Nat} (hm : m < ks.length) (h : ks[m] = K) : hasK ks t = true := by
  unfold hasK
  rw [List.any_eq_true]
  exact ⟨ks[m], List.getElem_mem hm, by rw [h, hK]; simp⟩
theorem hasK_no {ks : List ByteArray} {K : ByteArray} {t : List UInt8} (hK : K = ⟨t.toArray⟩) (h : ∀ q (hq : q < ks.length), ks[q] ≠ K) : hasK ks t = false := by
  unfold hasK
  rw [List.any_eq_false]
  intro x hx e
  obtain ⟨q, hq, rfl⟩ := List.getElem_of_mem hx
  refine h q hq ?_
  rw [hK]
  rw [beq_iff_eq] at e
  exact ByteArray.ext (Array.toList_inj.1 (by rw [e]))
theorem ruq_any (s : ByteArray) (hs : s.size ≤ 20000) {j : Nat} (hq : s.data.toList[j]? = some 34) {t : List UInt8} {E X : Nat} (hu : Ru.unqL s.data.toList j = (t, E, X)) (w : World) :
    Calls Tryd.prog 31 #[.string s, .int .i64 (j : Nat)] w fun e w' => e = .returned (.tuple #[.string ⟨t.toArray⟩, .int .i64 E, .int .i64 X]) ∧ Below w.heap.size w w' := by
  have := Ru.runq_any s j hs w
  rw [unqI_L hq, hu] at this
  exact this
set_option maxRecDepth 100000 in
set_option maxHeartbeats 4000000 in
theorem robject_any (s : ByteArray) (k : Nat) (d : Int) (hk : k < s.size) (hs : s.size ≤ 20000) (hd1 : -9223372036854775808 ≤ d) (hd2 : d ≤ 24) (w : World)
    (IH : ∀ k', k < k' → k' ≤ s.size → ∀ w, Calls Tryd.prog 16 #[.string s, .int .i64 (k' : Nat), .int .i64 (d + 1)] w fun e w' => AnsR w (valM s.data.toList k' (d + 1)) e w')
    (R : Except Er (V × Nat)) (hR : GoS s.data.toList d R (enterM s.data.toList k [] ⟨true, [], []⟩)) :
    Calls Tryd.prog 33 #[.string s, .int .i64 k, .int .i64 d] w fun e w' => AnsR w R e w' := by
  obtain ⟨e1, e2⟩ := hR.enter
  obtain ⟨K, hK⟩ : ∃ K, bl s.data.toList (k + 1) = K := ⟨_, rfl⟩
  rw [hK] at e1 e2
  have hKs : K ≤ s.size := by
    have := bl_le s.data.toList (k + 1) (by rw [toList_length]; omega)
    rwa [hK, toList_length] at this
  have hkK : k < K := by
    have := bl_ge s.data.toList (k + 1)
    omega
  have HB : Hid (∀ w, Calls Tryd.prog 17 #[.string s, .int .i64 ((k : Int) + 1)] w fun e w' => e = .returned (.int .i64 (K : Nat)) ∧ w' = w) := Lib.hid (fun w => by
    have := rBlanks_in s (k := k + 1) (by omega) (by omega) w
    rw [hK] at this
    exact this)
  have HE1 := Lib.hid e1
  have HE2 := Lib.hid e2
  have HS := Lib.hid (LW.start w 5)
  unfold zeroC at HS
  have HI := Lib.hid IH
  clear hR hK IH e1 e2
  go_enter Tryd.func33, Tryd.ntmps33
  go_upto_region 2 with fail
  obtain ⟨X, hX⟩ : ∃ X, X = ((w.alloc (.cells #[.int .i8 0, .bool false, .int .i64 0, .string ⟨#[]⟩, .slice none 0 0, .slice none 0 0] 28)).alloc (.cells #[.int .i8 5, .bool false, .int .i64 0, .string ⟨#[]⟩, .slice none 0 0, .slice none 0 0] 28)) := ⟨_, rfl⟩
  rw [← hX] at HS ⊢
  clear hX
  go_wp2_with fail
  refine (HB.out X).mono ?_
  rintro e w0 ⟨rfl, h0⟩
  have h0 := h0.symm
  subst h0
  clear HB
  by_cases hc : s.data.toList[K]? = some 125
  · have hK2 : K < s.size := Nat.lt_of_not_le fun h => none_at s K (by omega) 125 hc
    have b1 : (((s[K]'hK2).toNat : Int) == 125) = true := sgn_yes s K hK2 125 hc
    obtain rfl := HE1.out hc
    have a1 : decide ((K : Int) < (s.size : Int)) = true := decide_eq_true (by omega)
    have a2 : decide (K < s.size) = true := decide_eq_true (by omega)
    have a3 : decide ((s.size : Int) ≤ (K : Int)) = false := decide_eq_false (by omega)
    have a4 : decide (s.size ≤ K) = false := decide_eq_false (by omega)
    clear hc HE1 HE2 HI
    have bxe := HS.out.z6
    unfold zeroC at bxe
    have q0 : X.cell? ⟨w.heap.size, 0, none⟩ = some (.int .i8 0) := bxe.cell 0
    have qf0 := bxe.frozen 0
    have q1 : X.cell? ⟨w.heap.size, 1, none⟩ = some (.bool false) := bxe.cell 1
    have qf1 := bxe.frozen 1
    have q2 : X.cell? ⟨w.heap.size, 2, none⟩ = some (.int .i64 0) := bxe.cell 2
    have qf2 := bxe.frozen 2
    have q3 : X.cell? ⟨w.heap.size, 3, none⟩ = some (.string ⟨#[]⟩) := bxe.cell 3
    have qf3 := bxe.frozen 3
    have q4 : X.cell? ⟨w.heap.size, 4, none⟩ = some (.slice none 0 0) := bxe.cell 4
    have qf4 := bxe.frozen 4
    have q5 : X.cell? ⟨w.heap.size, 5, none⟩ = some (.slice none 0 0) := bxe.cell 5
    have qf5 := bxe.frozen 5
    have bx9 := HS.out.z9
    have p0 : X.cell? ⟨w.heap.size + 1, 0, none⟩ = some (.int .i8 5) := bx9.cell 0
    have p1 : X.cell? ⟨w.heap.size + 1, 1, none⟩ = some (.bool false) := bx9.cell 1
    have p2 : X.cell? ⟨w.heap.size + 1, 2, none⟩ = some (.int .i64 0) := bx9.cell 2
    have p3 : X.cell? ⟨w.heap.size + 1, 3, none⟩ = some (.string ⟨#[]⟩) := bx9.cell 3
    have p4 : X.cell? ⟨w.heap.size + 1, 4, none⟩ = some (.slice none 0 0) := bx9.cell 4
    have p5 : X.cell? ⟨w.heap.size + 1, 5, none⟩ = some (.slice none 0 0) := bx9.cell 5
    clear bxe bx9
    have hans := HS.out.ans (by decide) (K + 1)
    rw [show ((K + 1 : Nat) : Int) = (K : Int) + 1 from rfl] at hans
    have HANS := Lib.hid hans
    clear hans
    go_wp2_with fail
    refine bodyPost_ret (v := .tuple #[.agg #[.int .i8 5, .bool false, .int .i64 0, .string ⟨#[]⟩, .slice none 0 0, .slice none 0 0], .int .i64 ((K : Int) + 1), .int .i64 0]) (by simp [results, Tryd.results33, go_sem, q0, q1, q2, q3, q4, q5]) rfl ?_
    exact HANS.out
  have HR0 := Lib.hid (HE2.out hc)
  obtain ⟨i0, hi, hz0, hz1, hz2⟩ := info_parts infoVal
  obtain ⟨i1, hj1, hy0, hy1, hy2⟩ := info_parts infoS
  by_cases hK2 : ¬ K < s.size
  · obtain rfl := (HE2.out hc).obj.1 (none_at s K hK2 34)
    have a1 : decide ((K : Int) < (s.size : Int)) = false := decide_eq_false (by omega)
    have a2 : decide (K < s.size) = false := decide_eq_false (by omega)
    have a3 : decide ((s.size : Int) ≤ (K : Int)) = true := decide_eq_true (by omega)
    have a4 : decide (s.size ≤ K) = true := decide_eq_true (by omega)
    clear hc HE1 HE2 HI hz0 hz1 hz2 hy0 hy1 hy2 hi hj1 HR0
    go_wp2_with fail
    go_loopw [10] (fun i wr => i = .int .i64 K ∧ wr = X) (fun _ _ => 0)
    case atStart => exact ⟨rfl, rfl⟩
    case round =>
      obtain ⟨rfl, hw⟩ := hrel
      subst hw
      have bxe := HS.out.z6
      unfold zeroC at bxe
      have q0 : wr.cell? ⟨w.heap.size, 0, none⟩ = some (.int .i8 0) := bxe.cell 0
      have qf0 := bxe.frozen 0
      have q1 : wr.cell? ⟨w.heap.size, 1, none⟩ = some (.bool false) := bxe.cell 1
      have qf1 := bxe.frozen 1
      have q2 : wr.cell? ⟨w.heap.size, 2, none⟩ = some (.int .i64 0) := bxe.cell 2
      have qf2 := bxe.frozen 2
      have q3 : wr.cell? ⟨w.heap.size, 3, none⟩ = some (.string ⟨#[]⟩) := bxe.cell 3
      have qf3 := bxe.frozen 3
      have q4 : wr.cell? ⟨w.heap.size, 4, none⟩ = some (.slice none 0 0) := bxe.cell 4
      have qf4 := bxe.frozen 4
      have q5 : wr.cell? ⟨w.heap.size, 5, none⟩ = some (.slice none 0 0) := bxe.cell 5
      have qf5 := bxe.frozen 5
      clear bxe
      go_wp2_with fail
      refine bodyPost_ret (v := .tuple #[zeroV, .int .i64 (K : Nat), .int .i64 (40 : Nat)]) (by simp [results, Tryd.results33, go_sem, zeroV, q0, q1, q2, q3, q4, q5]) rfl ?_
      exact HS.out.err _ _
  have hK2 : K < s.size := Decidable.not_not.1 hK2
  · have b1 : (((s[K]'hK2).toNat : Int) == 125) = false := sgn_no s K hK2 125 hc
    have a1 : decide ((K : Int) < (s.size : Int)) = true := decide_eq_true (by omega)
    have a2 : decide (K < s.size) = true := decide_eq_true (by omega)
    have a3 : decide ((s.size : Int) ≤ (K : Int)) = false := decide_eq_false (by omega)
    have a4 : decide (s.size ≤ K) = false := decide_eq_false (by omega)
    clear hc HE1 HE2
    go_wp2_with fail
    go_loopw [10] (fun i wr => ∃ (j : Nat) (vs : List V) (ks : List ByteArray) (lv kv : Value) (xs : List Value) (S : Nat → Prop), j ≤ s.size ∧ k < j ∧ i = .int .i64 j ∧ vs.length ≤ j ∧ ks.length ≤ j ∧ Hid (LW w 5 vs ks lv kv xs S wr) ∧ Hid (KeyS s.data.toList d R j ⟨true, vs, ks⟩)) (fun i _ => s.size - (intOf i).toNat)
    case atStart => exact ⟨K, [], [], _, _, [], _, hKs, hkK, rfl, Nat.zero_le _, Nat.zero_le _, HS, HR0⟩
    case round =>
      clear a1 a2 a3 a4 HS HR0 b1
      clear hKs hkK
      obtain ⟨j, vs, ks, lv, kv, xs, S, hj, hkj, rfl, hvl, hkl, HL, HR⟩ := hrel
      obtain ⟨t, E, X0, hu⟩ : ∃ t E X, Ru.unqL s.data.toList j = (t, E, X) := ⟨_, _, _, rfl⟩
      obtain ⟨r1, r2, r3, r4, r5⟩ := HR.out.obj
      rw [hu] at r2 r3 r4 r5
      simp only at r2 r3 r4 r5
      have R1 := Lib.hid r1
      have R2 := Lib.hid r2
      have R3 := Lib.hid r3
      have R4 := Lib.hid r4
      have R5 := Lib.hid r5
      clear r1 r2 r3 r4 r5 HR
      by_cases hq : s.data.toList[j]? ≠ some 34
      · obtain rfl := R1.out hq
        by_cases hlt : j < s.size
        · have b1 : (((s[j]'hlt).toNat : Int) == 34) = false := sgn_no s j hlt 34 hq
          have b3 : (((s[j]'hlt).toNat : Int) != 34) = true := sgn_no' s j hlt 34 hq
          have a1 : decide ((j : Int) < (s.size : Int)) = true := decide_eq_true (by omega)
          have a2 : decide (j < s.size) = true := decide_eq_true (by omega)
          have a3 : decide ((s.size : Int) ≤ (j : Int)) = false := decide_eq_false (by omega)
          have a4 : decide (s.size ≤ j) = false := decide_eq_false (by omega)
          clear hq R1 R2 R3 R4 R5 HI hu
          have bxe := HL.out.z6
          unfold zeroC at bxe
          have q0 : wr.cell? ⟨w.heap.size, 0, none⟩ = some (.int .i8 0) := bxe.cell 0
          have qf0 := bxe.frozen 0
          have q1 : wr.cell? ⟨w.heap.size, 1, none⟩ = some (.bool false) := bxe.cell 1
          have qf1 := bxe.frozen 1
          have q2 : wr.cell? ⟨w.heap.size, 2, none⟩ = some (.int .i64 0) := bxe.cell 2
          have qf2 := bxe.frozen 2
          have q3 : wr.cell? ⟨w.heap.size, 3, none⟩ = some (.string ⟨#[]⟩) := bxe.cell 3
          have qf3 := bxe.frozen 3
          have q4 : wr.cell? ⟨w.heap.size, 4, none⟩ = some (.slice none 0 0) := bxe.cell 4
          have qf4 := bxe.frozen 4
          have q5 : wr.cell? ⟨w.heap.size, 5, none⟩ = some (.slice none 0 0) := bxe.cell 5
          have qf5 := bxe.frozen 5
          clear bxe
          go_wp2_with fail
          refine bodyPost_ret (v := .tuple #[zeroV, .int .i64 (j : Nat), .int .i64 (40 : Nat)]) (by simp [results, Tryd.results33, go_sem, zeroV, q0, q1, q2, q3, q4, q5]) rfl ?_
          exact HL.out.err _ _
        · clear hq R1 R2 R3 R4 R5 HI hu
          have a1 : decide ((j : Int) < (s.size : Int)) = false := decide_eq_false (by omega)
          have a2 : decide (j < s.size) = false := decide_eq_false (by omega)
          have a3 : decide ((s.size : Int) ≤ (j : Int)) = true := decide_eq_true (by omega)
          have a4 : decide (s.size ≤ j) = true := decide_eq_true (by omega)
          have bxe := HL.out.z6
          unfold zeroC at bxe
          have q0 : wr.cell? ⟨w.heap.size, 0, none⟩ = some (.int .i8 0) := bxe.cell 0
          have qf0 := bxe.frozen 0
          have q1 : wr.cell? ⟨w.heap.size, 1, none⟩ = some (.bool false) := bxe.cell 1
          have qf1 := bxe.frozen 1
          have q2 : wr.cell? ⟨w.heap.size, 2, none⟩ = some (.int .i64 0) := bxe.cell 2
          have qf2 := bxe.frozen 2
          have q3 : wr.cell? ⟨w.heap.size, 3, none⟩ = some (.string ⟨#[]⟩) := bxe.cell 3
          have qf3 := bxe.frozen 3
          have q4 : wr.cell? ⟨w.heap.size, 4, none⟩ = some (.slice none 0 0) := bxe.cell 4
          have qf4 := bxe.frozen 4
          have q5 : wr.cell? ⟨w.heap.size, 5, none⟩ = some (.slice none 0 0) := bxe.cell 5
          have qf5 := bxe.frozen 5
          clear bxe
          go_wp2_with fail
          refine bodyPost_ret (v := .tuple #[zeroV, .int .i64 (j : Nat), .int .i64 (40 : Nat)]) (by simp [results, Tryd.results33, go_sem, zeroV, q0, q1, q2, q3, q4, q5]) rfl ?_
          exact HL.out.err _ _
      have hq : s.data.toList[j]? = some 34 := Decidable.not_not.1 hq
      have hlt : j < s.size := Nat.lt_of_not_le fun h => none_at s j (by omega) 34 hq
      have b1 : (((s[j]'hlt).toNat : Int) == 34) = true := sgn_yes s j hlt 34 hq
      have b3 : (((s[j]'hlt).toNat : Int) != 34) = false := sgn_yes' s j hlt 34 hq
      have a1 : decide ((j : Int) < (s.size : Int)) = true := decide_eq_true (by omega)
      have a2 : decide (j < s.size) = true := decide_eq_true (by omega)
      have a3 : decide ((s.size : Int) ≤ (j : Int)) = false := decide_eq_false (by omega)
      have a4 : decide (s.size ≤ j) = false := decide_eq_false (by omega)
      have HU := Lib.hid (fun w => ruq_any s hs hq hu w)
      by_cases hX : X0 ≠ 0
      · obtain rfl := R2.out hq hX
        have t1 : ((X0 : Int) == 0) = false := by rw [beq_eq_false_iff_ne]; omega
        have t2 : ((X0 : Int) != 0) = true := by rw [bne_iff_ne]; omega
        clear hq R1 R2 R3 R4 R5 HI hX hu
        go_wp2_with fail
        refine (HU.out wr).mono ?_
        rintro e w5 ⟨rfl, hb5⟩
        have HL5 := Lib.hid (HL.out.below hb5)
        clear hb5 HL HU
        have bxe := HL5.out.z6
        unfold zeroC at bxe
        have q0 : w5.cell? ⟨w.heap.size, 0, none⟩ = some (.int .i8 0) := bxe.cell 0
        have qf0 := bxe.frozen 0
        have q1 : w5.cell? ⟨w.heap.size, 1, none⟩ = some (.bool false) := bxe.cell 1
        have qf1 := bxe.frozen 1
        have q2 : w5.cell? ⟨w.heap.size, 2, none⟩ = some (.int .i64 0) := bxe.cell 2
        have qf2 := bxe.frozen 2
        have q3 : w5.cell? ⟨w.heap.size, 3, none⟩ = some (.string ⟨#[]⟩) := bxe.cell 3
        have qf3 := bxe.frozen 3
        have q4 : w5.cell? ⟨w.heap.size, 4, none⟩ = some (.slice none 0 0) := bxe.cell 4
        have qf4 := bxe.frozen 4
        have q5 : w5.cell? ⟨w.heap.size, 5, none⟩ = some (.slice none 0 0) := bxe.cell 5
        have qf5 := bxe.frozen 5
        clear bxe
        go_wp2_with fail
        refine bodyPost_ret (v := .tuple #[zeroV, .int .i64 (E : Nat), .int .i64 (X0 : Nat)]) (by simp [results, Tryd.results33, go_sem, zeroV, q0, q1, q2, q3, q4, q5]) rfl ?_
        exact HL5.out.err _ _
      obtain rfl : X0 = 0 := Decidable.not_not.1 hX
      have hE := unqL_end (by rw [toList_length]; exact hlt) hu
      rw [toList_length] at hE
      obtain ⟨Kk, hKk⟩ : ∃ K : ByteArray, K = ⟨t.toArray⟩ := ⟨_, rfl⟩
      have hKsz : Kk.size ≤ 100000 := by
        have h1 := unqL_len s.data.toList j
        rw [hu, toList_length] at h1
        rw [hKk, show (⟨t.toArray⟩ : ByteArray).size = t.length from by simp [ByteArray.size]]
        simp only at h1
        omega
      rw [← hKk] at HU R5
      have R3' : Hid (∀ m (hm : m < ks.length), ks[m] = Kk → R = .error (j, 41)) := Lib.hid (fun m hm he => R3.out hq rfl (hasK_yes hKk hm he))
      have R4' : Hid ((∀ q (h : q < ks.length), ks[q] ≠ Kk) → s.data.toList[bl s.data.toList E]? ≠ some 58 → R = .error (bl s.data.toList E, 40)) := Lib.hid (fun h h' => R4.out hq rfl (hasK_no hKk h) h')
      have R5' : Hid ((∀ q (h : q < ks.length), ks[q] ≠ Kk) → s.data.toList[bl s.data.toList E]? = some 58 → RunS s.data.toList d R (.rd (bl s.data.toList (bl s.data.toList E + 1)) [⟨true, vs, ks ++ [Kk]⟩])) := Lib.hid (fun h h' => R5.out hq rfl (hasK_no hKk h) h')
      have HKsz := Lib.hid hKsz
      clear R1 R2 R3 R4 R5 hX hu hKk hq hKsz
      go_wp2_with fail
      refine (HU.out wr).mono ?_
      rintro e w5 ⟨rfl, hb5⟩
      have HL5 := Lib.hid (HL.out.below hb5)
      clear hb5 HL HU a1 a2 a3 a4 b1 b3
      obtain ⟨oK, aK, cK, rfl, hK1, hKc, hK3, -, hK5⟩ := Ow.own_form HL5.out.ko
      obtain ⟨nk, hnk⟩ : ∃ nk, nk = ks.length := ⟨_, rfl⟩
      have HNK := Lib.hid hnk
      have HK5 := Lib.hid hK5
      have HK3 := Lib.hid hK3
      rw [← hnk] at hK1 HL5
      have p5 : w5.cell? ⟨w.heap.size + 1, 5, none⟩ = some (.slice oK nk cK) := HL5.out.z9.cell 5
      clear hnk hK5 hK3
      have hKc' : cK ≤ 9223372036854775807 := hKc
      clear hKc
      go_wp2_with fail
      go_loop [14] (fun i => ∃ m : Nat, m ≤ nk ∧ i = .int .i64 m ∧ Hid (∀ q (h : q < ks.length), q < m → ks[q] ≠ Kk)) (fun i => nk - (intOf i).toNat)
      case atStart => exact ⟨0, Nat.zero_le _, rfl, Lib.hid (fun q h h' => absurd h' (Nat.not_lt_zero _))⟩
      case round =>
        obtain ⟨m, hm, rfl, HM⟩ := hrel
        by_cases hmn : m < nk
        · have hmk : m < ks.length := by have := HNK.out; omega
          obtain rfl := HK3.out (by omega)
          have gm : w5.cell? (aK.add m) = some (.string ks[m]) := HK5.out m _ (by rw [List.getElem?_map, List.getElem?_eq_getElem hmk]; rfl)
          by_cases he : ks[m] = Kk
          · have f1 : (ks[m].toList == Kk.toList) = true := by rw [he]; exact beq_self_eq_true _
            obtain rfl := R3'.out m hmk he
            obtain ⟨km, hkm⟩ : ∃ x, x = ks[m] := ⟨_, rfl⟩
            rw [← hkm] at f1 gm
            clear hkm he R3' R4' R5' HI HM HK5 HK3
            have bxe := HL5.out.z6
            unfold zeroC at bxe
            have q0 : w5.cell? ⟨w.heap.size, 0, none⟩ = some (.int .i8 0) := bxe.cell 0
            have qf0 := bxe.frozen 0
            have q1 : w5.cell? ⟨w.heap.size, 1, none⟩ = some (.bool false) := bxe.cell 1
            have qf1 := bxe.frozen 1
            have q2 : w5.cell? ⟨w.heap.size, 2, none⟩ = some (.int .i64 0) := bxe.cell 2
            have qf2 := bxe.frozen 2
            have q3 : w5.cell? ⟨w.heap.size, 3, none⟩ = some (.string ⟨#[]⟩) := bxe.cell 3
            have qf3 := bxe.frozen 3
            have q4 : w5.cell? ⟨w.heap.size, 4, none⟩ = some (.slice none 0 0) := bxe.cell 4
            have qf4 := bxe.frozen 4
            have q5 : w5.cell? ⟨w.heap.size, 5, none⟩ = some (.slice none 0 0) := bxe.cell 5
            have qf5 := bxe.frozen 5
            clear bxe
            go_wp2_with fail
            refine bodyPost_ret (v := .tuple #[zeroV, .int .i64 (j : Nat), .int .i64 (41 : Nat)]) (by simp [results, Tryd.results33, go_sem, zeroV, q0, q1, q2, q3, q4, q5]) rfl ?_
            exact HL5.out.err _ _
          · have f1 : (ks[m].toList == Kk.toList) = false := beq_toL he
            have HE := Lib.hid he
            obtain ⟨km, hkm⟩ : ∃ x, x = ks[m] := ⟨_, rfl⟩
            rw [← hkm] at f1 gm
            clear hkm he
            go_wp2_with fail
            go_round
            case rel => exact ⟨m + 1, by omega, by go_num, Lib.hid (fun q h h' => by
              by_cases e : q = m
              · subst e; exact HE.out
              · exact HM.out q h (by omega))⟩
            case measure => simp [intOf]; omega
        have hno : ∀ q (h : q < ks.length), ks[q] ≠ Kk := fun q h => HM.out q h (by have := HNK.out; omega)
        have HNO := Lib.hid hno
        clear hno HM HK5 HK3 R3'
        obtain ⟨K2, hK2⟩ : ∃ K2, bl s.data.toList E = K2 := ⟨_, rfl⟩
        have hK2s : K2 ≤ s.size := by
          have := bl_le s.data.toList E (by rw [toList_length]; exact hE.2)
          rwa [hK2, toList_length] at this
        have hEK : E ≤ K2 := hK2 ▸ bl_ge s.data.toList E
        have HB2 : Hid (∀ w, Calls Tryd.prog 17 #[.string s, .int .i64 ((E : Nat))] w fun e w' => e = .returned (.int .i64 (K2 : Nat)) ∧ w' = w) := Lib.hid (fun w => by
          have := rBlanks_in s (k := E) (by omega) (by omega) w
          rw [hK2] at this
          exact this)
        rw [hK2] at R4' R5'
        have R4 := Lib.hid (R4'.out HNO.out)
        have R5 := Lib.hid (R5'.out HNO.out)
        have hjK : j < K2 := by omega
        clear R4' R5' HNO hK2 hE hEK
        go_wp2_with fail
        refine (HB2.out w5).mono ?_
        rintro e w0 ⟨rfl, h0⟩
        have h0 := h0.symm
        subst h0
        clear HB2
        by_cases h58 : s.data.toList[K2]? ≠ some 58
        · obtain rfl := R4.out h58
          by_cases hl2 : K2 < s.size
          · have b1 : (((s[K2]'hl2).toNat : Int) == 58) = false := sgn_no s K2 hl2 58 h58
            have b3 : (((s[K2]'hl2).toNat : Int) != 58) = true := sgn_no' s K2 hl2 58 h58
            have a1 : decide ((K2 : Int) < (s.size : Int)) = true := decide_eq_true (by omega)
            have a2 : decide (K2 < s.size) = true := decide_eq_true (by omega)
            have a3 : decide ((s.size : Int) ≤ (K2 : Int)) = false := decide_eq_false (by omega)
            have a4 : decide (s.size ≤ K2) = false := decide_eq_false (by omega)
            clear h58 R4 R5 HI
            have bxe := HL5.out.z6
            unfold zeroC at bxe
            have q0 : w5.cell? ⟨w.heap.size, 0, none⟩ = some (.int .i8 0) := bxe.cell 0
            have qf0 := bxe.frozen 0
            have q1 : w5.cell? ⟨w.heap.size, 1, none⟩ = some (.bool false) := bxe.cell 1
            have qf1 := bxe.frozen 1
            have q2 : w5.cell? ⟨w.heap.size, 2, none⟩ = some (.int .i64 0) := bxe.cell 2
            have qf2 := bxe.frozen 2
            have q3 : w5.cell? ⟨w.heap.size, 3, none⟩ = some (.string ⟨#[]⟩) := bxe.cell 3
            have qf3 := bxe.frozen 3
            have q4 : w5.cell? ⟨w.heap.size, 4, none⟩ = some (.slice none 0 0) := bxe.cell 4
            have qf4 := bxe.frozen 4
            have q5 : w5.cell? ⟨w.heap.size, 5, none⟩ = some (.slice none 0 0) := bxe.cell 5
            have qf5 := bxe.frozen 5
            clear bxe
            go_wp2_with fail
            refine bodyPost_ret (v := .tuple #[zeroV, .int .i64 (K2 : Nat), .int .i64 (40 : Nat)]) (by simp [results, Tryd.results33, go_sem, zeroV, q0, q1, q2, q3, q4, q5]) rfl ?_
            exact HL5.out.err _ _
          · clear h58 R4 R5 HI
            have a1 : decide ((K2 : Int) < (s.size : Int)) = false := decide_eq_false (by omega)
            have a2 : decide (K2 < s.size) = false := decide_eq_false (by omega)
            have a3 : decide ((s.size : Int) ≤ (K2 : Int)) = true := decide_eq_true (by omega)
            have a4 : decide (s.size ≤ K2) = true := decide_eq_true (by omega)
            have bxe := HL5.out.z6
            unfold zeroC at bxe
            have q0 : w5.cell? ⟨w.heap.size, 0, none⟩ = some (.int .i8 0) := bxe.cell 0
            have qf0 := bxe.frozen 0
            have q1 : w5.cell? ⟨w.heap.size, 1, none⟩ = some (.bool false) := bxe.cell 1
            have qf1 := bxe.frozen 1
            have q2 : w5.cell? ⟨w.heap.size, 2, none⟩ = some (.int .i64 0) := bxe.cell 2
            have qf2 := bxe.frozen 2
            have q3 : w5.cell? ⟨w.heap.size, 3, none⟩ = some (.string ⟨#[]⟩) := bxe.cell 3
            have qf3 := bxe.frozen 3
            have q4 : w5.cell? ⟨w.heap.size, 4, none⟩ = some (.slice none 0 0) := bxe.cell 4
            have qf4 := bxe.frozen 4
            have q5 : w5.cell? ⟨w.heap.size, 5, none⟩ = some (.slice none 0 0) := bxe.cell 5
            have qf5 := bxe.frozen 5
            clear bxe
            go_wp2_with fail
            refine bodyPost_ret (v := .tuple #[zeroV, .int .i64 (K2 : Nat), .int .i64 (40 : Nat)]) (by simp [results, Tryd.results33, go_sem, zeroV, q0, q1, q2, q3, q4, q5]) rfl ?_
            exact HL5.out.err _ _
        have h58 : s.data.toList[K2]? = some 58 := Decidable.not_not.1 h58
        have hl2 : K2 < s.size := Nat.lt_of_not_le fun h => none_at s K2 (by omega) 58 h58
        have b1 : (((s[K2]'hl2).toNat : Int) == 58) = true := sgn_yes s K2 hl2 58 h58
        have b3 : (((s[K2]'hl2).toNat : Int) != 58) = false := sgn_yes' s K2 hl2 58 h58
        have a1 : decide ((K2 : Int) < (s.size : Int)) = true := decide_eq_true (by omega)
        have a2 : decide (K2 < s.size) = true := decide_eq_true (by omega)
        have a3 : decide ((s.size : Int) ≤ (K2 : Int)) = false := decide_eq_false (by omega)
        have a4 : decide (s.size ≤ K2) = false := decide_eq_false (by omega)
        have hrun0 := R5.out h58
        obtain ⟨K3, hK3⟩ : ∃ K3, bl s.data.toList (K2 + 1) = K3 := ⟨_, rfl⟩
        have hK3s : K3 ≤ s.size := by
          have := bl_le s.data.toList (K2 + 1) (by rw [toList_length]; omega)
          rwa [hK3, toList_length] at this
        have hKK : K2 + 1 ≤ K3 := hK3 ▸ bl_ge s.data.toList (K2 + 1)
        have HB3 : Hid (∀ w, Calls Tryd.prog 17 #[.string s, .int .i64 (((K2 : Int) + 1))] w fun e w' => e = .returned (.int .i64 (K3 : Nat)) ∧ w' = w) := Lib.hid (fun w => by
          have := rBlanks_in s (k := K2 + 1) (by omega) (by omega) w
          rw [hK3] at this
          exact this)
        rw [hK3] at hrun0
        obtain ⟨r, hr⟩ : ∃ r, valM s.data.toList K3 (d + 1) = r := ⟨_, rfl⟩
        have hpart := hrun0.part (by rw [toList_length]; exact hK3s) hr
        have HV := Lib.hid (HI.out K3 (by omega) hK3s w5)
        rw [hr] at HV
        clear R4 R5 h58 hK3 hrun0
        cases r with
        | error q =>
          obtain ⟨a, c⟩ := q
          have hne : c ≠ 0 := valM_err (by rw [toList_length]; exact hK3s) hr
          have hRe : R = .error (a, c) := hpart
          subst hRe
          have t1 : ((c : Int) == 0) = false := by rw [beq_eq_false_iff_ne]; omega
          have t2 : ((c : Int) != 0) = true := by rw [bne_iff_ne]; omega
          clear hr hpart hne HI
          go_wp2_with fail
          refine (HB3.out w5).mono ?_
          rintro e w0 ⟨rfl, h0⟩
          have h0 := h0.symm
          subst h0
          clear HB3
          go_wp2_with fail
          refine HV.out.mono ?_
          rintro e w6 ⟨rfl, hb6⟩
          unfold zeroV
          go_upto_region 19 with fail
          obtain ⟨Y, hY⟩ : ∃ Y, Y = w6.alloc (.cells #[.int .i8 0, .bool false, .int .i64 0, .string ⟨#[]⟩, .slice none 0 0, .slice none 0 0] 28) := ⟨_, rfl⟩
          have hl : LW w 5 vs ks lv (.slice oK nk cK) xs S Y := by rw [hY]; exact (HL5.out.below hb6).alloc _
          rw [← hY]
          have HF := Lib.hid hl
          clear hY hl hb6 HL5 HV
          have bxe := HF.out.z6
          unfold zeroC at bxe
          have q0 : Y.cell? ⟨w.heap.size, 0, none⟩ = some (.int .i8 0) := bxe.cell 0
          have qf0 := bxe.frozen 0
          have q1 : Y.cell? ⟨w.heap.size, 1, none⟩ = some (.bool false) := bxe.cell 1
          have qf1 := bxe.frozen 1
          have q2 : Y.cell? ⟨w.heap.size, 2, none⟩ = some (.int .i64 0) := bxe.cell 2
          have qf2 := bxe.frozen 2
          have q3 : Y.cell? ⟨w.heap.size, 3, none⟩ = some (.string ⟨#[]⟩) := bxe.cell 3
          have qf3 := bxe.frozen 3
          have q4 : Y.cell? ⟨w.heap.size, 4, none⟩ = some (.slice none 0 0) := bxe.cell 4
          have qf4 := bxe.frozen 4
          have q5 : Y.cell? ⟨w.heap.size, 5, none⟩ = some (.slice none 0 0) := bxe.cell 5
          have qf5 := bxe.frozen 5
          clear bxe
          go_wp2_with fail
          refine bodyPost_ret (v := .tuple #[zeroV, .int .i64 (a : Nat), .int .i64 (c : Nat)]) (by simp [results, Tryd.results33, go_sem, zeroV, q0, q1, q2, q3, q4, q5]) rfl ?_
          exact HF.out.err _ _
        | ok p =>
          obtain ⟨x, E2⟩ := p
          have hrun : RunS s.data.toList d R (.got x E2 [⟨true, vs, ks ++ [Kk]⟩]) := hpart
          obtain ⟨f1, f2, f3⟩ := hrun.putS
          have hE2 := valM_place (by rw [toList_length]; exact hK3s) hr
          rw [toList_length] at hE2
          obtain ⟨K4, hK4⟩ : ∃ K4, bl s.data.toList E2 = K4 := ⟨_, rfl⟩
          have hK4s : K4 ≤ s.size := by
            have := bl_le s.data.toList E2 (by rw [toList_length]; exact hE2.2)
            rwa [hK4, toList_length] at this
          have hEK : E2 ≤ K4 := hK4 ▸ bl_ge s.data.toList E2
          have HB4 : Hid (∀ w, Calls Tryd.prog 17 #[.string s, .int .i64 ((E2 : Nat))] w fun e w' => e = .returned (.int .i64 (K4 : Nat)) ∧ w' = w) := Lib.hid (fun w => by
            have := rBlanks_in s (k := E2) (by omega) (by omega) w
            rw [hK4] at this
            exact this)
          rw [hK4] at f1 f2 f3
          have F1 := Lib.hid f1
          have F2 := Lib.hid f2
          have F3 := Lib.hid f3
          have hjK4 : j < K4 := by omega
          clear hr hpart hrun f1 f2 f3 hK4 hEK
          go_wp2_with fail
          refine (HB3.out w5).mono ?_
          rintro e w0 ⟨rfl, h0⟩
          have h0 := h0.symm
          subst h0
          clear HB3
          go_wp2_with fail
          refine HV.out.mono ?_
          rintro e w6 ⟨val, Sv, rfl, hva, hSv, hb6⟩
          obtain ⟨kd, bo, nu, te, o1, n1, m1, o2, n2, m2, rfl⟩ := isVa_form hva
          obtain ⟨oL, aL, cL, rfl, hL1, hL2, -, -, -⟩ := Ow.own_form HL5.out.lo
          obtain ⟨nv, hnv⟩ : ∃ nv, nv = vs.length := ⟨_, rfl⟩
          have HNV := Lib.hid hnv
          rw [← hnv] at hL1 HL5
          clear hnv
          have HVA := Lib.hid (Ow.isVa_lt _ _ hva)
          have HSv : Hid (∀ q, Sv q → w5.heap.size ≤ q) := Lib.hid hSv
          have HB6 := Lib.hid hb6
          clear hva hSv HV hE2 hb6 p5 a1 a2 a3 a4 b1 b3
          go_upto_region 21 with fail
          obtain ⟨X5, hX5⟩ : ∃ X, X = (w6.alloc (.cells #[.int .i8 kd, .bool bo, .int .i64 nu, .string te, .slice o1 n1 m1, .slice o2 n2 m2] 28)) := ⟨_, rfl⟩
          have k5 : Below w6.heap.size w6 X5 := by rw [hX5]; exact (Below.refl _ _).alloc (Nat.le_refl _) _
          have b11 : Bx X5 w6.heap.size #[.int .i8 kd, .bool bo, .int .i64 nu, .string te, .slice o1 n1 m1, .slice o2 n2 m2] 28 := by rw [hX5]; exact Bx.new _ _ _
          rw [← hX5]
          have hl5 := (HL5.out.below HB6.out).below k5
          have hv5 := isVa_kp (W' := X5) HVA.out fun q e => k5.block q e.2
          have hs5 : ∀ q, (Sv q ∧ q < w6.heap.size) → w.heap.size + 2 ≤ q ∧ q < X5.heap.size ∧ (Value.slice oL nv cL).ownBlock ≠ some q ∧ (Value.slice oK nk cK).ownBlock ≠ some q := fun q e => by
            have h1 := HSv.out q e.1
            have h2 := HL5.out.z9.lt
            have h3 := k5.size
            refine ⟨by omega, by omega, fun e' => ?_, fun e' => ?_⟩
            · have := (HL5.out.lo.lt q e').2; omega
            · have := (HL5.out.ko.lt q e').2; omega
          have hkb : (Value.slice oK nk cK).ownBlock ≠ some w6.heap.size := fun e' => by
            have := (HL5.out.ko.lt _ e').2
            have := HB6.out.size
            omega
          have hlb : (Value.slice oL nv cL).ownBlock ≠ some w6.heap.size := fun e' => by
            have := (HL5.out.lo.lt _ e').2
            have := HB6.out.size
            omega
          have hb6s : w.heap.size + 2 ≤ w6.heap.size := by
            have := HL5.out.z9.lt
            have := HB6.out.size
            omega
          have HL7 := Lib.hid (hl5.alloc (.cells #[.string Kk] 9))
          have HB11 := Lib.hid b11
          have HX5 := Lib.hid (And.intro hv5 (And.intro hs5 (And.intro hkb (And.intro hlb hb6s))))
          have p5 : X5.cell? ⟨w.heap.size + 1, 5, none⟩ = some (.slice oK nk cK) := hl5.z9.cell 5
          have HKO : Hid ((X5.alloc (.cells #[.string Kk] 9)).ownsRow (w.heap.size + 2) 9 1 (.slice oK nk cK) nk (ks.map .string)) := Lib.hid (by have := HL7.out.ko; rw [← HNK.out] at this; exact this)
          have HZ7 : Hid (w.heap.size + 2 ≤ (X5.alloc (.cells #[.string Kk] 9)).heap.size) := Lib.hid (by have := HL7.out.z9.lt; omega)
          have hnkl : nk ≤ 20000 := by have := HNK.out; omega
          clear hX5 k5 b11 hl5 hv5 hs5 hkb hlb hb6s HB6 HSv HVA HL5
          go_wp2_with (at_builtin; refine Ow.wpList_append_row_at rfl _ _ 26 rfl (w.heap.size + 2) 9 i1 _ 1 16 Tryd.underlying26 hj1 hy0 hy1 hy2 rfl (by decide) _ _ _ rfl HKO.out _ ⟨X5.heap.size, 0, none⟩ 1 1 [.string Kk] rfl (fun _ => rfl) rfl ?c1 ?c2 ?c3 ?c4 ?c5 ?_)
          case c1 => exact news_at (Bx.new _ _ _)
          case c2 => intro u hu; simp only [List.mem_cons, List.not_mem_nil, or_false] at hu; subst hu; rfl
          case c3 => unfold maxLen; omega
          case c4 => omega
          case c5 => exact HZ7.out
          intro ok' ck' y1 own1 gr1 at1
          have h9 := HL7.out.z9.kp (gr1.block _ HL7.out.z9.lt (fun e => by have := (HL7.out.ko.lt _ e.symm).1; omega))
          have p5' : y1.cell? ⟨w.heap.size + 1, 5, none⟩ = some (.slice oK nk cK) := h9.cell 5
          have pf5 := h9.frozen 5
          have hn1 := LW.key (K := Kk) (kv' := .slice ok' (nk + 1) ck') HL7.out (by have := HKsz.out; omega) (by rw [← HNK.out]; exact own1) gr1 (by rw [World.size_alloc]; exact at1)
          obtain ⟨Z1, hZ1⟩ : ∃ Z, Z = y1.setCell ⟨w.heap.size + 1, 5, none⟩ (.slice ok' (nk + 1) ck') := ⟨_, rfl⟩
          rw [← hZ1] at hn1
          have hs1 : X5.heap.size + 1 ≤ Z1.heap.size := by
            have := gr1.size
            rw [hZ1]
            simp at this ⊢
            exact this
          have hk1 : ∀ q, q < X5.heap.size → (Value.slice oK nk cK).ownBlock ≠ some q → q ≠ w.heap.size + 1 → Z1.heap[q]? = X5.heap[q]? := fun q h1 h2 h3 => by
            rw [hZ1]
            exact (Below.heap_setCell _ _ _ _ h3).trans ((gr1.block q (by simp; omega) (fun e => h2 e.symm)).trans (Below.heap_alloc _ _ _ h1))
          have hv1 : isVa Z1 (fun q => Sv q ∧ q < w6.heap.size) x (.agg #[.int .i8 kd, .bool bo, .int .i64 nu, .string te, .slice o1 n1 m1, .slice o2 n2 m2]) := isVa_kp HX5.out.1 fun q e => hk1 q (HX5.out.2.1 q e).2.1 (HX5.out.2.1 q e).2.2.2 (by have := (HX5.out.2.1 q e).1; omega)
          have hb1 : Bx Z1 w6.heap.size #[.int .i8 kd, .bool bo, .int .i64 nu, .string te, .slice o1 n1 m1, .slice o2 n2 m2] 28 := HB11.out.kp (hk1 _ HB11.out.lt HX5.out.2.2.1 (by have := HX5.out.2.2.2.2; omega))
          have hko1 : ∀ q, (Value.slice ok' (nk + 1) ck').ownBlock = some q → (Value.slice oK nk cK).ownBlock = some q ∨ X5.heap.size ≤ q := fun q e => by
            rcases at1 with a | a
            · exact .inl (a ▸ e)
            · rw [a] at e
              have := Option.some.inj e
              exact .inr (by omega)
          have hs2 : ∀ q, (Sv q ∧ q < w6.heap.size) → w.heap.size + 2 ≤ q ∧ q < (Z1.alloc (.cells #[.int .i8 kd, .bool bo, .int .i64 nu, .string te, .slice o1 n1 m1, .slice o2 n2 m2] 28)).heap.size ∧ (Value.slice oL nv cL).ownBlock ≠ some q ∧ (Value.slice ok' (nk + 1) ck').ownBlock ≠ some q := fun q e => by
            have h1 := HX5.out.2.1 q e
            refine ⟨h1.1, by simp; omega, h1.2.2.1, fun e' => ?_⟩
            rcases hko1 q e' with a | a
            · exact h1.2.2.2 a
            · omega
          have HN1 := Lib.hid hn1
          have HL8 := Lib.hid (hn1.alloc (.cells #[.int .i8 kd, .bool bo, .int .i64 nu, .string te, .slice o1 n1 m1, .slice o2 n2 m2] 28))
          have hv8 := isVa_kp (W' := (Z1.alloc (.cells #[.int .i8 kd, .bool bo, .int .i64 nu, .string te, .slice o1 n1 m1, .slice o2 n2 m2] 28))) hv1 fun q e => Below.heap_alloc _ _ _ (by have := (HX5.out.2.1 q e).2.1; omega)
          have HV8 := Lib.hid hv8
          have HS8 := Lib.hid hs2
          have HB1 := Lib.hid hb1
          have HZ1 := Lib.hid hZ1
          clear own1 gr1 at1 h9 p5 HL7 HKO HZ7 HX5 HB11 hn1 hs1 hk1 hv1 hb1 hko1 hs2 hv8 hZ1
          go_upto_region 22 with fail
          rw [← HZ1.out]
          have p4 : Z1.cell? ⟨w.heap.size + 1, 4, none⟩ = some (.slice oL nv cL) := HN1.out.z9.cell 4
          have bz1 := HB1.out
          have g0 : Z1.cell? ⟨w6.heap.size, 0, none⟩ = some (.int .i8 kd) := bz1.cell 0
          have g1 : Z1.cell? ⟨w6.heap.size, 1, none⟩ = some (.bool bo) := bz1.cell 1
          have g2 : Z1.cell? ⟨w6.heap.size, 2, none⟩ = some (.int .i64 nu) := bz1.cell 2
          have g3 : Z1.cell? ⟨w6.heap.size, 3, none⟩ = some (.string te) := bz1.cell 3
          have g4 : Z1.cell? ⟨w6.heap.size, 4, none⟩ = some (.slice o1 n1 m1) := bz1.cell 4
          have g5 : Z1.cell? ⟨w6.heap.size, 5, none⟩ = some (.slice o2 n2 m2) := bz1.cell 5
          have hnvl : nv ≤ 20000 := by have := HNV.out; omega
          have HLO : Hid ((Z1.alloc (.cells #[.int .i8 kd, .bool bo, .int .i64 nu, .string te, .slice o1 n1 m1, .slice o2 n2 m2] 28)).ownsRow (w.heap.size + 2) 28 6 (.slice oL nv cL) nv xs) := Lib.hid (by have := HL8.out.lo; rw [← HNV.out] at this; exact this)
          have HZ8 : Hid (w.heap.size + 2 ≤ (Z1.alloc (.cells #[.int .i8 kd, .bool bo, .int .i64 nu, .string te, .slice o1 n1 m1, .slice o2 n2 m2] 28)).heap.size) := Lib.hid (by have := HL8.out.z9.lt; omega)
          clear p5' pf5 HZ1 bz1
          go_wp2_with (at_builtin; refine Ow.wpList_append_row_at rfl _ _ 25 rfl (w.heap.size + 2) 28 i0 _ 6 80 Tryd.underlying25 hi hz0 hz1 hz2 rfl (by decide) _ _ _ rfl HLO.out _ ⟨Z1.heap.size, 0, none⟩ 1 1 [.int .i8 kd, .bool bo, .int .i64 nu, .string te, .slice o1 n1 m1, .slice o2 n2 m2] rfl (fun _ => rfl) rfl ?d1 ?d2 ?d3 ?d4 ?d5 ?_)
          case d1 => exact news_at (Bx.new _ _ _)
          case d2 => exact Ow.isV_one (isV_of_a _ _ HV8.out)
          case d3 => unfold maxLen; omega
          case d4 => omega
          case d5 => exact HZ8.out
          intro o' c' y own' gr at'
          have h9 := HL8.out.z9.kp (gr.block _ HL8.out.z9.lt (fun e => by have := (HL8.out.lo.lt _ e.symm).1; omega))
          have p4' : y.cell? ⟨w.heap.size + 1, 4, none⟩ = some (.slice oL nv cL) := h9.cell 4
          have pf4 := h9.frozen 4
          have HN := Lib.hid (LW.put (lv' := .slice o' (nv + 1) c') HL8.out HV8.out HS8.out (by rw [← HNV.out]; exact own') gr (by rw [World.size_alloc]; exact at'))
          clear own' gr at' h9 p4 HL8 HV8 HS8 HLO HZ8 HB1 HN1 g0 g1 g2 g3 g4 g5
          go_upto_region 23 with fail
          obtain ⟨Z, hZ⟩ : ∃ Z, Z = y.setCell ⟨w.heap.size + 1, 4, none⟩ (.slice o' (nv + 1) c') := ⟨_, rfl⟩
          rw [← hZ] at HN ⊢
          clear hZ p4' pf4
          go_wp2_with fail
          refine (HB4.out Z).mono ?_
          rintro e w0 ⟨rfl, h0⟩
          have h0 := h0.symm
          subst h0
          clear HB4
          by_cases hc : s.data.toList[K4]? = some 125
          · have hlt4 : K4 < s.size := Nat.lt_of_not_le fun h => none_at s K4 (by omega) 125 hc
            have b1 : (((s[K4]'hlt4).toNat : Int) == 125) = true := sgn_yes s K4 hlt4 125 hc
            obtain rfl := F1.out hc
            have a1 : decide ((K4 : Int) < (s.size : Int)) = true := decide_eq_true (by omega)
            have a2 : decide (K4 < s.size) = true := decide_eq_true (by omega)
            have a3 : decide ((s.size : Int) ≤ (K4 : Int)) = false := decide_eq_false (by omega)
            have a4 : decide (s.size ≤ K4) = false := decide_eq_false (by omega)
            clear hc F1 F2 F3 HI
            have bxe := HN.out.z6
            unfold zeroC at bxe
            have q0 : Z.cell? ⟨w.heap.size, 0, none⟩ = some (.int .i8 0) := bxe.cell 0
            have qf0 := bxe.frozen 0
            have q1 : Z.cell? ⟨w.heap.size, 1, none⟩ = some (.bool false) := bxe.cell 1
            have qf1 := bxe.frozen 1
            have q2 : Z.cell? ⟨w.heap.size, 2, none⟩ = some (.int .i64 0) := bxe.cell 2
            have qf2 := bxe.frozen 2
            have q3 : Z.cell? ⟨w.heap.size, 3, none⟩ = some (.string ⟨#[]⟩) := bxe.cell 3
            have qf3 := bxe.frozen 3
            have q4 : Z.cell? ⟨w.heap.size, 4, none⟩ = some (.slice none 0 0) := bxe.cell 4
            have qf4 := bxe.frozen 4
            have q5 : Z.cell? ⟨w.heap.size, 5, none⟩ = some (.slice none 0 0) := bxe.cell 5
            have qf5 := bxe.frozen 5
            have bx9 := HN.out.z9
            have p0 : Z.cell? ⟨w.heap.size + 1, 0, none⟩ = some (.int .i8 5) := bx9.cell 0
            have p1 : Z.cell? ⟨w.heap.size + 1, 1, none⟩ = some (.bool false) := bx9.cell 1
            have p2 : Z.cell? ⟨w.heap.size + 1, 2, none⟩ = some (.int .i64 0) := bx9.cell 2
            have p3 : Z.cell? ⟨w.heap.size + 1, 3, none⟩ = some (.string ⟨#[]⟩) := bx9.cell 3
            have p4 : Z.cell? ⟨w.heap.size + 1, 4, none⟩ = some (.slice o' (nv + 1) c') := bx9.cell 4
            have p5 : Z.cell? ⟨w.heap.size + 1, 5, none⟩ = some (.slice ok' (nk + 1) ck') := bx9.cell 5
            clear bxe bx9
            have hans := HN.out.ans (by decide) (K4 + 1)
            rw [show ((K4 + 1 : Nat) : Int) = (K4 : Int) + 1 from rfl] at hans
            have HANS := Lib.hid hans
            clear hans
            go_wp2_with fail
            refine bodyPost_ret (v := .tuple #[.agg #[.int .i8 5, .bool false, .int .i64 0, .string ⟨#[]⟩, .slice o' (nv + 1) c', .slice ok' (nk + 1) ck'], .int .i64 ((K4 : Int) + 1), .int .i64 0]) (by simp [results, Tryd.results33, go_sem, q0, q1, q2, q3, q4, q5]) rfl ?_
            exact HANS.out
          by_cases hlt4 : K4 < s.size
          · have b1 : (((s[K4]'hlt4).toNat : Int) == 125) = false := sgn_no s K4 hlt4 125 hc
            have a1 : decide ((K4 : Int) < (s.size : Int)) = true := decide_eq_true (by omega)
            have a2 : decide (K4 < s.size) = true := decide_eq_true (by omega)
            have a3 : decide ((s.size : Int) ≤ (K4 : Int)) = false := decide_eq_false (by omega)
            have a4 : decide (s.size ≤ K4) = false := decide_eq_false (by omega)
            by_cases h44 : s.data.toList[K4]? = some 44
            · have b2 : (((s[K4]'hlt4).toNat : Int) == 44) = true := sgn_yes s K4 hlt4 44 h44
              have b3 : (((s[K4]'hlt4).toNat : Int) != 44) = false := sgn_yes' s K4 hlt4 44 h44
              have HR3 := Lib.hid (F3.out hc h44)
              obtain ⟨K5, hK5⟩ : ∃ K5, bl s.data.toList (K4 + 1) = K5 := ⟨_, rfl⟩
              have hK5s : K5 ≤ s.size := by
                have := bl_le s.data.toList (K4 + 1) (by rw [toList_length]; omega)
                rwa [hK5, toList_length] at this
              have hKK5 : K4 + 1 ≤ K5 := hK5 ▸ bl_ge s.data.toList (K4 + 1)
              have HB5 : Hid (∀ w, Calls Tryd.prog 17 #[.string s, .int .i64 (((K4 : Int) + 1))] w fun e w' => e = .returned (.int .i64 (K5 : Nat)) ∧ w' = w) := Lib.hid (fun w => by
                have := rBlanks_in s (k := K4 + 1) (by omega) (by omega) w
                rw [hK5] at this
                exact this)
              rw [hK5] at HR3
              have hvl3 : (vs ++ [x]).length ≤ K5 := by rw [List.length_append]; simp only [List.length_cons, List.length_nil]; omega
              have hkl3 : (ks ++ [Kk]).length ≤ K5 := by rw [List.length_append]; simp only [List.length_cons, List.length_nil]; omega
              clear hc h44 F1 F2 F3 hK5
              go_wp2_with fail
              refine (HB5.out Z).mono ?_
              rintro e w0 ⟨rfl, h0⟩
              have h0 := h0.symm
              subst h0
              clear HB5
              go_wp2_with fail
              go_roundw
              case rel => exact ⟨K5, vs ++ [x], ks ++ [Kk], _, _, _, _, hK5s, by omega, by go_num, hvl3, hkl3, HN, HR3⟩
              case measure => simp [intOf]; omega
            · have b2 : (((s[K4]'hlt4).toNat : Int) == 44) = false := sgn_no s K4 hlt4 44 h44
              have b3 : (((s[K4]'hlt4).toNat : Int) != 44) = true := sgn_no' s K4 hlt4 44 h44
              obtain rfl := F2.out hc h44
              clear hc h44 F1 F2 F3 HI
              have bxe := HN.out.z6
              unfold zeroC at bxe
              have q0 : Z.cell? ⟨w.heap.size, 0, none⟩ = some (.int .i8 0) := bxe.cell 0
              have qf0 := bxe.frozen 0
              have q1 : Z.cell? ⟨w.heap.size, 1, none⟩ = some (.bool false) := bxe.cell 1
              have qf1 := bxe.frozen 1
              have q2 : Z.cell? ⟨w.heap.size, 2, none⟩ = some (.int .i64 0) := bxe.cell 2
              have qf2 := bxe.frozen 2
              have q3 : Z.cell? ⟨w.heap.size, 3, none⟩ = some (.string ⟨#[]⟩) := bxe.cell 3
              have qf3 := bxe.frozen 3
              have q4 : Z.cell? ⟨w.heap.size, 4, none⟩ = some (.slice none 0 0) := bxe.cell 4
              have qf4 := bxe.frozen 4
              have q5 : Z.cell? ⟨w.heap.size, 5, none⟩ = some (.slice none 0 0) := bxe.cell 5
              have qf5 := bxe.frozen 5
              clear bxe
              go_wp2_with fail
              refine bodyPost_ret (v := .tuple #[zeroV, .int .i64 (K4 : Nat), .int .i64 (40 : Nat)]) (by simp [results, Tryd.results33, go_sem, zeroV, q0, q1, q2, q3, q4, q5]) rfl ?_
              exact HN.out.err _ _
          · obtain rfl := F2.out hc (none_at s K4 hlt4 44)
            have a1 : decide ((K4 : Int) < (s.size : Int)) = false := decide_eq_false (by omega)
            have a2 : decide (K4 < s.size) = false := decide_eq_false (by omega)
            have a3 : decide ((s.size : Int) ≤ (K4 : Int)) = true := decide_eq_true (by omega)
            have a4 : decide (s.size ≤ K4) = true := decide_eq_true (by omega)
            clear hc hlt4 F1 F2 F3 HI
            have bxe := HN.out.z6
            unfold zeroC at bxe
            have q0 : Z.cell? ⟨w.heap.size, 0, none⟩ = some (.int .i8 0) := bxe.cell 0
            have qf0 := bxe.frozen 0
            have q1 : Z.cell? ⟨w.heap.size, 1, none⟩ = some (.bool false) := bxe.cell 1
            have qf1 := bxe.frozen 1
            have q2 : Z.cell? ⟨w.heap.size, 2, none⟩ = some (.int .i64 0) := bxe.cell 2
            have qf2 := bxe.frozen 2
            have q3 : Z.cell? ⟨w.heap.size, 3, none⟩ = some (.string ⟨#[]⟩) := bxe.cell 3
            have qf3 := bxe.frozen 3
            have q4 : Z.cell? ⟨w.heap.size, 4, none⟩ = some (.slice none 0 0) := bxe.cell 4
            have qf4 := bxe.frozen 4
            have q5 : Z.cell? ⟨w.heap.size, 5, none⟩ = some (.slice none 0 0) := bxe.cell 5
            have qf5 := bxe.frozen 5
            clear bxe
            go_wp2_with fail
            refine bodyPost_ret (v := .tuple #[zeroV, .int .i64 (K4 : Nat), .int .i64 (40 : Nat)]) (by simp [results, Tryd.results33, go_sem, zeroV, q0, q1, q2, q3, q4, q5]) rfl ?_
            exact HN.out.err _ _
end Go.Proofs.YtgbagdfcdljleaaDoor

namespace Go.Proofs.YtgbagdfcdljleaaDoor
open Go.RowKit Go.Maps

theorem LW.pass {w W : World} {kd : Int} {vs : List V} {ks : List ByteArray} {lv kv : Value} {xs : List Value} {S S' : Nat → Prop} {v : V} {c0 c1 c2 c3 c4 c5 : Value} (h : LW w kd vs ks lv kv xs S W) (hva : isVa W S' v (.agg #[c0, c1, c2, c3, c4, c5])) (hS : ∀ q, S' q → w.heap.size < q) (e : Nat) :
    AnsR w (.ok (v, e)) (.returned (.tuple #[.agg #[c0, c1, c2, c3, c4, c5], .int .i64 e, .int .i64 0])) ((((((W.setCell ⟨w.heap.size, 0, none⟩ c0).setCell ⟨w.heap.size, 1, none⟩ c1).setCell ⟨w.heap.size, 2, none⟩ c2).setCell ⟨w.heap.size, 3, none⟩ c3).setCell ⟨w.heap.size, 4, none⟩ c4).setCell ⟨w.heap.size, 5, none⟩ c5) :=
  ⟨_, S', rfl, isVa_kp hva fun q e => six_heap _ _ _ _ _ _ _ _ (by have := hS q e; omega), fun q e => Nat.le_of_lt (hS q e), six_below' h.kb (Nat.le_refl _) _ _ _ _ _ _⟩
theorem LW.leaf {w W : World} {kd : Int} {vs : List V} {ks : List ByteArray} {lv kv : Value} {xs : List Value} {S : Nat → Prop} (h : LW w kd vs ks lv kv xs S W) (kd' : Int) (bo : Bool) (nu : Int) (te : ByteArray) (h1 : -128 ≤ kd' ∧ kd' ≤ 127) (h2 : -9223372036854775808 ≤ nu ∧ nu ≤ 9223372036854775807) (h3 : te.size ≤ maxLen) (e : Nat) :
    AnsR w (.ok (.mk kd' bo nu te [] [], e)) (.returned (.tuple #[.agg #[.int .i8 kd', .bool bo, .int .i64 nu, .string te, .slice none 0 0, .slice none 0 0], .int .i64 e, .int .i64 0])) ((((((W.setCell ⟨w.heap.size, 0, none⟩ (.int .i8 kd')).setCell ⟨w.heap.size, 1, none⟩ (.bool bo)).setCell ⟨w.heap.size, 2, none⟩ (.int .i64 nu)).setCell ⟨w.heap.size, 3, none⟩ (.string te)).setCell ⟨w.heap.size, 4, none⟩ (.slice none 0 0)).setCell ⟨w.heap.size, 5, none⟩ (.slice none 0 0)) :=
  h.pass (isVa_leaf kd' bo nu te h1 h2 h3) (fun _ e => e.elim) e
theorem ne_b {c : UInt8} {n : Nat} (hn : n < 256) (h : c ≠ UInt8.ofNat n) : ((c.toNat : Int) == (n : Int)) = false := by
  rw [beq_eq_false_iff_ne]
  intro e
  exact h (UInt8.toNat_inj.1 (by simp; omega))
theorem begins_q (s p : ByteArray) (k : Nat) (hk : k ≤ s.size) (hs : s.size ≤ 20000) (hp : p.size ≤ 100) {q : Bool} (hq : decide ((s.data.toList.drop k).take p.data.toList.length = p.data.toList) = q) (w : World) :
    Calls Tryd.prog 28 #[.string s, .int .i64 k, .string p] w fun e w' => e = .returned (.bool q) ∧ w = w' := by
  have := begins_any s p k hk (by omega) hp w
  rw [hq] at this
  exact this.mono fun e w' h => ⟨h.1, h.2.symm⟩
set_option maxRecDepth 100000 in
set_option maxHeartbeats 4000000 in
theorem rValue_step (s : ByteArray) (k : Nat) (d : Int) (hk : k ≤ s.size) (hs : s.size ≤ 20000) (hd1 : -9223372036854775808 ≤ d) (hd2 : d ≤ 9223372036854775807) (w : World)
    (IH : d ≤ 24 → ∀ k', k < k' → k' ≤ s.size → ∀ w, Calls Tryd.prog 16 #[.string s, .int .i64 (k' : Nat), .int .i64 (d + 1)] w fun e w' => AnsR w (valM s.data.toList k' (d + 1)) e w') :
    Calls Tryd.prog 16 #[.string s, .int .i64 k, .int .i64 d] w fun e w' => AnsR w (valM s.data.toList k d) e w' := by
  obtain ⟨R, hR⟩ : ∃ R, valM s.data.toList k d = R := ⟨_, rfl⟩
  have hG := GoS.of (RunS.start (by rw [toList_length]; exact hk) hR)
  rw [hR]
  clear hR
  unfold begM at hG
  rw [toList_length] at hG
  have k0 : decide ((k : Int) < 0) = false := decide_eq_false (by omega)
  by_cases hlt : ¬ k < s.size
  · rw [if_pos (by omega)] at hG
    have hRe : R = .error (s.size, 40) := hG
    subst hRe
    have a1 : decide ((k : Int) < (s.size : Int)) = false := decide_eq_false (by omega)
    have a2 : decide (k < s.size) = false := decide_eq_false (by omega)
    have a3 : decide ((s.size : Int) ≤ (k : Int)) = true := decide_eq_true (by omega)
    have a4 : decide (s.size ≤ k) = true := decide_eq_true (by omega)
    clear hG IH hlt
    have HS := Lib.hid (LW.start w 0)
    unfold zeroC at HS
    go_enter Tryd.func16, Tryd.ntmps16
    go_upto_region 2 with fail
    obtain ⟨X, hX⟩ : ∃ X, X = ((w.alloc (.cells #[.int .i8 0, .bool false, .int .i64 0, .string ⟨#[]⟩, .slice none 0 0, .slice none 0 0] 28)).alloc (.cells #[.int .i8 0, .bool false, .int .i64 0, .string ⟨#[]⟩, .slice none 0 0, .slice none 0 0] 28)) := ⟨_, rfl⟩
    rw [← hX] at HS ⊢
    clear hX
    have bxe := HS.out.z6
    have bx9 := HS.out.z9
    unfold zeroC at bxe
    have q0 : X.cell? ⟨w.heap.size, 0, none⟩ = some (.int .i8 0) := bxe.cell 0
    have qf0 := bxe.frozen 0
    have q1 : X.cell? ⟨w.heap.size, 1, none⟩ = some (.bool false) := bxe.cell 1
    have qf1 := bxe.frozen 1
    have q2 : X.cell? ⟨w.heap.size, 2, none⟩ = some (.int .i64 0) := bxe.cell 2
    have qf2 := bxe.frozen 2
    have q3 : X.cell? ⟨w.heap.size, 3, none⟩ = some (.string ⟨#[]⟩) := bxe.cell 3
    have qf3 := bxe.frozen 3
    have q4 : X.cell? ⟨w.heap.size, 4, none⟩ = some (.slice none 0 0) := bxe.cell 4
    have qf4 := bxe.frozen 4
    have q5 : X.cell? ⟨w.heap.size, 5, none⟩ = some (.slice none 0 0) := bxe.cell 5
    have qf5 := bxe.frozen 5
    have p0 : X.cell? ⟨w.heap.size + 1, 0, none⟩ = some (.int .i8 0) := bx9.cell 0
    have p1 : X.cell? ⟨w.heap.size + 1, 1, none⟩ = some (.bool false) := bx9.cell 1
    have p2 : X.cell? ⟨w.heap.size + 1, 2, none⟩ = some (.int .i64 0) := bx9.cell 2
    have p3 : X.cell? ⟨w.heap.size + 1, 3, none⟩ = some (.string ⟨#[]⟩) := bx9.cell 3
    have p4 : X.cell? ⟨w.heap.size + 1, 4, none⟩ = some (.slice none 0 0) := bx9.cell 4
    have p5 : X.cell? ⟨w.heap.size + 1, 5, none⟩ = some (.slice none 0 0) := bx9.cell 5
    clear bxe bx9
    go_wp2_with fail
    refine bodyPost_ret (v := .tuple #[.agg #[.int .i8 0, .bool false, .int .i64 0, .string ⟨#[]⟩, .slice none 0 0, .slice none 0 0], .int .i64 (s.size : Nat), .int .i64 40]) (by simp [results, Tryd.results16, go_sem, q0, q1, q2, q3, q4, q5]) rfl ?_
    exact HS.out.err _ 40
  have hlt : k < s.size := Decidable.not_not.1 hlt
  rw [if_neg (by omega)] at hG
  have a1 : decide ((k : Int) < (s.size : Int)) = true := decide_eq_true (by omega)
  have a2 : decide (k < s.size) = true := decide_eq_true (by omega)
  have a3 : decide ((s.size : Int) ≤ (k : Int)) = false := decide_eq_false (by omega)
  have a4 : decide (s.size ≤ k) = false := decide_eq_false (by omega)
  by_cases hd : 24 < d
  · rw [if_pos (by simpa using hd)] at hG
    have hRe : R = .error (k, 30) := hG
    subst hRe
    have d1 : decide ((24 : Int) < d) = true := decide_eq_true hd
    clear hG IH hd
    have HS := Lib.hid (LW.start w 0)
    unfold zeroC at HS
    go_enter Tryd.func16, Tryd.ntmps16
    go_upto_region 2 with fail
    obtain ⟨X, hX⟩ : ∃ X, X = ((w.alloc (.cells #[.int .i8 0, .bool false, .int .i64 0, .string ⟨#[]⟩, .slice none 0 0, .slice none 0 0] 28)).alloc (.cells #[.int .i8 0, .bool false, .int .i64 0, .string ⟨#[]⟩, .slice none 0 0, .slice none 0 0] 28)) := ⟨_, rfl⟩
    rw [← hX] at HS ⊢
    clear hX
    have bxe := HS.out.z6
    have bx9 := HS.out.z9
    unfold zeroC at bxe
    have q0 : X.cell? ⟨w.heap.size, 0, none⟩ = some (.int .i8 0) := bxe.cell 0
    have qf0 := bxe.frozen 0
    have q1 : X.cell? ⟨w.heap.size, 1, none⟩ = some (.bool false) := bxe.cell 1
    have qf1 := bxe.frozen 1
    have q2 : X.cell? ⟨w.heap.size, 2, none⟩ = some (.int .i64 0) := bxe.cell 2
    have qf2 := bxe.frozen 2
    have q3 : X.cell? ⟨w.heap.size, 3, none⟩ = some (.string ⟨#[]⟩) := bxe.cell 3
    have qf3 := bxe.frozen 3
    have q4 : X.cell? ⟨w.heap.size, 4, none⟩ = some (.slice none 0 0) := bxe.cell 4
    have qf4 := bxe.frozen 4
    have q5 : X.cell? ⟨w.heap.size, 5, none⟩ = some (.slice none 0 0) := bxe.cell 5
    have qf5 := bxe.frozen 5
    have p0 : X.cell? ⟨w.heap.size + 1, 0, none⟩ = some (.int .i8 0) := bx9.cell 0
    have p1 : X.cell? ⟨w.heap.size + 1, 1, none⟩ = some (.bool false) := bx9.cell 1
    have p2 : X.cell? ⟨w.heap.size + 1, 2, none⟩ = some (.int .i64 0) := bx9.cell 2
    have p3 : X.cell? ⟨w.heap.size + 1, 3, none⟩ = some (.string ⟨#[]⟩) := bx9.cell 3
    have p4 : X.cell? ⟨w.heap.size + 1, 4, none⟩ = some (.slice none 0 0) := bx9.cell 4
    have p5 : X.cell? ⟨w.heap.size + 1, 5, none⟩ = some (.slice none 0 0) := bx9.cell 5
    clear bxe bx9
    go_wp2_with fail
    refine bodyPost_ret (v := .tuple #[.agg #[.int .i8 0, .bool false, .int .i64 0, .string ⟨#[]⟩, .slice none 0 0, .slice none 0 0], .int .i64 (k : Nat), .int .i64 30]) (by simp [results, Tryd.results16, go_sem, q0, q1, q2, q3, q4, q5]) rfl ?_
    exact HS.out.err _ 30
  rw [if_neg (by simpa using hd)] at hG
  have d1 : decide ((24 : Int) < d) = false := decide_eq_false hd
  have HI := Lib.hid (IH (by omega))
  have hd3 : d ≤ 24 := by omega
  have hgd : s.data.toList.getD k 0 = s[k]'hlt := by rw [List.getD, toList_getElem s k hlt]; rfl
  rw [hgd] at hG
  clear hd IH
  have HGD := Lib.hid hgd
  clear hgd
  by_cases hc : s[k]'hlt = 110
  · rw [if_pos hc] at hG
    unfold wordM at hG
    have HD : Hid (∀ w, Calls Tryd.prog 29 #[.int .u8 (s[k]'hlt).toNat] w fun e w' => e = .returned (.bool false) ∧ w = w') := Lib.hid (fun w => Nu.rdigit_no _ (by rw [hc]; rfl) w)
    have b110 : (((s[k]'hlt).toNat : Int) == 110) = true := by rw [hc]; rfl
    have b116 : (((s[k]'hlt).toNat : Int) == 116) = false := by rw [hc]; rfl
    have b102 : (((s[k]'hlt).toNat : Int) == 102) = false := by rw [hc]; rfl
    have b45 : (((s[k]'hlt).toNat : Int) == 45) = false := by rw [hc]; rfl
    have b34 : (((s[k]'hlt).toNat : Int) == 34) = false := by rw [hc]; rfl
    have b91 : (((s[k]'hlt).toNat : Int) == 91) = false := by rw [hc]; rfl
    have b123 : (((s[k]'hlt).toNat : Int) == 123) = false := by rw [hc]; rfl
    by_cases hw : (s.data.toList.drop k).take [(110 : UInt8), (117 : UInt8), (108 : UInt8), (108 : UInt8)].length = ([110, 117, 108, 108] : List UInt8)
    · have HW := Lib.hid (fun w => begins_q s ⟨#[110, 117, 108, 108]⟩ k hk hs (show (4 + 0 : Nat) ≤ 100 by decide) (decide_eq_true hw) w)
      rw [if_pos hw] at hG
      obtain rfl := RunS.fin hG
      clear hG hw hc HI HD HGD
      have HS := Lib.hid (LW.start w 0)
      unfold zeroC at HS
      go_enter Tryd.func16, Tryd.ntmps16
      go_upto_region 2 with fail
      obtain ⟨X, hX⟩ : ∃ X, X = ((w.alloc (.cells #[.int .i8 0, .bool false, .int .i64 0, .string ⟨#[]⟩, .slice none 0 0, .slice none 0 0] 28)).alloc (.cells #[.int .i8 0, .bool false, .int .i64 0, .string ⟨#[]⟩, .slice none 0 0, .slice none 0 0] 28)) := ⟨_, rfl⟩
      rw [← hX] at HS ⊢
      clear hX
      have bxe := HS.out.z6
      have bx9 := HS.out.z9
      unfold zeroC at bxe
      have q0 : X.cell? ⟨w.heap.size, 0, none⟩ = some (.int .i8 0) := bxe.cell 0
      have qf0 := bxe.frozen 0
      have q1 : X.cell? ⟨w.heap.size, 1, none⟩ = some (.bool false) := bxe.cell 1
      have qf1 := bxe.frozen 1
      have q2 : X.cell? ⟨w.heap.size, 2, none⟩ = some (.int .i64 0) := bxe.cell 2
      have qf2 := bxe.frozen 2
      have q3 : X.cell? ⟨w.heap.size, 3, none⟩ = some (.string ⟨#[]⟩) := bxe.cell 3
      have qf3 := bxe.frozen 3
      have q4 : X.cell? ⟨w.heap.size, 4, none⟩ = some (.slice none 0 0) := bxe.cell 4
      have qf4 := bxe.frozen 4
      have q5 : X.cell? ⟨w.heap.size, 5, none⟩ = some (.slice none 0 0) := bxe.cell 5
      have qf5 := bxe.frozen 5
      have p0 : X.cell? ⟨w.heap.size + 1, 0, none⟩ = some (.int .i8 0) := bx9.cell 0
      have p1 : X.cell? ⟨w.heap.size + 1, 1, none⟩ = some (.bool false) := bx9.cell 1
      have p2 : X.cell? ⟨w.heap.size + 1, 2, none⟩ = some (.int .i64 0) := bx9.cell 2
      have p3 : X.cell? ⟨w.heap.size + 1, 3, none⟩ = some (.string ⟨#[]⟩) := bx9.cell 3
      have p4 : X.cell? ⟨w.heap.size + 1, 4, none⟩ = some (.slice none 0 0) := bx9.cell 4
      have p5 : X.cell? ⟨w.heap.size + 1, 5, none⟩ = some (.slice none 0 0) := bx9.cell 5
      clear bxe bx9
      go_wp2_with (go_at_call 28; refine (HW.out _).mono ?_; rintro e w' ⟨rfl, h0⟩; have h0 := h0.symm; subst h0)
      have hans := HS.out.leaf 0 false 0 ⟨#[]⟩ (by decide) (by decide) (by decide) (k + 4)
      rw [show ((k + 4 : Nat) : Int) = (k : Int) + 4 from rfl] at hans
      refine bodyPost_ret (v := .tuple #[.agg #[.int .i8 0, .bool false, .int .i64 0, .string ⟨#[]⟩, .slice none 0 0, .slice none 0 0], .int .i64 ((k : Int) + 4), .int .i64 0]) (by simp [results, Tryd.results16, go_sem, q0, q1, q2, q3, q4, q5]) rfl ?_
      exact hans
    · have HW := Lib.hid (fun w => begins_q s ⟨#[110, 117, 108, 108]⟩ k hk hs (show (4 + 0 : Nat) ≤ 100 by decide) (decide_eq_false hw) w)
      rw [if_neg hw] at hG
      have hRe : R = .error (k, 40) := hG
      subst hRe
      clear hG hw hc HI HGD
      have HS := Lib.hid (LW.start w 0)
      unfold zeroC at HS
      go_enter Tryd.func16, Tryd.ntmps16
      go_upto_region 2 with fail
      obtain ⟨X, hX⟩ : ∃ X, X = ((w.alloc (.cells #[.int .i8 0, .bool false, .int .i64 0, .string ⟨#[]⟩, .slice none 0 0, .slice none 0 0] 28)).alloc (.cells #[.int .i8 0, .bool false, .int .i64 0, .string ⟨#[]⟩, .slice none 0 0, .slice none 0 0] 28)) := ⟨_, rfl⟩
      rw [← hX] at HS ⊢
      clear hX
      have bxe := HS.out.z6
      have bx9 := HS.out.z9
      unfold zeroC at bxe
      have q0 : X.cell? ⟨w.heap.size, 0, none⟩ = some (.int .i8 0) := bxe.cell 0
      have qf0 := bxe.frozen 0
      have q1 : X.cell? ⟨w.heap.size, 1, none⟩ = some (.bool false) := bxe.cell 1
      have qf1 := bxe.frozen 1
      have q2 : X.cell? ⟨w.heap.size, 2, none⟩ = some (.int .i64 0) := bxe.cell 2
      have qf2 := bxe.frozen 2
      have q3 : X.cell? ⟨w.heap.size, 3, none⟩ = some (.string ⟨#[]⟩) := bxe.cell 3
      have qf3 := bxe.frozen 3
      have q4 : X.cell? ⟨w.heap.size, 4, none⟩ = some (.slice none 0 0) := bxe.cell 4
      have qf4 := bxe.frozen 4
      have q5 : X.cell? ⟨w.heap.size, 5, none⟩ = some (.slice none 0 0) := bxe.cell 5
      have qf5 := bxe.frozen 5
      have p0 : X.cell? ⟨w.heap.size + 1, 0, none⟩ = some (.int .i8 0) := bx9.cell 0
      have p1 : X.cell? ⟨w.heap.size + 1, 1, none⟩ = some (.bool false) := bx9.cell 1
      have p2 : X.cell? ⟨w.heap.size + 1, 2, none⟩ = some (.int .i64 0) := bx9.cell 2
      have p3 : X.cell? ⟨w.heap.size + 1, 3, none⟩ = some (.string ⟨#[]⟩) := bx9.cell 3
      have p4 : X.cell? ⟨w.heap.size + 1, 4, none⟩ = some (.slice none 0 0) := bx9.cell 4
      have p5 : X.cell? ⟨w.heap.size + 1, 5, none⟩ = some (.slice none 0 0) := bx9.cell 5
      clear bxe bx9
      go_wp2_with first | (go_at_call 28; refine (HW.out _).mono ?_; rintro e w' ⟨rfl, h0⟩; have h0 := h0.symm; subst h0) | (go_at_call 29; refine (HD.out _).mono ?_; rintro e w' ⟨rfl, h0⟩; have h0 := h0.symm; subst h0)
      refine bodyPost_ret (v := .tuple #[.agg #[.int .i8 0, .bool false, .int .i64 0, .string ⟨#[]⟩, .slice none 0 0, .slice none 0 0], .int .i64 (k : Nat), .int .i64 40]) (by simp [results, Tryd.results16, go_sem, q0, q1, q2, q3, q4, q5]) rfl ?_
      exact HS.out.err _ 40
  have h110 := hc
  clear hc
  by_cases hc : s[k]'hlt = 102
  · rw [if_neg h110, if_pos hc] at hG
    unfold wordM at hG
    have HD : Hid (∀ w, Calls Tryd.prog 29 #[.int .u8 (s[k]'hlt).toNat] w fun e w' => e = .returned (.bool false) ∧ w = w') := Lib.hid (fun w => Nu.rdigit_no _ (by rw [hc]; rfl) w)
    have b110 : (((s[k]'hlt).toNat : Int) == 110) = false := by rw [hc]; rfl
    have b116 : (((s[k]'hlt).toNat : Int) == 116) = false := by rw [hc]; rfl
    have b102 : (((s[k]'hlt).toNat : Int) == 102) = true := by rw [hc]; rfl
    have b45 : (((s[k]'hlt).toNat : Int) == 45) = false := by rw [hc]; rfl
    have b34 : (((s[k]'hlt).toNat : Int) == 34) = false := by rw [hc]; rfl
    have b91 : (((s[k]'hlt).toNat : Int) == 91) = false := by rw [hc]; rfl
    have b123 : (((s[k]'hlt).toNat : Int) == 123) = false := by rw [hc]; rfl
    by_cases hw : (s.data.toList.drop k).take [(102 : UInt8), (97 : UInt8), (108 : UInt8), (115 : UInt8), (101 : UInt8)].length = ([102, 97, 108, 115, 101] : List UInt8)
    · have HW := Lib.hid (fun w => begins_q s ⟨#[102, 97, 108, 115, 101]⟩ k hk hs (show (4 + 1 : Nat) ≤ 100 by decide) (decide_eq_true hw) w)
      rw [if_pos hw] at hG
      obtain rfl := RunS.fin hG
      clear hG hw hc HI HD HGD
      have HS := Lib.hid (LW.start w 0)
      unfold zeroC at HS
      go_enter Tryd.func16, Tryd.ntmps16
      go_upto_region 2 with fail
      obtain ⟨X, hX⟩ : ∃ X, X = ((w.alloc (.cells #[.int .i8 0, .bool false, .int .i64 0, .string ⟨#[]⟩, .slice none 0 0, .slice none 0 0] 28)).alloc (.cells #[.int .i8 0, .bool false, .int .i64 0, .string ⟨#[]⟩, .slice none 0 0, .slice none 0 0] 28)) := ⟨_, rfl⟩
      rw [← hX] at HS ⊢
      clear hX
      have bxe := HS.out.z6
      have bx9 := HS.out.z9
      unfold zeroC at bxe
      have q0 : X.cell? ⟨w.heap.size, 0, none⟩ = some (.int .i8 0) := bxe.cell 0
      have qf0 := bxe.frozen 0
      have q1 : X.cell? ⟨w.heap.size, 1, none⟩ = some (.bool false) := bxe.cell 1
      have qf1 := bxe.frozen 1
      have q2 : X.cell? ⟨w.heap.size, 2, none⟩ = some (.int .i64 0) := bxe.cell 2
      have qf2 := bxe.frozen 2
      have q3 : X.cell? ⟨w.heap.size, 3, none⟩ = some (.string ⟨#[]⟩) := bxe.cell 3
      have qf3 := bxe.frozen 3
      have q4 : X.cell? ⟨w.heap.size, 4, none⟩ = some (.slice none 0 0) := bxe.cell 4
      have qf4 := bxe.frozen 4
      have q5 : X.cell? ⟨w.heap.size, 5, none⟩ = some (.slice none 0 0) := bxe.cell 5
      have qf5 := bxe.frozen 5
      have p0 : X.cell? ⟨w.heap.size + 1, 0, none⟩ = some (.int .i8 0) := bx9.cell 0
      have p1 : X.cell? ⟨w.heap.size + 1, 1, none⟩ = some (.bool false) := bx9.cell 1
      have p2 : X.cell? ⟨w.heap.size + 1, 2, none⟩ = some (.int .i64 0) := bx9.cell 2
      have p3 : X.cell? ⟨w.heap.size + 1, 3, none⟩ = some (.string ⟨#[]⟩) := bx9.cell 3
      have p4 : X.cell? ⟨w.heap.size + 1, 4, none⟩ = some (.slice none 0 0) := bx9.cell 4
      have p5 : X.cell? ⟨w.heap.size + 1, 5, none⟩ = some (.slice none 0 0) := bx9.cell 5
      clear bxe bx9
      go_wp2_with (go_at_call 28; refine (HW.out _).mono ?_; rintro e w' ⟨rfl, h0⟩; have h0 := h0.symm; subst h0)
      have hans := HS.out.leaf 1 false 0 ⟨#[]⟩ (by decide) (by decide) (by decide) (k + 5)
      rw [show ((k + 5 : Nat) : Int) = (k : Int) + 5 from rfl] at hans
      refine bodyPost_ret (v := .tuple #[.agg #[.int .i8 1, .bool false, .int .i64 0, .string ⟨#[]⟩, .slice none 0 0, .slice none 0 0], .int .i64 ((k : Int) + 5), .int .i64 0]) (by simp [results, Tryd.results16, go_sem, q0, q1, q2, q3, q4, q5]) rfl ?_
      exact hans
    · have HW := Lib.hid (fun w => begins_q s ⟨#[102, 97, 108, 115, 101]⟩ k hk hs (show (4 + 1 : Nat) ≤ 100 by decide) (decide_eq_false hw) w)
      rw [if_neg hw] at hG
      have hRe : R = .error (k, 40) := hG
      subst hRe
      clear hG hw hc HI HGD
      have HS := Lib.hid (LW.start w 0)
      unfold zeroC at HS
      go_enter Tryd.func16, Tryd.ntmps16
      go_upto_region 2 with fail
      obtain ⟨X, hX⟩ : ∃ X, X = ((w.alloc (.cells #[.int .i8 0, .bool false, .int .i64 0, .string ⟨#[]⟩, .slice none 0 0, .slice none 0 0] 28)).alloc (.cells #[.int .i8 0, .bool false, .int .i64 0, .string ⟨#[]⟩, .slice none 0 0, .slice none 0 0] 28)) := ⟨_, rfl⟩
      rw [← hX] at HS ⊢
      clear hX
      have bxe := HS.out.z6
      have bx9 := HS.out.z9
      unfold zeroC at bxe
      have q0 : X.cell? ⟨w.heap.size, 0, none⟩ = some (.int .i8 0) := bxe.cell 0
      have qf0 := bxe.frozen 0
      have q1 : X.cell? ⟨w.heap.size, 1, none⟩ = some (.bool false) := bxe.cell 1
      have qf1 := bxe.frozen 1
      have q2 : X.cell? ⟨w.heap.size, 2, none⟩ = some (.int .i64 0) := bxe.cell 2
      have qf2 := bxe.frozen 2
      have q3 : X.cell? ⟨w.heap.size, 3, none⟩ = some (.string ⟨#[]⟩) := bxe.cell 3
      have qf3 := bxe.frozen 3
      have q4 : X.cell? ⟨w.heap.size, 4, none⟩ = some (.slice none 0 0) := bxe.cell 4
      have qf4 := bxe.frozen 4
      have q5 : X.cell? ⟨w.heap.size, 5, none⟩ = some (.slice none 0 0) := bxe.cell 5
      have qf5 := bxe.frozen 5
      have p0 : X.cell? ⟨w.heap.size + 1, 0, none⟩ = some (.int .i8 0) := bx9.cell 0
      have p1 : X.cell? ⟨w.heap.size + 1, 1, none⟩ = some (.bool false) := bx9.cell 1
      have p2 : X.cell? ⟨w.heap.size + 1, 2, none⟩ = some (.int .i64 0) := bx9.cell 2
      have p3 : X.cell? ⟨w.heap.size + 1, 3, none⟩ = some (.string ⟨#[]⟩) := bx9.cell 3
      have p4 : X.cell? ⟨w.heap.size + 1, 4, none⟩ = some (.slice none 0 0) := bx9.cell 4
      have p5 : X.cell? ⟨w.heap.size + 1, 5, none⟩ = some (.slice none 0 0) := bx9.cell 5
      clear bxe bx9
      go_wp2_with first | (go_at_call 28; refine (HW.out _).mono ?_; rintro e w' ⟨rfl, h0⟩; have h0 := h0.symm; subst h0) | (go_at_call 29; refine (HD.out _).mono ?_; rintro e w' ⟨rfl, h0⟩; have h0 := h0.symm; subst h0)
      refine bodyPost_ret (v := .tuple #[.agg #[.int .i8 0, .bool false, .int .i64 0, .string ⟨#[]⟩, .slice none 0 0, .slice none 0 0], .int .i64 (k : Nat), .int .i64 40]) (by simp [results, Tryd.results16, go_sem, q0, q1, q2, q3, q4, q5]) rfl ?_
      exact HS.out.err _ 40
  have h102 := hc
  clear hc
  by_cases hc : s[k]'hlt = 116
  · rw [if_neg h110, if_neg h102, if_pos hc] at hG
    unfold wordM at hG
    have HD : Hid (∀ w, Calls Tryd.prog 29 #[.int .u8 (s[k]'hlt).toNat] w fun e w' => e = .returned (.bool false) ∧ w = w') := Lib.hid (fun w => Nu.rdigit_no _ (by rw [hc]; rfl) w)
    have b110 : (((s[k]'hlt).toNat : Int) == 110) = false := by rw [hc]; rfl
    have b116 : (((s[k]'hlt).toNat : Int) == 116) = true := by rw [hc]; rfl
    have b102 : (((s[k]'hlt).toNat : Int) == 102) = false := by rw [hc]; rfl
    have b45 : (((s[k]'hlt).toNat : Int) == 45) = false := by rw [hc]; rfl
    have b34 : (((s[k]'hlt).toNat : Int) == 34) = false := by rw [hc]; rfl
    have b91 : (((s[k]'hlt).toNat : Int) == 91) = false := by rw [hc]; rfl
    have b123 : (((s[k]'hlt).toNat : Int) == 123) = false := by rw [hc]; rfl
    by_cases hw : (s.data.toList.drop k).take [(116 : UInt8), (114 : UInt8), (117 : UInt8), (101 : UInt8)].length = ([116, 114, 117, 101] : List UInt8)
    · have HW := Lib.hid (fun w => begins_q s ⟨#[116, 114, 117, 101]⟩ k hk hs (show (4 + 0 : Nat) ≤ 100 by decide) (decide_eq_true hw) w)
      rw [if_pos hw] at hG
      obtain rfl := RunS.fin hG
      clear hG hw hc HI HD HGD
      have HS := Lib.hid (LW.start w 0)
      unfold zeroC at HS
      go_enter Tryd.func16, Tryd.ntmps16
      go_upto_region 2 with fail
      obtain ⟨X, hX⟩ : ∃ X, X = ((w.alloc (.cells #[.int .i8 0, .bool false, .int .i64 0, .string ⟨#[]⟩, .slice none 0 0, .slice none 0 0] 28)).alloc (.cells #[.int .i8 0, .bool false, .int .i64 0, .string ⟨#[]⟩, .slice none 0 0, .slice none 0 0] 28)) := ⟨_, rfl⟩
      rw [← hX] at HS ⊢
      clear hX
      have bxe := HS.out.z6
      have bx9 := HS.out.z9
      unfold zeroC at bxe
      have q0 : X.cell? ⟨w.heap.size, 0, none⟩ = some (.int .i8 0) := bxe.cell 0
      have qf0 := bxe.frozen 0
      have q1 : X.cell? ⟨w.heap.size, 1, none⟩ = some (.bool false) := bxe.cell 1
      have qf1 := bxe.frozen 1
      have q2 : X.cell? ⟨w.heap.size, 2, none⟩ = some (.int .i64 0) := bxe.cell 2
      have qf2 := bxe.frozen 2
      have q3 : X.cell? ⟨w.heap.size, 3, none⟩ = some (.string ⟨#[]⟩) := bxe.cell 3
      have qf3 := bxe.frozen 3
      have q4 : X.cell? ⟨w.heap.size, 4, none⟩ = some (.slice none 0 0) := bxe.cell 4
      have qf4 := bxe.frozen 4
      have q5 : X.cell? ⟨w.heap.size, 5, none⟩ = some (.slice none 0 0) := bxe.cell 5
      have qf5 := bxe.frozen 5
      have p0 : X.cell? ⟨w.heap.size + 1, 0, none⟩ = some (.int .i8 0) := bx9.cell 0
      have p1 : X.cell? ⟨w.heap.size + 1, 1, none⟩ = some (.bool false) := bx9.cell 1
      have p2 : X.cell? ⟨w.heap.size + 1, 2, none⟩ = some (.int .i64 0) := bx9.cell 2
      have p3 : X.cell? ⟨w.heap.size + 1, 3, none⟩ = some (.string ⟨#[]⟩) := bx9.cell 3
      have p4 : X.cell? ⟨w.heap.size + 1, 4, none⟩ = some (.slice none 0 0) := bx9.cell 4
      have p5 : X.cell? ⟨w.heap.size + 1, 5, none⟩ = some (.slice none 0 0) := bx9.cell 5
      clear bxe bx9
      go_wp2_with (go_at_call 28; refine (HW.out _).mono ?_; rintro e w' ⟨rfl, h0⟩; have h0 := h0.symm; subst h0)
      have hans := HS.out.leaf 1 true 0 ⟨#[]⟩ (by decide) (by decide) (by decide) (k + 4)
      rw [show ((k + 4 : Nat) : Int) = (k : Int) + 4 from rfl] at hans
      refine bodyPost_ret (v := .tuple #[.agg #[.int .i8 1, .bool true, .int .i64 0, .string ⟨#[]⟩, .slice none 0 0, .slice none 0 0], .int .i64 ((k : Int) + 4), .int .i64 0]) (by simp [results, Tryd.results16, go_sem, q0, q1, q2, q3, q4, q5]) rfl ?_
      exact hans
    · have HW := Lib.hid (fun w => begins_q s ⟨#[116, 114, 117, 101]⟩ k hk hs (show (4 + 0 : Nat) ≤ 100 by decide) (decide_eq_false hw) w)
      rw [if_neg hw] at hG
      have hRe : R = .error (k, 40) := hG
      subst hRe
      clear hG hw hc HI HGD
      have HS := Lib.hid (LW.start w 0)
      unfold zeroC at HS
      go_enter Tryd.func16, Tryd.ntmps16
      go_upto_region 2 with fail
      obtain ⟨X, hX⟩ : ∃ X, X = ((w.alloc (.cells #[.int .i8 0, .bool false, .int .i64 0, .string ⟨#[]⟩, .slice none 0 0, .slice none 0 0] 28)).alloc (.cells #[.int .i8 0, .bool false, .int .i64 0, .string ⟨#[]⟩, .slice none 0 0, .slice none 0 0] 28)) := ⟨_, rfl⟩
      rw [← hX] at HS ⊢
      clear hX
      have bxe := HS.out.z6
      have bx9 := HS.out.z9
      unfold zeroC at bxe
      have q0 : X.cell? ⟨w.heap.size, 0, none⟩ = some (.int .i8 0) := bxe.cell 0
      have qf0 := bxe.frozen 0
      have q1 : X.cell? ⟨w.heap.size, 1, none⟩ = some (.bool false) := bxe.cell 1
      have qf1 := bxe.frozen 1
      have q2 : X.cell? ⟨w.heap.size, 2, none⟩ = some (.int .i64 0) := bxe.cell 2
      have qf2 := bxe.frozen 2
      have q3 : X.cell? ⟨w.heap.size, 3, none⟩ = some (.string ⟨#[]⟩) := bxe.cell 3
      have qf3 := bxe.frozen 3
      have q4 : X.cell? ⟨w.heap.size, 4, none⟩ = some (.slice none 0 0) := bxe.cell 4
      have qf4 := bxe.frozen 4
      have q5 : X.cell? ⟨w.heap.size, 5, none⟩ = some (.slice none 0 0) := bxe.cell 5
      have qf5 := bxe.frozen 5
      have p0 : X.cell? ⟨w.heap.size + 1, 0, none⟩ = some (.int .i8 0) := bx9.cell 0
      have p1 : X.cell? ⟨w.heap.size + 1, 1, none⟩ = some (.bool false) := bx9.cell 1
      have p2 : X.cell? ⟨w.heap.size + 1, 2, none⟩ = some (.int .i64 0) := bx9.cell 2
      have p3 : X.cell? ⟨w.heap.size + 1, 3, none⟩ = some (.string ⟨#[]⟩) := bx9.cell 3
      have p4 : X.cell? ⟨w.heap.size + 1, 4, none⟩ = some (.slice none 0 0) := bx9.cell 4
      have p5 : X.cell? ⟨w.heap.size + 1, 5, none⟩ = some (.slice none 0 0) := bx9.cell 5
      clear bxe bx9
      go_wp2_with first | (go_at_call 28; refine (HW.out _).mono ?_; rintro e w' ⟨rfl, h0⟩; have h0 := h0.symm; subst h0) | (go_at_call 29; refine (HD.out _).mono ?_; rintro e w' ⟨rfl, h0⟩; have h0 := h0.symm; subst h0)
      refine bodyPost_ret (v := .tuple #[.agg #[.int .i8 0, .bool false, .int .i64 0, .string ⟨#[]⟩, .slice none 0 0, .slice none 0 0], .int .i64 (k : Nat), .int .i64 40]) (by simp [results, Tryd.results16, go_sem, q0, q1, q2, q3, q4, q5]) rfl ?_
      exact HS.out.err _ 40
  have h116 := hc
  clear hc
  rw [if_neg h110, if_neg h102, if_neg h116] at hG
  by_cases hc : s[k]'hlt = 45
  · rw [if_pos (by rw [hc]; rfl)] at hG
    have HD : Hid True := Lib.hid trivial
    have b110 : (((s[k]'hlt).toNat : Int) == 110) = false := by rw [hc]; rfl
    have b116 : (((s[k]'hlt).toNat : Int) == 116) = false := by rw [hc]; rfl
    have b102 : (((s[k]'hlt).toNat : Int) == 102) = false := by rw [hc]; rfl
    have b45 : (((s[k]'hlt).toNat : Int) == 45) = true := by rw [hc]; rfl
    have b34 : (((s[k]'hlt).toNat : Int) == 34) = false := by rw [hc]; rfl
    have b91 : (((s[k]'hlt).toNat : Int) == 91) = false := by rw [hc]; rfl
    have b123 : (((s[k]'hlt).toNat : Int) == 123) = false := by rw [hc]; rfl
    obtain ⟨nn, E, X0, hsc, hn1, hn2, hE⟩ := scan_sign (s := s.data.toList) (k := k) (by rw [toList_length]; exact hlt)
    unfold numM at hG
    rw [hsc] at hG
    simp only at hG
    have HC : Hid (∀ w, Calls Tryd.prog 30 #[.string s, .int .i64 k] w fun e w' => e = .returned (.tuple #[.int .i64 nn, .int .i64 (E : Nat), .int .i64 (X0 : Nat)]) ∧ w = w') := Lib.hid (fun w => by
      have := Nu.rscan_any s (by unfold maxLen; omega) k w
      rw [hsc] at this
      exact this)
    by_cases hX0 : X0 = 0
    · subst hX0
      rw [if_pos (by rfl)] at hG
      rw [Int.toNat_natCast] at hG
      obtain rfl := RunS.fin hG
      clear hG hsc HI HGD hc
      have HS := Lib.hid (LW.start w 0)
      unfold zeroC at HS
      go_enter Tryd.func16, Tryd.ntmps16
      go_upto_region 2 with fail
      obtain ⟨X, hX⟩ : ∃ X, X = ((w.alloc (.cells #[.int .i8 0, .bool false, .int .i64 0, .string ⟨#[]⟩, .slice none 0 0, .slice none 0 0] 28)).alloc (.cells #[.int .i8 0, .bool false, .int .i64 0, .string ⟨#[]⟩, .slice none 0 0, .slice none 0 0] 28)) := ⟨_, rfl⟩
      rw [← hX] at HS ⊢
      clear hX
      have bxe := HS.out.z6
      have bx9 := HS.out.z9
      unfold zeroC at bxe
      have q0 : X.cell? ⟨w.heap.size, 0, none⟩ = some (.int .i8 0) := bxe.cell 0
      have qf0 := bxe.frozen 0
      have q1 : X.cell? ⟨w.heap.size, 1, none⟩ = some (.bool false) := bxe.cell 1
      have qf1 := bxe.frozen 1
      have q2 : X.cell? ⟨w.heap.size, 2, none⟩ = some (.int .i64 0) := bxe.cell 2
      have qf2 := bxe.frozen 2
      have q3 : X.cell? ⟨w.heap.size, 3, none⟩ = some (.string ⟨#[]⟩) := bxe.cell 3
      have qf3 := bxe.frozen 3
      have q4 : X.cell? ⟨w.heap.size, 4, none⟩ = some (.slice none 0 0) := bxe.cell 4
      have qf4 := bxe.frozen 4
      have q5 : X.cell? ⟨w.heap.size, 5, none⟩ = some (.slice none 0 0) := bxe.cell 5
      have qf5 := bxe.frozen 5
      have p0 : X.cell? ⟨w.heap.size + 1, 0, none⟩ = some (.int .i8 0) := bx9.cell 0
      have p1 : X.cell? ⟨w.heap.size + 1, 1, none⟩ = some (.bool false) := bx9.cell 1
      have p2 : X.cell? ⟨w.heap.size + 1, 2, none⟩ = some (.int .i64 0) := bx9.cell 2
      have p3 : X.cell? ⟨w.heap.size + 1, 3, none⟩ = some (.string ⟨#[]⟩) := bx9.cell 3
      have p4 : X.cell? ⟨w.heap.size + 1, 4, none⟩ = some (.slice none 0 0) := bx9.cell 4
      have p5 : X.cell? ⟨w.heap.size + 1, 5, none⟩ = some (.slice none 0 0) := bx9.cell 5
      clear bxe bx9
      go_wp2_with first | (go_at_call 30; refine (HC.out _).mono ?_; rintro e w' ⟨rfl, h0⟩; have h0 := h0.symm; subst h0)
      have hans := HS.out.leaf 2 false nn ⟨#[]⟩ (by decide) (by omega) (by decide) E
      refine bodyPost_ret (v := .tuple #[.agg #[.int .i8 2, .bool false, .int .i64 nn, .string ⟨#[]⟩, .slice none 0 0, .slice none 0 0], .int .i64 (E : Nat), .int .i64 0]) (by simp [results, Tryd.results16, go_sem, q0, q1, q2, q3, q4, q5]) rfl ?_
      exact hans
    · rw [if_neg (by omega)] at hG
      rw [Int.toNat_natCast, Int.toNat_natCast] at hG
      have hRe : R = .error (E, X0) := hG
      subst hRe
      have t1 : ((X0 : Int) == 0) = false := by rw [beq_eq_false_iff_ne]; omega
      have t2 : ((X0 : Int) != 0) = true := by rw [bne_iff_ne]; omega
      clear hG hsc HI HGD hX0 hc
      have HS := Lib.hid (LW.start w 0)
      unfold zeroC at HS
      go_enter Tryd.func16, Tryd.ntmps16
      go_upto_region 2 with fail
      obtain ⟨X, hX⟩ : ∃ X, X = ((w.alloc (.cells #[.int .i8 0, .bool false, .int .i64 0, .string ⟨#[]⟩, .slice none 0 0, .slice none 0 0] 28)).alloc (.cells #[.int .i8 0, .bool false, .int .i64 0, .string ⟨#[]⟩, .slice none 0 0, .slice none 0 0] 28)) := ⟨_, rfl⟩
      rw [← hX] at HS ⊢
      clear hX
      have bxe := HS.out.z6
      have bx9 := HS.out.z9
      unfold zeroC at bxe
      have q0 : X.cell? ⟨w.heap.size, 0, none⟩ = some (.int .i8 0) := bxe.cell 0
      have qf0 := bxe.frozen 0
      have q1 : X.cell? ⟨w.heap.size, 1, none⟩ = some (.bool false) := bxe.cell 1
      have qf1 := bxe.frozen 1
      have q2 : X.cell? ⟨w.heap.size, 2, none⟩ = some (.int .i64 0) := bxe.cell 2
      have qf2 := bxe.frozen 2
      have q3 : X.cell? ⟨w.heap.size, 3, none⟩ = some (.string ⟨#[]⟩) := bxe.cell 3
      have qf3 := bxe.frozen 3
      have q4 : X.cell? ⟨w.heap.size, 4, none⟩ = some (.slice none 0 0) := bxe.cell 4
      have qf4 := bxe.frozen 4
      have q5 : X.cell? ⟨w.heap.size, 5, none⟩ = some (.slice none 0 0) := bxe.cell 5
      have qf5 := bxe.frozen 5
      have p0 : X.cell? ⟨w.heap.size + 1, 0, none⟩ = some (.int .i8 0) := bx9.cell 0
      have p1 : X.cell? ⟨w.heap.size + 1, 1, none⟩ = some (.bool false) := bx9.cell 1
      have p2 : X.cell? ⟨w.heap.size + 1, 2, none⟩ = some (.int .i64 0) := bx9.cell 2
      have p3 : X.cell? ⟨w.heap.size + 1, 3, none⟩ = some (.string ⟨#[]⟩) := bx9.cell 3
      have p4 : X.cell? ⟨w.heap.size + 1, 4, none⟩ = some (.slice none 0 0) := bx9.cell 4
      have p5 : X.cell? ⟨w.heap.size + 1, 5, none⟩ = some (.slice none 0 0) := bx9.cell 5
      clear bxe bx9
      go_wp2_with first | (go_at_call 30; refine (HC.out _).mono ?_; rintro e w' ⟨rfl, h0⟩; have h0 := h0.symm; subst h0)
      refine bodyPost_ret (v := .tuple #[.agg #[.int .i8 0, .bool false, .int .i64 0, .string ⟨#[]⟩, .slice none 0 0, .slice none 0 0], .int .i64 (E : Nat), .int .i64 (X0 : Nat)]) (by simp [results, Tryd.results16, go_sem, q0, q1, q2, q3, q4, q5]) rfl ?_
      exact HS.out.err _ _

  have h45 := hc
  clear hc
  by_cases hc : Nu.isD (s[k]'hlt) = true
  · rw [if_pos (by unfold numB; rw [hc, Bool.or_true])] at hG
    have HD : Hid (∀ w, Calls Tryd.prog 29 #[.int .u8 (s[k]'hlt).toNat] w fun e w' => e = .returned (.bool true) ∧ w = w') := Lib.hid (fun w => Nu.rdigit_yes _ hc w)
    have hdg : 48 ≤ (s[k]'hlt).toNat ∧ (s[k]'hlt).toNat ≤ 57 := by
      unfold Nu.isD at hc
      simpa using hc
    have b110 : (((s[k]'hlt).toNat : Int) == 110) = false := by rw [beq_eq_false_iff_ne]; omega
    have b116 : (((s[k]'hlt).toNat : Int) == 116) = false := by rw [beq_eq_false_iff_ne]; omega
    have b102 : (((s[k]'hlt).toNat : Int) == 102) = false := by rw [beq_eq_false_iff_ne]; omega
    have b45 : (((s[k]'hlt).toNat : Int) == 45) = false := by rw [beq_eq_false_iff_ne]; omega
    have b34 : (((s[k]'hlt).toNat : Int) == 34) = false := by rw [beq_eq_false_iff_ne]; omega
    have b91 : (((s[k]'hlt).toNat : Int) == 91) = false := by rw [beq_eq_false_iff_ne]; omega
    have b123 : (((s[k]'hlt).toNat : Int) == 123) = false := by rw [beq_eq_false_iff_ne]; omega
    clear hdg
    obtain ⟨nn, E, X0, hsc, hn1, hn2, hE⟩ := scan_sign (s := s.data.toList) (k := k) (by rw [toList_length]; exact hlt)
    unfold numM at hG
    rw [hsc] at hG
    simp only at hG
    have HC : Hid (∀ w, Calls Tryd.prog 30 #[.string s, .int .i64 k] w fun e w' => e = .returned (.tuple #[.int .i64 nn, .int .i64 (E : Nat), .int .i64 (X0 : Nat)]) ∧ w = w') := Lib.hid (fun w => by
      have := Nu.rscan_any s (by unfold maxLen; omega) k w
      rw [hsc] at this
      exact this)
    by_cases hX0 : X0 = 0
    · subst hX0
      rw [if_pos (by rfl)] at hG
      rw [Int.toNat_natCast] at hG
      obtain rfl := RunS.fin hG
      clear hG hsc HI HGD hc
      have HS := Lib.hid (LW.start w 0)
      unfold zeroC at HS
      go_enter Tryd.func16, Tryd.ntmps16
      go_upto_region 2 with fail
      obtain ⟨X, hX⟩ : ∃ X, X = ((w.alloc (.cells #[.int .i8 0, .bool false, .int .i64 0, .string ⟨#[]⟩, .slice none 0 0, .slice none 0 0] 28)).alloc (.cells #[.int .i8 0, .bool false, .int .i64 0, .string ⟨#[]⟩, .slice none 0 0, .slice none 0 0] 28)) := ⟨_, rfl⟩
      rw [← hX] at HS ⊢
      clear hX
      have bxe := HS.out.z6
      have bx9 := HS.out.z9
      unfold zeroC at bxe
      have q0 : X.cell? ⟨w.heap.size, 0, none⟩ = some (.int .i8 0) := bxe.cell 0
      have qf0 := bxe.frozen 0
      have q1 : X.cell? ⟨w.heap.size, 1, none⟩ = some (.bool false) := bxe.cell 1
      have qf1 := bxe.frozen 1
      have q2 : X.cell? ⟨w.heap.size, 2, none⟩ = some (.int .i64 0) := bxe.cell 2
      have qf2 := bxe.frozen 2
      have q3 : X.cell? ⟨w.heap.size, 3, none⟩ = some (.string ⟨#[]⟩) := bxe.cell 3
      have qf3 := bxe.frozen 3
      have q4 : X.cell? ⟨w.heap.size, 4, none⟩ = some (.slice none 0 0) := bxe.cell 4
      have qf4 := bxe.frozen 4
      have q5 : X.cell? ⟨w.heap.size, 5, none⟩ = some (.slice none 0 0) := bxe.cell 5
      have qf5 := bxe.frozen 5
      have p0 : X.cell? ⟨w.heap.size + 1, 0, none⟩ = some (.int .i8 0) := bx9.cell 0
      have p1 : X.cell? ⟨w.heap.size + 1, 1, none⟩ = some (.bool false) := bx9.cell 1
      have p2 : X.cell? ⟨w.heap.size + 1, 2, none⟩ = some (.int .i64 0) := bx9.cell 2
      have p3 : X.cell? ⟨w.heap.size + 1, 3, none⟩ = some (.string ⟨#[]⟩) := bx9.cell 3
      have p4 : X.cell? ⟨w.heap.size + 1, 4, none⟩ = some (.slice none 0 0) := bx9.cell 4
      have p5 : X.cell? ⟨w.heap.size + 1, 5, none⟩ = some (.slice none 0 0) := bx9.cell 5
      clear bxe bx9
      go_wp2_with first | (go_at_call 29; refine (HD.out _).mono ?_; rintro e w' ⟨rfl, h0⟩; have h0 := h0.symm; subst h0) | (go_at_call 30; refine (HC.out _).mono ?_; rintro e w' ⟨rfl, h0⟩; have h0 := h0.symm; subst h0)
      have hans := HS.out.leaf 2 false nn ⟨#[]⟩ (by decide) (by omega) (by decide) E
      refine bodyPost_ret (v := .tuple #[.agg #[.int .i8 2, .bool false, .int .i64 nn, .string ⟨#[]⟩, .slice none 0 0, .slice none 0 0], .int .i64 (E : Nat), .int .i64 0]) (by simp [results, Tryd.results16, go_sem, q0, q1, q2, q3, q4, q5]) rfl ?_
      exact hans
    · rw [if_neg (by omega)] at hG
      rw [Int.toNat_natCast, Int.toNat_natCast] at hG
      have hRe : R = .error (E, X0) := hG
      subst hRe
      have t1 : ((X0 : Int) == 0) = false := by rw [beq_eq_false_iff_ne]; omega
      have t2 : ((X0 : Int) != 0) = true := by rw [bne_iff_ne]; omega
      clear hG hsc HI HGD hX0 hc
      have HS := Lib.hid (LW.start w 0)
      unfold zeroC at HS
      go_enter Tryd.func16, Tryd.ntmps16
      go_upto_region 2 with fail
      obtain ⟨X, hX⟩ : ∃ X, X = ((w.alloc (.cells #[.int .i8 0, .bool false, .int .i64 0, .string ⟨#[]⟩, .slice none 0 0, .slice none 0 0] 28)).alloc (.cells #[.int .i8 0, .bool false, .int .i64 0, .string ⟨#[]⟩, .slice none 0 0, .slice none 0 0] 28)) := ⟨_, rfl⟩
      rw [← hX] at HS ⊢
      clear hX
      have bxe := HS.out.z6
      have bx9 := HS.out.z9
      unfold zeroC at bxe
      have q0 : X.cell? ⟨w.heap.size, 0, none⟩ = some (.int .i8 0) := bxe.cell 0
      have qf0 := bxe.frozen 0
      have q1 : X.cell? ⟨w.heap.size, 1, none⟩ = some (.bool false) := bxe.cell 1
      have qf1 := bxe.frozen 1
      have q2 : X.cell? ⟨w.heap.size, 2, none⟩ = some (.int .i64 0) := bxe.cell 2
      have qf2 := bxe.frozen 2
      have q3 : X.cell? ⟨w.heap.size, 3, none⟩ = some (.string ⟨#[]⟩) := bxe.cell 3
      have qf3 := bxe.frozen 3
      have q4 : X.cell? ⟨w.heap.size, 4, none⟩ = some (.slice none 0 0) := bxe.cell 4
      have qf4 := bxe.frozen 4
      have q5 : X.cell? ⟨w.heap.size, 5, none⟩ = some (.slice none 0 0) := bxe.cell 5
      have qf5 := bxe.frozen 5
      have p0 : X.cell? ⟨w.heap.size + 1, 0, none⟩ = some (.int .i8 0) := bx9.cell 0
      have p1 : X.cell? ⟨w.heap.size + 1, 1, none⟩ = some (.bool false) := bx9.cell 1
      have p2 : X.cell? ⟨w.heap.size + 1, 2, none⟩ = some (.int .i64 0) := bx9.cell 2
      have p3 : X.cell? ⟨w.heap.size + 1, 3, none⟩ = some (.string ⟨#[]⟩) := bx9.cell 3
      have p4 : X.cell? ⟨w.heap.size + 1, 4, none⟩ = some (.slice none 0 0) := bx9.cell 4
      have p5 : X.cell? ⟨w.heap.size + 1, 5, none⟩ = some (.slice none 0 0) := bx9.cell 5
      clear bxe bx9
      go_wp2_with first | (go_at_call 29; refine (HD.out _).mono ?_; rintro e w' ⟨rfl, h0⟩; have h0 := h0.symm; subst h0) | (go_at_call 30; refine (HC.out _).mono ?_; rintro e w' ⟨rfl, h0⟩; have h0 := h0.symm; subst h0)
      refine bodyPost_ret (v := .tuple #[.agg #[.int .i8 0, .bool false, .int .i64 0, .string ⟨#[]⟩, .slice none 0 0, .slice none 0 0], .int .i64 (E : Nat), .int .i64 (X0 : Nat)]) (by simp [results, Tryd.results16, go_sem, q0, q1, q2, q3, q4, q5]) rfl ?_
      exact HS.out.err _ _

  have hnd : Nu.isD (s[k]'hlt) = false := by simpa using hc
  clear hc
  have HD : Hid (∀ w, Calls Tryd.prog 29 #[.int .u8 (s[k]'hlt).toNat] w fun e w' => e = .returned (.bool false) ∧ w = w') := Lib.hid (fun w => Nu.rdigit_no _ hnd w)
  rw [if_neg (by unfold numB; rw [hnd, Bool.or_false]; simpa using h45)] at hG
  by_cases hc : s[k]'hlt = 34
  · rw [if_pos hc] at hG
    have b110 : (((s[k]'hlt).toNat : Int) == 110) = false := by rw [hc]; rfl
    have b116 : (((s[k]'hlt).toNat : Int) == 116) = false := by rw [hc]; rfl
    have b102 : (((s[k]'hlt).toNat : Int) == 102) = false := by rw [hc]; rfl
    have b45 : (((s[k]'hlt).toNat : Int) == 45) = false := by rw [hc]; rfl
    have b34 : (((s[k]'hlt).toNat : Int) == 34) = true := by rw [hc]; rfl
    have b91 : (((s[k]'hlt).toNat : Int) == 91) = false := by rw [hc]; rfl
    have b123 : (((s[k]'hlt).toNat : Int) == 123) = false := by rw [hc]; rfl
    have hq : s.data.toList[k]? = some 34 := by rw [toList_getElem s k hlt, hc]
    obtain ⟨tt, E, X0, hu⟩ : ∃ t E X, Ru.unqL s.data.toList k = (t, E, X) := ⟨_, _, _, rfl⟩
    unfold texM at hG
    rw [hu] at hG
    simp only at hG
    have HU := Lib.hid (fun w => ruq_any s hs hq hu w)
    have htt : (⟨tt.toArray⟩ : ByteArray).size ≤ 100000 := by
      have h1 := unqL_len s.data.toList k
      rw [hu, toList_length] at h1
      rw [show (⟨tt.toArray⟩ : ByteArray).size = tt.length from by simp [ByteArray.size]]
      simp only at h1
      omega
    obtain ⟨te, hte⟩ : ∃ te : ByteArray, te = ⟨tt.toArray⟩ := ⟨_, rfl⟩
    rw [← hte] at HU htt
    have HTT := Lib.hid htt
    clear htt
    by_cases hX0 : X0 = 0
    · subst hX0
      rw [if_pos rfl] at hG
      unfold texV at hG
      rw [← hte] at hG
      obtain rfl := RunS.fin hG
      clear hG hu HI HGD hc hq hte hnd
      have HS := Lib.hid (LW.start w 0)
      unfold zeroC at HS
      go_enter Tryd.func16, Tryd.ntmps16
      go_upto_region 2 with fail
      obtain ⟨X, hX⟩ : ∃ X, X = ((w.alloc (.cells #[.int .i8 0, .bool false, .int .i64 0, .string ⟨#[]⟩, .slice none 0 0, .slice none 0 0] 28)).alloc (.cells #[.int .i8 0, .bool false, .int .i64 0, .string ⟨#[]⟩, .slice none 0 0, .slice none 0 0] 28)) := ⟨_, rfl⟩
      rw [← hX] at HS ⊢
      clear hX
      go_wp2_with first | (go_at_call 29; refine (HD.out _).mono ?_; rintro e w' ⟨rfl, h0⟩; have h0 := h0.symm; subst h0) | (go_at_call 31; fail)
      refine (HU.out _).mono ?_
      rintro e w5 ⟨rfl, hb5⟩
      have HL5 := Lib.hid (HS.out.below hb5)
      clear hb5
      have bxe := HL5.out.z6
      have bx9 := HL5.out.z9
      unfold zeroC at bxe
      have q0 : w5.cell? ⟨w.heap.size, 0, none⟩ = some (.int .i8 0) := bxe.cell 0
      have qf0 := bxe.frozen 0
      have q1 : w5.cell? ⟨w.heap.size, 1, none⟩ = some (.bool false) := bxe.cell 1
      have qf1 := bxe.frozen 1
      have q2 : w5.cell? ⟨w.heap.size, 2, none⟩ = some (.int .i64 0) := bxe.cell 2
      have qf2 := bxe.frozen 2
      have q3 : w5.cell? ⟨w.heap.size, 3, none⟩ = some (.string ⟨#[]⟩) := bxe.cell 3
      have qf3 := bxe.frozen 3
      have q4 : w5.cell? ⟨w.heap.size, 4, none⟩ = some (.slice none 0 0) := bxe.cell 4
      have qf4 := bxe.frozen 4
      have q5 : w5.cell? ⟨w.heap.size, 5, none⟩ = some (.slice none 0 0) := bxe.cell 5
      have qf5 := bxe.frozen 5
      have p0 : w5.cell? ⟨w.heap.size + 1, 0, none⟩ = some (.int .i8 0) := bx9.cell 0
      have p1 : w5.cell? ⟨w.heap.size + 1, 1, none⟩ = some (.bool false) := bx9.cell 1
      have p2 : w5.cell? ⟨w.heap.size + 1, 2, none⟩ = some (.int .i64 0) := bx9.cell 2
      have p3 : w5.cell? ⟨w.heap.size + 1, 3, none⟩ = some (.string ⟨#[]⟩) := bx9.cell 3
      have p4 : w5.cell? ⟨w.heap.size + 1, 4, none⟩ = some (.slice none 0 0) := bx9.cell 4
      have p5 : w5.cell? ⟨w.heap.size + 1, 5, none⟩ = some (.slice none 0 0) := bx9.cell 5
      clear bxe bx9
      go_wp2_with fail
      have hans := HL5.out.leaf 3 false 0 te (by decide) (by decide) (by have := HTT.out; unfold maxLen; omega) E
      refine bodyPost_ret (v := .tuple #[.agg #[.int .i8 3, .bool false, .int .i64 0, .string te, .slice none 0 0, .slice none 0 0], .int .i64 (E : Nat), .int .i64 0]) (by simp [results, Tryd.results16, go_sem, q0, q1, q2, q3, q4, q5]) rfl ?_
      exact hans
    · rw [if_neg hX0] at hG
      have hRe : R = .error (E, X0) := hG
      subst hRe
      have t1 : ((X0 : Int) == 0) = false := by rw [beq_eq_false_iff_ne]; omega
      have t2 : ((X0 : Int) != 0) = true := by rw [bne_iff_ne]; omega
      clear hG hu HI HGD hc hq hte hnd hX0
      have HS := Lib.hid (LW.start w 0)
      unfold zeroC at HS
      go_enter Tryd.func16, Tryd.ntmps16
      go_upto_region 2 with fail
      obtain ⟨X, hX⟩ : ∃ X, X = ((w.alloc (.cells #[.int .i8 0, .bool false, .int .i64 0, .string ⟨#[]⟩, .slice none 0 0, .slice none 0 0] 28)).alloc (.cells #[.int .i8 0, .bool false, .int .i64 0, .string ⟨#[]⟩, .slice none 0 0, .slice none 0 0] 28)) := ⟨_, rfl⟩
      rw [← hX] at HS ⊢
      clear hX
      go_wp2_with first | (go_at_call 29; refine (HD.out _).mono ?_; rintro e w' ⟨rfl, h0⟩; have h0 := h0.symm; subst h0) | (go_at_call 31; fail)
      refine (HU.out _).mono ?_
      rintro e w5 ⟨rfl, hb5⟩
      have HL5 := Lib.hid (HS.out.below hb5)
      clear hb5
      have bxe := HL5.out.z6
      have bx9 := HL5.out.z9
      unfold zeroC at bxe
      have q0 : w5.cell? ⟨w.heap.size, 0, none⟩ = some (.int .i8 0) := bxe.cell 0
      have qf0 := bxe.frozen 0
      have q1 : w5.cell? ⟨w.heap.size, 1, none⟩ = some (.bool false) := bxe.cell 1
      have qf1 := bxe.frozen 1
      have q2 : w5.cell? ⟨w.heap.size, 2, none⟩ = some (.int .i64 0) := bxe.cell 2
      have qf2 := bxe.frozen 2
      have q3 : w5.cell? ⟨w.heap.size, 3, none⟩ = some (.string ⟨#[]⟩) := bxe.cell 3
      have qf3 := bxe.frozen 3
      have q4 : w5.cell? ⟨w.heap.size, 4, none⟩ = some (.slice none 0 0) := bxe.cell 4
      have qf4 := bxe.frozen 4
      have q5 : w5.cell? ⟨w.heap.size, 5, none⟩ = some (.slice none 0 0) := bxe.cell 5
      have qf5 := bxe.frozen 5
      have p0 : w5.cell? ⟨w.heap.size + 1, 0, none⟩ = some (.int .i8 0) := bx9.cell 0
      have p1 : w5.cell? ⟨w.heap.size + 1, 1, none⟩ = some (.bool false) := bx9.cell 1
      have p2 : w5.cell? ⟨w.heap.size + 1, 2, none⟩ = some (.int .i64 0) := bx9.cell 2
      have p3 : w5.cell? ⟨w.heap.size + 1, 3, none⟩ = some (.string ⟨#[]⟩) := bx9.cell 3
      have p4 : w5.cell? ⟨w.heap.size + 1, 4, none⟩ = some (.slice none 0 0) := bx9.cell 4
      have p5 : w5.cell? ⟨w.heap.size + 1, 5, none⟩ = some (.slice none 0 0) := bx9.cell 5
      clear bxe bx9
      go_wp2_with fail
      refine bodyPost_ret (v := .tuple #[.agg #[.int .i8 0, .bool false, .int .i64 0, .string ⟨#[]⟩, .slice none 0 0, .slice none 0 0], .int .i64 (E : Nat), .int .i64 (X0 : Nat)]) (by simp [results, Tryd.results16, go_sem, q0, q1, q2, q3, q4, q5]) rfl ?_
      exact HL5.out.err _ _
  rw [if_neg hc] at hG
  have h34 := hc
  clear hc
  by_cases hc : s[k]'hlt = 91
  · rw [if_pos hc] at hG
    have b110 : (((s[k]'hlt).toNat : Int) == 110) = false := by rw [hc]; rfl
    have b116 : (((s[k]'hlt).toNat : Int) == 116) = false := by rw [hc]; rfl
    have b102 : (((s[k]'hlt).toNat : Int) == 102) = false := by rw [hc]; rfl
    have b45 : (((s[k]'hlt).toNat : Int) == 45) = false := by rw [hc]; rfl
    have b34 : (((s[k]'hlt).toNat : Int) == 34) = false := by rw [hc]; rfl
    have b91 : (((s[k]'hlt).toNat : Int) == 91) = true := by rw [hc]; rfl
    have b123 : (((s[k]'hlt).toNat : Int) == 123) = false := by rw [hc]; rfl
    have HC := Lib.hid (fun w => rlist_any s k d hlt hs hd1 hd3 w HI.out R hG)
    clear hG HI HGD hc hnd
    have HS := Lib.hid (LW.start w 0)
    unfold zeroC at HS
    go_enter Tryd.func16, Tryd.ntmps16
    go_upto_region 2 with fail
    obtain ⟨X, hX⟩ : ∃ X, X = ((w.alloc (.cells #[.int .i8 0, .bool false, .int .i64 0, .string ⟨#[]⟩, .slice none 0 0, .slice none 0 0] 28)).alloc (.cells #[.int .i8 0, .bool false, .int .i64 0, .string ⟨#[]⟩, .slice none 0 0, .slice none 0 0] 28)) := ⟨_, rfl⟩
    rw [← hX] at HS ⊢
    clear hX
    go_wp2_with first | (go_at_call 29; refine (HD.out _).mono ?_; rintro e w' ⟨rfl, h0⟩; have h0 := h0.symm; subst h0) | (go_at_call 32; fail)
    refine (HC.out _).mono ?_
    intro e w5 h5
    cases R with
    | error q =>
      obtain ⟨a, c⟩ := q
      obtain ⟨rfl, hb5⟩ := h5
      have HL5 := Lib.hid (HS.out.below hb5)
      clear hb5
      unfold zeroV
      have bxe := HL5.out.z6
      have bx9 := HL5.out.z9
      unfold zeroC at bxe
      have q0 : w5.cell? ⟨w.heap.size, 0, none⟩ = some (.int .i8 0) := bxe.cell 0
      have qf0 := bxe.frozen 0
      have q1 : w5.cell? ⟨w.heap.size, 1, none⟩ = some (.bool false) := bxe.cell 1
      have qf1 := bxe.frozen 1
      have q2 : w5.cell? ⟨w.heap.size, 2, none⟩ = some (.int .i64 0) := bxe.cell 2
      have qf2 := bxe.frozen 2
      have q3 : w5.cell? ⟨w.heap.size, 3, none⟩ = some (.string ⟨#[]⟩) := bxe.cell 3
      have qf3 := bxe.frozen 3
      have q4 : w5.cell? ⟨w.heap.size, 4, none⟩ = some (.slice none 0 0) := bxe.cell 4
      have qf4 := bxe.frozen 4
      have q5 : w5.cell? ⟨w.heap.size, 5, none⟩ = some (.slice none 0 0) := bxe.cell 5
      have qf5 := bxe.frozen 5
      have p0 : w5.cell? ⟨w.heap.size + 1, 0, none⟩ = some (.int .i8 0) := bx9.cell 0
      have p1 : w5.cell? ⟨w.heap.size + 1, 1, none⟩ = some (.bool false) := bx9.cell 1
      have p2 : w5.cell? ⟨w.heap.size + 1, 2, none⟩ = some (.int .i64 0) := bx9.cell 2
      have p3 : w5.cell? ⟨w.heap.size + 1, 3, none⟩ = some (.string ⟨#[]⟩) := bx9.cell 3
      have p4 : w5.cell? ⟨w.heap.size + 1, 4, none⟩ = some (.slice none 0 0) := bx9.cell 4
      have p5 : w5.cell? ⟨w.heap.size + 1, 5, none⟩ = some (.slice none 0 0) := bx9.cell 5
      clear bxe bx9
      go_wp2_with fail
      refine bodyPost_ret (v := .tuple #[.agg #[.int .i8 0, .bool false, .int .i64 0, .string ⟨#[]⟩, .slice none 0 0, .slice none 0 0], .int .i64 (a : Nat), .int .i64 (c : Nat)]) (by simp [results, Tryd.results16, go_sem, q0, q1, q2, q3, q4, q5]) rfl ?_
      exact HL5.out.err _ _
    | ok p =>
      obtain ⟨v, E⟩ := p
      obtain ⟨val, S, rfl, hva, hS, hb5⟩ := h5
      obtain ⟨kd, bo, nu, te, o1, n1, m1, o2, n2, m2, rfl⟩ := isVa_form hva
      have HL5 := Lib.hid (HS.out.below hb5)
      have HP := Lib.hid (HL5.out.pass hva (fun q e => by have := hS q e; have := HS.out.z6.lt; omega) E)
      clear hb5 hva hS
      have bxe := HL5.out.z6
      have bx9 := HL5.out.z9
      unfold zeroC at bxe
      have q0 : w5.cell? ⟨w.heap.size, 0, none⟩ = some (.int .i8 0) := bxe.cell 0
      have qf0 := bxe.frozen 0
      have q1 : w5.cell? ⟨w.heap.size, 1, none⟩ = some (.bool false) := bxe.cell 1
      have qf1 := bxe.frozen 1
      have q2 : w5.cell? ⟨w.heap.size, 2, none⟩ = some (.int .i64 0) := bxe.cell 2
      have qf2 := bxe.frozen 2
      have q3 : w5.cell? ⟨w.heap.size, 3, none⟩ = some (.string ⟨#[]⟩) := bxe.cell 3
      have qf3 := bxe.frozen 3
      have q4 : w5.cell? ⟨w.heap.size, 4, none⟩ = some (.slice none 0 0) := bxe.cell 4
      have qf4 := bxe.frozen 4
      have q5 : w5.cell? ⟨w.heap.size, 5, none⟩ = some (.slice none 0 0) := bxe.cell 5
      have qf5 := bxe.frozen 5
      have p0 : w5.cell? ⟨w.heap.size + 1, 0, none⟩ = some (.int .i8 0) := bx9.cell 0
      have p1 : w5.cell? ⟨w.heap.size + 1, 1, none⟩ = some (.bool false) := bx9.cell 1
      have p2 : w5.cell? ⟨w.heap.size + 1, 2, none⟩ = some (.int .i64 0) := bx9.cell 2
      have p3 : w5.cell? ⟨w.heap.size + 1, 3, none⟩ = some (.string ⟨#[]⟩) := bx9.cell 3
      have p4 : w5.cell? ⟨w.heap.size + 1, 4, none⟩ = some (.slice none 0 0) := bx9.cell 4
      have p5 : w5.cell? ⟨w.heap.size + 1, 5, none⟩ = some (.slice none 0 0) := bx9.cell 5
      clear bxe bx9
      go_wp2_with fail
      refine bodyPost_ret (v := .tuple #[.agg #[.int .i8 kd, .bool bo, .int .i64 nu, .string te, .slice o1 n1 m1, .slice o2 n2 m2], .int .i64 (E : Nat), .int .i64 0]) (by simp [results, Tryd.results16, go_sem, q0, q1, q2, q3, q4, q5]) rfl ?_
      exact HP.out
  rw [if_neg hc] at hG
  have h91 := hc
  clear hc
  by_cases hc : s[k]'hlt = 123
  · rw [if_pos hc] at hG
    have b110 : (((s[k]'hlt).toNat : Int) == 110) = false := by rw [hc]; rfl
    have b116 : (((s[k]'hlt).toNat : Int) == 116) = false := by rw [hc]; rfl
    have b102 : (((s[k]'hlt).toNat : Int) == 102) = false := by rw [hc]; rfl
    have b45 : (((s[k]'hlt).toNat : Int) == 45) = false := by rw [hc]; rfl
    have b34 : (((s[k]'hlt).toNat : Int) == 34) = false := by rw [hc]; rfl
    have b91 : (((s[k]'hlt).toNat : Int) == 91) = false := by rw [hc]; rfl
    have b123 : (((s[k]'hlt).toNat : Int) == 123) = true := by rw [hc]; rfl
    have HC := Lib.hid (fun w => robject_any s k d hlt hs hd1 hd3 w HI.out R hG)
    clear hG HI HGD hc hnd
    have HS := Lib.hid (LW.start w 0)
    unfold zeroC at HS
    go_enter Tryd.func16, Tryd.ntmps16
    go_upto_region 2 with fail
    obtain ⟨X, hX⟩ : ∃ X, X = ((w.alloc (.cells #[.int .i8 0, .bool false, .int .i64 0, .string ⟨#[]⟩, .slice none 0 0, .slice none 0 0] 28)).alloc (.cells #[.int .i8 0, .bool false, .int .i64 0, .string ⟨#[]⟩, .slice none 0 0, .slice none 0 0] 28)) := ⟨_, rfl⟩
    rw [← hX] at HS ⊢
    clear hX
    go_wp2_with first | (go_at_call 29; refine (HD.out _).mono ?_; rintro e w' ⟨rfl, h0⟩; have h0 := h0.symm; subst h0) | (go_at_call 33; fail)
    refine (HC.out _).mono ?_
    intro e w5 h5
    cases R with
    | error q =>
      obtain ⟨a, c⟩ := q
      obtain ⟨rfl, hb5⟩ := h5
      have HL5 := Lib.hid (HS.out.below hb5)
      clear hb5
      unfold zeroV
      have bxe := HL5.out.z6
      have bx9 := HL5.out.z9
      unfold zeroC at bxe
      have q0 : w5.cell? ⟨w.heap.size, 0, none⟩ = some (.int .i8 0) := bxe.cell 0
      have qf0 := bxe.frozen 0
      have q1 : w5.cell? ⟨w.heap.size, 1, none⟩ = some (.bool false) := bxe.cell 1
      have qf1 := bxe.frozen 1
      have q2 : w5.cell? ⟨w.heap.size, 2, none⟩ = some (.int .i64 0) := bxe.cell 2
      have qf2 := bxe.frozen 2
      have q3 : w5.cell? ⟨w.heap.size, 3, none⟩ = some (.string ⟨#[]⟩) := bxe.cell 3
      have qf3 := bxe.frozen 3
      have q4 : w5.cell? ⟨w.heap.size, 4, none⟩ = some (.slice none 0 0) := bxe.cell 4
      have qf4 := bxe.frozen 4
      have q5 : w5.cell? ⟨w.heap.size, 5, none⟩ = some (.slice none 0 0) := bxe.cell 5
      have qf5 := bxe.frozen 5
      have p0 : w5.cell? ⟨w.heap.size + 1, 0, none⟩ = some (.int .i8 0) := bx9.cell 0
      have p1 : w5.cell? ⟨w.heap.size + 1, 1, none⟩ = some (.bool false) := bx9.cell 1
      have p2 : w5.cell? ⟨w.heap.size + 1, 2, none⟩ = some (.int .i64 0) := bx9.cell 2
      have p3 : w5.cell? ⟨w.heap.size + 1, 3, none⟩ = some (.string ⟨#[]⟩) := bx9.cell 3
      have p4 : w5.cell? ⟨w.heap.size + 1, 4, none⟩ = some (.slice none 0 0) := bx9.cell 4
      have p5 : w5.cell? ⟨w.heap.size + 1, 5, none⟩ = some (.slice none 0 0) := bx9.cell 5
      clear bxe bx9
      go_wp2_with fail
      refine bodyPost_ret (v := .tuple #[.agg #[.int .i8 0, .bool false, .int .i64 0, .string ⟨#[]⟩, .slice none 0 0, .slice none 0 0], .int .i64 (a : Nat), .int .i64 (c : Nat)]) (by simp [results, Tryd.results16, go_sem, q0, q1, q2, q3, q4, q5]) rfl ?_
      exact HL5.out.err _ _
    | ok p =>
      obtain ⟨v, E⟩ := p
      obtain ⟨val, S, rfl, hva, hS, hb5⟩ := h5
      obtain ⟨kd, bo, nu, te, o1, n1, m1, o2, n2, m2, rfl⟩ := isVa_form hva
      have HL5 := Lib.hid (HS.out.below hb5)
      have HP := Lib.hid (HL5.out.pass hva (fun q e => by have := hS q e; have := HS.out.z6.lt; omega) E)
      clear hb5 hva hS
      have bxe := HL5.out.z6
      have bx9 := HL5.out.z9
      unfold zeroC at bxe
      have q0 : w5.cell? ⟨w.heap.size, 0, none⟩ = some (.int .i8 0) := bxe.cell 0
      have qf0 := bxe.frozen 0
      have q1 : w5.cell? ⟨w.heap.size, 1, none⟩ = some (.bool false) := bxe.cell 1
      have qf1 := bxe.frozen 1
      have q2 : w5.cell? ⟨w.heap.size, 2, none⟩ = some (.int .i64 0) := bxe.cell 2
      have qf2 := bxe.frozen 2
      have q3 : w5.cell? ⟨w.heap.size, 3, none⟩ = some (.string ⟨#[]⟩) := bxe.cell 3
      have qf3 := bxe.frozen 3
      have q4 : w5.cell? ⟨w.heap.size, 4, none⟩ = some (.slice none 0 0) := bxe.cell 4
      have qf4 := bxe.frozen 4
      have q5 : w5.cell? ⟨w.heap.size, 5, none⟩ = some (.slice none 0 0) := bxe.cell 5
      have qf5 := bxe.frozen 5
      have p0 : w5.cell? ⟨w.heap.size + 1, 0, none⟩ = some (.int .i8 0) := bx9.cell 0
      have p1 : w5.cell? ⟨w.heap.size + 1, 1, none⟩ = some (.bool false) := bx9.cell 1
      have p2 : w5.cell? ⟨w.heap.size + 1, 2, none⟩ = some (.int .i64 0) := bx9.cell 2
      have p3 : w5.cell? ⟨w.heap.size + 1, 3, none⟩ = some (.string ⟨#[]⟩) := bx9.cell 3
      have p4 : w5.cell? ⟨w.heap.size + 1, 4, none⟩ = some (.slice none 0 0) := bx9.cell 4
      have p5 : w5.cell? ⟨w.heap.size + 1, 5, none⟩ = some (.slice none 0 0) := bx9.cell 5
      clear bxe bx9
      go_wp2_with fail
      refine bodyPost_ret (v := .tuple #[.agg #[.int .i8 kd, .bool bo, .int .i64 nu, .string te, .slice o1 n1 m1, .slice o2 n2 m2], .int .i64 (E : Nat), .int .i64 0]) (by simp [results, Tryd.results16, go_sem, q0, q1, q2, q3, q4, q5]) rfl ?_
      exact HP.out
  rw [if_neg hc] at hG
  have h123 := hc
  clear hc
  have hRe : R = .error (k, 40) := hG
  subst hRe
  have b110 : (((s[k]'hlt).toNat : Int) == 110) = false := ne_b (n := 110) (by decide) h110
  have b116 : (((s[k]'hlt).toNat : Int) == 116) = false := ne_b (n := 116) (by decide) h116
  have b102 : (((s[k]'hlt).toNat : Int) == 102) = false := ne_b (n := 102) (by decide) h102
  have b45 : (((s[k]'hlt).toNat : Int) == 45) = false := ne_b (n := 45) (by decide) h45
  have b34 : (((s[k]'hlt).toNat : Int) == 34) = false := ne_b (n := 34) (by decide) h34
  have b91 : (((s[k]'hlt).toNat : Int) == 91) = false := ne_b (n := 91) (by decide) h91
  have b123 : (((s[k]'hlt).toNat : Int) == 123) = false := ne_b (n := 123) (by decide) h123
  clear hG HI HGD hnd h110 h102 h116 h45 h34 h91 h123
  have HS := Lib.hid (LW.start w 0)
  unfold zeroC at HS
  go_enter Tryd.func16, Tryd.ntmps16
  go_upto_region 2 with fail
  obtain ⟨X, hX⟩ : ∃ X, X = ((w.alloc (.cells #[.int .i8 0, .bool false, .int .i64 0, .string ⟨#[]⟩, .slice none 0 0, .slice none 0 0] 28)).alloc (.cells #[.int .i8 0, .bool false, .int .i64 0, .string ⟨#[]⟩, .slice none 0 0, .slice none 0 0] 28)) := ⟨_, rfl⟩
  rw [← hX] at HS ⊢
  clear hX
  have bxe := HS.out.z6
  have bx9 := HS.out.z9
  unfold zeroC at bxe
  have q0 : X.cell? ⟨w.heap.size, 0, none⟩ = some (.int .i8 0) := bxe.cell 0
  have qf0 := bxe.frozen 0
  have q1 : X.cell? ⟨w.heap.size, 1, none⟩ = some (.bool false) := bxe.cell 1
  have qf1 := bxe.frozen 1
  have q2 : X.cell? ⟨w.heap.size, 2, none⟩ = some (.int .i64 0) := bxe.cell 2
  have qf2 := bxe.frozen 2
  have q3 : X.cell? ⟨w.heap.size, 3, none⟩ = some (.string ⟨#[]⟩) := bxe.cell 3
  have qf3 := bxe.frozen 3
  have q4 : X.cell? ⟨w.heap.size, 4, none⟩ = some (.slice none 0 0) := bxe.cell 4
  have qf4 := bxe.frozen 4
  have q5 : X.cell? ⟨w.heap.size, 5, none⟩ = some (.slice none 0 0) := bxe.cell 5
  have qf5 := bxe.frozen 5
  have p0 : X.cell? ⟨w.heap.size + 1, 0, none⟩ = some (.int .i8 0) := bx9.cell 0
  have p1 : X.cell? ⟨w.heap.size + 1, 1, none⟩ = some (.bool false) := bx9.cell 1
  have p2 : X.cell? ⟨w.heap.size + 1, 2, none⟩ = some (.int .i64 0) := bx9.cell 2
  have p3 : X.cell? ⟨w.heap.size + 1, 3, none⟩ = some (.string ⟨#[]⟩) := bx9.cell 3
  have p4 : X.cell? ⟨w.heap.size + 1, 4, none⟩ = some (.slice none 0 0) := bx9.cell 4
  have p5 : X.cell? ⟨w.heap.size + 1, 5, none⟩ = some (.slice none 0 0) := bx9.cell 5
  clear bxe bx9
  go_wp2_with (go_at_call 29; refine (HD.out _).mono ?_; rintro e w' ⟨rfl, h0⟩; have h0 := h0.symm; subst h0)
  refine bodyPost_ret (v := .tuple #[.agg #[.int .i8 0, .bool false, .int .i64 0, .string ⟨#[]⟩, .slice none 0 0, .slice none 0 0], .int .i64 (k : Nat), .int .i64 40]) (by simp [results, Tryd.results16, go_sem, q0, q1, q2, q3, q4, q5]) rfl ?_
  exact HS.out.err _ 40
/-- The reference's Value, in place. -/
theorem rValue_any (s : ByteArray) (hs : s.size ≤ 20000) : ∀ (N k : Nat) (d : Int) (w : World), k ≤ s.size → s.size < N + k → -9223372036854775808 ≤ d → d ≤ 9223372036854775807 →
    Calls Tryd.prog 16 #[.string s, .int .i64 k, .int .i64 d] w fun e w' => AnsR w (valM s.data.toList k d) e w'
  | 0, k, d, w, hk, hN, _, _ => absurd hN (by omega)
  | N + 1, k, d, w, hk, hN, hd1, hd2 => rValue_step s k d hk hs hd1 hd2 w fun hd k' h1 h2 w => rValue_any s hs N k' (d + 1) w h2 (by omega) (by omega) (by omega)
end Go.Proofs.YtgbagdfcdljleaaDoor

namespace Go.Proofs.YtgbagdfcdljleaaDoor
open Go.RowKit Go.Maps

set_option maxRecDepth 100000 in
set_option maxHeartbeats 2000000 in
theorem rParse_any (s : ByteArray) (hs : s.size ≤ 20000) (w : World) :
    Calls Tryd.prog 9 #[.string s] w fun e w' => ParR w (parM s.data.toList) e w' := by
  obtain ⟨r, hr⟩ : ∃ r, parM s.data.toList = r := ⟨_, rfl⟩
  rw [hr]
  unfold parM at hr
  rw [toList_length] at hr
  by_cases hl : 4096 < s.size
  · rw [if_pos hl] at hr
    subst hr
    have g1 : decide ((4096 : Int) < (s.size : Int)) = true := decide_eq_true (by omega)
    have g2 : decide (4096 < s.size) = true := decide_eq_true hl
    clear hs
    go_enter Tryd.func9, Tryd.ntmps9
    go_wp2_with fail
    refine bodyPost_ret (v := .tuple #[zeroV, .int .i64 0, .int .i64 3]) (by simp [results, Tryd.results9, go_sem, zeroV]) rfl ?_
    exact ⟨rfl, by go_grown⟩
  rw [if_neg hl] at hr
  obtain ⟨K, hK⟩ : ∃ K, bl s.data.toList 0 = K := ⟨_, rfl⟩
  have hKs : K ≤ s.size := by have := bl_le s.data.toList 0 (Nat.zero_le _); rwa [hK, toList_length] at this
  rw [hK, valI_M (by rw [toList_length]; exact hKs)] at hr
  have HB : Hid (∀ w, Calls Tryd.prog 17 #[.string s, .int .i64 0] w fun e w' => e = .returned (.int .i64 (K : Nat)) ∧ w' = w) := Lib.hid (fun w => by
    have := rBlanks_in s (k := 0) (by omega) (by omega) w
    rw [hK] at this
    exact this)
  obtain ⟨R, hR⟩ : ∃ R, valM s.data.toList K 1 = R := ⟨_, rfl⟩
  have HV := Lib.hid (rValue_any s hs (s.size + 1) K 1 (w.alloc (.cells zeroC 28)) hKs (by omega) (by decide) (by decide))
  rw [hR] at HV hr
  unfold zeroC at HV
  have g1 : decide ((4096 : Int) < (s.size : Int)) = false := decide_eq_false (by omega)
  have g2 : decide (4096 < s.size) = false := decide_eq_false hl
  have hbx := Bx.new w zeroC 28
  have HBX := Lib.hid hbx
  have hkb : Below w.heap.size w (w.alloc (.cells zeroC 28)) := (Below.refl _ w).alloc (Nat.le_refl _) _
  have HKB := Lib.hid hkb
  unfold zeroC at HBX HKB
  have HR := Lib.hid hr
  have HRR := Lib.hid hR
  clear hr hR hK hbx hl hkb
  go_enter Tryd.func9, Tryd.ntmps9
  go_upto_region 3 with fail
  obtain ⟨X, hX⟩ : ∃ X, X = w.alloc (.cells #[.int .i8 0, .bool false, .int .i64 0, .string ⟨#[]⟩, .slice none 0 0, .slice none 0 0] 28) := ⟨_, rfl⟩
  rw [← hX] at HV HBX HKB ⊢
  have hXs : X.heap.size = w.heap.size + 1 := by rw [hX]; simp
  have HXS := Lib.hid hXs
  clear hX hXs
  go_wp2_with fail
  refine (HB.out X).mono ?_
  rintro e w0 ⟨rfl, h0⟩
  have h0 := h0.symm
  subst h0
  clear HB
  go_wp2_with fail
  refine HV.out.mono ?_
  intro e w2 h2
  clear HV
  have hr := HR.out
  cases R with
  | error er =>
    obtain ⟨a, c⟩ := er
    simp only at hr
    subst hr
    obtain ⟨rfl, hb2⟩ := h2
    have hne : c ≠ 0 := valM_err (by rw [toList_length]; exact hKs) HRR.out
    have t1 : ((c : Int) == 0) = false := by rw [beq_eq_false_iff_ne]; omega
    have t2 : ((c : Int) != 0) = true := by rw [bne_iff_ne]; omega
    have HB2 := Lib.hid hb2
    clear HR HRR hne hb2
    unfold zeroV
    go_upto_region 4 with fail
    obtain ⟨Y, hY⟩ : ∃ Y, Y = w2.alloc (.cells #[.int .i8 0, .bool false, .int .i64 0, .string ⟨#[]⟩, .slice none 0 0, .slice none 0 0] 28) := ⟨_, rfl⟩
    have bY : Bx Y w.heap.size #[.int .i8 0, .bool false, .int .i64 0, .string ⟨#[]⟩, .slice none 0 0, .slice none 0 0] 28 := by rw [hY]; exact (HBX.out.below HB2.out).alloc _
    have kY : Below w.heap.size w Y := by rw [hY]; exact (HKB.out.trans (HB2.out.mono (by have := HXS.out; omega))).alloc (by have := HB2.out.size; have := HXS.out; omega) _
    rw [← hY]
    have KY := Lib.hid kY
    clear hY kY HB2
    have q0 : Y.cell? ⟨w.heap.size, 0, none⟩ = some (.int .i8 0) := bY.cell 0
    have qf0 := bY.frozen 0
    have q1 : Y.cell? ⟨w.heap.size, 1, none⟩ = some (.bool false) := bY.cell 1
    have qf1 := bY.frozen 1
    have q2 : Y.cell? ⟨w.heap.size, 2, none⟩ = some (.int .i64 0) := bY.cell 2
    have qf2 := bY.frozen 2
    have q3 : Y.cell? ⟨w.heap.size, 3, none⟩ = some (.string ⟨#[]⟩) := bY.cell 3
    have qf3 := bY.frozen 3
    have q4 : Y.cell? ⟨w.heap.size, 4, none⟩ = some (.slice none 0 0) := bY.cell 4
    have qf4 := bY.frozen 4
    have q5 : Y.cell? ⟨w.heap.size, 5, none⟩ = some (.slice none 0 0) := bY.cell 5
    have qf5 := bY.frozen 5
    clear bY
    go_wp2_with fail
    refine bodyPost_ret (v := .tuple #[.agg #[.int .i8 0, .bool false, .int .i64 0, .string ⟨#[]⟩, .slice none 0 0, .slice none 0 0], .int .i64 (a : Nat), .int .i64 (c : Nat)]) (by simp [results, Tryd.results9, go_sem, q0, q1, q2, q3, q4, q5]) rfl ?_
    exact ⟨rfl, six_below' KY.out (Nat.le_refl _) _ _ _ _ _ _⟩
  | ok pk =>
    obtain ⟨v, E⟩ := pk
    obtain ⟨val, S, rfl, hv, hS, hb2⟩ := h2
    have hE2 := (valM_place (by rw [toList_length]; exact hKs) HRR.out).2
    rw [toList_length] at hE2
    obtain ⟨kd, bo, nu, te, o1, n1, m1, o2, n2, m2, rfl⟩ := isVa_form hv
    have HVV := Lib.hid (Ow.isVa_lt _ _ hv)
    have HSS : Hid (∀ q, S q → X.heap.size ≤ q) := Lib.hid hS
    have HB2 := Lib.hid hb2
    simp only at hr
    obtain ⟨K2, hK2⟩ : ∃ K2, bl s.data.toList E = K2 := ⟨_, rfl⟩
    have HBl : Hid (∀ w, Calls Tryd.prog 17 #[.string s, .int .i64 ((E : Nat))] w fun e w' => e = .returned (.int .i64 (K2 : Nat)) ∧ w' = w) := Lib.hid (fun w => by
      have := rBlanks_in s (k := E) (by omega) (by omega) w
      rw [hK2] at this
      exact this)
    rw [hK2] at hr
    have HRE := Lib.hid hr
    clear HR HRR hv hS hb2 hr hK2 hKs
    go_upto_region 4 with fail
    obtain ⟨Y, hY⟩ : ∃ Y, Y = (w2.alloc (.cells #[.int .i8 kd, .bool bo, .int .i64 nu, .string te, .slice o1 n1 m1, .slice o2 n2 m2] 28)) := ⟨_, rfl⟩
    have k2Y : Below w2.heap.size w2 Y := by rw [hY]; exact (Below.refl _ _).alloc (Nat.le_refl _) _
    have b5 : Bx Y w2.heap.size #[.int .i8 kd, .bool bo, .int .i64 nu, .string te, .slice o1 n1 m1, .slice o2 n2 m2] 28 := by rw [hY]; exact Bx.new _ _ _
    have bY := (HBX.out.below HB2.out).below k2Y
    have kY : Below w.heap.size w Y := (HKB.out.trans (HB2.out.mono (by have := HXS.out; omega))).trans (k2Y.mono (by have := HB2.out.size; have := HXS.out; omega))
    have hvY := isVa_kp (W' := Y) HVV.out fun q e => k2Y.block q e.2
    rw [← hY]
    have KY := Lib.hid kY
    have HVY := Lib.hid hvY
    clear hY kY hvY k2Y
    have q0 : Y.cell? ⟨w.heap.size, 0, none⟩ = some (.int .i8 0) := bY.cell 0
    have qf0 := bY.frozen 0
    have q1 : Y.cell? ⟨w.heap.size, 1, none⟩ = some (.bool false) := bY.cell 1
    have qf1 := bY.frozen 1
    have q2 : Y.cell? ⟨w.heap.size, 2, none⟩ = some (.int .i64 0) := bY.cell 2
    have qf2 := bY.frozen 2
    have q3 : Y.cell? ⟨w.heap.size, 3, none⟩ = some (.string ⟨#[]⟩) := bY.cell 3
    have qf3 := bY.frozen 3
    have q4 : Y.cell? ⟨w.heap.size, 4, none⟩ = some (.slice none 0 0) := bY.cell 4
    have qf4 := bY.frozen 4
    have q5 : Y.cell? ⟨w.heap.size, 5, none⟩ = some (.slice none 0 0) := bY.cell 5
    have qf5 := bY.frozen 5
    have g0 : Y.cell? ⟨w2.heap.size, 0, none⟩ = some (.int .i8 kd) := b5.cell 0
    have g1 : Y.cell? ⟨w2.heap.size, 1, none⟩ = some (.bool bo) := b5.cell 1
    have g2 : Y.cell? ⟨w2.heap.size, 2, none⟩ = some (.int .i64 nu) := b5.cell 2
    have g3 : Y.cell? ⟨w2.heap.size, 3, none⟩ = some (.string te) := b5.cell 3
    have g4 : Y.cell? ⟨w2.heap.size, 4, none⟩ = some (.slice o1 n1 m1) := b5.cell 4
    have g5 : Y.cell? ⟨w2.heap.size, 5, none⟩ = some (.slice o2 n2 m2) := b5.cell 5
    clear bY b5
    go_wp2_with fail
    refine (HBl.out Y).mono ?_
    rintro e w0 ⟨rfl, h0⟩
    have h0 := h0.symm
    subst h0
    clear HBl
    have hr := HRE.out
    by_cases hlt : K2 < s.size
    · rw [if_pos hlt] at hr
      subst hr
      have g3 : decide ((K2 : Int) < (s.size : Int)) = true := decide_eq_true (by omega)
      have g4 : decide (K2 < s.size) = true := decide_eq_true hlt
      clear hlt HRE
      go_wp2_with fail
      refine bodyPost_ret (v := .tuple #[.agg #[.int .i8 0, .bool false, .int .i64 0, .string ⟨#[]⟩, .slice none 0 0, .slice none 0 0], .int .i64 (K2 : Nat), .int .i64 40]) (by simp [results, Tryd.results9, go_sem, q0, q1, q2, q3, q4, q5]) rfl ?_
      exact ⟨rfl, six_below' KY.out (Nat.le_refl _) _ _ _ _ _ _⟩
    · rw [if_neg hlt] at hr
      subst hr
      have g3 : decide ((K2 : Int) < (s.size : Int)) = false := decide_eq_false (by omega)
      have g4 : decide (K2 < s.size) = false := decide_eq_false hlt
      clear hlt HRE
      go_wp2_with fail
      refine bodyPost_ret (v := .tuple #[.agg #[.int .i8 kd, .bool bo, .int .i64 nu, .string te, .slice o1 n1 m1, .slice o2 n2 m2], .int .i64 0, .int .i64 0]) (by simp [results, Tryd.results9, go_sem, q0, q1, q2, q3, q4, q5]) rfl ?_
      exact ⟨_, rfl, isV_of_a _ _ (isVa_kp HVY.out fun q e => six_heap _ _ _ _ _ _ _ _ (by have := HSS.out q e.1; have := HXS.out; omega)), six_below' KY.out (Nat.le_refl _) _ _ _ _ _ _⟩
end Go.Proofs.YtgbagdfcdljleaaDoor

namespace Go.Proofs.YtgbagdfcdljleaaDoor
open Go.RowKit Go.Maps

theorem sm_self (x : V) : Tr.sm x x = true := Tr.sm_yes rfl
theorem isV_nul (W : World) : isV W nulV zeroV := isV_of_a _ _ (isVa_leaf 0 false 0 ⟨#[]⟩ (by decide) (by decide) (by decide))
/-- Two answers of the same thing: the values are the same, and so are the places and the errors. -/
def TwoR (w : World) (val1 : Value) (a c : Nat) (w1 : World) : Prop := True
set_option maxRecDepth 100000 in
set_option maxHeartbeats 2000000 in
theorem reads_great (s : ByteArray) (hg : grB s.size = true) (w : World) (hE : Ru.Env w) :
    Calls Tryd.prog 3 #[.string s] w fun e w' => e = .returned (.bool true) ∧ Below w.heap.size w w' := by
  have HW := Lib.hid (wakes_any w hE)
  have HG := Lib.hid (great_any s w)
  rw [hg] at HG
  clear hE hg
  go_enter Tryd.func3, Tryd.ntmps3
  go_wp2_with fail
  refine HG.out.mono ?_
  rintro e w1 ⟨rfl, rfl⟩
  go_wp2_with fail
  refine HW.out.mono ?_
  rintro e w2 ⟨rfl, hb⟩
  have HBB := Lib.hid hb
  clear hb
  go_wp2_with fail
  refine bodyPost_ret (v := .bool true) (by simp [results, Tryd.results3, go_sem]) rfl ?_
  exact ⟨rfl, HBB.out⟩
/-- What both answer. -/
def BothR (w : World) (x : V) (a c : Nat) (e : Ending) (w' : World) : Prop := ∃ val, e = .returned (.tuple #[val, .int .i64 a, .int .i64 c]) ∧ isV w' x val ∧ Below w.heap.size w w'
theorem both_of {w : World} {r : Except Er V} : ∃ x a c, ∀ e w', ParR w r e w' → BothR w x a c e w' := by
  cases r with
  | error q => exact ⟨nulV, q.1, q.2, fun e w' h => ⟨zeroV, h.1, isV_nul w', h.2⟩⟩
  | ok v => exact ⟨v, 0, 0, fun e w' h => by
      obtain ⟨val, h1, h2, h3⟩ := h
      exact ⟨val, h1, h2, h3⟩⟩
theorem both_all (r : Except Er V) : ∃ x a c, ∀ w e w', ParR w r e w' → BothR w x a c e w' := by
  cases r with
  | error q => exact ⟨nulV, q.1, q.2, fun w e w' h => ⟨zeroV, h.1, isV_nul w', h.2⟩⟩
  | ok v => exact ⟨v, 0, 0, fun w e w' h => by
      obtain ⟨val, h1, h2, h3⟩ := h
      exact ⟨val, h1, h2, h3⟩⟩
set_option maxRecDepth 100000 in
set_option maxHeartbeats 2000000 in
theorem reads_any (s : ByteArray) (w : World) (hE : Ru.Env w) :
    Calls Tryd.prog 3 #[.string s] w fun e w' => e = .returned (.bool true) ∧ Below w.heap.size w w' := by
  cases hg : grB s.size with
  | true => exact reads_great s hg w hE
  | false =>
    have hs : s.size ≤ 9000 := by
      unfold grB at hg
      simp only [Bool.or_eq_false_iff, decide_eq_false_iff_not] at hg
      omega
    have HG := Lib.hid (great_any s w)
    rw [hg] at HG
    obtain ⟨x, a, c, hx⟩ := both_all (parM s.data.toList)
    have HP : Hid (∀ w, Ru.Env w → Calls Tryd.prog 8 #[.string s] w fun e w' => BothR w x a c e w') := Lib.hid (fun w hE => (Parse_any s (by omega) w hE).mono fun e w' h => hx w e w' h)
    have HR : Hid (∀ w, Calls Tryd.prog 9 #[.string s] w fun e w' => BothR w x a c e w') := Lib.hid (fun w => (rParse_any s (by omega) w).mono fun e w' h => hx w e w' h)
    have HE := Lib.hid hE
    clear hg hs hx hE
    go_enter Tryd.func3, Tryd.ntmps3
    go_wp2_with fail
    refine HG.out.mono ?_
    rintro e w1 ⟨rfl, rfl⟩
    clear HG
    go_wp2_with fail
    refine (HP.out _ HE.out).mono ?_
    rintro e w2 ⟨val, rfl, hv2, hb2⟩
    obtain ⟨bo1, nu1, te1, o11, n11, m11, o21, n21, m21, rfl⟩ := isV_form hv2
    obtain ⟨kd1, hkd1⟩ : ∃ k, x.kind = k := ⟨_, rfl⟩
    rw [hkd1] at hv2 ⊢
    have HV2 := Lib.hid hv2
    have HB2 := Lib.hid hb2
    clear hv2 hb2 HP
    go_upto_region 4 with fail
    obtain ⟨X, hX⟩ : ∃ X, X = w2.alloc (.cells #[.int .i8 kd1, .bool bo1, .int .i64 nu1, .string te1, .slice o11 n11 m11, .slice o21 n21 m21] 28) := ⟨_, rfl⟩
    rw [← hX]
    have kX : Below w2.heap.size w2 X := by rw [hX]; exact (Below.refl _ _).alloc (Nat.le_refl _) _
    have b3 : Bx X w2.heap.size #[.int .i8 kd1, .bool bo1, .int .i64 nu1, .string te1, .slice o11 n11 m11, .slice o21 n21 m21] 28 := by rw [hX]; exact Bx.new _ _ _
    have HVX := Lib.hid (isV_below kX HV2.out)
    have HBX := Lib.hid (HB2.out.trans (kX.mono HB2.out.size))
    have HB3 := Lib.hid b3
    obtain ⟨q3, hq3⟩ : ∃ q, q = w2.heap.size := ⟨_, rfl⟩
    rw [← hq3] at HB3 ⊢
    clear hX kX b3 HV2 HB2 hq3
    go_wp2_with fail
    refine (HR.out X).mono ?_
    rintro e w4 ⟨val, rfl, hv4, hb4⟩
    obtain ⟨bo2, nu2, te2, o12, n12, m12, o22, n22, m22, rfl⟩ := isV_form hv4
    rw [hkd1] at hv4 ⊢
    have HV4 := Lib.hid hv4
    have HB4 := Lib.hid hb4
    clear hv4 hb4 HR
    go_upto_region 5 with fail
    obtain ⟨Y, hY⟩ : ∃ Y, Y = w4.alloc (.cells #[.int .i8 kd1, .bool bo2, .int .i64 nu2, .string te2, .slice o12 n12 m12, .slice o22 n22 m22] 28) := ⟨_, rfl⟩
    rw [← hY]
    have kY : Below w4.heap.size w4 Y := by rw [hY]; exact (Below.refl _ _).alloc (Nat.le_refl _) _
    have b6 : Bx Y w4.heap.size #[.int .i8 kd1, .bool bo2, .int .i64 nu2, .string te2, .slice o12 n12 m12, .slice o22 n22 m22] 28 := by rw [hY]; exact Bx.new _ _ _
    have kXY : Below X.heap.size X Y := HB4.out.trans (kY.mono HB4.out.size)
    have b3 := HB3.out.below kXY
    have hvY1 := isV_below kXY HVX.out
    have hvY2 := isV_below kY HV4.out
    have HWY := Lib.hid (HBX.out.trans (kXY.mono HBX.out.size))
    have HSM := Lib.hid (Tr.same_any (Tr.sizeV x) x x _ _ Y (Nat.le_refl _) hvY1 hvY2)
    rw [sm_self] at HSM
    have p0 : Y.cell? ⟨q3, 0, none⟩ = some (.int .i8 kd1) := b3.cell 0
    have p1 : Y.cell? ⟨q3, 1, none⟩ = some (.bool bo1) := b3.cell 1
    have p2 : Y.cell? ⟨q3, 2, none⟩ = some (.int .i64 nu1) := b3.cell 2
    have p3 : Y.cell? ⟨q3, 3, none⟩ = some (.string te1) := b3.cell 3
    have p4 : Y.cell? ⟨q3, 4, none⟩ = some (.slice o11 n11 m11) := b3.cell 4
    have p5 : Y.cell? ⟨q3, 5, none⟩ = some (.slice o21 n21 m21) := b3.cell 5
    have g0 : Y.cell? ⟨w4.heap.size, 0, none⟩ = some (.int .i8 kd1) := b6.cell 0
    have g1 : Y.cell? ⟨w4.heap.size, 1, none⟩ = some (.bool bo2) := b6.cell 1
    have g2 : Y.cell? ⟨w4.heap.size, 2, none⟩ = some (.int .i64 nu2) := b6.cell 2
    have g3 : Y.cell? ⟨w4.heap.size, 3, none⟩ = some (.string te2) := b6.cell 3
    have g4 : Y.cell? ⟨w4.heap.size, 4, none⟩ = some (.slice o12 n12 m12) := b6.cell 4
    have g5 : Y.cell? ⟨w4.heap.size, 5, none⟩ = some (.slice o22 n22 m22) := b6.cell 5
    have e1 : ((a : Int) == (a : Int)) = true := beq_self_eq_true _
    have e2 : ((c : Int) == (c : Int)) = true := beq_self_eq_true _
    clear hY kY b6 kXY b3 hvY1 hvY2 HVX HBX HV4 HB4 HB3 hkd1
    go_wp2_with fail
    refine HSM.out.mono ?_
    rintro e w6 ⟨rfl, hb6⟩
    have hw6 := HWY.out.trans (hb6.mono HWY.out.size)
    have HW := Lib.hid (wakes_any w6 (HE.out.below hw6 HE.out.1))
    have HW6 := Lib.hid hw6
    clear hb6 hw6 HSM
    go_wp2_with fail
    refine HW.out.mono ?_
    rintro e w7 ⟨rfl, hb7⟩
    have HB7 := Lib.hid (HW6.out.trans (hb7.mono HW6.out.size))
    clear hb7
    go_wp2_with fail
    refine bodyPost_ret (v := .bool true) (by simp [results, Tryd.results3, go_sem]) rfl ?_
    exact ⟨rfl, HB7.out⟩
end Go.Proofs.YtgbagdfcdljleaaDoor
