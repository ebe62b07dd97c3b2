/-
  hoarding/hoardinglaw04.wakes: three texts that stand there. · ParseCuts: the law. · What the rows' condition on the package variables gives the walks: unicode/utf8's two tables, and that strconv.ErrSyntax holds an error value.
-/
import Derived.Test.YtgbagdfcdljleaaGreatDoorIA
import Derived.Test.YtgbagdfcdljleaaGreatDoorRows
import Derived.Test.YtgbagdfcdljleaaGreatDoorG2
import Derived.Lib.LaidU8
import Derived.PinnedBridge
import Derived.ProofKit
import Derived.OpenShut
import Derived.ShutString
import Derived.ChangeOld
import Derived.LaidMore
import Derived.Lay
set_option linter.unusedVariables false
set_option linter.unusedSimpArgs false
namespace Go.Proofs.YtgbagdfcdljleaaGreatDoor
open Go.RowKit Go.Maps

def wkT1 : List UInt8 := [123, 34, 97, 34, 58, 91, 49, 44, 110, 117, 108, 108, 93, 125]
def wkT2 : List UInt8 := [91, 49, 44, 93]
def wkT3 : List UInt8 := [123, 34, 97, 34, 58, 49, 44, 34, 97, 34, 58, 50, 125]
def wkB1 (r : Except Er V) : Bool :=
  match r with
  | .ok (.mk k _ _ _ [.mk _ _ _ _ [_, _] _] _) => decide (k = 5)
  | _ => false
def wkB2 (r : Except Er V) (a b : Nat) : Bool :=
  match r with
  | .error q => decide (q.1 = a) && decide (q.2 = b)
  | _ => false
theorem wk2 : wkB2 (parM wkT2) 3 40 = true := by kernel_rfl
theorem wk3 : wkB2 (parM wkT3) 7 41 = true := by kernel_rfl
theorem wk1 : wkB1 (parM wkT1) = true := by kernel_rfl
theorem wkE1 : ∃ b n s k1 b1 n1 s1 y z ks1 ks, parM wkT1 = .ok (.mk 5 b n s [.mk k1 b1 n1 s1 [y, z] ks1] ks) := by
  have h := wk1
  unfold wkB1 at h
  split at h
  · rename_i h1; rw [h1]; have := of_decide_eq_true h; subst this; exact ⟨_, _, _, _, _, _, _, _, _, _, _, rfl⟩
  · cases h
theorem wkE2 {l : List UInt8} {a b : Nat} (h : wkB2 (parM l) a b = true) : parM l = .error (a, b) := by
  unfold wkB2 at h
  split at h
  · rename_i q h1
    rw [h1]
    simp at h
    obtain ⟨q1, q2⟩ := q
    obtain ⟨rfl, rfl⟩ := h
    rfl
  · cases h
def Wk1 (w : World) (e : Ending) (w1 : World) : Prop :=
  ∃ b n s a cap o' n' cap' o2 cap2, e = .returned (.tuple #[.agg #[.int .i8 5, .bool b, .int .i64 n, .string s, .slice (some a) 1 cap, .slice o' n' cap'], .int .i64 0, .int .i64 0]) ∧ w1.cell? (a.add 4) = some (.slice o2 2 cap2) ∧ 1 ≤ cap ∧ cap ≤ maxLen ∧ 2 ≤ cap2 ∧ cap2 ≤ maxLen ∧ Below w.heap.size w w1
theorem wk_form {w : World} {e : Ending} {w1 : World} (h1 : ParR w (parM wkT1) e w1) : Wk1 w e w1 := by
  obtain ⟨b1, n1, s1, k2, b2, n2, s2, y, z, ks2, ks1, hp⟩ := wkE1
  rw [hp] at h1
  obtain ⟨val, rfl, hv, hb1⟩ := h1
  unfold isV at hv
  obtain ⟨lv, kv, rfl, _, _, _, ⟨a, cap, ⟨o, rfl, hle, hcl, ho⟩, hm⟩, ⟨a', cap', ⟨o', rfl, hle', hcl', ho'⟩, _⟩⟩ := hv
  simp only [List.length_cons, List.length_nil] at hle ho
  obtain rfl := ho (by omega)
  unfold isVs at hm
  obtain ⟨⟨c0, c1, c2, c3, c4, c5, m0, m1, m2, m3, m4, m5, hq⟩, _⟩ := hm
  unfold isV at hq
  obtain ⟨lv, kv, hq, _, _, _, ⟨a2, cap2, ⟨o2, rfl, hle2, hcl2, ho2⟩, _⟩, _⟩ := hq
  simp only [Value.agg.injEq, Array.mk.injEq, List.cons.injEq, and_true] at hq
  obtain ⟨rfl, rfl, rfl, rfl, rfl, rfl⟩ := hq
  simp only [List.length_cons, List.length_nil] at hle2 m4
  exact ⟨_, _, _, _, _, _, _, _, _, _, rfl, m4, hle, hcl, hle2, hcl2, hb1⟩
def wkS1 : ByteArray := ⟨#[123, 34, 97, 34, 58, 91, 49, 44, 110, 117, 108, 108, 93, 125]⟩
def wkS2 : ByteArray := ⟨#[91, 49, 44, 93]⟩
def wkS3 : ByteArray := ⟨#[123, 34, 97, 34, 58, 49, 44, 34, 97, 34, 58, 50, 125]⟩
theorem wkC1 (w : World) (hE : Ru.Env w) : Calls Tryz.prog 13 #[.string wkS1] w fun e w1 => Wk1 w e w1 :=
  (Parse_any wkS1 (by decide) w hE).mono fun e w1 h => wk_form h
theorem wkC2 (w : World) (hE : Ru.Env w) : Calls Tryz.prog 13 #[.string wkS2] w fun e w1 => e = .returned (.tuple #[zeroV, .int .i64 3, .int .i64 40]) ∧ Below w.heap.size w w1 :=
  (Parse_any wkS2 (by decide) w hE).mono fun e w1 h => by
    have h : ParR w (parM wkT2) e w1 := h
    rw [wkE2 wk2] at h
    exact h
theorem wkC3 (w : World) (hE : Ru.Env w) : Calls Tryz.prog 13 #[.string wkS3] w fun e w1 => e = .returned (.tuple #[zeroV, .int .i64 7, .int .i64 41]) ∧ Below w.heap.size w w1 :=
  (Parse_any wkS3 (by decide) w hE).mono fun e w1 h => by
    have h : ParR w (parM wkT3) e w1 := h
    rw [wkE2 wk3] at h
    exact h
/-- A new box of a value, written at once. -/
theorem newbox (w1 : World) (cs : Array Value) {X : World} (hX : X = w1.alloc (.cells cs 28)) :
    Below w1.heap.size w1 X ∧ Bx X w1.heap.size cs 28 := by
  subst hX
  exact ⟨(Below.refl _ w1).alloc (Nat.le_refl _) _, Bx.new w1 _ _⟩
set_option maxRecDepth 100000 in
set_option maxHeartbeats 1000000 in
theorem wakes_any (w : World) (hE : Ru.Env w) :
    Calls Tryz.prog 5 #[] w fun e w' => e = .returned (.bool true) ∧ Below w.heap.size w w' := by
  have H1 := Lib.hid (wkC1 w hE)
  have HE := Lib.hid hE
  unfold wkS1 at H1
  clear hE
  go_enter Tryz.func5, Tryz.ntmps5
  go_wp2_with fail
  refine H1.out.mono ?_
  rintro e w1 ⟨b, n, s, a, cap, o', n', cap', o2, cap2, rfl, hm, hc1, hc2, hc3, hc4, hb⟩
  have HM := Lib.hid hm
  have HC := Lib.hid (And.intro hc1 (And.intro hc2 (And.intro hc3 hc4)))
  have HB := Lib.hid hb
  clear hm hc1 hc2 hc3 hc4 hb H1
  go_upto_region 2 with fail
  obtain ⟨X, hX⟩ : ∃ X, X = w1.alloc (.cells #[.int .i8 5, .bool b, .int .i64 n, .string s, .slice (some a) 1 cap, .slice o' n' cap'] 28) := ⟨_, rfl⟩
  rw [← hX]
  obtain ⟨kX, bx⟩ := newbox w1 _ hX
  have hmX : X.cell? (a.add 4) = some (.slice o2 2 cap2) := (kX.cell (World.block_lt_of_cell? _ _ HM.out)).trans HM.out
  have HM2 := Lib.hid hmX
  have HX := Lib.hid bx
  have hw : Below w.heap.size w X := HB.out.trans (kX.mono HB.out.size)
  have H2 := Lib.hid (wkC2 X (HE.out.below hw HE.out.1))
  have HW := Lib.hid hw
  unfold wkS2 at H2
  generalize w1.heap.size = q1 at *
  clear hX kX bx hw hmX HM
  go_wp2_with fail
  refine H2.out.mono ?_
  rintro e w2 ⟨rfl, hb2⟩
  have HB2 := Lib.hid hb2
  clear hb2 H2
  unfold zeroV
  go_upto_region 3 with fail
  obtain ⟨Y, hY⟩ : ∃ Y, Y = w2.alloc (.cells #[.int .i8 0, .bool false, .int .i64 0, .string ⟨#[]⟩, .slice none 0 0, .slice none 0 0] 28) := ⟨_, rfl⟩
  rw [← hY]
  obtain ⟨kY, -⟩ := newbox w2 _ hY
  have hxy : Below X.heap.size X Y := HB2.out.trans (kY.mono HB2.out.size)
  have HXY := Lib.hid hxy
  have H3 := Lib.hid (wkC3 Y (HE.out.below (HW.out.trans (hxy.mono HW.out.size)) HE.out.1))
  unfold wkS3 at H3
  generalize w2.heap.size = q2 at *
  clear hY kY hxy
  go_wp2_with fail
  refine H3.out.mono ?_
  rintro e w3 ⟨rfl, hb3⟩
  have HB3 := Lib.hid hb3
  clear hb3 H3
  unfold zeroV
  go_upto_region 4 with fail
  obtain ⟨Z, hZ⟩ : ∃ Z, Z = w3.alloc (.cells #[.int .i8 0, .bool false, .int .i64 0, .string ⟨#[]⟩, .slice none 0 0, .slice none 0 0] 28) := ⟨_, rfl⟩
  rw [← hZ]
  obtain ⟨kZ, -⟩ := newbox w3 _ hZ
  have hyz : Below Y.heap.size Y Z := HB3.out.trans (kZ.mono HB3.out.size)
  have hxz : Below X.heap.size X Z := HXY.out.trans (hyz.mono HXY.out.size)
  have bz := HX.out.below hxz
  have h0 : Z.cell? ⟨q1, 0, none⟩ = some (.int .i8 5) := bz.cell 0
  have h4 : Z.cell? ⟨q1, 4, none⟩ = some (.slice (some a) 1 cap) := bz.cell 4
  have hm : Z.cell? (a.add 4) = some (.slice o2 2 cap2) := (hxz.cell (World.block_lt_of_cell? _ _ HM2.out)).trans HM2.out
  have hm : Z.cell? ⟨a.block, a.off + 4, none⟩ = some (.slice o2 2 cap2) := hm
  obtain ⟨hc1, hc2, hc3, hc4⟩ := HC.out
  have HWZ := Lib.hid (HW.out.trans (hxz.mono HW.out.size))
  generalize w3.heap.size = q3 at *
  clear HX HM2 HC HB HB2 HB3 HXY HW HE hZ kZ hyz hxz bz
  go_wp2_with fail
  refine bodyPost_ret (v := .bool true) (by simp [results, Tryz.results5, go_sem]) rfl ?_
  first | exact ⟨rfl, HWZ.out⟩ | exact ⟨rfl, HWZ.out.drew⟩
end Go.Proofs.YtgbagdfcdljleaaGreatDoor

namespace Go.Proofs.YtgbagdfcdljleaaGreatDoor
open Go.RowKit Go.Maps

def grB (n : Nat) : Bool := decide (3000 < n ∧ n ≤ 4096) || decide (9000 < n)
set_option maxRecDepth 100000 in
set_option maxHeartbeats 1000000 in
theorem great_any (s : ByteArray) (w : World) :
    Calls Tryz.prog 4 #[.string s] w fun e w' => e = .returned (.bool (grB s.size)) ∧ w' = w := by
  unfold grB
  rcases Nat.lt_or_ge 3000 s.size with h1 | h1
  · rcases Nat.lt_or_ge 4096 s.size with h2 | h2
    · rcases Nat.lt_or_ge 9000 s.size with h3 | h3
      · rw [decide_eq_false (by omega : ¬ (3000 < s.size ∧ s.size ≤ 4096)), decide_eq_true h3]
        have a1 : decide ((3000 : Int) < (s.size : Int)) = true := decide_eq_true (by omega)
        have a2 : decide (3000 < s.size) = true := decide_eq_true h1
        have b1 : decide ((s.size : Int) ≤ 4096) = false := decide_eq_false (by omega)
        have b2 : decide (s.size ≤ 4096) = false := decide_eq_false (by omega)
        have c1 : decide ((9000 : Int) < (s.size : Int)) = true := decide_eq_true (by omega)
        have c2 : decide (9000 < s.size) = true := decide_eq_true h3
        clear h1 h2 h3
        go_enter Tryz.func4, Tryz.ntmps4
        go_wp2_with fail
        refine bodyPost_ret (v := .bool true) (by simp [results, Tryz.results4, go_sem]) rfl ?_
        exact ⟨rfl, rfl⟩
      · rw [decide_eq_false (by omega : ¬ (3000 < s.size ∧ s.size ≤ 4096)), decide_eq_false (by omega : ¬ 9000 < s.size)]
        have a1 : decide ((3000 : Int) < (s.size : Int)) = true := decide_eq_true (by omega)
        have a2 : decide (3000 < s.size) = true := decide_eq_true h1
        have b1 : decide ((s.size : Int) ≤ 4096) = false := decide_eq_false (by omega)
        have b2 : decide (s.size ≤ 4096) = false := decide_eq_false (by omega)
        have c1 : decide ((9000 : Int) < (s.size : Int)) = false := decide_eq_false (by omega)
        have c2 : decide (9000 < s.size) = false := decide_eq_false (by omega)
        clear h1 h2 h3
        go_enter Tryz.func4, Tryz.ntmps4
        go_wp2_with fail
        refine bodyPost_ret (v := .bool false) (by simp [results, Tryz.results4, go_sem]) rfl ?_
        exact ⟨rfl, rfl⟩
    · rw [decide_eq_true (And.intro h1 h2), Bool.true_or]
      have a1 : decide ((3000 : Int) < (s.size : Int)) = true := decide_eq_true (by omega)
      have a2 : decide (3000 < s.size) = true := decide_eq_true h1
      have b1 : decide ((s.size : Int) ≤ 4096) = true := decide_eq_true (by omega)
      have b2 : decide (s.size ≤ 4096) = true := decide_eq_true h2
      clear h1 h2
      go_enter Tryz.func4, Tryz.ntmps4
      go_wp2_with fail
      refine bodyPost_ret (v := .bool true) (by simp [results, Tryz.results4, go_sem]) rfl ?_
      exact ⟨rfl, rfl⟩
  · rw [decide_eq_false (by omega : ¬ (3000 < s.size ∧ s.size ≤ 4096)), decide_eq_false (by omega : ¬ 9000 < s.size)]
    have a1 : decide ((3000 : Int) < (s.size : Int)) = false := decide_eq_false (by omega)
    have a2 : decide (3000 < s.size) = false := decide_eq_false (by omega)
    have c1 : decide ((9000 : Int) < (s.size : Int)) = false := decide_eq_false (by omega)
    have c2 : decide (9000 < s.size) = false := decide_eq_false (by omega)
    clear h1
    go_enter Tryz.func4, Tryz.ntmps4
    go_wp2_with fail
    refine bodyPost_ret (v := .bool false) (by simp [results, Tryz.results4, go_sem]) rfl ?_
    exact ⟨rfl, rfl⟩
theorem parM_err {s : List UInt8} {r : Er} (h : parM s = .error r) : r.2 ≠ 0 := by
  unfold parM at h
  split at h
  · cases h; decide
  rename_i h0
  have hk : bl s 0 ≤ s.length := bl_le s 0 (Nat.zero_le _)
  rw [valI_M hk] at h
  split at h
  · rename_i r' h1; cases h; exact valM_err hk h1
  · split at h
    · cases h; exact (by decide : (40 : Nat) ≠ 0)
    · cases h
theorem isV_form {W : World} {x : V} {v : Value} (h : isV W x v) : ∃ bo nu te o1 n1 c1 o2 n2 c2, v = .agg #[.int .i8 x.kind, .bool bo, .int .i64 nu, .string te, .slice o1 n1 c1, .slice o2 n2 c2] := by
  obtain ⟨k, bo, n, te, l, ks⟩ := x
  unfold isV at h
  obtain ⟨lv, kv, rfl, _, _, _, ⟨a, cap, ⟨o, rfl, _⟩, _⟩, ⟨a2, cap2, ⟨o2, rfl, _⟩, _⟩⟩ := h
  exact ⟨_, _, _, _, _, _, _, _, _, rfl⟩
theorem grB_small {n : Nat} (h : n ≤ 3000) : grB n = false := by
  unfold grB
  rw [decide_eq_false (by omega), decide_eq_false (by omega)]
  rfl
end Go.Proofs.YtgbagdfcdljleaaGreatDoor

namespace Go.Proofs.YtgbagdfcdljleaaGreatDoor.Ru
open Go.ChangeShapes Go.WideShapes Go.ChangeAt Go.RowKit Go.Shelf
open Go.ChangeMaps (open_string shut_string)

theorem accept_eq : (Rows.laid_unicode_utf8_acceptRanges : DataW Unit) = Lib.acceptData := by kernel_rfl
theorem first_eq : Rows.laid_unicode_utf8_first = Lib.firstData := Pinned.utf8First_eq

theorem cell_of_iface {P : Program} {w : World} {fuel : Nat} {t : TypeId} {cs : List Value} {ms : Array (String × TypeId)} {n : String} {d : DataW Unit} {p : List MemPlace} (ht : P.underlying t = some (.interface ms))
    (h : DataW.trod (fun _ => ()) P w 0 (fun _ => true) false fuel t cs = some (.iface n d, p)) : ∃ u v, cs = [.iface u v] := by
  cases fuel with
  | zero => simp [DataW.trod] at h
  | succ fuel =>
    simp only [DataW.trod, ht] at h
    split at h <;> simp_all

theorem env_of_laid {laid : List (String × DataW Unit)} (hm : ("unicode/utf8.first", Rows.laid_unicode_utf8_first) ∈ laid) (hm2 : ("unicode/utf8.acceptRanges", Rows.laid_unicode_utf8_acceptRanges) ∈ laid) (hm3 : ("strconv.ErrSyntax", Rows.laid_strconv_ErrSyntax) ∈ laid)
    {W : World} (h : laidMet Tryz.prog laid W) (h7 : 7 ≤ W.heap.size) : Env W := by
  have r1 := Lib.laidMet.reads h hm
  have r2 := Lib.laidMet.reads h hm2
  have r3 := Lib.laidMet.reads h hm3
  rw [first_eq] at r1
  rw [accept_eq] at r2
  refine ⟨h7, utf8Tabs_of_reads Tryz.lays260 Tryz.u8Extra r1 r2, ?_⟩
  obtain ⟨g, t, cs, fuel, p, hg, ht, hv, hd⟩ := r3
  obtain rfl := Option.some.inj ((show Tryz.prog.globalNamed "strconv.ErrSyntax" = some 3 by kernel_rfl).symm.trans hg)
  obtain rfl := Option.some.inj ((show (Tryz.prog.globals[3]?).map (·.type) = some 93 by kernel_rfl).symm.trans ht)
  obtain ⟨u, v, hcs⟩ := cell_of_iface Tryz.underlying93 hd
  refine ⟨.iface u v, ?_, .inr ⟨u, v, rfl⟩⟩
  rw [World.var?_cell hg hv 0, ← Array.getElem?_toList, hcs]; rfl
theorem size_of_laid {laid : List (String × DataW Unit)} (hm : ("math/bits.deBruijn64tab", Rows.laid_math_bits_deBruijn64tab) ∈ laid) {W : World} (h : laidMet Tryz.prog laid W) : 7 ≤ W.heap.size := by
  obtain ⟨g, t, cs, fuel, p, hg, ht, hv, hd⟩ := Lib.laidMet.reads h hm
  obtain rfl := Option.some.inj ((show Tryz.prog.globalNamed "math/bits.deBruijn64tab" = some 7 by kernel_rfl).symm.trans hg)
  obtain rfl := Option.some.inj ((show (Tryz.prog.globals[7]?).map (·.type) = some 143 by kernel_rfl).symm.trans ht)
  have hne : cs.toList ≠ [] := by
    intro e
    rw [e] at hd
    cases fuel with
    | zero => simp [DataW.trod] at hd
    | succ fuel =>
      have hc : Tryz.prog.cellsOf 143 = 64 := by kernel_rfl
      simp [DataW.trod, Tryz.underlying143, hc] at hd
  obtain ⟨x, xs, hx⟩ : ∃ x xs, cs.toList = x :: xs := by
    cases h : cs.toList with
    | nil => exact absurd h hne
    | cons x xs => exact ⟨_, _, rfl⟩
  have h0 : W.cell? ⟨7, 0, none⟩ = some x := by rw [World.var?_cell hg hv 0, ← Array.getElem?_toList, hx]; rfl
  exact Nat.le_of_lt (World.block_lt_of_cell? _ _ h0)
end Go.Proofs.YtgbagdfcdljleaaGreatDoor.Ru
