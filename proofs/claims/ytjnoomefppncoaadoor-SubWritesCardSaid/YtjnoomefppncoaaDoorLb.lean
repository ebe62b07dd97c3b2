/-
  The small functions of package sub: text, isText, next, hole, Attr.
-/
import Derived.Test.YtjnoomefppncoaaDoorLa
import Derived.Test.YtjnoomefppncoaaDoorShelfA
import Derived.Shelf.RegionOpenPlain
import Derived.StillTailTactics
import Derived.Lib.CutLaws
import Derived.Lib.LaidU8T
import Derived.Deep.Draws
set_option linter.unusedVariables false
namespace Go.Proofs.YtjnoomefppncoaaDoor
open Go.RowKit Go.Shelf

abbrev bs (l : List UInt8) : ByteArray := ⟨l.toArray⟩
theorem bs_list (l : List UInt8) : (bs l).data.toList = l := by simp
theorem bs_size (l : List UInt8) : (bs l).size = l.length := by show l.toArray.size = _; simp
theorem bs_self (s : ByteArray) : bs s.data.toList = s := by cases s; simp [bs]
def X.k : X → Int | .text _ => 0 | .ref _ => 3 | .att _ _ => 4
def X.t : X → List UInt8 | .text t => t | _ => []
def X.m : X → List UInt8 | .text _ => [] | .ref m => m | .att m _ => m
def X.a : X → List UInt8 | .att _ a => a | _ => []
/-- A part as a value. -/
def X.val (x : X) : Value := .agg #[.int .i8 x.k, .string (bs x.t), .int .i64 0, .string (bs x.m), .string (bs x.a), .slice none 0 0]
def X.cs (x : X) : List Value := [.int .i8 x.k, .string (bs x.t), .int .i64 0, .string (bs x.m), .string (bs x.a), .slice none 0 0]

set_option maxRecDepth 100000 in
set_option maxHeartbeats 2000000 in
theorem ptext_any (s : ByteArray) (w : World) :
    Calls Tryd.prog 39 #[.string s] w fun e w' => e = .returned (X.text s.data.toList).val ∧ Below w.heap.size w w' := by
  go_enter Tryd.func39, Tryd.ntmps39
  go_wp2_with fail
  exact bodyPost_ret (v := .agg #[.int .i8 0, .string s, .int .i64 0, .string ⟨#[]⟩, .string ⟨#[]⟩, .slice none 0 0]) (by simp [results, Tryd.results39, go_sem]) rfl ⟨by simp [X.val, X.k, X.t, X.m, X.a, bs], (Below.refl _ _).alloc (Nat.le_refl _) _⟩

set_option maxRecDepth 100000 in
set_option maxHeartbeats 2000000 in
theorem pisText_any (k n : Int) (t m a : ByteArray) (sl : Value) (w : World) :
    Calls Tryd.prog 25 #[.agg #[.int .i8 k, .string t, .int .i64 n, .string m, .string a, sl]] w fun e w' => e = .returned (.bool (k == 0)) ∧ Below w.heap.size w w' := by
  go_enter Tryd.func25, Tryd.ntmps25
  go_wp2_with fail
  go_ret
  exact ⟨rfl, (Below.refl _ _).alloc (Nat.le_refl _) _⟩

set_option maxRecDepth 100000 in
set_option maxHeartbeats 4000000 in
theorem pnext_any (st r : Nat) (hs : st ≤ 4) (w : World) :
    Calls Tryd.prog 38 #[.int .i64 st, .int .i32 r] w fun e w' => e = .returned (.int .i64 (nextN st r)) ∧ w = w' := by
  have hst : st = 0 ∨ st = 1 ∨ st = 2 ∨ st = 3 ∨ st = 4 := by omega
  have hr : (r = 36 ∨ r = 33 ∨ r = 123 ∨ r = 125) ∨ (((r : Int) == 36) = false ∧ ((r : Int) == 33) = false ∧ ((r : Int) == 123) = false ∧ ((r : Int) == 125) = false ∧ nextN st r = nextN st 128) := by
    by_cases h1 : r = 36
    · exact .inl (.inl h1)
    by_cases h2 : r = 33
    · exact .inl (.inr (.inl h2))
    by_cases h3 : r = 123
    · exact .inl (.inr (.inr (.inl h3)))
    by_cases h4 : r = 125
    · exact .inl (.inr (.inr (.inr h4)))
    refine .inr ⟨?_, ?_, ?_, ?_, ?_⟩
    · exact beq_eq_false_iff_ne.2 (fun e => h1 (by omega))
    · exact beq_eq_false_iff_ne.2 (fun e => h2 (by omega))
    · exact beq_eq_false_iff_ne.2 (fun e => h3 (by omega))
    · exact beq_eq_false_iff_ne.2 (fun e => h4 (by omega))
    · simp [nextN, h1, h2, h3, h4]
  clear hs
  rcases hst with rfl | rfl | rfl | rfl | rfl
  all_goals
    rcases hr with (rfl | rfl | rfl | rfl) | ⟨h1, h2, h3, h4, h5⟩
    all_goals first
      | (rw [h5]
         clear h5
         go_enter Tryd.func38, Tryd.ntmps38
         go_wp2_with fail
         go_ret
         exact ⟨rfl, rfl⟩)
      | (go_enter Tryd.func38, Tryd.ntmps38
         go_wp2_with fail
         go_ret
         exact ⟨rfl, rfl⟩)

theorem index_one (b : UInt8) : ∀ (l : List UInt8), Lib.index l [b] = match cutB b l with
    | none => -1
    | some (x, _) => (x.length : Int)
  | [] => rfl
  | c :: t => by
    have ih := index_one b t
    unfold Lib.index cutB
    by_cases hc : c = b
    · subst hc; simp
    · have : ([b] : List UInt8).isPrefixOf (c :: t) = false := by simp [List.isPrefixOf]; exact fun e => hc e.symm
      rw [this, if_neg hc, ih]
      cases cutB b t with
      | none => simp
      | some p =>
        obtain ⟨x, y⟩ := p
        have : ((x.length : Int) == -1) = false := beq_eq_false_iff_ne.2 (by omega)
        simp [this]
/-- strings.Cut at one byte. -/
theorem cut_one (b : UInt8) (l : List UInt8) : Lib.cut l [b] = match cutB b l with
    | none => (l, [], false)
    | some (x, y) => (x, y, true) := by
  unfold Lib.cut
  rw [index_one]
  cases hc : cutB b l with
  | none => simp
  | some p =>
    obtain ⟨x, y⟩ := p
    obtain ⟨rfl, _⟩ := cutB_some hc
    simp

theorem nameB_no46 {l : List UInt8} (h : nameB l = true) : 46 ∉ l := by
  unfold nameB at h
  simp only [Bool.and_eq_true, List.all_eq_true] at h
  intro hm
  have := h.2.2 46 hm
  revert this
  decide
theorem attr_trim (l : List UInt8) : nameB (Lib.trimPrefix l [79, 117, 116, 112, 117, 116, 115, 46]) = attrB l := by
  unfold Lib.trimPrefix Lib.hasPrefix attrB
  cases hp : ([79, 117, 116, 112, 117, 116, 115, 46] : List UInt8).isPrefixOf l with
  | true =>
    obtain ⟨y, rfl⟩ := List.isPrefixOf_iff_prefix.1 hp
    have : cutB 46 ([79, 117, 116, 112, 117, 116, 115, 46] ++ y) = some (outputs, y) := cutB_app (x := outputs) y (by decide)
    rw [this]
    simp
  | false =>
    simp only [Bool.false_eq_true, if_false]
    cases hc : cutB 46 l with
    | none => rfl
    | some p =>
      obtain ⟨x, y⟩ := p
      obtain ⟨rfl, _⟩ := cutB_some hc
      simp only
      cases hn : nameB (x ++ 46 :: y) with
      | true => exact absurd (by simp) (nameB_no46 hn)
      | false =>
        by_cases hx : x = outputs
        · subst hx
          exfalso
          have : ([79, 117, 116, 112, 117, 116, 115, 46] : List UInt8).isPrefixOf (outputs ++ 46 :: y) = true := List.isPrefixOf_iff_prefix.2 ⟨y, rfl⟩
          rw [this] at hp
          cases hp
        · rw [decide_eq_false hx]; rfl

/-- The package variables: utf8's two tables, and a number in internal/bytealg's. -/
def Env (w : World) : Prop := 3 ≤ w.heap.size ∧ Lib.Utf8Tabs 0 1 w ∧ ∃ m, w.cell? ⟨2, 0, none⟩ = some (.int .i64 m)
theorem Env.below {n : Nat} {w w' : World} (h : Env w) (hb : Below n w w') (hn : 3 ≤ n) : Env w' :=
  ⟨Nat.le_trans h.1 hb.size, ⟨fun c hc => (hb.cell (p := ⟨0, c, none⟩) (by simp; omega)).trans (h.2.1.1 c hc),
   fun i hi => ⟨(hb.cell (p := ⟨1, 2 * i, none⟩) (by simp; omega)).trans (h.2.1.2 i hi).1, (hb.cell (p := ⟨1, 2 * i + 1, none⟩) (by simp; omega)).trans (h.2.1.2 i hi).2⟩⟩,
   by obtain ⟨m, hm⟩ := h.2.2; exact ⟨m, (hb.cell (p := ⟨2, 0, none⟩) (by simp; omega)).trans hm⟩⟩
theorem Env.kb {w w' : World} (h : Env w) (hb : Below w.heap.size w w') : Env w' := h.below hb h.1

theorem below_drewN {B : Nat} {a w : World} (h : Below B a w) (n : Nat) : Below B a (w.drewN n) := h.trans ⟨rfl, rfl, rfl, Nat.le_refl _, fun _ _ => rfl⟩

/-- strings.Cut at one byte, as it is called. -/
theorem cut_any (s : ByteArray) (b : UInt8) (w : World) (hE : Env w) (hs : s.size < 4294967281) :
    Calls Tryd.prog 52 #[.string s, .string ⟨#[b]⟩] w fun e w' => (match cutB b s.data.toList with
      | none => e = .returned (.tuple #[.string s, .string ⟨#[]⟩, .bool false])
      | some (x, y) => e = .returned (.tuple #[.string (bs x), .string (bs y), .bool true])) ∧ ∃ n, w' = w.drewN n := by
  obtain ⟨m, hm⟩ := hE.2.2
  refine (Tryd.strings_Cut s ⟨#[b]⟩ m w hs hm).mono ?_
  rintro e w' ⟨rfl, h⟩
  refine ⟨?_, h⟩
  have : (⟨#[b]⟩ : ByteArray).data.toList = [b] := rfl
  rw [this, cut_one]
  cases hc : cutB b s.data.toList with
  | none => simp only
  | some p => obtain ⟨x, y⟩ := p; rfl

set_option maxRecDepth 100000 in
set_option maxHeartbeats 2000000 in
theorem pattr_any (s : ByteArray) (w : World) (hs : s.size ≤ maxLen) :
    Calls Tryd.prog 14 #[.string s] w fun e w' => e = .returned (.bool (attrB s.data.toList)) ∧ w = w' := by
  have HT := Lib.hid (Tryd.strings_TrimPrefix s ⟨#[79, 117, 116, 112, 117, 116, 115, 46]⟩ w)
  have hl : (Lib.trimPrefix s.data.toList [79, 117, 116, 112, 117, 116, 115, 46]).length ≤ s.size := by
    rw [← toList_length s]
    unfold Lib.trimPrefix
    split
    · rw [List.length_drop]; exact Nat.sub_le _ _
    · exact Nat.le_refl _
  have HN := Lib.hid (name_any (bs (Lib.trimPrefix s.data.toList [79, 117, 116, 112, 117, 116, 115, 46])) w (by rw [bs_size]; omega))
  rw [bs_list, attr_trim] at HN
  clear hl hs
  generalize attrB s.data.toList = r at *
  go_enter Tryd.func14, Tryd.ntmps14
  go_wp2_with (first | (go_at_call 27; refine HT.out.mono ?_; rintro e w' ⟨rfl, rfl⟩) | (go_at_call 26; refine HN.out.mono ?_; rintro e w' ⟨rfl, rfl⟩))
  go_ret
  exact ⟨rfl, rfl⟩

/-- What stands for no part. -/
def zeroX : Value := .agg #[.int .i8 0, .string ⟨#[]⟩, .int .i64 0, .string ⟨#[]⟩, .string ⟨#[]⟩, .slice none 0 0]
def holeV : Option X → Value
  | some x => .tuple #[x.val, .bool true]
  | none => .tuple #[zeroX, .bool false]

set_option maxRecDepth 100000 in
set_option maxHeartbeats 4000000 in
theorem phole_any (s : ByteArray) (w : World) (hE : Env w) (hs : s.size < 4294967281) :
    Calls Tryd.prog 40 #[.string s] w fun e w' => e = .returned (holeV (holeP s.data.toList)) ∧ Below w.heap.size w w' := by
  have HC0 := fun (o : Obj) => (cut_any s 46 (w.alloc o) (hE.kb ((Below.refl _ _).alloc (Nat.le_refl _) _)) hs).mono (R' := fun e w' => (match cutB 46 s.data.toList with
      | none => e = .returned (.tuple #[.string s, .string ⟨#[]⟩, .bool false])
      | some (x, y) => e = .returned (.tuple #[.string (bs x), .string (bs y), .bool true])) ∧ ∃ W1 : World, w' = W1.alloc o ∧ W1.heap.size = w.heap.size ∧ Hid (Below w.heap.size w W1))
    (fun e w' ⟨h, n, hw⟩ => ⟨h, w.drewN n, hw, rfl, Lib.hid (below_drewN (Below.refl _ _) n)⟩)
  unfold holeP
  cases hc : cutB 46 s.data.toList with
  | none =>
    have HN := Lib.hid (fun W => name_any s W (by unfold maxLen; omega))
    simp only [hc] at HC0
    have HC := Lib.hid HC0
    clear hE hc hs HC0
    cases hn : nameB s.data.toList with
    | true =>
      rw [hn] at HN
      clear hn
      have e1 : holeV (if true = true then some (X.ref s.data.toList) else none) = .tuple #[.agg #[.int .i8 3, .string ⟨#[]⟩, .int .i64 0, .string s, .string ⟨#[]⟩, .slice none 0 0], .bool true] := by
        rw [if_pos rfl]; show Value.tuple #[X.val _, _] = _; unfold X.val; rw [show bs (X.ref s.data.toList).m = s from bs_self s]; rfl
      rw [e1]
      clear e1
      go_enter Tryd.func40, Tryd.ntmps40
      go_wp2_with (first | (go_at_call 52; refine (HC.out _).mono ?_; rintro e w' ⟨rfl, W1, rfl, hz, hB⟩; rw [← hz]) | (go_at_call 26; refine (HN.out _).mono ?_; rintro e w' ⟨rfl, rfl⟩))
      refine bodyPost_ret (v := .tuple #[.agg #[.int .i8 3, .string ⟨#[]⟩, .int .i64 0, .string s, .string ⟨#[]⟩, .slice none 0 0], .bool true]) (by rw [← hz]; simp [results, Tryd.results40, go_sem, zeroX]) rfl ⟨rfl, hB.out.alloc (Nat.le_of_eq hz.symm) _⟩
    | false =>
      rw [hn] at HN
      clear hn
      have e1 : holeV (if false = true then some (X.ref s.data.toList) else none) = .tuple #[zeroX, .bool false] := rfl
      rw [e1]
      clear e1
      go_enter Tryd.func40, Tryd.ntmps40
      go_wp2_with (first | (go_at_call 52; refine (HC.out _).mono ?_; rintro e w' ⟨rfl, W1, rfl, hz, hB⟩; rw [← hz]) | (go_at_call 26; refine (HN.out _).mono ?_; rintro e w' ⟨rfl, rfl⟩))
      refine bodyPost_ret (v := .tuple #[zeroX, .bool false]) (by rw [← hz]; simp [results, Tryd.results40, go_sem, zeroX]) rfl ⟨rfl, hB.out.alloc (Nat.le_of_eq hz.symm) _⟩
  | some p =>
    obtain ⟨x, y⟩ := p
    obtain ⟨hl, _⟩ := cutB_some hc
    have hlen := congrArg List.length hl
    simp only [toList_length, List.length_append, List.length_cons] at hlen
    have HN := Lib.hid (fun W => name_any (bs x) W (by rw [bs_size]; unfold maxLen; omega))
    have HA := Lib.hid (fun W => pattr_any (bs y) W (by rw [bs_size]; unfold maxLen; omega))
    rw [bs_list] at HN HA
    simp only [hc] at HC0
    have HC := Lib.hid HC0
    clear hE hc hs HC0 hl hlen
    simp only
    cases hn : nameB x with
    | false =>
      rw [hn] at HN
      have e1 : holeV (if false = true ∧ attrB y = true then some (X.att x y) else none) = .tuple #[zeroX, .bool false] := by simp [holeV]
      clear hn
      rw [e1]
      clear e1
      go_enter Tryd.func40, Tryd.ntmps40
      go_wp2_with (first | (go_at_call 52; refine (HC.out _).mono ?_; rintro e w' ⟨rfl, W1, rfl, hz, hB⟩; rw [← hz]) | (go_at_call 26; refine (HN.out _).mono ?_; rintro e w' ⟨rfl, rfl⟩))
      refine bodyPost_ret (v := .tuple #[zeroX, .bool false]) (by rw [← hz]; simp [results, Tryd.results40, go_sem, zeroX]) rfl ⟨rfl, hB.out.alloc (Nat.le_of_eq hz.symm) _⟩
    | true =>
      rw [hn] at HN
      cases ha : attrB y with
      | false =>
        rw [ha] at HA
        have e1 : holeV (if true = true ∧ false = true then some (X.att x y) else none) = .tuple #[zeroX, .bool false] := by simp [holeV]
        clear ha hn
        rw [e1]
        clear e1
        go_enter Tryd.func40, Tryd.ntmps40
        go_wp2_with (first | (go_at_call 52; refine (HC.out _).mono ?_; rintro e w' ⟨rfl, W1, rfl, hz, hB⟩; rw [← hz]) | (go_at_call 26; refine (HN.out _).mono ?_; rintro e w' ⟨rfl, rfl⟩) | (go_at_call 14; refine (HA.out _).mono ?_; rintro e w' ⟨rfl, rfl⟩))
        refine bodyPost_ret (v := .tuple #[zeroX, .bool false]) (by rw [← hz]; simp [results, Tryd.results40, go_sem, zeroX]) rfl ⟨rfl, hB.out.alloc (Nat.le_of_eq hz.symm) _⟩
      | true =>
        rw [ha] at HA
        have e1 : holeV (if true = true ∧ true = true then some (X.att x y) else none) = .tuple #[.agg #[.int .i8 4, .string ⟨#[]⟩, .int .i64 0, .string (bs x), .string (bs y), .slice none 0 0], .bool true] := by simp [holeV, X.val, X.k, X.t, X.m, X.a, bs]
        clear ha hn
        rw [e1]
        clear e1
        go_enter Tryd.func40, Tryd.ntmps40
        go_wp2_with (first | (go_at_call 52; refine (HC.out _).mono ?_; rintro e w' ⟨rfl, W1, rfl, hz, hB⟩; rw [← hz]) | (go_at_call 26; refine (HN.out _).mono ?_; rintro e w' ⟨rfl, rfl⟩) | (go_at_call 14; refine (HA.out _).mono ?_; rintro e w' ⟨rfl, rfl⟩))
        refine bodyPost_ret (v := .tuple #[.agg #[.int .i8 4, .string ⟨#[]⟩, .int .i64 0, .string (bs x), .string (bs y), .slice none 0 0], .bool true]) (by rw [← hz]; simp [results, Tryd.results40, go_sem, zeroX]) rfl ⟨rfl, hB.out.alloc (Nat.le_of_eq hz.symm) _⟩
end Go.Proofs.YtjnoomefppncoaaDoor
