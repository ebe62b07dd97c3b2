/-
  Contracts of joiner, long, escape, of package runes.
-/
import Derived.Test.YtgbagdfcdljleaaDoorEsc
set_option linter.unusedVariables false
namespace Go.Proofs.YtgbagdfcdljleaaDoor.Ru
open Go.RowKit Go.Shelf Go.Maps

def isFst (u : Nat) : Bool := decide (55296 ≤ u) && decide (u ≤ 56319)
def isSnd (u : Nat) : Bool := decide (56320 ≤ u) && decide (u ≤ 57343)

section
variable (u N : Nat) (hu : u < 65536) (W : World)
set_option maxHeartbeats 1000000 in
include hu in
theorem join_snd0 (h : isSnd u = true) (hb : Boxed W N 3 (.int .i64 0)) :
    Calls Tryd.prog 85 #[.int .i64 u, .pointer (some ⟨N, 0, none⟩)] W fun e w' => e = .returned (.int .i64 (-2)) ∧ w' = W := by
  obtain ⟨h1, h2⟩ : 56320 ≤ u ∧ u ≤ 57343 := by simpa [isSnd] using h
  have hc := hb.cell
  have h3 : 55296 ≤ u := by omega
  have h4 : ¬ u ≤ 56319 := by omega
  clear h hb
  go_enter Tryd.func85, Tryd.ntmps85
  go_wp2_with fail
  go_ret
  exact ⟨rfl, rfl⟩
set_option maxHeartbeats 1000000 in
include hu in
theorem join_fst0 (h : isFst u = true) (hb : Boxed W N 3 (.int .i64 0)) :
    Calls Tryd.prog 85 #[.int .i64 u, .pointer (some ⟨N, 0, none⟩)] W fun e w' => e = .returned (.int .i64 (-1)) ∧ w' = W.setCell ⟨N, 0, none⟩ (.int .i64 u) := by
  obtain ⟨h1, h2⟩ : 55296 ≤ u ∧ u ≤ 56319 := by simpa [isFst] using h
  have hc := hb.cell
  have hf := hb.frozen
  have h3 : ¬ 56320 ≤ u := by omega
  clear h hb
  go_enter Tryd.func85, Tryd.ntmps85
  go_wp2_with fail
  go_ret
  exact ⟨rfl, rfl⟩
set_option maxHeartbeats 1000000 in
include hu in
theorem join_one0 (h : isFst u = false) (h' : isSnd u = false) (hb : Boxed W N 3 (.int .i64 0)) :
    Calls Tryd.prog 85 #[.int .i64 u, .pointer (some ⟨N, 0, none⟩)] W fun e w' => e = .returned (.int .i64 u) ∧ w' = W := by
  have h1 : u < 55296 ∨ 57343 < u := by
    simp [isFst, isSnd] at h h'
    omega
  have hc := hb.cell
  clear h hb h'
  rcases h1 with h1 | h1
  all_goals
    go_enter Tryd.func85, Tryd.ntmps85
    go_wp2_with fail
    go_ret
    exact ⟨rfl, rfl⟩
set_option maxHeartbeats 1000000 in
include hu in
theorem join_snd1 (f : Nat) (hf : isFst f = true) (h : isSnd u = true) (hb : Boxed W N 3 (.int .i64 f)) :
    Calls Tryd.prog 85 #[.int .i64 u, .pointer (some ⟨N, 0, none⟩)] W fun e w' => e = .returned (.int .i64 ((65536 + (f - 55296) * 1024 + (u - 56320) : Nat) : Int)) ∧ w' = W := by
  obtain ⟨h1, h2⟩ : 56320 ≤ u ∧ u ≤ 57343 := by simpa [isSnd] using h
  obtain ⟨f1, f2⟩ : 55296 ≤ f ∧ f ≤ 56319 := by simpa [isFst] using hf
  have hc := hb.cell
  have hne : ((f : Int) != 0) = true := by simp; omega
  have h3 : 55296 ≤ u := by omega
  have h4 : ¬ u ≤ 56319 := by omega
  clear h hb hf
  go_enter Tryd.func85, Tryd.ntmps85
  go_wp2_with fail
  go_ret
  refine ⟨ret_int ?_, rfl⟩
  omega
set_option maxHeartbeats 1000000 in
include hu in
theorem join_no1 (f : Nat) (hf : isFst f = true) (h : isSnd u = false) (hb : Boxed W N 3 (.int .i64 f)) :
    Calls Tryd.prog 85 #[.int .i64 u, .pointer (some ⟨N, 0, none⟩)] W fun e w' => e = .returned (.int .i64 (-2)) ∧ w' = W := by
  obtain ⟨f1, f2⟩ : 55296 ≤ f ∧ f ≤ 56319 := by simpa [isFst] using hf
  have h1 : u < 55296 ∨ (55296 ≤ u ∧ u ≤ 56319) ∨ 57343 < u := by
    simp [isSnd] at h
    omega
  have hc := hb.cell
  have hne : ((f : Int) != 0) = true := by simp; omega
  clear h hb hf
  rcases h1 with h1 | ⟨h1, h2⟩ | h1
  all_goals
    go_enter Tryd.func85, Tryd.ntmps85
    go_wp2_with fail
    go_ret
    exact ⟨rfl, rfl⟩
end

theorem joiner_any (w : World) : Calls Tryd.prog 80 #[] w fun e w' => e = .returned (.func (.func 85) #[] #[.pointer (some ⟨w.heap.size, 0, none⟩)]) ∧ w' = w.alloc (.cells #[.int .i64 0] 3) := by
  go_enter Tryd.func80, Tryd.ntmps80
  go_wp2_with fail
  go_ret
  exact ⟨rfl, rfl⟩

/-- A rune's '\u', or its two: the rune, and how many bytes. -/
def longL (l : List UInt8) : Option (Nat × Nat) :=
  match unitL l with
  | none => none
  | some u =>
    if isFst u then
      match unitL (l.drop 6) with
      | none => none
      | some v => if isSnd v then some (65536 + (u - 55296) * 1024 + (v - 56320), 12) else none
    else if isSnd u then none else some (u, 6)
def pairRes (p : Nat) : Option (Nat × Nat) → Value
  | some x => .tuple #[.int .i64 x.1, .int .i64 ((p + x.2 : Nat) : Int)]
  | none => .tuple #[.int .i64 0, .int .i64 0]
theorem unitL_some_le {l : List UInt8} {n : Nat} (h : unitL l = some n) : 6 ≤ l.length := by
  rcases Nat.lt_or_ge l.length 6 with h' | h'
  · rw [unitL_short h'] at h; cases h
  · exact h'
theorem longL_rune {l : List UInt8} {r k : Nat} (h : longL l = some (r, k)) : r ≤ 1114111 ∧ (r < 55296 ∨ 57343 < r) ∧ (k = 6 ∨ k = 12) := by
  unfold longL at h
  split at h
  · cases h
  · rename_i u hu
    have hul := unitL_lt hu
    split at h
    · rename_i hf
      split at h
      · cases h
      · rename_i v hv
        split at h
        · rename_i hs
          simp only [Option.some.injEq, Prod.mk.injEq] at h
          obtain ⟨h1, h2⟩ := h
          simp [isFst] at hf
          simp [isSnd] at hs
          omega
        · cases h
    · rename_i hf
      split at h
      · cases h
      · rename_i hs
        simp only [Option.some.injEq, Prod.mk.injEq] at h
        obtain ⟨h1, h2⟩ := h
        simp [isFst] at hf
        simp [isSnd] at hs
        omega

/-- What the loop of long holds at a round's head. -/
def LongAt (l : List UInt8) (p N : Nat) (at' r : Int) (W : World) : Prop :=
  (r = -1 ∧ at' = p ∧ Boxed W N 3 (.int .i64 0)) ∨
  (∃ f, r = -1 ∧ at' = ((p + 6 : Nat) : Int) ∧ Boxed W N 3 (.int .i64 (f : Nat)) ∧ isFst f = true ∧ unitL l = some f) ∨
  (r = -2 ∧ longL l = none) ∨
  (∃ rr k : Nat, r = rr ∧ at' = ((p + k : Nat) : Int) ∧ longL l = some (rr, k))

set_option maxHeartbeats 2000000 in
set_option maxRecDepth 100000 in
theorem long_any (s : ByteArray) (p : Nat) (hp : p ≤ s.size) (hs : s.size ≤ maxLen) (w : World) (hE : Env w) :
    Calls Tryd.prog 75 #[.string s, .int .i64 p] w fun e w' => e = .returned (pairRes p (longL (s.data.toList.drop p))) ∧ Below w.heap.size w w' := by
  have hs9 : s.size ≤ 9223372036854775807 := by unfold maxLen at hs; omega
  have hll : (s.data.toList.drop p).length = s.size - p := by rw [List.length_drop, Array.length_toList]; rfl
  have hM := Lib.hid hs
  clear hs
  go_enter Tryd.func75, Tryd.ntmps75
  go_wp2_with (go_at_call 80; refine (joiner_any _).mono ?_; rintro e w' ⟨rfl, rfl⟩)
  go_loopw [1, 4] (fun va vr wr => ∃ at' r : Int, va = .int .i64 at' ∧ vr = .int .i64 r ∧ LongAt (s.data.toList.drop p) p w.heap.size at' r wr ∧ Below w.heap.size w wr)
    (fun va vr _ => if intOf vr = -1 then p + 7 - (intOf va).toNat else 0)
  case atStart => exact ⟨_, _, rfl, rfl, .inl ⟨rfl, rfl, Boxed.new w _ _⟩, (Below.refl _ w).alloc (Nat.le_refl _) _⟩
  case round =>
    obtain ⟨at', r, rfl, rfl, hA, hB⟩ := hrel
    rcases hA with ⟨rfl, rfl, bx⟩ | ⟨f, rfl, rfl, bx, hf, hu⟩ | ⟨rfl, hn⟩ | ⟨rr, k, rfl, rfl, hn⟩
    · have hun := Lib.hid (unit_any s p hp hM.out wr (hE.below hB hE.1))
      cases hu : unitL (s.data.toList.drop p) with
      | none =>
        have hl := Lib.hid (show longL (s.data.toList.drop p) = none by unfold longL; rw [hu])
        have hun' := hun.out
        rw [hu] at hun'
        simp only [unitRes] at hun'
        have HU := Lib.hid hun'
        clear hun hun' hu hE
        go_wp2_with (go_at_call 81; refine HU.out.mono ?_; rintro e w' ⟨rfl, hb⟩)
        go_ret2
        exact ⟨by rw [hl.out]; rfl, hB.trans (hb.mono hB.size)⟩
      | some u =>
        have hul := unitL_lt hu
        have hle := unitL_some_le hu
        rw [hll] at hle
        have hun' := hun.out
        rw [hu] at hun'
        simp only [unitRes] at hun'
        have HU := Lib.hid hun'
        have H0 := Lib.hid hu
        clear hun hun' hu hE
        cases hf : isFst u with
        | true =>
          have HJ := Lib.hid (fun W => join_fst0 u w.heap.size hul W hf)
          have HF := Lib.hid hf
          clear hf
          go_wp2_with fail
          refine HU.out.mono ?_
          rintro e w1 ⟨rfl, hb⟩
          have bx1 : Boxed w1 w.heap.size 3 (.int .i64 0) := (hb.block _ bx.lt).trans bx
          go_wp2_with fail
          refine (HJ.out _ bx1).mono ?_
          rintro e w2 ⟨rfl, rfl⟩
          have bx2 := bx1.set (.int .i64 u)
          have hz := hb.size
          go_wp2_with fail
          go_roundw
          case rel => exact ⟨_, _, rfl, rfl, .inr (.inl ⟨u, rfl, by omega, bx2, HF.out, H0.out⟩), (hB.trans (hb.mono hB.size)).setCell (p := ⟨w.heap.size, 0, none⟩) (Nat.le_refl _) _⟩
          case measure => simp [intOf] <;> omega
        | false =>
          cases hs2 : isSnd u with
          | true =>
            have HJ := Lib.hid (fun W => join_snd0 u w.heap.size hul W hs2)
            have HL := Lib.hid (show longL (s.data.toList.drop p) = none by unfold longL; rw [H0.out]; simp [hf, hs2])
            clear hf hs2
            go_wp2_with fail
            refine HU.out.mono ?_
            rintro e w1 ⟨rfl, hb⟩
            have bx1 : Boxed w1 w.heap.size 3 (.int .i64 0) := (hb.block _ bx.lt).trans bx
            go_wp2_with fail
            refine (HJ.out _ bx1).mono ?_
            rintro e w2 ⟨rfl, rfl⟩
            go_wp2_with fail
            go_roundw
            case rel => exact ⟨_, _, rfl, rfl, .inr (.inr (.inl ⟨rfl, HL.out⟩)), hB.trans (hb.mono hB.size)⟩
            case measure => simp [intOf] <;> omega
          | false =>
            have HJ := Lib.hid (fun W => join_one0 u w.heap.size hul W hf hs2)
            have HL := Lib.hid (show longL (s.data.toList.drop p) = some (u, 6) by unfold longL; rw [H0.out]; simp [hf, hs2])
            clear hf hs2
            go_wp2_with fail
            refine HU.out.mono ?_
            rintro e w1 ⟨rfl, hb⟩
            have bx1 : Boxed w1 w.heap.size 3 (.int .i64 0) := (hb.block _ bx.lt).trans bx
            go_wp2_with fail
            refine (HJ.out _ bx1).mono ?_
            rintro e w2 ⟨rfl, rfl⟩
            go_wp2_with fail
            go_roundw
            case rel => exact ⟨_, _, rfl, rfl, .inr (.inr (.inr ⟨u, 6, rfl, by omega, HL.out⟩)), hB.trans (hb.mono hB.size)⟩
            case measure => simp [intOf] <;> omega
    · have hle := unitL_some_le hu
      rw [hll] at hle
      have hun := Lib.hid (unit_any s (p + 6) (by omega) hM.out wr (hE.below hB hE.1))
      have hdd : (s.data.toList.drop p).drop 6 = s.data.toList.drop (p + 6) := by rw [List.drop_drop]
      have hll6 : (s.data.toList.drop (p + 6)).length = s.size - (p + 6) := by rw [List.length_drop, Array.length_toList]; rfl
      cases hv : unitL (s.data.toList.drop (p + 6)) with
      | none =>
        have hl := Lib.hid (show longL (s.data.toList.drop p) = none by unfold longL; rw [hu, hdd, hv]; simp [hf])
        have hun' := hun.out
        rw [hv] at hun'
        simp only [unitRes] at hun'
        clear hun hu hE hv hf hdd hll6
        rw [show ((p + 6 : Nat) : Int) = (p : Int) + 6 from rfl] at hun'
        have HU := Lib.hid hun'
        clear hun'
        go_wp2_with fail
        refine HU.out.mono ?_
        rintro e w1 ⟨rfl, hb⟩
        go_wp2_with fail
        go_ret2
        exact ⟨by rw [hl.out]; rfl, hB.trans (hb.mono hB.size)⟩
      | some v =>
        have hvl := unitL_lt hv
        have hle2 := unitL_some_le hv
        rw [hll6] at hle2
        have hun' := hun.out
        rw [hv] at hun'
        simp only [unitRes] at hun'
        rw [show ((p + 6 : Nat) : Int) = (p : Int) + 6 from rfl] at hun'
        have HU := Lib.hid hun'
        clear hun hun' hE
        cases hs2 : isSnd v with
        | true =>
          have HJ := Lib.hid (fun W => join_snd1 v w.heap.size hvl W f hf hs2)
          have HL := Lib.hid (show longL (s.data.toList.drop p) = some (65536 + (f - 55296) * 1024 + (v - 56320), 12) by unfold longL; rw [hu, hdd, hv]; simp [hf, hs2])
          obtain ⟨rr, hrr⟩ : ∃ rr, 65536 + (f - 55296) * 1024 + (v - 56320) = rr := ⟨_, rfl⟩
          have hr16 : 65536 ≤ rr := by omega
          rw [hrr] at HJ HL
          clear hf hs2 hu hv hdd hrr hll6 hll
          go_wp2_with fail
          refine HU.out.mono ?_
          rintro e w1 ⟨rfl, hb⟩
          have bx1 : Boxed w1 w.heap.size 3 (.int .i64 f) := (hb.block _ bx.lt).trans bx
          go_wp2_with fail
          refine (HJ.out _ bx1).mono ?_
          rintro e w2 ⟨rfl, rfl⟩
          go_wp2_with fail
          go_roundw
          case rel => exact ⟨_, _, rfl, rfl, .inr (.inr (.inr ⟨rr, 12, rfl, by omega, HL.out⟩)), hB.trans (hb.mono hB.size)⟩
          case measure => simp [intOf] <;> omega
        | false =>
          have HJ := Lib.hid (fun W => join_no1 v w.heap.size hvl W f hf hs2)
          have HL := Lib.hid (show longL (s.data.toList.drop p) = none by unfold longL; rw [hu, hdd, hv]; simp [hf, hs2])
          clear hf hs2 hu hv hdd hll6 hll
          go_wp2_with fail
          refine HU.out.mono ?_
          rintro e w1 ⟨rfl, hb⟩
          have bx1 : Boxed w1 w.heap.size 3 (.int .i64 f) := (hb.block _ bx.lt).trans bx
          go_wp2_with fail
          refine (HJ.out _ bx1).mono ?_
          rintro e w2 ⟨rfl, rfl⟩
          go_wp2_with fail
          go_roundw
          case rel => exact ⟨_, _, rfl, rfl, .inr (.inr (.inl ⟨rfl, HL.out⟩)), hB.trans (hb.mono hB.size)⟩
          case measure => simp [intOf] <;> omega
    · go_wp2_with fail
      go_ret2
      have HN := hn
      exact ⟨by rw [hn]; rfl, hB⟩
    · have hr := longL_rune hn
      have HN := Lib.hid hn
      clear hn hE
      go_wp2_with fail
      go_ret2
      exact ⟨by rw [HN.out]; rfl, hB⟩
end Go.Proofs.YtgbagdfcdljleaaDoor.Ru
