/-
  The plain machine is made of parts: what is read within an open list or object is read as a value by itself, so much deeper. · The reference of package parse: blanks, words. · The reference's lists and objects while they are read, in memory; what follows of a run. · The reference's list.
-/
import Derived.Test.YtgbagdfcdljleaaGreatDoorHz
import Derived.Test.YtgbagdfcdljleaaGreatDoorHB
import Derived.Test.YtgbagdfcdljleaaGreatDoorIA
set_option linter.unusedVariables false
set_option linter.unusedSimpArgs false
namespace Go.Proofs.YtgbagdfcdljleaaGreatDoor
open Go.Lib

def St.push (op : List Fm) : St → St
  | .rd k o => .rd k (o ++ op)
  | .got v k o => .got v k (o ++ op)
def mapP (op : List Fm) : Except Er St → Except Er St
  | .error q => .error q
  | .ok st => .ok (st.push op)
theorem enterM_push (s : List UInt8) (k : Nat) (o op : List Fm) (f : Fm) : enterM s k (o ++ op) f = mapP op (enterM s k o f) := by
  unfold enterM
  by_cases h : s[bl s (k + 1)]? = some f.close
  · rw [if_pos h, if_pos h]; rfl
  · rw [if_neg h, if_neg h]
    cases keyM s (bl s (k + 1)) f with
    | error r => rfl
    | ok p => obtain ⟨k', f'⟩ := p; rfl
theorem putM_push (s : List UInt8) (v : V) (k : Nat) (f : Fm) (o op : List Fm) : putM s v k f (o ++ op) = mapP op (putM s v k f o) := by
  unfold putM
  by_cases h : s[bl s k]? = some f.close
  · rw [if_pos h, if_pos h]; rfl
  · rw [if_neg h, if_neg h]
    by_cases h2 : s[bl s k]? ≠ some 44
    · rw [if_pos h2, if_pos h2]; rfl
    · rw [if_neg h2, if_neg h2]
      cases keyM s (bl s (bl s k + 1)) { f with vs := f.vs ++ [v] } with
      | error r => rfl
      | ok p => obtain ⟨k', f'⟩ := p; rfl
theorem wordM_push (s : List UInt8) (k : Nat) (o op : List Fm) (x : List UInt8) (v : V) : wordM s k (o ++ op) x v = mapP op (wordM s k o x v) := by
  unfold wordM
  by_cases h : (s.drop k).take x.length = x
  · rw [if_pos h, if_pos h]; rfl
  · rw [if_neg h, if_neg h]; rfl
theorem begM_push (s : List UInt8) (d : Int) (k : Nat) (o op : List Fm) : begM s d k (o ++ op) = mapP op (begM s (d + (op.length : Int)) k o) := by
  unfold begM
  rw [show d + ((o ++ op).length : Int) = d + (op.length : Int) + (o.length : Int) by rw [List.length_append]; omega]
  by_cases h1 : s.length ≤ k
  · rw [if_pos h1, if_pos h1]; rfl
  rw [if_neg h1, if_neg h1]
  by_cases h2 : 24 < d + (op.length : Int) + (o.length : Int)
  · rw [if_pos h2, if_pos h2]; rfl
  rw [if_neg h2, if_neg h2]
  by_cases h3 : s.getD k 0 = 110
  · rw [if_pos h3, if_pos h3]; exact wordM_push _ _ _ _ _ _
  rw [if_neg h3, if_neg h3]
  by_cases h4 : s.getD k 0 = 102
  · rw [if_pos h4, if_pos h4]; exact wordM_push _ _ _ _ _ _
  rw [if_neg h4, if_neg h4]
  by_cases h5 : s.getD k 0 = 116
  · rw [if_pos h5, if_pos h5]; exact wordM_push _ _ _ _ _ _
  rw [if_neg h5, if_neg h5]
  by_cases h6 : numB (s.getD k 0) = true
  · rw [if_pos h6, if_pos h6]
    unfold numM
    by_cases h : (Nu.scanL s k).2.2 = 0
    · rw [if_pos h, if_pos h]; rfl
    · rw [if_neg h, if_neg h]; rfl
  rw [if_neg h6, if_neg h6]
  by_cases h7 : s.getD k 0 = 34
  · rw [if_pos h7, if_pos h7]
    unfold texM
    by_cases h : (Ru.unqL s k).2.2 = 0
    · rw [if_pos h, if_pos h]; rfl
    · rw [if_neg h, if_neg h]; rfl
  rw [if_neg h7, if_neg h7]
  by_cases h8 : s.getD k 0 = 91
  · rw [if_pos h8, if_pos h8]; exact enterM_push _ _ _ _ _
  rw [if_neg h8, if_neg h8]
  by_cases h9 : s.getD k 0 = 123
  · rw [if_pos h9, if_pos h9]; exact enterM_push _ _ _ _ _
  rw [if_neg h9, if_neg h9]; rfl
/-- How the whole run goes on behind a part's own run. -/
def PartS (s : List UInt8) (d : Int) (R : Except Er (V × Nat)) (op : List Fm) : Except Er (V × Nat) → Prop
  | .error q => R = .error q
  | .ok (v, e) => RunS s d R (.got v e op)
/-- What a part's own run comes to, the whole run comes to with what is open behind it. -/
theorem run_push {s : List UInt8} {d : Int} {op : List Fm} {R : Except Er (V × Nat)} : ∀ (n : Nat) (st : St) (r : Except Er (V × Nat)), runM s (d + (op.length : Int)) n st = some r → RunS s d R (st.push op) → PartS s d R op r
  | 0, st, r, h, _ => by cases st <;> cases h
  | n + 1, .got v k [], r, h, h' => by
    rw [runM] at h
    cases h
    exact h'
  | n + 1, .got v k (f :: o), r, h, h' => by
    rw [runM] at h
    have h1 : RunS s d R (.got v k (f :: (o ++ op))) := h'
    cases e : putM s v k f o with
    | error q =>
      rw [e] at h
      cases h
      rcases h1.got with ⟨q', h2, h3⟩ | ⟨st, h2, _⟩
      · rw [putM_push, e] at h2
        cases h2
        exact h3
      · rw [putM_push, e] at h2
        cases h2
    | ok st =>
      rw [e] at h
      rcases h1.got with ⟨q', h2, h3⟩ | ⟨st', h2, h3⟩
      · rw [putM_push, e] at h2
        cases h2
      · rw [putM_push, e] at h2
        cases h2
        exact run_push n st r h h3
  | n + 1, .rd k o, r, h, h' => by
    rw [runM] at h
    have h1 : RunS s d R (.rd k (o ++ op)) := h'
    cases e : begM s (d + (op.length : Int)) k o with
    | error q =>
      rw [e] at h
      cases h
      rcases h1.rd with ⟨q', h2, h3⟩ | ⟨st, h2, _⟩
      · rw [begM_push, e] at h2
        cases h2
        exact h3
      · rw [begM_push, e] at h2
        cases h2
    | ok st =>
      rw [e] at h
      rcases h1.rd with ⟨q', h2, h3⟩ | ⟨st', h2, h3⟩
      · rw [begM_push, e] at h2
        cases h2
      · rw [begM_push, e] at h2
        cases h2
        exact run_push n st r h h3
/-- A part of the innermost list or object, read as a value by itself. -/
theorem RunS.part {s : List UInt8} {d : Int} {k : Nat} {f : Fm} {R r : Except Er (V × Nat)} (hk : k ≤ s.length) (hr : valM s k (d + 1) = r) (h : RunS s d R (.rd k [f])) : PartS s d R [f] r :=
  run_push (op := [f]) (s.length + 2) (.rd k []) r (hr ▸ valM_run s k (d + 1) hk) h
theorem RunS.start {s : List UInt8} {d : Int} {k : Nat} {R : Except Er (V × Nat)} (hk : k ≤ s.length) (hr : valM s k d = R) : RunS s d R (.rd k []) := ⟨_, hr ▸ valM_run s k d hk⟩
end Go.Proofs.YtgbagdfcdljleaaGreatDoor

namespace Go.Proofs.YtgbagdfcdljleaaGreatDoor
open Go.RowKit Go.Maps

theorem isBl_eq (c : UInt8) : isBl c = (((c.toNat : Int) == 32) || ((c.toNat : Int) == 9) || ((c.toNat : Int) == 10) || ((c.toNat : Int) == 13)) := by
  have key : ∀ n : Nat, n < 256 → (c == UInt8.ofNat n) = ((c.toNat : Int) == (n : Int)) := fun n hn => by
    rw [Bool.eq_iff_iff, beq_iff_eq, beq_iff_eq]
    constructor
    · intro h; rw [h]; simp; omega
    · intro h
      have : c.toNat = n := by omega
      rw [← this]; simp
  unfold isBl
  rw [show (32 : UInt8) = UInt8.ofNat 32 from rfl, show (9 : UInt8) = UInt8.ofNat 9 from rfl, show (10 : UInt8) = UInt8.ofNat 10 from rfl, show (13 : UInt8) = UInt8.ofNat 13 from rfl, key 32 (by decide), key 9 (by decide), key 10 (by decide), key 13 (by decide)]
  rfl
set_option maxRecDepth 100000 in
set_option maxHeartbeats 2000000 in
theorem rBlanks_any (s : ByteArray) (at_ : Int) (hs : s.size ≤ 4294967296) (w : World) :
    Calls Tryz.prog 12 #[.string s, .int .i64 at_] w fun e w' => e = .returned (.int .i64 (bl s.data.toList (wiN s.size at_))) ∧ w' = w := by
  obtain ⟨k, hk⟩ : ∃ k, wiN s.size at_ = k := ⟨_, rfl⟩
  have hks : k ≤ s.size := hk ▸ wiN_le _ _
  have hd : ∃ a : Int, (if at_ < 0 then (0 : Int) else at_) = a ∧ (if (s.size : Int) < a then (s.size : Int) else a) = (k : Int) := by
    refine ⟨_, rfl, ?_⟩
    unfold wiN at hk
    split <;> split <;> omega
  obtain ⟨a, ha1, ha2⟩ := hd
  rw [hk]
  clear hk
  go_enter Tryz.func12, Tryz.ntmps12
  go_wp2_with fail
  go_loop [1] (fun i => ∃ j : Nat, k ≤ j ∧ j ≤ s.size ∧ i = .int .i64 j ∧ ∀ q, k ≤ q → q < j → isBl (s.data.toList.getD q 0) = true) (fun i => s.size - (intOf i).toNat)
  case atStart => exact ⟨k, Nat.le_refl _, hks, by first | rfl | rw [ha1, ha2] | (congr 1; omega), fun q h1 h2 => by omega⟩
  case round =>
    obtain ⟨j, h1, h2, rfl, h3⟩ := hrel
    have H3 := Lib.hid h3
    clear h3 ha1 ha2
    by_cases hj : j < s.size
    · have hg : s.data.toList.getD j 0 = s[j] := by rw [List.getD, toList_getElem s j hj]; rfl
      have HG := Lib.hid hg
      have hb := isBl_eq s[j]
      have HB := Lib.hid hb
      clear hg hb
      cases t1 : (((s[j]).toNat : Int) == 32) with
      | true =>
        go_wp2_with fail
        go_round
        case rel => exact ⟨j + 1, by omega, by omega, by go_num, fun q q1 q2 => by
          by_cases e : q = j
          · rw [e, HG.out, HB.out, t1]; rfl
          · exact H3.out q q1 (by omega)⟩
        case measure => simp [intOf]; omega
      | false =>
        cases t2 : (((s[j]).toNat : Int) == 9) with
        | true =>
          go_wp2_with fail
          go_round
          case rel => exact ⟨j + 1, by omega, by omega, by go_num, fun q q1 q2 => by
            by_cases e : q = j
            · rw [e, HG.out, HB.out, t1, t2]; rfl
            · exact H3.out q q1 (by omega)⟩
          case measure => simp [intOf]; omega
        | false =>
          cases t3 : (((s[j]).toNat : Int) == 10) with
          | true =>
            go_wp2_with fail
            go_round
            case rel => exact ⟨j + 1, by omega, by omega, by go_num, fun q q1 q2 => by
              by_cases e : q = j
              · rw [e, HG.out, HB.out, t1, t2, t3]; rfl
              · exact H3.out q q1 (by omega)⟩
            case measure => simp [intOf]; omega
          | false =>
            cases t4 : (((s[j]).toNat : Int) == 13) with
            | true =>
              go_wp2_with fail
              go_round
              case rel => exact ⟨j + 1, by omega, by omega, by go_num, fun q q1 q2 => by
                by_cases e : q = j
                · rw [e, HG.out, HB.out, t1, t2, t3, t4]; rfl
                · exact H3.out q q1 (by omega)⟩
              case measure => simp [intOf]; omega
            | false =>
              have hq := Lib.hid (bl_of (j - k) k j (by omega) (by rw [toList_length]; exact h2) H3.out (fun _ => by rw [HG.out, HB.out, t1, t2, t3, t4]; rfl))
              go_wp2_with fail
              go_ret
              exact ⟨by rw [hq.out]; rfl, rfl⟩
    · have hje : j = s.size := by omega
      have hq := Lib.hid (bl_of (j - k) k j (by omega) (by rw [toList_length]; exact h2) H3.out (fun h => by rw [toList_length] at h; omega))
      subst hje
      go_wp2_with fail
      go_ret
      exact ⟨by rw [hq.out]; rfl, rfl⟩
/-- In place. -/
theorem rBlanks_in (s : ByteArray) {k : Nat} (hk : k ≤ s.size) (hs : s.size ≤ 4294967296) (w : World) :
    Calls Tryz.prog 12 #[.string s, .int .i64 k] w fun e w' => e = .returned (.int .i64 (bl s.data.toList k)) ∧ w' = w := by
  have := rBlanks_any s k hs w
  rwa [wiN_in hk] at this
theorem ext_drop_take (s : ByteArray) (k n : Nat) : (s.extract k (k + n)).data.toList = (s.data.toList.drop k).take n := by
  have := Lib.extract_toList s k (k + n)
  rw [show (s.extract k (k + n)).data.toList = (s.extract k (k + n)).toList from (Lib.toList_data _).symm, this, Nat.add_sub_cancel_left]
set_option maxRecDepth 100000 in
set_option maxHeartbeats 1000000 in
theorem begins_any (s p : ByteArray) (k : Nat) (hk : k ≤ s.size) (hs : s.size ≤ 4294967296) (hp : p.size ≤ 100) (w : World) :
    Calls Tryz.prog 16 #[.string s, .int .i64 k, .string p] w fun e w' => e = .returned (.bool (decide ((s.data.toList.drop k).take p.data.toList.length = p.data.toList))) ∧ w' = w := by
  rw [toList_length p]
  by_cases h : k + p.size ≤ s.size
  · obtain ⟨q, hq⟩ : ∃ q, ((s.extract k (k + p.size)).toList == p.toList) = q := ⟨_, rfl⟩
    have hd : decide ((s.data.toList.drop k).take p.size = p.data.toList) = q := by
      rw [← hq, Lib.toList_data, Lib.toList_data, ext_drop_take, Bool.eq_iff_iff, decide_eq_true_iff, beq_iff_eq]
    rw [hd]
    have h1 : decide ((p.size : Int) ≤ (s.size : Int) - (k : Int)) = true := decide_eq_true (by omega)
    have h2 : (k : Int) + (p.size : Int) ≤ (s.size : Int) := by omega
    have h3 : (k : Int) ≤ (k : Int) + (p.size : Int) := by omega
    clear hd
    go_enter Tryz.func16, Tryz.ntmps16
    go_wp2_with fail
    go_ret
    exact ⟨rfl, rfl⟩
  · have hd : decide ((s.data.toList.drop k).take p.size = p.data.toList) = false := decide_eq_false fun e => by
      have := congrArg List.length e
      rw [List.length_take, List.length_drop, toList_length, toList_length] at this
      omega
    rw [hd]
    have h1 : decide ((p.size : Int) ≤ (s.size : Int) - (k : Int)) = false := decide_eq_false (by omega)
    clear hd
    go_enter Tryz.func16, Tryz.ntmps16
    go_wp2_with fail
    go_ret
    exact ⟨rfl, rfl⟩
end Go.Proofs.YtgbagdfcdljleaaGreatDoor

namespace Go.Proofs.YtgbagdfcdljleaaGreatDoor
open Go.RowKit Go.Maps

/-! ### What follows of a run -/
def GoS (s : List UInt8) (d : Int) (R : Except Er (V × Nat)) : Except Er St → Prop
  | .error q => R = .error q
  | .ok st => RunS s d R st
def KeyS (s : List UInt8) (d : Int) (R : Except Er (V × Nat)) (k : Nat) (f : Fm) : Prop :=
  match keyM s k f with
  | .error q => R = .error q
  | .ok (k', f') => RunS s d R (.rd k' [f'])
theorem GoS.of {s : List UInt8} {d : Int} {R : Except Er (V × Nat)} {k : Nat} (h : RunS s d R (.rd k [])) : GoS s d R (begM s d k []) := by
  rcases h.rd with ⟨q, h1, h2⟩ | ⟨st, h1, h2⟩ <;> rw [h1] <;> exact h2
theorem GoS.enter {s : List UInt8} {d : Int} {R : Except Er (V × Nat)} {k : Nat} {f : Fm} (h : GoS s d R (enterM s k [] f)) :
    (s[bl s (k + 1)]? = some f.close → R = .ok (f.val, bl s (k + 1) + 1)) ∧ (s[bl s (k + 1)]? ≠ some f.close → KeyS s d R (bl s (k + 1)) f) := by
  unfold enterM at h
  constructor
  · intro e
    rw [if_pos e] at h
    exact RunS.fin h
  · intro e
    rw [if_neg e] at h
    unfold KeyS
    cases hk : keyM s (bl s (k + 1)) f with
    | error q => rw [hk] at h; exact h
    | ok p => obtain ⟨k', f'⟩ := p; rw [hk] at h; exact h
theorem RunS.putS {s : List UInt8} {d : Int} {R : Except Er (V × Nat)} {k : Nat} {v : V} {f : Fm} (h : RunS s d R (.got v k [f])) :
    (s[bl s k]? = some f.close → R = .ok (Fm.val { f with vs := f.vs ++ [v] }, bl s k + 1)) ∧
    (s[bl s k]? ≠ some f.close → s[bl s k]? ≠ some 44 → R = .error (bl s k, 40)) ∧
    (s[bl s k]? ≠ some f.close → s[bl s k]? = some 44 → KeyS s d R (bl s (bl s k + 1)) { f with vs := f.vs ++ [v] }) := by
  have h' : GoS s d R (putM s v k f []) := by
    rcases h.got with ⟨q, h1, h2⟩ | ⟨st, h1, h2⟩ <;> rw [h1] <;> exact h2
  unfold putM at h'
  refine ⟨fun e => ?_, fun e e2 => ?_, fun e e2 => ?_⟩
  · rw [if_pos e] at h'
    exact RunS.fin h'
  · rw [if_neg e, if_pos e2] at h'
    exact h'
  · rw [if_neg e, if_neg (fun h => h e2)] at h'
    unfold KeyS
    cases hk : keyM s (bl s (bl s k + 1)) { f with vs := f.vs ++ [v] } with
    | error q => rw [hk] at h'; exact h'
    | ok p => obtain ⟨k', f'⟩ := p; rw [hk] at h'; exact h'
theorem KeyS.list {s : List UInt8} {d : Int} {R : Except Er (V × Nat)} {k : Nat} {vs : List V} {ks : List ByteArray} (h : KeyS s d R k ⟨false, vs, ks⟩) : RunS s d R (.rd k [⟨false, vs, ks⟩]) := h
theorem KeyS.obj {s : List UInt8} {d : Int} {R : Except Er (V × Nat)} {k : Nat} {vs : List V} {ks : List ByteArray} (h : KeyS s d R k ⟨true, vs, ks⟩) :
    (s[k]? ≠ some 34 → R = .error (k, 40)) ∧
    (s[k]? = some 34 → (Ru.unqL s k).2.2 ≠ 0 → R = .error ((Ru.unqL s k).2.1, (Ru.unqL s k).2.2)) ∧
    (s[k]? = some 34 → (Ru.unqL s k).2.2 = 0 → hasK ks (Ru.unqL s k).1 = true → R = .error (k, 41)) ∧
    (s[k]? = some 34 → (Ru.unqL s k).2.2 = 0 → hasK ks (Ru.unqL s k).1 = false → s[bl s (Ru.unqL s k).2.1]? ≠ some 58 → R = .error (bl s (Ru.unqL s k).2.1, 40)) ∧
    (s[k]? = some 34 → (Ru.unqL s k).2.2 = 0 → hasK ks (Ru.unqL s k).1 = false → s[bl s (Ru.unqL s k).2.1]? = some 58 → RunS s d R (.rd (bl s (bl s (Ru.unqL s k).2.1 + 1)) [⟨true, vs, ks ++ [⟨(Ru.unqL s k).1.toArray⟩]⟩])) := by
  unfold KeyS keyM at h
  rw [if_neg (show ¬ (true = false) by decide)] at h
  refine ⟨fun e => ?_, fun e e2 => ?_, fun e e2 e3 => ?_, fun e e2 e3 e4 => ?_, fun e e2 e3 e4 => ?_⟩
  · rw [if_pos e] at h; exact h
  · rw [if_neg (fun x => x e), if_pos e2] at h; exact h
  · rw [if_neg (fun x => x e), if_neg (fun x => x e2), if_pos e3] at h; exact h
  · rw [if_neg (fun x => x e), if_neg (fun x => x e2), if_neg (by rw [e3]; decide), if_pos e4] at h; exact h
  · rw [if_neg (fun x => x e), if_neg (fun x => x e2), if_neg (by rw [e3]; decide), if_neg (fun x => x e4)] at h; exact h
theorem sgn_yes (s : ByteArray) (k : Nat) (h : k < s.size) (c : UInt8) (e : s.data.toList[k]? = some c) : (((s[k]'h).toNat : Int) == (c.toNat : Int)) = true := by
  rw [toList_getElem s k h] at e
  rw [beq_iff_eq, Option.some.inj e]
theorem sgn_no (s : ByteArray) (k : Nat) (h : k < s.size) (c : UInt8) (e : s.data.toList[k]? ≠ some c) : (((s[k]'h).toNat : Int) == (c.toNat : Int)) = false := by
  rw [toList_getElem s k h] at e
  rw [beq_eq_false_iff_ne]
  intro e'
  exact e (congrArg some (UInt8.toNat_inj.1 (by omega)))
theorem sgn_yes' (s : ByteArray) (k : Nat) (h : k < s.size) (c : UInt8) (e : s.data.toList[k]? = some c) : (((s[k]'h).toNat : Int) != (c.toNat : Int)) = false := by
  rw [bne, sgn_yes s k h c e]; rfl
theorem sgn_no' (s : ByteArray) (k : Nat) (h : k < s.size) (c : UInt8) (e : s.data.toList[k]? ≠ some c) : (((s[k]'h).toNat : Int) != (c.toNat : Int)) = true := by
  rw [bne, sgn_no s k h c e]; rfl
theorem none_at (s : ByteArray) (k : Nat) (h : ¬ k < s.size) (c : UInt8) : s.data.toList[k]? ≠ some c := by
  rw [List.getElem?_eq_none (by rw [toList_length]; omega)]
  exact fun e => by cases e

/-! ### In memory -/
structure LW (w : World) (kd : Int) (vs : List V) (ks : List ByteArray) (lv kv : Value) (xs : List Value) (S : Nat → Prop) (W : World) : Prop where
  kb : Below w.heap.size w W
  z6 : Bx W w.heap.size zeroC 28
  z9 : Bx W (w.heap.size + 1) #[.int .i8 kd, .bool false, .int .i64 0, .string ⟨#[]⟩, lv, kv] 28
  lo : W.ownsRow (w.heap.size + 2) 28 6 lv vs.length xs
  ko : W.ownsRow (w.heap.size + 2) 9 1 kv ks.length (ks.map .string)
  la : Ow.isVsLa W S vs xs
  kz : ∀ k ∈ ks, k.size ≤ 1000000
  hS : ∀ q, S q → w.heap.size + 2 ≤ q ∧ q < W.heap.size ∧ lv.ownBlock ≠ some q ∧ kv.ownBlock ≠ some q
section
variable {w W W' y : World} {kd : Int} {vs : List V} {ks : List ByteArray} {lv kv lv' kv' : Value} {xs : List Value} {S Sv : Nat → Prop}
theorem LW.keep (h : LW w kd vs ks lv kv xs S W) (hb : Below w.heap.size w W') (hsz : W.heap.size ≤ W'.heap.size) (hk : ∀ q, w.heap.size ≤ q → q < W.heap.size → W'.heap[q]? = W.heap[q]?) : LW w kd vs ks lv kv xs S W' where
  kb := hb
  z6 := h.z6.kp (hk _ (Nat.le_refl _) h.z6.lt)
  z9 := h.z9.kp (hk _ (Nat.le_succ _) h.z9.lt)
  lo := own_kp h.lo fun q e => hk q (by have := (h.lo.lt q e).1; omega) (h.lo.lt q e).2
  ko := own_kp h.ko fun q e => hk q (by have := (h.ko.lt q e).1; omega) (h.ko.lt q e).2
  la := la_kp h.la fun q e => hk q (by have := (h.hS q e).1; omega) (h.hS q e).2.1
  kz := h.kz
  hS := fun q e => ⟨(h.hS q e).1, Nat.lt_of_lt_of_le (h.hS q e).2.1 hsz, (h.hS q e).2.2⟩
theorem LW.below (h : LW w kd vs ks lv kv xs S W) (hb : Below W.heap.size W W') : LW w kd vs ks lv kv xs S W' :=
  h.keep (h.kb.trans (hb.mono h.kb.size)) hb.size fun q _ hq => hb.block q hq
theorem LW.alloc (h : LW w kd vs ks lv kv xs S W) (o : Obj) : LW w kd vs ks lv kv xs S (W.alloc o) := h.below ((Below.refl _ _).alloc (Nat.le_refl _) o)
theorem LW.start (w : World) (kd : Int) : LW w kd [] [] (.slice none 0 0) (.slice none 0 0) [] (fun _ => False) ((w.alloc (.cells zeroC 28)).alloc (.cells #[.int .i8 kd, .bool false, .int .i64 0, .string ⟨#[]⟩, .slice none 0 0, .slice none 0 0] 28)) where
  kb := ((Below.refl _ _).alloc (Nat.le_refl _) _).alloc (by simp) _
  z6 := (Bx.new w _ _).alloc _
  z9 := by
    have := Bx.new (w.alloc (.cells zeroC 28)) #[.int .i8 kd, .bool false, .int .i64 0, .string ⟨#[]⟩, .slice none 0 0, .slice none 0 0] 28
    rwa [World.size_alloc] at this
  lo := World.ownsRow_nil _ _ _ _
  ko := World.ownsRow_nil _ _ _ _
  la := rfl
  kz := fun k hk => by cases hk
  hS := fun q e => e.elim
/-- A part is put behind the others. -/
theorem LW.put {v : V} {c0 c1 c2 c3 c4 c5 : Value} (h : LW w kd vs ks lv kv xs S W) (hva : isVa W Sv v (.agg #[c0, c1, c2, c3, c4, c5])) (hSv : ∀ q, Sv q → w.heap.size + 2 ≤ q ∧ q < W.heap.size ∧ lv.ownBlock ≠ some q ∧ kv.ownBlock ≠ some q)
    (own' : y.ownsRow (w.heap.size + 2) 28 6 lv' (vs.length + 1) (xs ++ [c0, c1, c2, c3, c4, c5])) (gr : W.grownBy y lv.ownBlock) (at' : lv'.ownBlock = lv.ownBlock ∨ lv'.ownBlock = some W.heap.size) :
    LW w kd (vs ++ [v]) ks lv' kv (xs ++ [c0, c1, c2, c3, c4, c5]) (fun q => S q ∨ Sv q) (y.setCell ⟨w.heap.size + 1, 4, none⟩ lv') := by
  have hlk := types_apart h.lo h.ko (by decide)
  have hl : ∀ q, lv.ownBlock = some q → w.heap.size + 2 ≤ q ∧ q < W.heap.size := fun q e => h.lo.lt q e
  have hk : ∀ q, q < W.heap.size → lv.ownBlock ≠ some q → q ≠ w.heap.size + 1 → (y.setCell ⟨w.heap.size + 1, 4, none⟩ lv').heap[q]? = W.heap[q]? := fun q h1 h2 h3 =>
    (Below.heap_setCell _ _ _ _ h3).trans (gr.block q h1 (fun e => h2 e.symm))
  have h9 := h.z9.lt
  have hsz : W.heap.size ≤ (y.setCell ⟨w.heap.size + 1, 4, none⟩ lv').heap.size := by simpa using gr.size
  refine ⟨(h.kb.grown gr h.kb.size (fun q e => by have := (hl q e).1; omega)).setCell (Nat.le_succ _) _, ?_, ?_, ?_, ?_, ?_, h.kz, ?_⟩
  · exact h.z6.kp (hk _ h.z6.lt (fun e => by have := (hl _ e).1; omega) (by omega))
  · have hz : y.heap[w.heap.size + 1]? = some (.cells #[.int .i8 kd, .bool false, .int .i64 0, .string ⟨#[]⟩, lv, kv] 28 (0, 0)) := (gr.block _ h9 (fun e => by have := (hl _ e.symm).1; omega)).trans h.z9
    exact heap_setCell_same y _ 4 _ _ lv' hz
  · rw [List.length_append]
    exact own_kp own' fun q e => Below.heap_setCell _ _ _ _ (by have := (own'.lt q e).1; show q ≠ w.heap.size + 1; omega)
  · exact own_kp h.ko fun q e => hk q (h.ko.lt q e).2 (fun e' => hlk q e' e) (by have := (h.ko.lt q e).1; omega)
  · refine Ow.la_app _ _ _ _ (Ow.la_mono (fun q e => .inl e) _ _ (la_kp h.la fun q e => ?_)) (Ow.la_single (isVa_mono (fun q e => .inr e) _ _ (isVa_kp hva fun q e => ?_)))
    · have h1 := h.hS q e
      exact hk q h1.2.1 h1.2.2.1 (by omega)
    · have h1 := hSv q e
      exact hk q h1.2.1 h1.2.2.1 (by omega)
  · rintro q (e | e)
    · have h1 := h.hS q e
      refine ⟨h1.1, by omega, fun e' => ?_, h1.2.2.2⟩
      rcases at' with a | a
      · exact h1.2.2.1 (a ▸ e')
      · rw [a] at e'
        have := Option.some.inj e'
        omega
    · have h1 := hSv q e
      refine ⟨h1.1, by omega, fun e' => ?_, h1.2.2.2⟩
      rcases at' with a | a
      · exact h1.2.2.1 (a ▸ e')
      · rw [a] at e'
        have := Option.some.inj e'
        omega
/-- A key is put behind the others. -/
theorem LW.key {K : ByteArray} (h : LW w kd vs ks lv kv xs S W) (hK : K.size ≤ 1000000)
    (own' : y.ownsRow (w.heap.size + 2) 9 1 kv' (ks.length + 1) (ks.map .string ++ [.string K])) (gr : W.grownBy y kv.ownBlock) (at' : kv'.ownBlock = kv.ownBlock ∨ kv'.ownBlock = some W.heap.size) :
    LW w kd vs (ks ++ [K]) lv kv' xs S (y.setCell ⟨w.heap.size + 1, 5, none⟩ kv') := by
  have hlk := types_apart h.lo h.ko (by decide)
  have hl : ∀ q, kv.ownBlock = some q → w.heap.size + 2 ≤ q ∧ q < W.heap.size := fun q e => h.ko.lt q e
  have hk : ∀ q, q < W.heap.size → kv.ownBlock ≠ some q → q ≠ w.heap.size + 1 → (y.setCell ⟨w.heap.size + 1, 5, none⟩ kv').heap[q]? = W.heap[q]? := fun q h1 h2 h3 =>
    (Below.heap_setCell _ _ _ _ h3).trans (gr.block q h1 (fun e => h2 e.symm))
  have h9 := h.z9.lt
  have hsz : W.heap.size ≤ (y.setCell ⟨w.heap.size + 1, 5, none⟩ kv').heap.size := by simpa using gr.size
  refine ⟨(h.kb.grown gr h.kb.size (fun q e => by have := (hl q e).1; omega)).setCell (Nat.le_succ _) _, ?_, ?_, ?_, ?_, ?_, ?_, ?_⟩
  · exact h.z6.kp (hk _ h.z6.lt (fun e => by have := (hl _ e).1; omega) (by omega))
  · have hz : y.heap[w.heap.size + 1]? = some (.cells #[.int .i8 kd, .bool false, .int .i64 0, .string ⟨#[]⟩, lv, kv] 28 (0, 0)) := (gr.block _ h9 (fun e => by have := (hl _ e.symm).1; omega)).trans h.z9
    exact heap_setCell_same y _ 5 _ _ kv' hz
  · exact own_kp h.lo fun q e => hk q (h.lo.lt q e).2 (fun e' => hlk q e e') (by have := (h.lo.lt q e).1; omega)
  · rw [List.length_append, List.map_append]
    exact own_kp own' fun q e => Below.heap_setCell _ _ _ _ (by have := (own'.lt q e).1; show q ≠ w.heap.size + 1; omega)
  · exact la_kp h.la fun q e => by
      have h1 := h.hS q e
      exact hk q h1.2.1 h1.2.2.2 (by omega)
  · intro k hk
    rcases List.mem_append.1 hk with e | e
    · exact h.kz k e
    · simp only [List.mem_cons, List.not_mem_nil, or_false] at e
      subst e; exact hK
  · intro q e
    have h1 := h.hS q e
    refine ⟨h1.1, by omega, h1.2.2.1, fun e' => ?_⟩
    rcases at' with a | a
    · exact h1.2.2.2 (a ▸ e')
    · rw [a] at e'
      have := Option.some.inj e'
      omega
/-- The whole, as a value. -/
theorem LW.val (h : LW w kd vs ks lv kv xs S W) (hkd : -128 ≤ kd ∧ kd ≤ 127) : isVa W (fun q => w.heap.size + 2 ≤ q ∧ q < W.heap.size) (.mk kd false 0 ⟨#[]⟩ vs ks) (.agg #[.int .i8 kd, .bool false, .int .i64 0, .string ⟨#[]⟩, lv, kv]) := by
  unfold isVa
  have hlt := h.lo.lt
  have hlk := h.ko.lt
  refine ⟨lv, kv, rfl, hkd, by decide, by decide, ?_, ?_⟩
  · obtain ⟨o, ad, c, rfl, h1, h2, h3, h4, h5⟩ := Ow.own_form h.lo
    refine ⟨ad, c, ⟨o, rfl, h1, h2, h3⟩, fun h0 => ?_, ?_⟩
    · have := h3 h0
      subst this
      exact hlt _ rfl
    · exact isVas_mono (fun q e => ⟨(h.hS q e).1, (h.hS q e).2.1⟩) _ _ (Ow.la_vas _ _ _ h.la h5)
  · obtain ⟨o, ad, c, rfl, h1, h2, h3, h4, h5⟩ := Ow.own_form h.ko
    refine ⟨ad, c, ⟨o, rfl, h1, h2, h3⟩, fun h0 => ?_, fun i hi => ⟨h5 i _ ?_, ?_⟩⟩
    · have := h3 h0
      subst this
      exact hlk _ rfl
    · rw [List.getElem?_map, List.getElem?_eq_getElem hi]; rfl
    · exact Nat.le_trans (h.kz _ (List.getElem_mem hi)) (by decide)
theorem six_below' {w0 W : World} {n q : Nat} (h : Below n w0 W) (hq : n ≤ q) (c0 c1 c2 c3 c4 c5 : Value) : Below n w0 ((((((W.setCell ⟨q, 0, none⟩ c0).setCell ⟨q, 1, none⟩ c1).setCell ⟨q, 2, none⟩ c2).setCell ⟨q, 3, none⟩ c3).setCell ⟨q, 4, none⟩ c4).setCell ⟨q, 5, none⟩ c5) :=
  (((((h.setCell (p := ⟨q, 0, none⟩) hq c0).setCell (p := ⟨q, 1, none⟩) hq c1).setCell (p := ⟨q, 2, none⟩) hq c2).setCell (p := ⟨q, 3, none⟩) hq c3).setCell (p := ⟨q, 4, none⟩) hq c4).setCell (p := ⟨q, 5, none⟩) hq c5
theorem LW.ans (h : LW w kd vs ks lv kv xs S W) (hkd : -128 ≤ kd ∧ kd ≤ 127) (e : Nat) :
    AnsR w (.ok (.mk kd false 0 ⟨#[]⟩ vs ks, e)) (.returned (.tuple #[.agg #[.int .i8 kd, .bool false, .int .i64 0, .string ⟨#[]⟩, lv, kv], .int .i64 e, .int .i64 0])) ((((((W.setCell ⟨w.heap.size, 0, none⟩ (.int .i8 kd)).setCell ⟨w.heap.size, 1, none⟩ (.bool false)).setCell ⟨w.heap.size, 2, none⟩ (.int .i64 0)).setCell ⟨w.heap.size, 3, none⟩ (.string ⟨#[]⟩)).setCell ⟨w.heap.size, 4, none⟩ lv).setCell ⟨w.heap.size, 5, none⟩ kv) :=
  ⟨_, _, rfl, isVa_kp (h.val hkd) fun q e => six_heap _ _ _ _ _ _ _ _ (by have := e.1; omega), fun q e => by have := e.1; omega, six_below' h.kb (Nat.le_refl _) _ _ _ _ _ _⟩
theorem LW.err (h : LW w kd vs ks lv kv xs S W) (a c : Nat) :
    AnsR w (.error (a, c)) (.returned (.tuple #[zeroV, .int .i64 a, .int .i64 c])) ((((((W.setCell ⟨w.heap.size, 0, none⟩ (.int .i8 0)).setCell ⟨w.heap.size, 1, none⟩ (.bool false)).setCell ⟨w.heap.size, 2, none⟩ (.int .i64 0)).setCell ⟨w.heap.size, 3, none⟩ (.string ⟨#[]⟩)).setCell ⟨w.heap.size, 4, none⟩ (.slice none 0 0)).setCell ⟨w.heap.size, 5, none⟩ (.slice none 0 0)) :=
  ⟨rfl, six_below' h.kb (Nat.le_refl _) _ _ _ _ _ _⟩
end
end Go.Proofs.YtgbagdfcdljleaaGreatDoor

namespace Go.Proofs.YtgbagdfcdljleaaGreatDoor
open Go.RowKit Go.Maps

set_option maxRecDepth 100000 in
set_option maxHeartbeats 4000000 in
theorem rlist_any (s : ByteArray) (k : Nat) (d : Int) (hk : k < s.size) (hs : s.size ≤ 20000) (hd1 : -9223372036854775808 ≤ d) (hd2 : d ≤ 24) (w : World)
    (IH : ∀ k', k < k' → k' ≤ s.size → ∀ w, Calls Tryz.prog 7 #[.string s, .int .i64 (k' : Nat), .int .i64 (d + 1)] w fun e w' => AnsR w (valM s.data.toList k' (d + 1)) e w')
    (R : Except Er (V × Nat)) (hR : GoS s.data.toList d R (enterM s.data.toList k [] ⟨false, [], []⟩)) :
    Calls Tryz.prog 20 #[.string s, .int .i64 k, .int .i64 d] w fun e w' => AnsR w R e w' := by
  obtain ⟨e1, e2⟩ := hR.enter
  obtain ⟨K, hK⟩ : ∃ K, bl s.data.toList (k + 1) = K := ⟨_, rfl⟩
  rw [hK] at e1 e2
  have hKs : K ≤ s.size := by
    have := bl_le s.data.toList (k + 1) (by rw [toList_length]; omega)
    rwa [hK, toList_length] at this
  have hkK : k < K := by
    have := bl_ge s.data.toList (k + 1)
    omega
  have HB : Hid (∀ w, Calls Tryz.prog 12 #[.string s, .int .i64 ((k : Int) + 1)] w fun e w' => e = .returned (.int .i64 (K : Nat)) ∧ w' = w) := Lib.hid (fun w => by
    have := rBlanks_in s (k := k + 1) (by omega) (by omega) w
    rw [hK] at this
    exact this)
  have HE1 := Lib.hid e1
  have HE2 := Lib.hid e2
  have HS := Lib.hid (LW.start w 4)
  unfold zeroC at HS
  have HI := Lib.hid IH
  clear hR hK IH e1 e2
  go_enter Tryz.func20, Tryz.ntmps20
  go_upto_region 2 with fail
  obtain ⟨X, hX⟩ : ∃ X, X = ((w.alloc (.cells #[.int .i8 0, .bool false, .int .i64 0, .string ⟨#[]⟩, .slice none 0 0, .slice none 0 0] 28)).alloc (.cells #[.int .i8 4, .bool false, .int .i64 0, .string ⟨#[]⟩, .slice none 0 0, .slice none 0 0] 28)) := ⟨_, rfl⟩
  rw [← hX] at HS ⊢
  clear hX
  go_wp2_with fail
  refine (HB.out X).mono ?_
  rintro e w0 ⟨rfl, h0⟩
  have h0 := h0.symm
  subst h0
  clear HB
  by_cases hc : s.data.toList[K]? = some 93
  · have hK2 : K < s.size := Nat.lt_of_not_le fun h => none_at s K (by omega) 93 hc
    have b1 : (((s[K]'hK2).toNat : Int) == 93) = true := sgn_yes s K hK2 93 hc
    obtain rfl := HE1.out hc
    have a1 : decide ((K : Int) < (s.size : Int)) = true := decide_eq_true (by omega)
    have a2 : decide (K < s.size) = true := decide_eq_true (by omega)
    have a3 : decide ((s.size : Int) ≤ (K : Int)) = false := decide_eq_false (by omega)
    have a4 : decide (s.size ≤ K) = false := decide_eq_false (by omega)
    clear hc HE1 HE2 HI
    have bxe := HS.out.z6
    unfold zeroC at bxe
    have q0 : X.cell? ⟨w.heap.size, 0, none⟩ = some (.int .i8 0) := bxe.cell 0
    have qf0 := bxe.frozen 0
    have q1 : X.cell? ⟨w.heap.size, 1, none⟩ = some (.bool false) := bxe.cell 1
    have qf1 := bxe.frozen 1
    have q2 : X.cell? ⟨w.heap.size, 2, none⟩ = some (.int .i64 0) := bxe.cell 2
    have qf2 := bxe.frozen 2
    have q3 : X.cell? ⟨w.heap.size, 3, none⟩ = some (.string ⟨#[]⟩) := bxe.cell 3
    have qf3 := bxe.frozen 3
    have q4 : X.cell? ⟨w.heap.size, 4, none⟩ = some (.slice none 0 0) := bxe.cell 4
    have qf4 := bxe.frozen 4
    have q5 : X.cell? ⟨w.heap.size, 5, none⟩ = some (.slice none 0 0) := bxe.cell 5
    have qf5 := bxe.frozen 5
    have bx9 := HS.out.z9
    have p0 : X.cell? ⟨w.heap.size + 1, 0, none⟩ = some (.int .i8 4) := bx9.cell 0
    have p1 : X.cell? ⟨w.heap.size + 1, 1, none⟩ = some (.bool false) := bx9.cell 1
    have p2 : X.cell? ⟨w.heap.size + 1, 2, none⟩ = some (.int .i64 0) := bx9.cell 2
    have p3 : X.cell? ⟨w.heap.size + 1, 3, none⟩ = some (.string ⟨#[]⟩) := bx9.cell 3
    have p4 : X.cell? ⟨w.heap.size + 1, 4, none⟩ = some (.slice none 0 0) := bx9.cell 4
    have p5 : X.cell? ⟨w.heap.size + 1, 5, none⟩ = some (.slice none 0 0) := bx9.cell 5
    clear bxe bx9
    have hans := HS.out.ans (by decide) (K + 1)
    rw [show ((K + 1 : Nat) : Int) = (K : Int) + 1 from rfl] at hans
    have HANS := Lib.hid hans
    clear hans
    go_wp2_with fail
    refine bodyPost_ret (v := .tuple #[.agg #[.int .i8 4, .bool false, .int .i64 0, .string ⟨#[]⟩, .slice none 0 0, .slice none 0 0], .int .i64 ((K : Int) + 1), .int .i64 0]) (by simp [results, Tryz.results20, go_sem, q0, q1, q2, q3, q4, q5]) rfl ?_
    exact HANS.out
  have HR0 := Lib.hid (KeyS.list (HE2.out hc))
  obtain ⟨i0, hi, hz0, hz1, hz2⟩ := info_parts infoVal
  by_cases hK2 : K < s.size
  all_goals
    first
    | (have b1 : (((s[K]'hK2).toNat : Int) == 93) = false := sgn_no s K hK2 93 hc
       have a1 : decide ((K : Int) < (s.size : Int)) = true := decide_eq_true (by omega)
       have a2 : decide (K < s.size) = true := decide_eq_true (by omega)
       have a3 : decide ((s.size : Int) ≤ (K : Int)) = false := decide_eq_false (by omega)
       have a4 : decide (s.size ≤ K) = false := decide_eq_false (by omega)
       clear hc HE1 HE2
       skip)
    | (
       have a1 : decide ((K : Int) < (s.size : Int)) = false := decide_eq_false (by omega)
       have a2 : decide (K < s.size) = false := decide_eq_false (by omega)
       have a3 : decide ((s.size : Int) ≤ (K : Int)) = true := decide_eq_true (by omega)
       have a4 : decide (s.size ≤ K) = true := decide_eq_true (by omega)
       clear hc HE1 HE2
       skip)
    go_wp2_with fail
    go_loopw [10] (fun i wr => ∃ (j : Nat) (vs : List V) (lv : Value) (xs : List Value) (S : Nat → Prop), j ≤ s.size ∧ k < j ∧ i = .int .i64 j ∧ vs.length ≤ j ∧ Hid (LW w 4 vs [] lv (.slice none 0 0) xs S wr) ∧ Hid (RunS s.data.toList d R (.rd j [⟨false, vs, []⟩]))) (fun i _ => s.size - (intOf i).toNat)
    case atStart => exact ⟨K, [], _, [], _, hKs, hkK, rfl, Nat.zero_le _, HS, HR0⟩
    case round =>
      clear a1 a2 a3 a4 HS HR0
      try clear b1
      clear hKs hkK
      obtain ⟨j, vs, lv, xs, S, hj, hkj, rfl, hvl, HL, HR⟩ := hrel
      obtain ⟨r, hr⟩ : ∃ r, valM s.data.toList j (d + 1) = r := ⟨_, rfl⟩
      have hpart := HR.out.part (by rw [toList_length]; exact hj) hr
      have HV := Lib.hid (HI.out j hkj hj wr)
      rw [hr] at HV
      cases r with
      | error q =>
        obtain ⟨a, c⟩ := q
        have hne : c ≠ 0 := valM_err (by rw [toList_length]; exact hj) hr
        have hRe : R = .error (a, c) := hpart
        subst hRe
        have t1 : ((c : Int) == 0) = false := by rw [beq_eq_false_iff_ne]; omega
        have t2 : ((c : Int) != 0) = true := by rw [bne_iff_ne]; omega
        clear hr hpart HR hne
        go_wp2_with fail
        refine HV.out.mono ?_
        rintro e w5 ⟨rfl, hb5⟩
        unfold zeroV
        go_upto_region 6 with fail
        obtain ⟨Y, hY⟩ : ∃ Y, Y = w5.alloc (.cells #[.int .i8 0, .bool false, .int .i64 0, .string ⟨#[]⟩, .slice none 0 0, .slice none 0 0] 28) := ⟨_, rfl⟩
        have hl : LW w 4 vs [] lv (.slice none 0 0) xs S Y := by rw [hY]; exact (HL.out.below hb5).alloc _
        rw [← hY]
        have HF := Lib.hid hl
        clear hY hl hb5 HL HV
        have bxe := HF.out.z6
        unfold zeroC at bxe
        have q0 : Y.cell? ⟨w.heap.size, 0, none⟩ = some (.int .i8 0) := bxe.cell 0
        have qf0 := bxe.frozen 0
        have q1 : Y.cell? ⟨w.heap.size, 1, none⟩ = some (.bool false) := bxe.cell 1
        have qf1 := bxe.frozen 1
        have q2 : Y.cell? ⟨w.heap.size, 2, none⟩ = some (.int .i64 0) := bxe.cell 2
        have qf2 := bxe.frozen 2
        have q3 : Y.cell? ⟨w.heap.size, 3, none⟩ = some (.string ⟨#[]⟩) := bxe.cell 3
        have qf3 := bxe.frozen 3
        have q4 : Y.cell? ⟨w.heap.size, 4, none⟩ = some (.slice none 0 0) := bxe.cell 4
        have qf4 := bxe.frozen 4
        have q5 : Y.cell? ⟨w.heap.size, 5, none⟩ = some (.slice none 0 0) := bxe.cell 5
        have qf5 := bxe.frozen 5
        clear bxe
        go_wp2_with fail
        refine bodyPost_ret (v := .tuple #[zeroV, .int .i64 (a : Nat), .int .i64 (c : Nat)]) (by simp [results, Tryz.results20, go_sem, zeroV, q0, q1, q2, q3, q4, q5]) rfl ?_
        exact HF.out.err _ _
      | ok p =>
        obtain ⟨x, E⟩ := p
        have hrun : RunS s.data.toList d R (.got x E [⟨false, vs, []⟩]) := hpart
        obtain ⟨f1, f2, f3⟩ := hrun.putS
        have hE := valM_place (by rw [toList_length]; exact hj) hr
        rw [toList_length] at hE
        obtain ⟨K2, hK2⟩ : ∃ K2, bl s.data.toList E = K2 := ⟨_, rfl⟩
        have hK2s : K2 ≤ s.size := by
          have := bl_le s.data.toList E (by rw [toList_length]; exact hE.2)
          rwa [hK2, toList_length] at this
        have hEK : E ≤ K2 := hK2 ▸ bl_ge s.data.toList E
        have HB2 : Hid (∀ w, Calls Tryz.prog 12 #[.string s, .int .i64 (E : Nat)] w fun e w' => e = .returned (.int .i64 (K2 : Nat)) ∧ w' = w) := Lib.hid (fun w => by
          have := rBlanks_in s hE.2 (by omega) w
          rwa [hK2] at this)
        rw [hK2] at f1 f2 f3
        have F1 := Lib.hid f1
        have F2 := Lib.hid f2
        have F3 := Lib.hid f3
        have hjK : j ≤ K2 := by omega
        clear hr hpart HR hrun f1 f2 f3 hK2 hEK
        go_wp2_with fail
        refine HV.out.mono ?_
        rintro e w5 ⟨val, Sv, rfl, hva, hSv, hb5⟩
        obtain ⟨kd, bo, nu, te, o1, n1, m1, o2, n2, m2, rfl⟩ := isVa_form hva
        obtain ⟨oL, aL, cL, rfl, hL1, hL2, -, -, -⟩ := Ow.own_form HL.out.lo
        have HVA := Lib.hid (Ow.isVa_lt _ _ hva)
        have HL5 := Lib.hid (HL.out.below hb5)
        have HSv : Hid (∀ q, Sv q → wr.heap.size ≤ q) := Lib.hid hSv
        clear hva hSv HV hE
        go_upto_region 8 with fail
        obtain ⟨X5, hX5⟩ : ∃ X, X = w5.alloc (.cells #[.int .i8 kd, .bool bo, .int .i64 nu, .string te, .slice o1 n1 m1, .slice o2 n2 m2] 28) := ⟨_, rfl⟩
        have k5 : Below w5.heap.size w5 X5 := by rw [hX5]; exact (Below.refl _ _).alloc (Nat.le_refl _) _
        have b11 : Bx X5 w5.heap.size #[.int .i8 kd, .bool bo, .int .i64 nu, .string te, .slice o1 n1 m1, .slice o2 n2 m2] 28 := by rw [hX5]; exact Bx.new _ _ _
        rw [← hX5]
        have hl6 := (HL5.out.below k5).alloc (.cells #[.int .i8 kd, .bool bo, .int .i64 nu, .string te, .slice o1 n1 m1, .slice o2 n2 m2] 28)
        have bx9 := (HL5.out.below k5).z9
        have p4 : X5.cell? ⟨w.heap.size + 1, 4, none⟩ = some (.slice oL vs.length cL) := bx9.cell 4
        have g0 : X5.cell? ⟨w5.heap.size, 0, none⟩ = some (.int .i8 kd) := b11.cell 0
        have g1 : X5.cell? ⟨w5.heap.size, 1, none⟩ = some (.bool bo) := b11.cell 1
        have g2 : X5.cell? ⟨w5.heap.size, 2, none⟩ = some (.int .i64 nu) := b11.cell 2
        have g3 : X5.cell? ⟨w5.heap.size, 3, none⟩ = some (.string te) := b11.cell 3
        have g4 : X5.cell? ⟨w5.heap.size, 4, none⟩ = some (.slice o1 n1 m1) := b11.cell 4
        have g5 : X5.cell? ⟨w5.heap.size, 5, none⟩ = some (.slice o2 n2 m2) := b11.cell 5
        have hv6 := isVa_kp (W' := X5.alloc (.cells #[.int .i8 kd, .bool bo, .int .i64 nu, .string te, .slice o1 n1 m1, .slice o2 n2 m2] 28)) HVA.out fun q e => (Below.heap_alloc _ _ _ (Nat.lt_of_lt_of_le e.2 k5.size)).trans (k5.block q e.2)
        have hs6 : ∀ q, (Sv q ∧ q < w5.heap.size) → w.heap.size + 2 ≤ q ∧ q < (X5.alloc (.cells #[.int .i8 kd, .bool bo, .int .i64 nu, .string te, .slice o1 n1 m1, .slice o2 n2 m2] 28)).heap.size ∧ (Value.slice oL vs.length cL).ownBlock ≠ some q ∧ (Value.slice none 0 0).ownBlock ≠ some q := fun q e => by
          have h1 := HSv.out q e.1
          have h2 := HL.out.z9.lt
          have h3 := k5.size
          refine ⟨by omega, by simp; omega, fun e' => ?_, fun e' => ?_⟩
          · have := (HL.out.lo.lt q e').2; omega
          · have := (HL.out.ko.lt q e').2; omega
        have HL6 := Lib.hid hl6
        have HV6 := Lib.hid hv6
        have HS6 := Lib.hid hs6
        have hsz5 : w.heap.size + 2 ≤ (X5.alloc (.cells #[.int .i8 kd, .bool bo, .int .i64 nu, .string te, .slice o1 n1 m1, .slice o2 n2 m2] 28)).heap.size := by have := hl6.z9.lt; omega
        have HZ5 := Lib.hid hsz5
        obtain ⟨nv, hnv⟩ : ∃ nv, nv = vs.length := ⟨_, rfl⟩
        have HNV := Lib.hid hnv
        rw [← hnv] at p4 hL1
        have hnvl : nv ≤ 20000 := by omega
        have HLO : Hid ((X5.alloc (.cells #[.int .i8 kd, .bool bo, .int .i64 nu, .string te, .slice o1 n1 m1, .slice o2 n2 m2] 28)).ownsRow (w.heap.size + 2) 28 6 (.slice oL nv cL) nv xs) := Lib.hid (by rw [hnv]; exact hl6.lo)
        clear hX5 k5 b11 bx9 hl6 hv6 hs6 hsz5 hb5 HL5 HSv HVA hnv HL
        go_wp2_with (at_builtin; refine Ow.wpList_append_row_at rfl _ _ 25 rfl (w.heap.size + 2) 28 i0 _ 6 80 Tryz.underlying25 hi hz0 hz1 hz2 rfl (by decide) _ _ _ rfl HLO.out _ ⟨X5.heap.size, 0, none⟩ 1 1 [.int .i8 kd, .bool bo, .int .i64 nu, .string te, .slice o1 n1 m1, .slice o2 n2 m2] rfl (fun _ => rfl) rfl ?c1 ?c2 ?c3 ?c4 ?c5 ?_)
        case c1 => exact news_at (Bx.new _ _ _)
        case c2 => exact Ow.isV_one (isV_of_a _ _ HV6.out)
        case c3 => unfold maxLen; omega
        case c4 => omega
        case c5 => exact HZ5.out
        intro o' c' y own' gr at'
        rw [HNV.out] at own' gr at'
        have h9 := HL6.out.z9.kp (gr.block _ HL6.out.z9.lt (fun e => by have := (HL6.out.lo.lt _ e.symm).1; omega))
        have p4' : y.cell? ⟨w.heap.size + 1, 4, none⟩ = some (.slice oL vs.length cL) := h9.cell 4
        have pf4 := h9.frozen 4
        have HN := Lib.hid (LW.put HL6.out HV6.out HS6.out own' gr (by rw [World.size_alloc]; exact at'))
        rw [← HNV.out] at HN p4'
        clear own' gr at' h9 p4 HL6 HV6 HS6 HLO HZ5 g0 g1 g2 g3 g4 g5
        go_upto_region 9 with fail
        obtain ⟨Z, hZ⟩ : ∃ Z, Z = y.setCell ⟨w.heap.size + 1, 4, none⟩ (.slice o' (nv + 1) c') := ⟨_, rfl⟩
        rw [← hZ] at HN ⊢
        clear hZ p4' pf4
        go_wp2_with fail
        refine (HB2.out Z).mono ?_
        rintro e w0 ⟨rfl, h0⟩
        have h0 := h0.symm
        subst h0
        clear HB2
        by_cases hc : s.data.toList[K2]? = some 93
        · have hlt : K2 < s.size := Nat.lt_of_not_le fun h => none_at s K2 (by omega) 93 hc
          have b1 : (((s[K2]'hlt).toNat : Int) == 93) = true := sgn_yes s K2 hlt 93 hc
          obtain rfl := F1.out hc
          have a1 : decide ((K2 : Int) < (s.size : Int)) = true := decide_eq_true (by omega)
          have a2 : decide (K2 < s.size) = true := decide_eq_true (by omega)
          have a3 : decide ((s.size : Int) ≤ (K2 : Int)) = false := decide_eq_false (by omega)
          have a4 : decide (s.size ≤ K2) = false := decide_eq_false (by omega)
          clear hc F1 F2 F3 HI
          have bxe := HN.out.z6
          unfold zeroC at bxe
          have q0 : Z.cell? ⟨w.heap.size, 0, none⟩ = some (.int .i8 0) := bxe.cell 0
          have qf0 := bxe.frozen 0
          have q1 : Z.cell? ⟨w.heap.size, 1, none⟩ = some (.bool false) := bxe.cell 1
          have qf1 := bxe.frozen 1
          have q2 : Z.cell? ⟨w.heap.size, 2, none⟩ = some (.int .i64 0) := bxe.cell 2
          have qf2 := bxe.frozen 2
          have q3 : Z.cell? ⟨w.heap.size, 3, none⟩ = some (.string ⟨#[]⟩) := bxe.cell 3
          have qf3 := bxe.frozen 3
          have q4 : Z.cell? ⟨w.heap.size, 4, none⟩ = some (.slice none 0 0) := bxe.cell 4
          have qf4 := bxe.frozen 4
          have q5 : Z.cell? ⟨w.heap.size, 5, none⟩ = some (.slice none 0 0) := bxe.cell 5
          have qf5 := bxe.frozen 5
          have bx9 := HN.out.z9
          have p0 : Z.cell? ⟨w.heap.size + 1, 0, none⟩ = some (.int .i8 4) := bx9.cell 0
          have p1 : Z.cell? ⟨w.heap.size + 1, 1, none⟩ = some (.bool false) := bx9.cell 1
          have p2 : Z.cell? ⟨w.heap.size + 1, 2, none⟩ = some (.int .i64 0) := bx9.cell 2
          have p3 : Z.cell? ⟨w.heap.size + 1, 3, none⟩ = some (.string ⟨#[]⟩) := bx9.cell 3
          have p4 : Z.cell? ⟨w.heap.size + 1, 4, none⟩ = some (.slice o' (nv + 1) c') := bx9.cell 4
          have p5 : Z.cell? ⟨w.heap.size + 1, 5, none⟩ = some (.slice none 0 0) := bx9.cell 5
          clear bxe bx9
          have hans := HN.out.ans (by decide) (K2 + 1)
          rw [show ((K2 + 1 : Nat) : Int) = (K2 : Int) + 1 from rfl] at hans
          have HANS := Lib.hid hans
          clear hans
          go_wp2_with fail
          refine bodyPost_ret (v := .tuple #[.agg #[.int .i8 4, .bool false, .int .i64 0, .string ⟨#[]⟩, .slice o' (nv + 1) c', .slice none 0 0], .int .i64 ((K2 : Int) + 1), .int .i64 0]) (by simp [results, Tryz.results20, go_sem, q0, q1, q2, q3, q4, q5]) rfl ?_
          exact HANS.out
        by_cases hlt : K2 < s.size
        · have b1 : (((s[K2]'hlt).toNat : Int) == 93) = false := sgn_no s K2 hlt 93 hc
          have a1 : decide ((K2 : Int) < (s.size : Int)) = true := decide_eq_true (by omega)
          have a2 : decide (K2 < s.size) = true := decide_eq_true (by omega)
          have a3 : decide ((s.size : Int) ≤ (K2 : Int)) = false := decide_eq_false (by omega)
          have a4 : decide (s.size ≤ K2) = false := decide_eq_false (by omega)
          by_cases h44 : s.data.toList[K2]? = some 44
          · have b2 : (((s[K2]'hlt).toNat : Int) == 44) = true := sgn_yes s K2 hlt 44 h44
            have b3 : (((s[K2]'hlt).toNat : Int) != 44) = false := sgn_yes' s K2 hlt 44 h44
            have HR3 := Lib.hid (KeyS.list (F3.out hc h44))
            obtain ⟨K3, hK3⟩ : ∃ K3, bl s.data.toList (K2 + 1) = K3 := ⟨_, rfl⟩
            have hK3s : K3 ≤ s.size := by
              have := bl_le s.data.toList (K2 + 1) (by rw [toList_length]; omega)
              rwa [hK3, toList_length] at this
            have hKK : K2 + 1 ≤ K3 := hK3 ▸ bl_ge s.data.toList (K2 + 1)
            have HB3 : Hid (∀ w, Calls Tryz.prog 12 #[.string s, .int .i64 ((K2 : Int) + 1)] w fun e w' => e = .returned (.int .i64 (K3 : Nat)) ∧ w' = w) := Lib.hid (fun w => by
              have := rBlanks_in s (k := K2 + 1) (by omega) (by omega) w
              rw [hK3] at this
              exact this)
            rw [hK3] at HR3
            have hvl3 : (vs ++ [x]).length ≤ K3 := by rw [List.length_append]; simp only [List.length_cons, List.length_nil]; omega
            clear hc h44 F1 F2 F3 hK3
            go_wp2_with fail
            refine (HB3.out Z).mono ?_
            rintro e w0 ⟨rfl, h0⟩
            have h0 := h0.symm
            subst h0
            clear HB3
            go_wp2_with fail
            go_roundw
            case rel => exact ⟨K3, vs ++ [x], _, _, _, hK3s, by omega, by go_num, hvl3, HN, HR3⟩
            case measure => simp [intOf]; omega
          · have b2 : (((s[K2]'hlt).toNat : Int) == 44) = false := sgn_no s K2 hlt 44 h44
            have b3 : (((s[K2]'hlt).toNat : Int) != 44) = true := sgn_no' s K2 hlt 44 h44
            obtain rfl := F2.out hc h44
            clear hc h44 F1 F2 F3 HI
            have bxe := HN.out.z6
            unfold zeroC at bxe
            have q0 : Z.cell? ⟨w.heap.size, 0, none⟩ = some (.int .i8 0) := bxe.cell 0
            have qf0 := bxe.frozen 0
            have q1 : Z.cell? ⟨w.heap.size, 1, none⟩ = some (.bool false) := bxe.cell 1
            have qf1 := bxe.frozen 1
            have q2 : Z.cell? ⟨w.heap.size, 2, none⟩ = some (.int .i64 0) := bxe.cell 2
            have qf2 := bxe.frozen 2
            have q3 : Z.cell? ⟨w.heap.size, 3, none⟩ = some (.string ⟨#[]⟩) := bxe.cell 3
            have qf3 := bxe.frozen 3
            have q4 : Z.cell? ⟨w.heap.size, 4, none⟩ = some (.slice none 0 0) := bxe.cell 4
            have qf4 := bxe.frozen 4
            have q5 : Z.cell? ⟨w.heap.size, 5, none⟩ = some (.slice none 0 0) := bxe.cell 5
            have qf5 := bxe.frozen 5
            clear bxe
            go_wp2_with fail
            refine bodyPost_ret (v := .tuple #[zeroV, .int .i64 (K2 : Nat), .int .i64 (40 : Nat)]) (by simp [results, Tryz.results20, go_sem, zeroV, q0, q1, q2, q3, q4, q5]) rfl ?_
            exact HN.out.err _ _
        · obtain rfl := F2.out hc (none_at s K2 hlt 44)
          have a1 : decide ((K2 : Int) < (s.size : Int)) = false := decide_eq_false (by omega)
          have a2 : decide (K2 < s.size) = false := decide_eq_false (by omega)
          have a3 : decide ((s.size : Int) ≤ (K2 : Int)) = true := decide_eq_true (by omega)
          have a4 : decide (s.size ≤ K2) = true := decide_eq_true (by omega)
          clear hc hlt F1 F2 F3 HI
          have bxe := HN.out.z6
          unfold zeroC at bxe
          have q0 : Z.cell? ⟨w.heap.size, 0, none⟩ = some (.int .i8 0) := bxe.cell 0
          have qf0 := bxe.frozen 0
          have q1 : Z.cell? ⟨w.heap.size, 1, none⟩ = some (.bool false) := bxe.cell 1
          have qf1 := bxe.frozen 1
          have q2 : Z.cell? ⟨w.heap.size, 2, none⟩ = some (.int .i64 0) := bxe.cell 2
          have qf2 := bxe.frozen 2
          have q3 : Z.cell? ⟨w.heap.size, 3, none⟩ = some (.string ⟨#[]⟩) := bxe.cell 3
          have qf3 := bxe.frozen 3
          have q4 : Z.cell? ⟨w.heap.size, 4, none⟩ = some (.slice none 0 0) := bxe.cell 4
          have qf4 := bxe.frozen 4
          have q5 : Z.cell? ⟨w.heap.size, 5, none⟩ = some (.slice none 0 0) := bxe.cell 5
          have qf5 := bxe.frozen 5
          clear bxe
          go_wp2_with fail
          refine bodyPost_ret (v := .tuple #[zeroV, .int .i64 (K2 : Nat), .int .i64 (40 : Nat)]) (by simp [results, Tryz.results20, go_sem, zeroV, q0, q1, q2, q3, q4, q5]) rfl ?_
          exact HN.out.err _ _
end Go.Proofs.YtgbagdfcdljleaaGreatDoor
