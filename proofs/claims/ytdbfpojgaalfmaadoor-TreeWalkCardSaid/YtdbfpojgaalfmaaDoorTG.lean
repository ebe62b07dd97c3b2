/-
  Contracts of the reference's Text, Num, Get.
-/
import Derived.Test.YtdbfpojgaalfmaaDoorTS
set_option linter.unusedVariables false
namespace Go.Proofs.YtdbfpojgaalfmaaDoor
open Go.RowKit

theorem isK_nil (w : World) : isK w [] (.slice none 0 0) := ⟨⟨0, 0, none⟩, 0, ⟨none, rfl, Nat.le_refl _, by unfold maxLen; omega, fun h => absurd h (by decide)⟩, fun i h => absurd h (by simp)⟩
theorem isV_leaf (w : World) (k : Int) (b : Bool) (n : Int) (s : ByteArray) (hk : -128 ≤ k ∧ k ≤ 127) (hn : -9223372036854775808 ≤ n ∧ n ≤ 9223372036854775807) (hs : s.size ≤ maxLen) :
    isV w (.mk k b n s [] []) (.agg #[.int .i8 k, .bool b, .int .i64 n, .string s, .slice none 0 0, .slice none 0 0]) := by
  unfold isV
  exact ⟨_, _, rfl, hk, hn, hs, ⟨⟨0, 0, none⟩, 0, ⟨none, rfl, Nat.le_refl _, by unfold maxLen; omega, fun h => absurd h (by decide)⟩, by unfold isVs; trivial⟩, isK_nil w⟩
def V0 : V := .mk 0 false 0 ⟨#[]⟩ [] []
/-- A call that answers a value. -/
def RetV (x : V) (w : World) (e : Ending) (w' : World) : Prop := ∃ v, e = .returned v ∧ isV w' x v ∧ Below w.heap.size w w'

set_option maxRecDepth 100000 in
set_option maxHeartbeats 2000000 in
theorem text_any (s : ByteArray) (hs : s.size ≤ maxLen) (w : World) :
    Calls Tryd.prog 30 #[.string s] w (RetV (.mk 3 false 0 s [] []) w) := by
  go_enter Tryd.func30, Tryd.ntmps30
  go_wp2_with fail
  exact bodyPost_ret (v := .agg #[.int .i8 3, .bool false, .int .i64 0, .string s, .slice none 0 0, .slice none 0 0]) (by simp [results, Tryd.results30, go_sem]) rfl ⟨_, rfl, isV_leaf _ _ _ _ _ (by omega) (by omega) hs, (Below.refl _ _).alloc (Nat.le_refl _) _⟩
set_option maxRecDepth 100000 in
set_option maxHeartbeats 2000000 in
theorem num_any (n : Int) (hn : -9223372036854775808 ≤ n ∧ n ≤ 9223372036854775807) (w : World) :
    Calls Tryd.prog 32 #[.int .i64 n] w (RetV (.mk 2 false n ⟨#[]⟩ [] []) w) := by
  go_enter Tryd.func32, Tryd.ntmps32
  go_wp2_with fail
  exact bodyPost_ret (v := .agg #[.int .i8 2, .bool false, .int .i64 n, .string ⟨#[]⟩, .slice none 0 0, .slice none 0 0]) (by simp [results, Tryd.results32, go_sem]) rfl ⟨_, rfl, isV_leaf _ _ _ _ _ (by omega) hn (by decide), (Below.refl _ _).alloc (Nat.le_refl _) _⟩

/-- The value beside a key. -/
def look : List ByteArray → List V → ByteArray → Option V
  | k :: ks, x :: l, key => if k = key then some x else look ks l key
  | _, _, _ => none
theorem look_at : ∀ (ks : List ByteArray) (l : List V) (key : ByteArray) (j : Nat) (h : j < ks.length) (h' : j < l.length), (∀ q, q < j → ks[q]? ≠ some key) → ks[j] = key → look ks l key = some l[j]
  | k :: ks, x :: l, key, 0, _, _, _, e => by simp only [List.getElem_cons_zero] at e; simp [look, e]
  | k :: ks, x :: l, key, j + 1, h, h', hq, e => by
    have h0 : k ≠ key := by have := hq 0 (by omega); simpa using this
    simp only [look, if_neg h0]
    rw [look_at ks l key j (by simpa using h) (by simpa using h') (fun q hqj => by have := hq (q + 1) (by omega); simpa using this) (by simpa using e)]
    simp
theorem look_none : ∀ (ks : List ByteArray) (l : List V) (key : ByteArray), (∀ q, q < ks.length → ks[q]? ≠ some key) → look ks l key = none
  | [], l, key, _ => by cases l <;> rfl
  | k :: ks, [], key, _ => rfl
  | k :: ks, x :: l, key, hq => by
    have h0 : k ≠ key := by have := hq 0 (by simp); simpa using this
    simp only [look, if_neg h0]
    exact look_none ks l key (fun q hqj => by have := hq (q + 1) (by simpa using hqj); simpa using this)
def getV (x : V) (key : ByteArray) : Option V := if x.kind = 5 ∧ x.keys.length = x.list.length then look x.keys x.list key else none
def RetG (g : Option V) (w : World) (e : Ending) (w' : World) : Prop := ∃ v, e = .returned (.tuple #[v, .bool g.isSome]) ∧ isV w' (g.getD V0) v ∧ Below w.heap.size w w'
theorem isV_V0 (w : World) : isV w V0 (.agg #[.int .i8 0, .bool false, .int .i64 0, .string ⟨#[]⟩, .slice none 0 0, .slice none 0 0]) := isV_leaf _ _ _ _ _ (by omega) (by omega) (by decide)

set_option maxRecDepth 100000 in
set_option maxHeartbeats 4000000 in
theorem get_any (x : V) (v : Value) (key : ByteArray) (w : World) (h : isV w x v) :
    Calls Tryd.prog 15 #[v, .string key] w (RetG (getV x key) w) := by
  have h0 := h
  obtain ⟨k, b, n, s, l, ks⟩ := x
  unfold isV at h
  obtain ⟨lv, kv, rfl, hk, hn, hs, ⟨a, cap, ⟨o, rfl, hc1, hc2, ho⟩, hvs⟩, ⟨a2, cap2, ⟨o2, rfl, hc3, hc4, ho2⟩, hks⟩⟩ := h
  unfold maxLen at hs hc2 hc4
  clear hk hn h0
  by_cases q1 : k ≠ 5
  · have HG : Hid (getV (.mk k b n s l ks) key = none) := Lib.hid (if_neg (fun e => q1 e.1))
    have f2 : (k != 5) = true := bne_iff_ne.2 q1
    clear q1 hvs hks ho ho2
    go_enter Tryd.func15, Tryd.ntmps15
    go_wp2_with fail
    exact bodyPost_ret (v := .tuple #[.agg #[.int .i8 0, .bool false, .int .i64 0, .string ⟨#[]⟩, .slice none 0 0, .slice none 0 0], .bool false]) (by simp [results, Tryd.results15, go_sem]) rfl ⟨_, by rw [HG.out]; rfl, by rw [HG.out]; exact isV_V0 _, KB.two⟩
  obtain rfl : k = 5 := Decidable.not_not.1 q1
  by_cases q2 : ks.length ≠ l.length
  · have HG : Hid (getV (.mk 5 b n s l ks) key = none) := Lib.hid (if_neg (fun e => q2 e.2))
    have f2 : ((ks.length : Int) != (l.length : Int)) = true := bne_iff_ne.2 (by omega)
    clear q1 q2 hvs hks ho ho2
    go_enter Tryd.func15, Tryd.ntmps15
    go_wp2_with fail
    exact bodyPost_ret (v := .tuple #[.agg #[.int .i8 0, .bool false, .int .i64 0, .string ⟨#[]⟩, .slice none 0 0, .slice none 0 0], .bool false]) (by simp [results, Tryd.results15, go_sem]) rfl ⟨_, by rw [HG.out]; rfl, by rw [HG.out]; exact isV_V0 _, KB.two⟩
  have q3 : ks.length = l.length := Decidable.not_not.1 q2
  have HG : Hid (getV (.mk 5 b n s l ks) key = look ks l key) := Lib.hid (if_pos ⟨rfl, q3⟩)
  have Q3 := Lib.hid q3
  have f2 : ((ks.length : Int) != (l.length : Int)) = false := by rw [q3]; simp
  have HK := Lib.hid hks
  have HV := Lib.hid hvs
  clear q1 q2 q3 hks hvs
  go_enter Tryd.func15, Tryd.ntmps15
  go_wp2_with fail
  go_loop [6] (fun i => ∃ j : Nat, j ≤ ks.length ∧ i = .int .i64 j ∧ Hid (∀ q, q < j → ks[q]? ≠ some key)) (fun i => ks.length - (intOf i).toNat)
  case atStart => exact ⟨0, by omega, rfl, Lib.hid (fun q h => absurd h (by omega))⟩
  case round =>
    obtain ⟨j, hj, rfl, hye⟩ := hrel
    by_cases hlt : j < ks.length
    · have hlt' : j < l.length := by rw [← Q3.out]; exact hlt
      have hb := cell_below (KB.two (w := w) (o := (.cells #[.int .i8 5, .bool b, .int .i64 n, .string s, .slice o l.length cap, .slice o2 ks.length cap2] 26)) (o' := (.cells #[.int .i8 0, .bool false, .int .i64 0, .string ⟨#[]⟩, .slice none 0 0, .slice none 0 0] 26)))
      obtain ⟨g1, z1⟩ := HK.out j hlt
      have g1 := hb _ _ g1
      obtain rfl := ho2 (by omega)
      obtain rfl := ho (by omega)
      have e1 : ks[j]? = some ks[j] := List.getElem?_eq_getElem hlt
      have hl1 : (j : Int) < (l.length : Int) := by omega
      by_cases hK : ks[j] = key
      · have hvw := isVs_keep hb l a HV.out
        obtain ⟨c0, c1, c2, c3, c4, c5, g2, g3, g4, g5, g6, g7, hx5⟩ := isVs_at l a j hlt' hvw
        have HL : Hid (getV (.mk 5 b n s l ks) key = some l[j]) := Lib.hid (by rw [HG.out]; exact look_at ks l key j hlt hlt' hye.out hK)
        have HX : Hid (isV w l[j] (.agg #[c0, c1, c2, c3, c4, c5])) := Lib.hid (by
          obtain ⟨d0, d1, d2, d3, d4, d5, k0, k1, k2, k3, k4, k5, hy5⟩ := isVs_at l a j hlt' HV.out
          have e0 := Option.some.inj ((hb _ _ k0).symm.trans g2)
          have e1 := Option.some.inj ((hb _ _ k1).symm.trans g3)
          have e2 := Option.some.inj ((hb _ _ k2).symm.trans g4)
          have e3 := Option.some.inj ((hb _ _ k3).symm.trans g5)
          have e4 := Option.some.inj ((hb _ _ k4).symm.trans g6)
          have e5 := Option.some.inj ((hb _ _ k5).symm.trans g7)
          subst e0 e1 e2 e3 e4 e5
          exact hy5)
        subst hK
        clear hvw hx5 hye e1 hb z1
        have hx6 := HX.out
        generalize l[j] = X at *
        obtain ⟨xk, xb, xn, xs, xl, xks⟩ := X
        unfold isV at hx6
        obtain ⟨lv, kv, he, _, _, _, ⟨_, cp3, ⟨o3, rfl, _⟩, _⟩, ⟨_, cp4, ⟨o4, rfl, _⟩, _⟩⟩ := hx6
        simp only [Value.agg.injEq, Array.mk.injEq, List.cons.injEq, and_true] at he
        obtain ⟨rfl, rfl, rfl, rfl, rfl, rfl⟩ := he
        go_wp2_with fail
        exact bodyPost_ret (v := .tuple #[.agg #[.int .i8 xk, .bool xb, .int .i64 xn, .string xs, .slice o3 xl.length cp3, .slice o4 xks.length cp4], .bool true]) (by simp [results, Tryd.results15, go_sem]) rfl ⟨_, by rw [HL.out]; rfl, by rw [HL.out]; exact isV_keep (cell_below KB.two) _ _ HX.out, KB.two⟩
      · have HN : Hid (∀ q, q < j + 1 → ks[q]? ≠ some key) := Lib.hid (fun q h => by
          by_cases e : q = j
          · subst e; rw [e1]; exact fun e => hK (Option.some.inj e)
          · exact hye.out q (by omega))
        have f1 := beq_toList hK
        generalize ks[j] = K at *
        clear e1 hye z1 hK hb
        go_wp2_with fail
        go_round
        case rel => exact ⟨j + 1, by omega, by go_num, HN⟩
        case measure => simp [intOf]; omega
    · have HN : Hid (getV (.mk 5 b n s l ks) key = none) := Lib.hid (by rw [HG.out]; exact look_none ks l key (fun q hq => hye.out q (by omega)))
      clear hye
      go_wp2_with fail
      exact bodyPost_ret (v := .tuple #[.agg #[.int .i8 0, .bool false, .int .i64 0, .string ⟨#[]⟩, .slice none 0 0, .slice none 0 0], .bool false]) (by simp [results, Tryd.results15, go_sem]) rfl ⟨_, by rw [HN.out]; rfl, by rw [HN.out]; exact isV_V0 _, KB.two⟩
end Go.Proofs.YtdbfpojgaalfmaaDoor
