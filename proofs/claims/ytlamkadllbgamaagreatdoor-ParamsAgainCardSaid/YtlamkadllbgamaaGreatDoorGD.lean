/-
  Contracts of the reference's wrong and Check. · The contract of the reference's Check. · The order of two trees, in plain mathematics. · The contract of the reference's Walk: the value, then its parts, as a row of the call's own. · Values as trees whose cells lie in given blocks: what stays while a row of the call's own grows. · What an argument of type Value reads as: a tree.
-/
import Derived.Test.YtlamkadllbgamaaGreatDoorGC
import Derived.Test.YtlamkadllbgamaaGreatDoorGA
import Derived.Deep.AppendLies
import Derived.Laws.OwnMore
import Derived.Laws.AppendOwn
import Derived.Test.YtlamkadllbgamaaGreatDoorGB
import Derived.Deep.Slices
import Derived.Deep.Fields
set_option linter.unusedVariables false
set_option linter.unusedSimpArgs false
namespace Go.Proofs.YtlamkadllbgamaaGreatDoor
open Go.RowKit

def validS (s : ByteArray) : Bool := Lib.validD s.data.toList
noncomputable def onceB (ks : List ByteArray) : Bool := @decide ks.Nodup (Classical.propDecidable _)
theorem once_yes {ks : List ByteArray} (h : ks.Nodup) : onceB ks = true := @decide_eq_true _ (Classical.propDecidable _) h
theorem once_no {ks : List ByteArray} (h : ¬ ks.Nodup) : onceB ks = false := @decide_eq_false _ (Classical.propDecidable _) h
/-- What is wrong in the whole. -/
noncomputable def ownW (x : V) : Int := if plainB x = false then 2 else if x.num < -9007199254740992 ∨ 9007199254740992 < x.num then 20 else if validS x.text = false then 10 else if x.keys.all validS = false then 10 else if onceB x.keys = false then 41 else 0
theorem ownW_mk (k : Int) (b : Bool) (n : Int) (s : ByteArray) (l : List V) (ks : List ByteArray) : ownW (.mk k b n s l ks) = if plainB (.mk k b n s l ks) = false then 2 else if n < -9007199254740992 ∨ 9007199254740992 < n then 20 else if validS s = false then 10 else if ks.all validS = false then 10 else if onceB ks = false then 41 else 0 := rfl
mutual
/-- The first thing that is wrong. -/
noncomputable def wrongV : V → Int | .mk k b n s l ks => if ownW (.mk k b n s l ks) = 0 then wrongVs l else ownW (.mk k b n s l ks)
noncomputable def wrongVs : List V → Int | [] => 0 | x :: t => if wrongV x = 0 then wrongVs t else wrongV x
end
theorem wrongV_own {x : V} {e : Int} (h : ownW x = e) (he : e ≠ 0) : wrongV x = e := by
  obtain ⟨k, b, n, s, l, ks⟩ := x
  rw [wrongV, h, if_neg he]
theorem wrongV_parts {k n : Int} {b : Bool} {s : ByteArray} {l : List V} {ks : List ByteArray} (h : ownW (.mk k b n s l ks) = 0) : wrongV (.mk k b n s l ks) = wrongVs l := by
  rw [wrongV, if_pos h]
theorem wrongVs_at : ∀ (l : List V) (j : Nat) (h : j < l.length), (∀ q (h : q < l.length), q < j → wrongV l[q] = 0) → wrongV l[j] ≠ 0 → wrongVs l = wrongV l[j]
  | x :: t, 0, _, _, h => by simp only [List.getElem_cons_zero] at h ⊢; rw [wrongVs, if_neg h]
  | x :: t, j + 1, h, hq, hn => by
    have h0 : wrongV x = 0 := hq 0 (by simp) (by omega)
    rw [wrongVs, if_pos h0]
    exact wrongVs_at t j (by simpa using h) (fun q hql hqj => hq (q + 1) (by simpa using hql) (by omega)) hn
theorem wrongVs_none : ∀ (l : List V), (∀ q (h : q < l.length), wrongV l[q] = 0) → wrongVs l = 0
  | [], _ => by rw [wrongVs]
  | x :: t, hq => by
    have h0 : wrongV x = 0 := hq 0 (by simp)
    rw [wrongVs, if_pos h0]
    exact wrongVs_none t (fun q hql => hq (q + 1) (by simpa using hql))
theorem key_le : ∀ (ks : List ByteArray) (j : Nat) (h : j < ks.length), ks[j].size ≤ keysS ks
  | k :: t, 0, _ => by simp [keysS]
  | k :: t, j + 1, h => by
    have := key_le t j (by simpa using h)
    simp only [keysS, List.map_cons, List.sum_cons, List.getElem_cons_succ] at this ⊢
    omega
theorem nodup_snoc (ks : List ByteArray) (j : Nat) (h : j < ks.length) (hd : (ks.take j).Nodup) (hn : ∀ q (h : q < ks.length), q < j → ks[q] ≠ ks[j]) : (ks.take (j + 1)).Nodup := by
  rw [List.take_succ_eq_append_getElem h, List.nodup_append]
  refine ⟨hd, by simp, fun a ha b hb => ?_⟩
  simp only [List.mem_singleton] at hb
  subst hb
  obtain ⟨q, hq, rfl⟩ := List.getElem_of_mem ha
  rw [List.length_take] at hq
  rw [List.getElem_take]
  exact hn q (by omega) (by omega)
theorem not_nodup (ks : List ByteArray) (q j : Nat) (hq : q < j) (h : j < ks.length) (e : ks[q]'(by omega) = ks[j]) : ¬ ks.Nodup := fun hd => by
  have := (List.getElem_inj hd).1 e
  omega
theorem Calls.k0 {f : Nat} {args : Array Value} {w0 w : World} {v : Value} (hK : KB w0 w) (h : Calls Tryz.prog f args w fun e w' => e = .returned v ∧ w' = w) : Calls Tryz.prog f args w fun e w' => e = .returned v ∧ KB w0 w' :=
  h.mono fun _ _ ⟨he, hb⟩ => ⟨he, hb ▸ hK⟩

set_option maxRecDepth 100000 in
set_option maxHeartbeats 16000000 in
theorem wrong_any : ∀ (N : Nat) (x : V) (v : Value) (w : World), sizeV x ≤ N → N ≤ 1000000 → isV w x v →
    Calls Tryz.prog 54 #[v] w fun e w' => e = .returned (.int .i64 (wrongV x)) ∧ Below w.heap.size w w'
  | 0, x, v, w, hN, _, h => absurd (sizeV_pos x) (by omega)
  | N + 1, x, v, w, hN, hM, h => by
    have h00 := h
    obtain ⟨k, b, n, s, l, ks⟩ := x
    unfold isV at h
    obtain ⟨lv, kv, rfl, hk, hn, hs, ⟨a, cap, ⟨o, rfl, hc1, hc2, ho⟩, hvs⟩, ⟨a2, cap2, ⟨o2, rfl, hc3, hc4, ho2⟩, hks⟩⟩ := h
    unfold maxLen at hs hc2 hc4
    have hsz : sizeV (.mk k b n s l ks) = 1 + s.size + keysS ks + sizeVs l := by rw [sizeV]
    have hSL : sizeVs l ≤ N := by omega
    have hs1 : s.size ≤ 1000000 := by omega
    have hkS : keysS ks ≤ 1000000 := by omega
    have HPl : Hid (∀ w1, KB (w.alloc (.cells #[.int .i8 k, .bool b, .int .i64 n, .string s, .slice o l.length cap, .slice o2 ks.length cap2] 33)) w1 → Calls Tryz.prog 72 #[.agg #[.int .i8 k, .bool b, .int .i64 n, .string s, .slice o l.length cap, .slice o2 ks.length cap2]] w1 fun e w' => e = .returned (.bool (plainB (.mk k b n s l ks))) ∧ KB (w.alloc (.cells #[.int .i8 k, .bool b, .int .i64 n, .string s, .slice o l.length cap, .slice o2 ks.length cap2] 33)) w') := Lib.hid fun w1 hK => Calls.kb hK (plain_any _ _ _ (isV_below hK (isV_below kbA h00)))
    have HVa : Hid (∀ (S : ByteArray), S.size ≤ 1000000 → ∀ w1, KB (w.alloc (.cells #[.int .i8 k, .bool b, .int .i64 n, .string s, .slice o l.length cap, .slice o2 ks.length cap2] 33)) w1 → Calls Tryz.prog 73 #[.string S] w1 fun e w' => e = .returned (.bool (validS S)) ∧ KB (w.alloc (.cells #[.int .i8 k, .bool b, .int .i64 n, .string s, .slice o l.length cap, .slice o2 ks.length cap2] 33)) w') := Lib.hid fun S hS w1 hK => Calls.k0 hK ((rvalid_any S w1 (by omega)).mono fun _ _ ⟨h1, h2⟩ => ⟨h1, h2.symm⟩)
    have hO : ∀ e : Int, e ≠ 0 → ownW (.mk k b n s l ks) = e → wrongV (.mk k b n s l ks) = e := fun e he h => wrongV_own h he
    have HB0 : Hid (KB w (w.alloc (.cells #[.int .i8 k, .bool b, .int .i64 n, .string s, .slice o l.length cap, .slice o2 ks.length cap2] 33))) := Lib.hid kbA
    have H2 : Hid ((w.alloc (.cells #[.int .i8 k, .bool b, .int .i64 n, .string s, .slice o l.length cap, .slice o2 ks.length cap2] 33)).cell? ⟨w.heap.size, 2, none⟩ = some (.int .i64 n)) := Lib.hid (by simp)
    have H3 : Hid ((w.alloc (.cells #[.int .i8 k, .bool b, .int .i64 n, .string s, .slice o l.length cap, .slice o2 ks.length cap2] 33)).cell? ⟨w.heap.size, 3, none⟩ = some (.string s)) := Lib.hid (by simp)
    have H4 : Hid ((w.alloc (.cells #[.int .i8 k, .bool b, .int .i64 n, .string s, .slice o l.length cap, .slice o2 ks.length cap2] 33)).cell? ⟨w.heap.size, 4, none⟩ = some (.slice o l.length cap)) := Lib.hid (by simp)
    have H5 : Hid ((w.alloc (.cells #[.int .i8 k, .bool b, .int .i64 n, .string s, .slice o l.length cap, .slice o2 ks.length cap2] 33)).cell? ⟨w.heap.size, 5, none⟩ = some (.slice o2 ks.length cap2)) := Lib.hid (by simp)
    have HK := Lib.hid hks
    have HV := Lib.hid hvs
    have HKS := Lib.hid (key_le ks)
    clear h00 hk hn hsz hN hks hvs
    go_enter Tryz.func54, Tryz.ntmps54
    go_wp2_with fail
    generalize hW1 : w.alloc (.cells #[.int .i8 k, .bool b, .int .i64 n, .string s, .slice o l.length cap, .slice o2 ks.length cap2] 33) = W1 at *
    clear hW1
    refine (HPl.out W1 (Below.refl _ _)).mono ?_
    rintro e w5 ⟨rfl, hb5⟩
    clear HPl
    have c2 := cell_below hb5 _ _ H2.out
    have c3 := cell_below hb5 _ _ H3.out
    cases hp : plainB (.mk k b n s l ks) with
    | false =>
      have HF : Hid (wrongV (.mk k b n s l ks) = 2) := Lib.hid (hO 2 (by omega) (by rw [ownW_mk, hp, if_pos rfl]))
      clear hp hO ho ho2
      go_wp2_with fail
      go_ret
      exact ⟨by rw [HF.out]; rfl, HB0.out.trans (hb5.mono HB0.out.size)⟩
    | true =>
    by_cases hnr : n < -9007199254740992 ∨ 9007199254740992 < n
    · have HF : Hid (wrongV (.mk k b n s l ks) = 20) := Lib.hid (hO 20 (by omega) (by rw [ownW_mk, hp, if_neg (by simp)]; exact if_pos hnr))
      by_cases hn1 : n < -9007199254740992
      · clear hp hO ho ho2 hnr
        go_wp2_with fail
        go_ret
        exact ⟨by rw [HF.out]; rfl, HB0.out.trans (hb5.mono HB0.out.size)⟩
      · have d1 : decide (n < -9007199254740992) = false := decide_eq_false hn1
        have d2 : 9007199254740992 < n := by omega
        clear hp hO ho ho2 hnr hn1
        go_wp2_with fail
        go_ret
        exact ⟨by rw [HF.out]; rfl, HB0.out.trans (hb5.mono HB0.out.size)⟩
    have d1 : decide (n < -9007199254740992) = false := decide_eq_false (by omega)
    have d2 : decide (9007199254740992 < n) = false := decide_eq_false (by omega)
    cases hvt : validS s with
    | false =>
      have HF : Hid (wrongV (.mk k b n s l ks) = 10) := Lib.hid (hO 10 (by omega) (by rw [ownW_mk, hp, if_neg (by simp), if_neg hnr]; exact if_pos hvt))
      have HVT := Lib.hid hvt
      clear hp hO ho ho2 hnr hvt
      go_wp2_with (go_at_call 73; (refine (HVa.out s hs1 _ hb5).mono ?_); rw [HVT.out]; rintro e w6 ⟨rfl, hb6⟩)
      go_ret
      exact ⟨by rw [HF.out]; rfl, HB0.out.trans (hb6.mono HB0.out.size)⟩
    | true =>
    have HVT := Lib.hid hvt
    have HO2 : Hid (∀ e : Int, (if ks.all validS = false then 10 else if onceB ks = false then 41 else 0) = e → (e ≠ 0 → wrongV (.mk k b n s l ks) = e) ∧ (e = 0 → wrongV (.mk k b n s l ks) = wrongVs l)) := Lib.hid (fun e he => by
      have h : ownW (.mk k b n s l ks) = e := by
        rw [ownW_mk, hp, if_neg (by simp), if_neg hnr, if_neg (by rw [hvt]; simp)]
        exact he
      exact ⟨fun h0 => wrongV_own h h0, fun h0 => wrongV_parts (by rw [h, h0])⟩)
    clear hp hO hnr hvt
    go_wp2_with (go_at_call 73; (refine (HVa.out s hs1 _ hb5).mono ?_); rw [HVT.out]; rintro e w6 ⟨rfl, hb6⟩)
    have HB6 := Lib.hid hb6
    clear hb5 hb6 c2 c3 d1 d2
    go_loopw [3] (fun i wr => ∃ j : Nat, j ≤ ks.length ∧ i = .int .i64 j ∧ Hid (∀ q (h : q < ks.length), q < j → validS ks[q] = true) ∧ KB W1 wr) (fun i _ => ks.length - (intOf i).toNat)
    case atStart => exact ⟨0, by omega, rfl, Lib.hid (fun q _ h => absurd h (by omega)), HB6.out⟩
    case round =>
      obtain ⟨j, hj, rfl, hye, hB⟩ := hrel
      have b5 := cell_below hB _ _ H5.out
      by_cases hlt : j < ks.length
      · obtain ⟨g1, z1⟩ := HK.out j hlt
        have g1 := cell_below hB _ _ (cell_below HB0.out _ _ g1)
        obtain rfl := ho2 (by omega)
        have z2 : ks[j].size ≤ 1000000 := by have := HKS.out j hlt; omega
        cases hvk : validS ks[j] with
        | false =>
          have HF : Hid (wrongV (.mk k b n s l ks) = 10) := Lib.hid ((HO2.out 10 (if_pos (by
            rw [← Bool.not_eq_true, List.all_eq_true]
            exact fun hc => by have := hc ks[j] (List.getElem_mem hlt); rw [hvk] at this; cases this))).1 (by omega))
          generalize ks[j] = K at *
          have HVK := Lib.hid hvk
          have HBB := Lib.hid hB
          clear hvk hye z1 hB
          go_wp2_with (go_at_call 73; (refine (HVa.out K z2 _ HBB.out).mono ?_); rw [HVK.out]; rintro e w7 ⟨rfl, hb7⟩)
          go_ret
          exact ⟨by rw [HF.out]; rfl, HB0.out.trans (hb7.mono HB0.out.size)⟩
        | true =>
          have HN : Hid (∀ q (h : q < ks.length), q < j + 1 → validS ks[q] = true) := Lib.hid (fun q h h2 => by
            by_cases e : q = j
            · subst e; exact hvk
            · exact hye.out q h (by omega))
          generalize ks[j] = K at *
          have HVK := Lib.hid hvk
          have HBB := Lib.hid hB
          clear hvk hye z1 hB
          go_wp2_with (go_at_call 73; (refine (HVa.out K z2 _ HBB.out).mono ?_); rw [HVK.out]; rintro e w7 ⟨rfl, hb7⟩)
          go_roundw
          case rel => exact ⟨j + 1, by omega, by go_num, HN, hb7⟩
          case measure => simp [intOf]; omega
      · have HAll : Hid (ks.all validS = true) := Lib.hid (by
          rw [List.all_eq_true]
          intro K hK
          obtain ⟨q, hq, rfl⟩ := List.getElem_of_mem hK
          exact hye.out q hq (by omega))
        have HB7 := Lib.hid hB
        clear hye hB
        go_wp2_with fail
        clear hlt hj b5
        go_loopw [4] (fun i wr => ∃ j : Nat, j ≤ ks.length ∧ i = .int .i64 j ∧ Hid ((ks.take j).Nodup) ∧ KB W1 wr) (fun i _ => ks.length - (intOf i).toNat)
        case atStart => exact ⟨0, by omega, rfl, Lib.hid (by simp), HB7.out⟩
        case round =>
          obtain ⟨j, hj, rfl, hye, hB⟩ := hrel
          have b5 := cell_below hB _ _ H5.out
          by_cases hlt : j < ks.length
          · obtain rfl := ho2 (by omega)
            have HB8 := Lib.hid hB
            clear hB
            go_wp2_with fail
            clear b5
            go_loopw [5] (fun i wr => ∃ q : Nat, q ≤ j ∧ i = .int .i64 q ∧ Hid (∀ p (h : p < ks.length), p < q → ks[p] ≠ ks[j]) ∧ KB W1 wr) (fun i _ => j - (intOf i).toNat)
            case atStart => exact ⟨0, by omega, rfl, Lib.hid (fun p _ h => absurd h (by omega)), HB8.out⟩
            case round =>
              obtain ⟨q, hq, rfl, hqe, hB⟩ := hrel
              have b5 := cell_below hB _ _ H5.out
              by_cases hql : q < j
              · obtain ⟨g1, _⟩ := HK.out q (by omega)
                have g1 := cell_below hB _ _ (cell_below HB0.out _ _ g1)
                obtain ⟨g2, _⟩ := HK.out j hlt
                have g2 := cell_below hB _ _ (cell_below HB0.out _ _ g2)
                have i0 : (0 : Int) ≤ (q : Int) := by omega
                have i1 : (q : Int) < (ks.length : Int) := by omega
                have i2 : (0 : Int) ≤ (j : Int) := by omega
                have i3 : (j : Int) < (ks.length : Int) := by omega
                have HBB := Lib.hid hB
                by_cases hK : ks[q]'(by omega) = ks[j]
                · have HF : Hid (wrongV (.mk k b n s l ks) = 41) := Lib.hid ((HO2.out 41 (by rw [HAll.out, if_neg (by simp), if_pos (once_no (not_nodup ks q j hql hlt hK))])).1 (by omega))
                  have HN' : Hid True := Lib.hid trivial
                  rw [hK] at g1
                  generalize ks[j] = K at *
                  clear hK hqe hye hB
                  go_wp2_with fail
                  go_quiet (fail)
                  go_wp2_with fail
                  go_ret
                  exact ⟨by rw [HF.out]; rfl, HB0.out.trans ((HBB.out.trans (drewB _ _ _)).mono HB0.out.size)⟩
                · have HN : Hid (∀ p (h : p < ks.length), p < q + 1 → ks[p] ≠ ks[j]) := Lib.hid (fun p h h2 => by
                    by_cases e : p = q
                    · subst e; exact hK
                    · exact hqe.out p h (by omega))
                  have f1 := beq_toList hK
                  generalize hX : ks[q]'(by omega) = X at *
                  generalize hY : ks[j] = Y at *
                  clear hX hY hK hqe hB
                  go_wp2_with fail
                  go_quiet (fail)
                  go_wp2_with fail
                  go_roundw
                  case rel => exact ⟨q + 1, by omega, by go_num, HN, HBB.out.trans (drewB _ _ _)⟩
                  case measure => simp [intOf]; omega
              · have HN : Hid ((ks.take (j + 1)).Nodup) := Lib.hid (nodup_snoc ks j hlt hye.out (fun p h h2 => hqe.out p h (by omega)))
                have HBB := Lib.hid hB
                clear hqe hye hB
                go_wp2_with fail
                go_roundw
                case rel => exact ⟨j + 1, by omega, by go_num, HN, HBB.out⟩
                case measure => simp [intOf]; omega
          · have HF : Hid (wrongV (.mk k b n s l ks) = wrongVs l) := Lib.hid ((HO2.out 0 (by
              rw [HAll.out, if_neg (by simp), if_neg]
              have h := hye.out
              rw [List.take_of_length_le (by omega)] at h
              rw [once_yes h]; simp)).2 rfl)
            have HB9 := Lib.hid hB
            clear hye hB
            go_wp2_with fail
            clear hlt hj b5 ho2
            go_loopw [6] (fun i wr => ∃ j : Nat, j ≤ l.length ∧ i = .int .i64 j ∧ Hid (∀ q (h : q < l.length), q < j → wrongV l[q] = 0) ∧ KB W1 wr) (fun i _ => l.length - (intOf i).toNat)
            case atStart => exact ⟨0, by omega, rfl, Lib.hid (fun q _ h => absurd h (by omega)), HB9.out⟩
            case round =>
              obtain ⟨j, hj, rfl, hye, hB⟩ := hrel
              have b4 := cell_below hB _ _ H4.out
              by_cases hlt : j < l.length
              · obtain rfl := ho (by omega)
                have hvw := isVs_keep (cell_below hB) l a (isVs_keep (cell_below HB0.out) l a HV.out)
                obtain ⟨c0, c1, c2, c3, c4, c5, g0, g1, g2, g3, g4, g5, hx5⟩ := isVs_at l a j hlt hvw
                have hI := wrong_any N l[j] _ wr (by have := sizeVs_get l j hlt; omega) (by omega) hx5
                have HBB := Lib.hid hB
                by_cases hz : wrongV l[j] = 0
                · rw [hz] at hI
                  have HI := Lib.hid hI
                  have HN : Hid (∀ q (h : q < l.length), q < j + 1 → wrongV l[q] = 0) := Lib.hid (fun q h h2 => by
                    by_cases e : q = j
                    · subst e; exact hz
                    · exact hye.out q h (by omega))
                  clear hI hB hvw hx5 hz hye
                  go_wp2_with (go_at_call 54; (with_reducible refine HI.out.mono ?_); rintro e w5 ⟨rfl, hb5⟩)
                  go_roundw
                  case rel => exact ⟨j + 1, by omega, by go_num, HN, HBB.out.trans (hb5.mono HBB.out.size)⟩
                  case measure => simp [intOf]; omega
                · have hwv := wrongVs_at l j hlt (fun q h h2 => hye.out q h h2) hz
                  obtain ⟨z, hzz⟩ : ∃ z, wrongV l[j] = z := ⟨_, rfl⟩
                  rw [hzz] at hI hwv hz
                  have HG : Hid (wrongV (.mk k b n s l ks) = z) := Lib.hid (HF.out.trans hwv)
                  have HI := Lib.hid hI
                  have z1 : (z == 0) = false := beqI hz
                  have z2 : (z != 0) = true := bne_iff_ne.2 hz
                  clear hI hB hvw hx5 hz hye hwv hzz
                  go_wp2_with (go_at_call 54; (with_reducible refine HI.out.mono ?_); rintro e w5 ⟨rfl, hb5⟩)
                  go_ret
                  exact ⟨by rw [HG.out]; rfl, HB0.out.trans ((HBB.out.trans (hb5.mono HBB.out.size)).mono HB0.out.size)⟩
              · have HG : Hid (wrongV (.mk k b n s l ks) = 0) := Lib.hid (by rw [HF.out]; exact wrongVs_none l (fun q h => hye.out q h (by omega)))
                have HBB := Lib.hid hB
                clear hye hB
                go_wp2_with fail
                go_ret
                exact ⟨by rw [HG.out]; rfl, HB0.out.trans (HBB.out.mono HB0.out.size)⟩
end Go.Proofs.YtlamkadllbgamaaGreatDoor

namespace Go.Proofs.YtlamkadllbgamaaGreatDoor
open Go.RowKit

/-- What is wrong with a value; 0: it may be. -/
noncomputable def checkV (x : V) : Int := if 24 < depthV x then 30 else if wrongV x ≠ 0 then wrongV x else if 4096 < countV x then 3 else 0
set_option maxRecDepth 100000 in
set_option maxHeartbeats 4000000 in
theorem check_any (x : V) (v : Value) (w : World) (hx : sizeV x ≤ 1000000) (h : isV w x v) :
    Calls Tryz.prog 23 #[v] w fun e w' => e = .returned (.int .i64 (checkV x)) ∧ Below w.heap.size w w' := by
  have hC : checkV x = if deepB x 24 = true then 30 else if wrongV x ≠ 0 then wrongV x else if 4096 < countV x then 3 else 0 := by
    unfold checkV deepB
    by_cases h : 24 < depthV x
    · rw [if_pos h, if_pos (decide_eq_true h)]
    · rw [decide_eq_false h, if_neg h, if_neg (by simp : ¬ (false = true))]
  have hcle : countV x ≤ 1000000 := Nat.le_trans (count_le_size x) hx
  obtain ⟨y, hy⟩ : ∃ y, checkV x = y := ⟨_, rfl⟩
  rw [hy] at hC ⊢
  clear hy
  have h00 := h
  obtain ⟨k, b, n, s, l, ks⟩ := x
  unfold isV at h
  obtain ⟨lv, kv, rfl, _, _, _, ⟨a, cap, ⟨o, rfl, _⟩, _⟩, ⟨a2, cap2, ⟨o2, rfl, _⟩, _⟩⟩ := h
  have P1 : Hid (∀ w1, KB (w.alloc (.cells #[.int .i8 k, .bool b, .int .i64 n, .string s, .slice o l.length cap, .slice o2 ks.length cap2] 33)) w1 → Calls Tryz.prog 53 #[.agg #[.int .i8 k, .bool b, .int .i64 n, .string s, .slice o l.length cap, .slice o2 ks.length cap2], .int .i64 24] w1 fun e w' => e = .returned (.bool (deepB (.mk k b n s l ks) 24)) ∧ KB (w.alloc (.cells #[.int .i8 k, .bool b, .int .i64 n, .string s, .slice o l.length cap, .slice o2 ks.length cap2] 33)) w') := Lib.hid fun w1 hK => Calls.kb hK (deeper_any 24 _ _ w1 (by decide) (isV_below hK (isV_below kbA h00)))
  have P2 : Hid (∀ w1, KB (w.alloc (.cells #[.int .i8 k, .bool b, .int .i64 n, .string s, .slice o l.length cap, .slice o2 ks.length cap2] 33)) w1 → Calls Tryz.prog 54 #[.agg #[.int .i8 k, .bool b, .int .i64 n, .string s, .slice o l.length cap, .slice o2 ks.length cap2]] w1 fun e w' => e = .returned (.int .i64 (wrongV (.mk k b n s l ks))) ∧ KB (w.alloc (.cells #[.int .i8 k, .bool b, .int .i64 n, .string s, .slice o l.length cap, .slice o2 ks.length cap2] 33)) w') := Lib.hid fun w1 hK => Calls.kb hK (wrong_any 1000000 _ _ w1 hx (by decide) (isV_below hK (isV_below kbA h00)))
  have P3 : Hid (∀ w1, KB (w.alloc (.cells #[.int .i8 k, .bool b, .int .i64 n, .string s, .slice o l.length cap, .slice o2 ks.length cap2] 33)) w1 → Calls Tryz.prog 55 #[.agg #[.int .i8 k, .bool b, .int .i64 n, .string s, .slice o l.length cap, .slice o2 ks.length cap2]] w1 fun e w' => e = .returned (.int .i64 (countV (.mk k b n s l ks))) ∧ KB (w.alloc (.cells #[.int .i8 k, .bool b, .int .i64 n, .string s, .slice o l.length cap, .slice o2 ks.length cap2] 33)) w') := Lib.hid fun w1 hK => Calls.kb hK (count_any 1000000 _ _ w1 hx (by decide) (isV_below hK (isV_below kbA h00)))
  have HB0 : Hid (KB w (w.alloc (.cells #[.int .i8 k, .bool b, .int .i64 n, .string s, .slice o l.length cap, .slice o2 ks.length cap2] 33))) := Lib.hid kbA
  have HC : Hid (∀ w1, KB (w.alloc (.cells #[.int .i8 k, .bool b, .int .i64 n, .string s, .slice o l.length cap, .slice o2 ks.length cap2] 33)) w1 → w1.cell? ⟨w.heap.size, 0, none⟩ = some (.int .i8 k) ∧ w1.cell? ⟨w.heap.size, 1, none⟩ = some (.bool b) ∧ w1.cell? ⟨w.heap.size, 2, none⟩ = some (.int .i64 n) ∧ w1.cell? ⟨w.heap.size, 3, none⟩ = some (.string s) ∧ w1.cell? ⟨w.heap.size, 4, none⟩ = some (.slice o l.length cap) ∧ w1.cell? ⟨w.heap.size, 5, none⟩ = some (.slice o2 ks.length cap2)) := Lib.hid fun w1 hK =>
    ⟨cell_below hK _ _ (by simp), cell_below hK _ _ (by simp), cell_below hK _ _ (by simp), cell_below hK _ _ (by simp), cell_below hK _ _ (by simp), cell_below hK _ _ (by simp)⟩
  clear h00 hx
  generalize V.mk k b n s l ks = x at *
  obtain ⟨D, hD⟩ : ∃ D, deepB x 24 = D := ⟨_, rfl⟩
  obtain ⟨E, hE⟩ : ∃ E, wrongV x = E := ⟨_, rfl⟩
  obtain ⟨C, hCC⟩ : ∃ C, countV x = C := ⟨_, rfl⟩
  rw [hD] at hC P1
  rw [hE] at hC P2
  rw [hCC] at hC P3 hcle
  clear hD hE hCC
  cases D with
  | true =>
    have HY : Hid (y = 30) := Lib.hid (hC.trans (if_pos rfl))
    clear hC
    go_enter Tryz.func23, Tryz.ntmps23
    go_wp2_with fail
    generalize hW1 : w.alloc (.cells #[.int .i8 k, .bool b, .int .i64 n, .string s, .slice o l.length cap, .slice o2 ks.length cap2] 33) = W1 at *
    clear hW1
    refine (P1.out W1 (Below.refl _ _)).mono ?_
    rintro e w5 ⟨rfl, hb5⟩
    go_wp2_with fail
    go_ret
    exact ⟨by rw [HY.out]; rfl, HB0.out.trans (hb5.mono HB0.out.size)⟩
  | false =>
    rw [if_neg (by simp)] at hC
    by_cases hE0 : E ≠ 0
    · have HY : Hid (y = E) := Lib.hid (hC.trans (if_pos hE0))
      have z1 : (E == 0) = false := beqI hE0
      have z2 : (E != 0) = true := bne_iff_ne.2 hE0
      clear hC hE0
      go_enter Tryz.func23, Tryz.ntmps23
      go_wp2_with fail
      generalize hW1 : w.alloc (.cells #[.int .i8 k, .bool b, .int .i64 n, .string s, .slice o l.length cap, .slice o2 ks.length cap2] 33) = W1 at *
      clear hW1
      refine (P1.out W1 (Below.refl _ _)).mono ?_
      rintro e w5 ⟨rfl, hb5⟩
      obtain ⟨m0, m1, m2, m3, m4, m5⟩ := HC.out w5 hb5
      go_wp2_with (go_at_call 54; (refine (P2.out _ hb5).mono ?_); rintro e w6 ⟨rfl, hb6⟩)
      go_ret
      exact ⟨by rw [HY.out]; rfl, HB0.out.trans (hb6.mono HB0.out.size)⟩
    · obtain rfl : E = 0 := Decidable.not_not.1 hE0
      rw [if_neg hE0] at hC
      have HY : Hid (y = if 4096 < C then 3 else 0) := Lib.hid hC
      clear hC hE0
      by_cases hc : 4096 < C
      · have c1 : decide ((4096 : Int) < (C : Int)) = true := decide_eq_true (by omega)
        have HZ : Hid (y = 3) := Lib.hid (HY.out.trans (if_pos hc))
        clear hc
        go_enter Tryz.func23, Tryz.ntmps23
        go_wp2_with fail
        generalize hW1 : w.alloc (.cells #[.int .i8 k, .bool b, .int .i64 n, .string s, .slice o l.length cap, .slice o2 ks.length cap2] 33) = W1 at *
        clear hW1
        refine (P1.out W1 (Below.refl _ _)).mono ?_
        rintro e w5 ⟨rfl, hb5⟩
        obtain ⟨m0, m1, m2, m3, m4, m5⟩ := HC.out w5 hb5
        go_wp2_with (first | (go_at_call 54; (refine (P2.out _ hb5).mono ?_); rintro e w6 ⟨rfl, hb6⟩; obtain ⟨p0, p1, p2, p3, p4, p5⟩ := HC.out w6 hb6) | (go_at_call 55; (refine (P3.out _ hb6).mono ?_); rintro e w7 ⟨rfl, hb7⟩))
        go_ret
        exact ⟨by rw [HZ.out]; rfl, HB0.out.trans (hb7.mono HB0.out.size)⟩
      · have c1 : decide ((4096 : Int) < (C : Int)) = false := decide_eq_false (by omega)
        have HZ : Hid (y = 0) := Lib.hid (HY.out.trans (if_neg hc))
        clear hc
        go_enter Tryz.func23, Tryz.ntmps23
        go_wp2_with fail
        generalize hW1 : w.alloc (.cells #[.int .i8 k, .bool b, .int .i64 n, .string s, .slice o l.length cap, .slice o2 ks.length cap2] 33) = W1 at *
        clear hW1
        refine (P1.out W1 (Below.refl _ _)).mono ?_
        rintro e w5 ⟨rfl, hb5⟩
        obtain ⟨m0, m1, m2, m3, m4, m5⟩ := HC.out w5 hb5
        go_wp2_with (first | (go_at_call 54; (refine (P2.out _ hb5).mono ?_); rintro e w6 ⟨rfl, hb6⟩; obtain ⟨p0, p1, p2, p3, p4, p5⟩ := HC.out w6 hb6) | (go_at_call 55; (refine (P3.out _ hb6).mono ?_); rintro e w7 ⟨rfl, hb7⟩))
        go_ret
        exact ⟨by rw [HZ.out]; rfl, HB0.out.trans (hb7.mono HB0.out.size)⟩
end Go.Proofs.YtlamkadllbgamaaGreatDoor

namespace Go.Proofs.YtlamkadllbgamaaGreatDoor
open Go.RowKit

def bl (s s' : ByteArray) : Bool := Op.bytesLess s.toList s'.toList
def ltI (c : Bool) : Int := if c then -1 else 1
def E0 : ByteArray := ⟨#[]⟩
open Classical in
mutual
/-- The order of two trees: -1, 0, 1. -/
noncomputable def cmpV : V → V → Int
  | .mk k b n s l ks, y => if k ≠ y.kind then ltI (decide (k < y.kind)) else if b ≠ y.bool then ltI y.bool else if n ≠ y.num then ltI (decide (n < y.num)) else if s ≠ y.text then ltI (bl s y.text) else cmpVs k l ks y.list y.keys
noncomputable def cmpVs (k : Int) : List V → List ByteArray → List V → List ByteArray → Int
  | [], _, l', _ => if l'.length = 0 then 0 else -1
  | _ :: _, _, [], _ => 1
  | x :: t, ks, y :: t', ks' => if k = 5 ∧ ks.headD E0 ≠ ks'.headD E0 then ltI (bl (ks.headD E0) (ks'.headD E0)) else if cmpV x y ≠ 0 then cmpV x y else cmpVs k t ks.tail t' ks'.tail
end
mutual
/-- Objects have as many keys as parts, at every depth. -/
def okV : V → Prop | .mk k b n s l ks => (k = 5 → ks.length = l.length) ∧ okVs l
def okVs : List V → Prop | [] => True | x :: t => okV x ∧ okVs t
end
theorem okVs_get : ∀ (l : List V) (j : Nat) (h : j < l.length), okVs l → okV l[j]
  | x :: t, 0, _, h => by unfold okVs at h; exact h.1
  | x :: t, j + 1, hj, h => by unfold okVs at h; exact okVs_get t j (by simpa using hj) h.2
mutual
theorem ok_of_wrong : ∀ x : V, wrongV x = 0 → okV x
  | .mk k b n s l ks, h => by
    have ho : ownW (.mk k b n s l ks) = 0 := by
      refine Classical.byContradiction fun hc => ?_
      rw [wrongV, if_neg hc] at h
      exact hc h
    rw [wrongV, if_pos ho] at h
    have hp : plainB (.mk k b n s l ks) = true := by
      cases e : plainB (.mk k b n s l ks) with
      | true => rfl
      | false => rw [ownW_mk, e, if_pos rfl] at ho; omega
    unfold okV
    exact ⟨(plain_eq hp).2.2.2.2.2.1, oks_of_wrong l h⟩
theorem oks_of_wrong : ∀ l : List V, wrongVs l = 0 → okVs l
  | [], _ => by unfold okVs; trivial
  | x :: t, h => by
    have h1 : wrongV x = 0 := by
      refine Classical.byContradiction fun hc => ?_
      rw [wrongVs, if_neg hc] at h
      exact hc h
    rw [wrongVs, if_pos h1] at h
    unfold okVs
    exact ⟨ok_of_wrong x h1, oks_of_wrong t h⟩
end
theorem cmpV_mk (k k' : Int) (b b' : Bool) (n n' : Int) (s s' : ByteArray) (l l' : List V) (ks ks' : List ByteArray) : cmpV (.mk k b n s l ks) (.mk k' b' n' s' l' ks') = if k ≠ k' then ltI (decide (k < k')) else if b ≠ b' then ltI b' else if n ≠ n' then ltI (decide (n < n')) else @ite _ (s ≠ s') (Classical.propDecidable _) (ltI (bl s s')) (cmpVs k l ks l' ks') := by
  rw [cmpV]
  simp only [V.kind, V.bool, V.num, V.text, V.list, V.keys]
  congr
theorem headD_drop (ks : List ByteArray) (j : Nat) : (ks.drop j).headD E0 = ks.getD j E0 := by
  simp [List.headD_eq_head?_getD, List.head?_drop, List.getD]
theorem cmpVs_at (k : Int) (l l' : List V) (ks ks' : List ByteArray) (j : Nat) (h : j < l.length) (h' : j < l'.length) :
    cmpVs k (l.drop j) (ks.drop j) (l'.drop j) (ks'.drop j) = @ite _ (k = 5 ∧ ks.getD j E0 ≠ ks'.getD j E0) (Classical.propDecidable _) (ltI (bl (ks.getD j E0) (ks'.getD j E0))) (if cmpV l[j] l'[j] ≠ 0 then cmpV l[j] l'[j] else cmpVs k (l.drop (j + 1)) (ks.drop (j + 1)) (l'.drop (j + 1)) (ks'.drop (j + 1))) := by
  rw [List.drop_eq_getElem_cons h, List.drop_eq_getElem_cons h', cmpVs, headD_drop, headD_drop, List.tail_drop, List.tail_drop]
  congr
theorem cmpVs_end1 (k : Int) (l l' : List V) (ks ks' : List ByteArray) (j : Nat) (h : l.length ≤ j) : cmpVs k (l.drop j) (ks.drop j) (l'.drop j) (ks'.drop j) = if l'.length ≤ j then 0 else -1 := by
  rw [List.drop_eq_nil_of_le h, cmpVs, List.length_drop]
  by_cases h2 : l'.length ≤ j
  · rw [if_pos h2, if_pos (by omega)]
  · rw [if_neg h2, if_neg (by omega)]
theorem cmpVs_end2 (k : Int) (l l' : List V) (ks ks' : List ByteArray) (j : Nat) (h : j < l.length) (h' : l'.length ≤ j) : cmpVs k (l.drop j) (ks.drop j) (l'.drop j) (ks'.drop j) = 1 := by
  rw [List.drop_eq_getElem_cons h, List.drop_eq_nil_of_le h', cmpVs]
end Go.Proofs.YtlamkadllbgamaaGreatDoor

namespace Go.Proofs.YtlamkadllbgamaaGreatDoor
open Go.RowKit

mutual
/-- A value, then its parts in order, each with its own. -/
def walkV : V → List V | .mk k b n s l ks => .mk k b n s l ks :: walkVs l
def walkVs : List V → List V | [] => [] | x :: t => walkV x ++ walkVs t
end
mutual
theorem walk_len : ∀ x : V, (walkV x).length = countV x
  | .mk k b n s l ks => by rw [walkV, countV, List.length_cons, walks_len l]; omega
theorem walks_len : ∀ l : List V, (walkVs l).length = countVs l
  | [] => by rw [walkVs, countVs]; rfl
  | x :: t => by rw [walkVs, countVs, List.length_append, walk_len x, walks_len t]
end
theorem walkVs_app (a b : List V) : walkVs (a ++ b) = walkVs a ++ walkVs b := by
  induction a with
  | nil => simp [walkVs]
  | cons x t ih => simp only [List.cons_append, walkVs, ih, List.append_assoc]
theorem walkVs_snoc (l : List V) (j : Nat) (h : j < l.length) : walkVs (l.take (j + 1)) = walkVs (l.take j) ++ walkV l[j] := by
  rw [List.take_succ_eq_append_getElem h, walkVs_app]; simp [walkVs]

/-- Cells that hold such values, one behind another. -/
def isVsL (W : World) : List V → List Value → Prop
  | [], xs => xs = []
  | x :: t, xs => ∃ c0 c1 c2 c3 c4 c5 rest, xs = c0 :: c1 :: c2 :: c3 :: c4 :: c5 :: rest ∧ isV W x (.agg #[c0, c1, c2, c3, c4, c5]) ∧ isVsL W t rest
theorem isVsL_app {W : World} : ∀ (l m : List V) (xs ys : List Value), isVsL W l xs → isVsL W m ys → isVsL W (l ++ m) (xs ++ ys)
  | [], m, xs, ys, h, h' => by
    unfold isVsL at h
    subst h
    exact h'
  | x :: t, m, xs, ys, h, h' => by
    unfold isVsL at h
    obtain ⟨c0, c1, c2, c3, c4, c5, rest, rfl, hx, ht⟩ := h
    rw [List.cons_append]
    unfold isVsL
    exact ⟨c0, c1, c2, c3, c4, c5, rest ++ ys, rfl, hx, isVsL_app t m rest ys ht h'⟩
theorem isVsL_len {W : World} : ∀ (l : List V) (xs : List Value), isVsL W l xs → xs.length = l.length * 6
  | [], xs, h => by unfold isVsL at h; subst h; rfl
  | x :: t, xs, h => by
    unfold isVsL at h
    obtain ⟨c0, c1, c2, c3, c4, c5, rest, rfl, hx, ht⟩ := h
    have := isVsL_len t rest ht
    simp only [List.length_cons]; omega
theorem isV_one {W : World} {x : V} {c0 c1 c2 c3 c4 c5 : Value} (h : isV W x (.agg #[c0, c1, c2, c3, c4, c5])) : ∀ u ∈ [c0, c1, c2, c3, c4, c5], u.oneCell' = true := by
  obtain ⟨k, b, n, s, l, ks⟩ := x
  unfold isV at h
  obtain ⟨lv, kv, he, _, _, _, ⟨_, _, ⟨o, rfl, _⟩, _⟩, ⟨_, _, ⟨o2, rfl, _⟩, _⟩⟩ := h
  simp only [Value.agg.injEq, Array.mk.injEq, List.cons.injEq, and_true] at he
  obtain ⟨rfl, rfl, rfl, rfl, rfl, rfl⟩ := he
  intro u hu
  simp only [List.mem_cons, List.not_mem_nil, or_false] at hu
  rcases hu with rfl | rfl | rfl | rfl | rfl | rfl <;> rfl
theorem isVsL_one {W : World} : ∀ (l : List V) (xs : List Value), isVsL W l xs → ∀ u ∈ xs, u.oneCell' = true
  | [], xs, h => by unfold isVsL at h; subst h; intro u hu; cases hu
  | x :: t, xs, h => by
    unfold isVsL at h
    obtain ⟨c0, c1, c2, c3, c4, c5, rest, rfl, hx, ht⟩ := h
    intro u hu
    have h1 := isV_one hx
    have h2 := isVsL_one t rest ht
    simp only [List.mem_cons] at hu
    rcases hu with h | h | h | h | h | h | h
    · exact h1 u (by simp [h])
    · exact h1 u (by simp [h])
    · exact h1 u (by simp [h])
    · exact h1 u (by simp [h])
    · exact h1 u (by simp [h])
    · exact h1 u (by simp [h])
    · exact h2 u h
theorem infoV : (Tryz.prog.info? 33).map (fun i => (i.zero, i.size, i.bytes)) = some (some (.agg #[.int .i8 0, .bool false, .int .i64 0, .string ⟨#[]⟩, .slice none 0 0, .slice none 0 0]), 6, 80) := by kernel_rfl
theorem grown_of_below {w w' : World} (h : Below w.heap.size w w') : w.grownBy w' none := ⟨h.os, h.tape, h.output, h.size, fun k hk _ => h.block k hk⟩

/-- Between two rounds: a row of the call's own that holds such values. -/
def RW (w0 W1 : World) (A : List V) (v : Value) (W : World) : Prop := ∃ xs, W.ownsRow W1.heap.size 33 6 v A.length xs ∧ isVsL w0 A xs ∧ Below W1.heap.size W1 W
def RetR (w0 : World) (l : List V) (w : World) (e : Ending) (w' : World) : Prop := ∃ r, e = .returned r ∧ RW w0 w l r w'
theorem RW.below {w0 W1 W W' : World} {A : List V} {v : Value} (h : RW w0 W1 A v W) (hb : Below W.heap.size W W') : RW w0 W1 A v W' := by
  obtain ⟨xs, h1, h2, h3⟩ := h
  exact ⟨xs, h1.kept (grown_of_below hb) (by cases v.ownBlock <;> simp), h2, h3.trans (hb.mono h3.size)⟩
theorem RW.base {w0 w W1 W : World} {A : List V} {v : Value} (h : RW w0 W1 A v W) (hb : Below w.heap.size w W1) : RW w0 w A v W := by
  obtain ⟨xs, ⟨h1, h1'⟩, h2, h3⟩ := h
  refine ⟨xs, ⟨h1, ?_⟩, h2, hb.trans (h3.mono hb.size)⟩
  rcases h1' with h | ⟨g, cap, cur, hv, hg, r⟩
  · exact .inl h
  · exact .inr ⟨g, cap, cur, hv, Nat.le_trans hb.size hg, r⟩
/-- A row that is not empty is a slice at a block's beginning. -/
theorem RW.form {w0 W1 W : World} {A : List V} {v : Value} (h : RW w0 W1 A v W) (hA : 0 < A.length) : ∃ g cap, v = .slice (some ⟨g, 0, none⟩) A.length cap ∧ ∃ xs, W.ownsRow W1.heap.size 33 6 v A.length xs ∧ isVsL w0 A xs ∧ ∀ j u, xs[j]? = some u → W.cell? ((⟨g, 0, none⟩ : Addr).add j) = some u := by
  obtain ⟨xs, h1, h2, h3⟩ := h
  rcases h1.2 with ⟨_, h⟩ | ⟨g, cap, cur, rfl, _⟩
  · omega
  · exact ⟨g, cap, rfl, xs, h1, h2, h1.cells rfl⟩

theorem rw_start {w0 W1 : World} {X : V} {cs : Array Value} (h : isVsL w0 [X] cs.toList) (hs : cs.size = 6) : RW w0 W1 [X] (.slice (some ⟨W1.heap.size, 0, none⟩) 1 1) (W1.alloc (.cells cs 33)) :=
  ⟨cs.toList, World.ownsRow_lit W1 cs 1 (Nat.le_refl _) (by unfold maxLen; omega) (by rw [hs]), h, (Below.refl _ _).alloc (Nat.le_refl _) _⟩

end Go.Proofs.YtlamkadllbgamaaGreatDoor

namespace Go.Proofs.YtlamkadllbgamaaGreatDoor
open Go.RowKit

def isKa (W : World) (B : Nat → Prop) (ks : List ByteArray) (v : Value) : Prop :=
  ∃ a cap, slv v ks.length a cap ∧ (0 < ks.length → B a.block) ∧ ∀ i (h : i < ks.length), W.cell? (a.add i) = some (.string ks[i]) ∧ ks[i].size ≤ maxLen
mutual
/-- As isV; every cell that is read lies in a block with B. -/
def isVa (W : World) (B : Nat → Prop) : V → Value → Prop
  | .mk k b n s l ks, v => ∃ lv kv, v = .agg #[.int .i8 k, .bool b, .int .i64 n, .string s, lv, kv] ∧ (-128 ≤ k ∧ k ≤ 127) ∧ (-9223372036854775808 ≤ n ∧ n ≤ 9223372036854775807) ∧ s.size ≤ maxLen ∧ (∃ a cap, slv lv l.length a cap ∧ (0 < l.length → B a.block) ∧ isVas W B l a) ∧ isKa W B ks kv
def isVas (W : World) (B : Nat → Prop) : List V → Addr → Prop
  | [], _ => True
  | x :: t, a => (∃ c0 c1 c2 c3 c4 c5, W.cell? a = some c0 ∧ W.cell? (a.add 1) = some c1 ∧ W.cell? (a.add 2) = some c2 ∧ W.cell? (a.add 3) = some c3 ∧ W.cell? (a.add 4) = some c4 ∧ W.cell? (a.add 5) = some c5 ∧ isVa W B x (.agg #[c0, c1, c2, c3, c4, c5])) ∧ isVas W B t (a.add 6)
end
theorem add_block (a : Addr) (i : Nat) : (a.add i).block = a.block := by
  unfold Addr.add
  split <;> rfl
theorem isKa_keep {W W' : World} {B : Nat → Prop} (hc : ∀ a c, B a.block → W.cell? a = some c → W'.cell? a = some c) {ks : List ByteArray} {v : Value} (h : isKa W B ks v) : isKa W' B ks v := by
  obtain ⟨a, cap, h1, h2, h3⟩ := h
  exact ⟨a, cap, h1, h2, fun i hi => ⟨hc _ _ (by rw [add_block]; exact h2 (by omega)) (h3 i hi).1, (h3 i hi).2⟩⟩
mutual
theorem isVa_keep {W W' : World} {B : Nat → Prop} (hc : ∀ a c, B a.block → W.cell? a = some c → W'.cell? a = some c) : ∀ (x : V) (v : Value), isVa W B x v → isVa W' B x v
  | .mk k b n s l ks, v, h => by
    unfold isVa at h ⊢
    obtain ⟨lv, kv, h1, h2, h3, h4, ⟨a, cap, h5, h6, h7⟩, h8⟩ := h
    exact ⟨lv, kv, h1, h2, h3, h4, ⟨a, cap, h5, h6, isVas_keep hc l a h6 h7⟩, isKa_keep hc h8⟩
theorem isVas_keep {W W' : World} {B : Nat → Prop} (hc : ∀ a c, B a.block → W.cell? a = some c → W'.cell? a = some c) : ∀ (l : List V) (a : Addr), (0 < l.length → B a.block) → isVas W B l a → isVas W' B l a
  | [], _, _, _ => by unfold isVas; trivial
  | x :: t, a, hb, h => by
    unfold isVas at h ⊢
    have hB : B a.block := hb (by simp)
    have hBi : ∀ i, B (a.add i).block := fun i => by rw [add_block]; exact hB
    obtain ⟨⟨c0, c1, c2, c3, c4, c5, g0, g1, g2, g3, g4, g5, hx⟩, ht⟩ := h
    exact ⟨⟨c0, c1, c2, c3, c4, c5, hc _ _ hB g0, hc _ _ (hBi 1) g1, hc _ _ (hBi 2) g2, hc _ _ (hBi 3) g3, hc _ _ (hBi 4) g4, hc _ _ (hBi 5) g5, isVa_keep hc x _ hx⟩, isVas_keep hc t _ (fun _ => hBi 6) ht⟩
end
theorem isKa_mono {W : World} {B B' : Nat → Prop} (hb : ∀ q, B q → B' q) {ks : List ByteArray} {v : Value} (h : isKa W B ks v) : isKa W B' ks v := by
  obtain ⟨a, cap, h1, h2, h3⟩ := h
  exact ⟨a, cap, h1, fun h => hb _ (h2 h), h3⟩
mutual
theorem isVa_mono {W : World} {B B' : Nat → Prop} (hb : ∀ q, B q → B' q) : ∀ (x : V) (v : Value), isVa W B x v → isVa W B' x v
  | .mk k b n s l ks, v, h => by
    unfold isVa at h ⊢
    obtain ⟨lv, kv, h1, h2, h3, h4, ⟨a, cap, h5, h6, h7⟩, h8⟩ := h
    exact ⟨lv, kv, h1, h2, h3, h4, ⟨a, cap, h5, fun h => hb _ (h6 h), isVas_mono hb l a h7⟩, isKa_mono hb h8⟩
theorem isVas_mono {W : World} {B B' : Nat → Prop} (hb : ∀ q, B q → B' q) : ∀ (l : List V) (a : Addr), isVas W B l a → isVas W B' l a
  | [], _, _ => by unfold isVas; trivial
  | x :: t, a, h => by
    unfold isVas at h ⊢
    obtain ⟨⟨c0, c1, c2, c3, c4, c5, g0, g1, g2, g3, g4, g5, hx⟩, ht⟩ := h
    exact ⟨⟨c0, c1, c2, c3, c4, c5, g0, g1, g2, g3, g4, g5, isVa_mono hb x _ hx⟩, isVas_mono hb t _ ht⟩
end
mutual
theorem isV_of_a {W : World} {B : Nat → Prop} : ∀ (x : V) (v : Value), isVa W B x v → isV W x v
  | .mk k b n s l ks, v, h => by
    unfold isVa at h
    unfold isV
    obtain ⟨lv, kv, h1, h2, h3, h4, ⟨a, cap, h5, h6, h7⟩, ⟨a2, cap2, k1, _, k3⟩⟩ := h
    exact ⟨lv, kv, h1, h2, h3, h4, ⟨a, cap, h5, isVs_of_a l a h7⟩, ⟨a2, cap2, k1, k3⟩⟩
theorem isVs_of_a {W : World} {B : Nat → Prop} : ∀ (l : List V) (a : Addr), isVas W B l a → isVs W l a
  | [], _, _ => by unfold isVs; trivial
  | x :: t, a, h => by
    unfold isVas at h
    unfold isVs
    obtain ⟨⟨c0, c1, c2, c3, c4, c5, g0, g1, g2, g3, g4, g5, hx⟩, ht⟩ := h
    exact ⟨⟨c0, c1, c2, c3, c4, c5, g0, g1, g2, g3, g4, g5, isV_of_a x _ hx⟩, isVs_of_a t _ ht⟩
end
mutual
/-- Every value lies below the heap's size. -/
theorem isVa_of {W : World} : ∀ (x : V) (v : Value), isV W x v → isVa W (fun q => q < W.heap.size) x v
  | .mk k b n s l ks, v, h => by
    unfold isV at h
    unfold isVa
    obtain ⟨lv, kv, h1, h2, h3, h4, ⟨a, cap, h5, h7⟩, ⟨a2, cap2, k1, k3⟩⟩ := h
    refine ⟨lv, kv, h1, h2, h3, h4, ⟨a, cap, h5, fun h0 => ?_, isVas_of l a h7⟩, ⟨a2, cap2, k1, fun h0 => ?_, k3⟩⟩
    · obtain ⟨c0, _, _, _, _, _, g0, _⟩ := isVs_at l a 0 h0 h7
      have := World.block_lt_of_cell? W _ g0
      rw [add_block] at this
      exact this
    · have := World.block_lt_of_cell? W _ (k3 0 h0).1
      rw [add_block] at this
      exact this
theorem isVas_of {W : World} : ∀ (l : List V) (a : Addr), isVs W l a → isVas W (fun q => q < W.heap.size) l a
  | [], _, _ => by unfold isVas; trivial
  | x :: t, a, h => by
    unfold isVs at h
    unfold isVas
    obtain ⟨⟨c0, c1, c2, c3, c4, c5, g0, g1, g2, g3, g4, g5, hx⟩, ht⟩ := h
    exact ⟨⟨c0, c1, c2, c3, c4, c5, g0, g1, g2, g3, g4, g5, isVa_of x _ hx⟩, isVas_of t _ ht⟩
end
/-- While a row of the call's own grows, what lies in other blocks stays. -/
theorem cell_grown {W W' : World} {row : Option Nat} (hg : W.grownBy W' row) : ∀ (a : Addr) (c : Value), (a.block < W.heap.size ∧ some a.block ≠ row) → W.cell? a = some c → W'.cell? a = some c :=
  fun a c hb h => hg.cell h hb.2
theorem isVa_grown {W W' : World} {row : Option Nat} {B : Nat → Prop} (hg : W.grownBy W' row) (hB : ∀ q, B q → some q ≠ row) {x : V} {v : Value} (h : isVa W B x v) : isVa W' B x v :=
  isVa_keep (fun a c hb hc => hg.cell hc (hB _ hb)) x v h
end Go.Proofs.YtlamkadllbgamaaGreatDoor

namespace Go.Proofs.YtlamkadllbgamaaGreatDoor
open Go.RowKit Go.ChangeShapes Go.WideShapes Go.Deep

theorem isVs_of {W : World} : ∀ (l : List V) (a : Addr), (∀ i (h : i < l.length), ∃ c0 c1 c2 c3 c4 c5, W.cell? (a.add (i * 6)) = some c0 ∧ W.cell? (a.add (i * 6 + 1)) = some c1 ∧ W.cell? (a.add (i * 6 + 2)) = some c2 ∧ W.cell? (a.add (i * 6 + 3)) = some c3 ∧ W.cell? (a.add (i * 6 + 4)) = some c4 ∧ W.cell? (a.add (i * 6 + 5)) = some c5 ∧ isV W l[i] (.agg #[c0, c1, c2, c3, c4, c5])) → isVs W l a
  | [], _, _ => by unfold isVs; trivial
  | x :: t, a, h => by
    unfold isVs
    have e : a.add 0 = a := by simp [Addr.add]
    refine ⟨?_, isVs_of t (a.add 6) (fun i hi => ?_)⟩
    · obtain ⟨c0, c1, c2, c3, c4, c5, g0, g1, g2, g3, g4, g5, hx⟩ := h 0 (by simp)
      simp only [Nat.zero_mul, Nat.zero_add, e] at g0 g1 g2 g3 g4 g5
      exact ⟨c0, c1, c2, c3, c4, c5, g0, g1, g2, g3, g4, g5, hx⟩
    · obtain ⟨c0, c1, c2, c3, c4, c5, g0, g1, g2, g3, g4, g5, hx⟩ := h (i + 1) (by simpa using hi)
      refine ⟨c0, c1, c2, c3, c4, c5, ?_, ?_, ?_, ?_, ?_, ?_, hx⟩
      · rw [add_add, show 6 + i * 6 = (i + 1) * 6 by omega]; exact g0
      · rw [add_add, show 6 + (i * 6 + 1) = (i + 1) * 6 + 1 by omega]; exact g1
      · rw [add_add, show 6 + (i * 6 + 2) = (i + 1) * 6 + 2 by omega]; exact g2
      · rw [add_add, show 6 + (i * 6 + 3) = (i + 1) * 6 + 3 by omega]; exact g3
      · rw [add_add, show 6 + (i * 6 + 4) = (i + 1) * 6 + 4 by omega]; exact g4
      · rw [add_add, show 6 + (i * 6 + 5) = (i + 1) * 6 + 5 by omega]; exact g5
theorem list_of {α : Type} [Inhabited α] (n : Nat) (P : Nat → α → Prop) (h : ∀ i, i < n → ∃ x, P i x) : ∃ l : List α, l.length = n ∧ ∀ i (hi : i < l.length), P i l[i] := by
  induction n with
  | zero => exact ⟨[], rfl, fun i hi => absurd hi (by simp)⟩
  | succ n ih =>
    obtain ⟨l, hl, hp⟩ := ih (fun i hi => h i (by omega))
    obtain ⟨x, hx⟩ := h n (by omega)
    refine ⟨l ++ [x], by simp [hl], fun i hi => ?_⟩
    by_cases e : i < l.length
    · rw [List.getElem_append_left e]; exact hp i e
    · have : i = l.length := by simp at hi; omega
      subst this
      rw [List.getElem_append_right (Nat.le_refl _)]
      simp only [Nat.sub_self, List.getElem_cons_zero]
      rw [hl]; exact hx
instance : Inhabited V := ⟨.mk 0 false 0 ⟨#[]⟩ [] []⟩
instance : Inhabited ByteArray := ⟨⟨#[]⟩⟩

theorem fieldsV : ∃ fs, Tryz.prog.underlying 33 = some (.struct fs) ∧ oneCellFields Tryz.prog fs = true ∧ fs.size = 6 ∧ fs.toList.map (·.type) = [29, 4, 3, 9, 30, 31] :=
  ⟨_, Tryz.underlying33, by kernel_rfl, by kernel_rfl, by kernel_rfl⟩

set_option maxRecDepth 100000 in
set_option maxHeartbeats 2000000 in
theorem open_val {H : Type} {enc : TypeId × Value → H} {w : World} {base : Nat} {spare : Nat → Bool} {held : Bool} (N : Nat) : ∀ (fuel : Nat) (cs : List Value) (x : DataW H × List MemPlace), fuel ≤ N → DataW.trod enc Tryz.prog w base spare held fuel 33 cs = some x → ∃ X, isV w X (.agg cs.toArray) := by
  induction N with
  | zero =>
    intro fuel cs x hN h
    obtain ⟨xs, n, hf, _⟩ := DataW.trod_struct Tryz.underlying33 h
    omega
  | succ N ih =>
    intro fuel cs x hN h
    obtain ⟨fs, hu, h1c, hsz, hty⟩ := fieldsV
    obtain ⟨xs, n, hfu, hx, hlen, hxl, hf⟩ := DataW.trod_struct hu h
    have hone := hone_of h1c
    have h6 : cs.length = 6 := hlen.trans (by kernel_rfl)
    have hg : ∀ (i t : Nat) (c : Value), [29, 4, 3, 9, 30, 31][i]? = some t → cs[i]? = some c → ∃ y, DataW.trod enc Tryz.prog w base spare held n t [c] = some y := fun i t c ht hc => by
      rw [← hty, List.getElem?_map] at ht
      obtain ⟨f, hfi, rfl⟩ := Option.map_eq_some_iff.1 ht
      have hfi' : fs[i]? = some f := by rw [← Array.getElem?_toList]; exact hfi
      have e1 := hf i f hfi'
      obtain ⟨ho, hk⟩ := hone i f hfi'
      rw [ho, hk] at e1
      have hil := (List.getElem?_eq_some_iff.1 hc).1
      rw [List.drop_eq_getElem_cons hil, (List.getElem?_eq_some_iff.1 hc).2] at e1
      have hxi : i < xs.length := by
        rw [hxl]; exact (Array.getElem?_eq_some_iff.1 hfi').1
      exact ⟨xs[i], by rw [List.getElem?_eq_getElem hxi] at e1; exact e1⟩
    match cs, h6 with
    | [c0, c1, c2, c3, c4, c5], _ =>
      obtain ⟨y0, e0⟩ := hg 0 _ c0 rfl rfl
      obtain ⟨y1, e1⟩ := hg 1 _ c1 rfl rfl
      obtain ⟨y2, e2⟩ := hg 2 _ c2 rfl rfl
      obtain ⟨y3, e3⟩ := hg 3 _ c3 rfl rfl
      obtain ⟨y4, e4⟩ := hg 4 _ c4 rfl rfl
      obtain ⟨y5, e5⟩ := hg 5 _ c5 rfl rfl
      obtain ⟨k, hk, _, wk⟩ := DataW.trod_int Tryz.underlying29 e0
      obtain ⟨b, hb, _⟩ := DataW.trod_bool Tryz.underlying4 e1
      obtain ⟨m, hm, _, wm⟩ := DataW.trod_int Tryz.underlying3 e2
      obtain ⟨s, hs, _, ws⟩ := DataW.trod_string Tryz.underlying9 e3
      obtain rfl : c0 = .int .i8 k := by simpa using hk
      obtain rfl : c1 = .bool b := by simpa using hb
      obtain rfl : c2 = .int .i64 m := by simpa using hm
      obtain rfl : c3 = .string s := by simpa using hs
      have hk2 : -128 ≤ k ∧ k ≤ 127 := by simp [Lit.wf, IntKind.min, IntKind.max, IntKind.bits, IntKind.signed] at wk; omega
      have hm2 : -9223372036854775808 ≤ m ∧ m ≤ 9223372036854775807 := by simp [Lit.wf, IntKind.min, IntKind.max, IntKind.bits, IntKind.signed] at wm; omega
      have hL : ∃ (l : List V) (a : Addr) (cap : Nat), slv c4 l.length a cap ∧ isVs w l a := by
        rcases DataW.trod_slice Tryz.underlying30 e4 with ⟨h0, _⟩ | ⟨a, len, cap, elems, rest, n', hn', h0, _, _, hlc, hcm, hel, hall, _⟩
        · exact ⟨[], ⟨0, 0, none⟩, 0, ⟨none, by simpa using h0, Nat.le_refl _, by unfold maxLen; omega, fun h => absurd h (by decide)⟩, by unfold isVs; trivial⟩
        · obtain ⟨l, hl, hp⟩ := list_of len (fun i X => ∃ c0 c1 c2 c3 c4 c5, w.cell? (a.add (i * 6)) = some c0 ∧ w.cell? (a.add (i * 6 + 1)) = some c1 ∧ w.cell? (a.add (i * 6 + 2)) = some c2 ∧ w.cell? (a.add (i * 6 + 3)) = some c3 ∧ w.cell? (a.add (i * 6 + 4)) = some c4 ∧ w.cell? (a.add (i * 6 + 5)) = some c5 ∧ isV w X (.agg #[c0, c1, c2, c3, c4, c5])) (fun i hi => by
            have hi2 := hall i hi
            rw [List.getElem?_eq_getElem (by omega)] at hi2
            obtain ⟨ds, hd1, hd2⟩ := Option.bind_eq_some_iff.1 hi2
            rw [show Tryz.prog.cellsOf 33 = 6 by kernel_rfl] at hd1
            obtain ⟨_, hdl, hdc⟩ := World.cells?_some hd1
            obtain ⟨X, hX⟩ := ih n' ds _ (by omega) hd2
            match ds, hdl with
            | [d0, d1, d2, d3, d4, d5], _ =>
              have g0 := hdc 0 (by omega)
              have g1 := hdc 1 (by omega)
              have g2 := hdc 2 (by omega)
              have g3 := hdc 3 (by omega)
              have g4 := hdc 4 (by omega)
              have g5 := hdc 5 (by omega)
              rw [add_add] at g0 g1 g2 g3 g4 g5
              exact ⟨X, d0, d1, d2, d3, d4, d5, g0, g1, g2, g3, g4, g5, hX⟩)
          subst hl
          exact ⟨l, a, cap, ⟨some a, by simpa using h0, hlc, hcm, fun _ => rfl⟩, isVs_of l a hp⟩
      have hK : ∃ ks : List ByteArray, isK w ks c5 := by
        rcases DataW.trod_slice Tryz.underlying31 e5 with ⟨h0, _⟩ | ⟨a, len, cap, elems, rest, n', hn', h0, _, _, hlc, hcm, hel, hall, _⟩
        · exact ⟨[], ⟨0, 0, none⟩, 0, ⟨none, by simpa using h0, Nat.le_refl _, by unfold maxLen; omega, fun h => absurd h (by decide)⟩, fun i h => absurd h (by simp)⟩
        · obtain ⟨l, hl, hp⟩ := list_of len (fun i (S : ByteArray) => w.cell? (a.add i) = some (.string S) ∧ S.size ≤ maxLen) (fun i hi => by
            have hi2 := hall i hi
            rw [List.getElem?_eq_getElem (by omega)] at hi2
            obtain ⟨ds, hd1, hd2⟩ := Option.bind_eq_some_iff.1 hi2
            rw [show Tryz.prog.cellsOf 9 = 1 by kernel_rfl, Nat.mul_one] at hd1
            obtain ⟨_, hdl, hdc⟩ := World.cells?_some hd1
            obtain ⟨S, hS, _, wS⟩ := DataW.trod_string Tryz.underlying9 hd2
            subst hS
            have g0 := hdc 0 (by omega)
            rw [add_add] at g0
            exact ⟨S, g0, wS⟩)
          subst hl
          exact ⟨l, a, cap, ⟨some a, by simpa using h0, hlc, hcm, fun _ => rfl⟩, hp⟩
      obtain ⟨l, a, cap, hl1, hl2⟩ := hL
      obtain ⟨ks, hks⟩ := hK
      refine ⟨.mk k b m s l ks, ?_⟩
      unfold isV
      exact ⟨c4, c5, rfl, hk2, hm2, ws, ⟨a, cap, hl1, hl2⟩, hks⟩
set_option maxRecDepth 100000 in
/-- An argument of type Value. -/
theorem open_arg {H : Type} {enc : TypeId × Value → H} {r : Reach} {b0 : Nat} {w : World} {base : Nat} {spare : Nat → Bool} {held : Bool} {v : Value} {d : DataW H} {ps : List MemPlace} (hv : Value.okWide Tryz.prog w r b0 33 v) (h : DataW.Trod enc Tryz.prog w base spare held 33 v d ps) : ∃ X, isV w X v := by
  obtain ⟨cs, rfl, hsz⟩ := okWide_struct Tryz.underlying33 hv
  obtain ⟨fuel, hf⟩ := h
  obtain ⟨X, hX⟩ := open_val fuel fuel _ _ (Nat.le_refl _) hf
  exact ⟨X, by simpa [Value.cells] using hX⟩
end Go.Proofs.YtlamkadllbgamaaGreatDoor
