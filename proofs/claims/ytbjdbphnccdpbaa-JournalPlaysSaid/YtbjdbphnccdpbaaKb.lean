/-
  The reference's From: the rows behind a number.
-/
import Derived.Test.YtbjdbphnccdpbaaKa
set_option linter.unusedVariables false
namespace Go.Proofs.Ytbjdbphnccdpbaa
open Go.RowKit Go.Shelf Go.Lib
attribute [local go_sem] Oper.semAt_some

theorem rds.drop {W : World} {L : List (List UInt8)} {a : Addr} {n c : Nat} (h : rds W L (.slice (some a) n c)) (k : Nat) (hk : k ≤ L.length) : rds W (L.drop k) (.slice (some (if c = k then a else a.add k)) (L.length - k) (c - k)) := by
  obtain ⟨o, a', cap, e, h1, h2, h3, h4⟩ := h
  cases e
  have hl : (L.drop k).length = L.length - k := List.length_drop
  refine ⟨_, if c = k then a else a.add k, _, by rw [hl], by rw [hl]; omega, by omega, fun _ => rfl, fun i hi => ?_⟩
  rw [hl] at hi
  have hik : k + i < L.length := by omega
  have hlt : 0 < L.length := by omega
  cases h3 hlt
  obtain ⟨ob, cb, q1, q2⟩ := h4 (k + i) hik
  have hd : (L.drop k)[i]'(by rw [hl]; omega) = L[k + i] := by simp
  rw [if_neg (by omega)]
  refine ⟨ob, cb, ?_, ?_⟩
  · rw [Addr.add_add, hd]; exact q1
  · rw [hd]; exact q2
set_option maxRecDepth 100000 in
set_option maxHeartbeats 4000000 in
theorem from_any (L : List (List UInt8)) (v : Value) (fr : Int) (at' : Nat) (hat : (at' : Int) = if fr < 0 then 0 else if (L.length : Int) < fr then (L.length : Int) else fr) (w : World) (hv : rds w L v ∧ fit v) :
    Calls Try.prog 54 #[v, .int .i64 fr] w fun e w' => ∃ v', e = .returned (.tuple #[v', .int .i64 (at' : Nat)]) ∧ Hid (w' = w ∧ rds w (L.drop at') v' ∧ fit v') := by
  obtain ⟨hv, hf⟩ := hv
  have hle : at' ≤ L.length := by
    split at hat
    · omega
    · split at hat <;> omega
  obtain ⟨o, a, cap, rfl, h1, h2, h3, h4⟩ := id hv
  have RES : Hid (∀ o', (o' = o ∧ L.length = 0 ∧ o = none ∧ cap = 0) ∨ (∃ a, o = some a ∧ o' = some (if cap = at' then a else a.add at')) → rds w (L.drop at') (.slice o' (L.length - at') (cap - at'))) := Lib.hid (by
    rintro o' (⟨rfl, h0, rfl, rfl⟩ | ⟨a, rfl, rfl⟩)
    · have : L = [] := List.eq_nil_of_length_eq_zero h0
      subst this
      simpa using hv
    · exact hv.drop at' hle)
  have hmx : Try.prog.follows .mixedOrders = true := by kernel_rfl
  obtain ⟨mx, e1⟩ : ∃ mx, (if fr < 0 then (0 : Int) else fr) = mx := ⟨_, rfl⟩
  obtain ⟨n, hn⟩ : ∃ n, L.length = n := ⟨_, rfl⟩
  have e2 : (if (n : Int) < mx then (n : Int) else mx) = (at' : Int) := by
    rw [hat, ← e1, ← hn]
    by_cases c1 : fr < 0
    · rw [if_pos c1, if_pos c1, if_neg (by omega)]
    · rw [if_neg c1, if_neg c1]
  have hcn : n ≤ cap := by omega
  rw [hn] at hle RES hf
  have HRR := RES
  clear hv h3 h4 hat h1
  refine (callsIn_wide (n := 9)).1 ?_
  refine callsIn_of_wp_marks Try.func54 rfl trivial ?_ rfl
  simp only [Try.ntmps54, List.size_toArray, List.length_cons, List.length_nil, Nat.reduceAdd, Nat.reduceSub, Array.replicate_succ, Array.replicate_zero, List.push_toArray, List.append_toArray, List.nil_append, List.cons_append]
  rw [hn]
  have tq : ∀ (f : Fn) , True := fun _ => trivial
  rcases hf with hf | ⟨a, n', c, hf⟩
  · injection hf with i1 i2 i3
    subst i1 i2 i3
    have i4 : at' = 0 := by omega
    subst i4
    have e3 : (if (0 : Int) < mx then (0 : Int) else mx) = 0 := by simpa using e2
    clear e2
    have R9 : Hid (w = w ∧ rds w (L.drop 0) (.slice none 0 0) ∧ fit (.slice none 0 0)) := Lib.hid ⟨rfl, by simpa using RES.out none (.inl ⟨rfl, by simp, rfl, rfl⟩), .inl rfl⟩
    gi_wp2_with fail
    exact ⟨_, (by simp [results, Try.results54, go_sem] <;> rfl), _, rfl, Lib.hid ⟨rfl, by simpa using R9.out.2⟩⟩
  · injection hf with i1 i2 i3
    subst i1
    clear i2 i3 hn
    have RES2 : Hid (w = w ∧ rds w (L.drop at') (.slice (some (if cap = at' then a else a.add at')) (n - at') (cap - at')) ∧ fit (.slice (some (if cap = at' then a else a.add at')) (n - at') (cap - at'))) := Lib.hid ⟨rfl, RES.out _ (.inr ⟨a, rfl, rfl⟩), .inr ⟨_, _, _, rfl⟩⟩
    clear RES HRR
    by_cases hca : cap = at'
    · rw [if_pos hca] at RES2
      gi_wp2_with fail
      exact ⟨_, (by simp [results, Try.results54, go_sem] <;> rfl), _, rfl, Lib.hid ⟨rfl, by simpa [hca] using RES2.out.2⟩⟩
    · rw [if_neg hca] at RES2
      gi_wp2_with fail
      exact ⟨_, (by simp [results, Try.results54, go_sem] <;> rfl), _, rfl, Lib.hid ⟨rfl, RES2.out.2⟩⟩
end Go.Proofs.Ytbjdbphnccdpbaa
