/-
  What stays told of the innermost list or object when a value is put behind its parts.
-/
import Derived.Test.YtgbagdfcdljleaaGreatDoorHq
set_option linter.unusedVariables false
set_option linter.unusedSimpArgs false
namespace Go.Proofs.YtgbagdfcdljleaaGreatDoor
open Go.RowKit Go.Maps

section
variable {W0 W y : World} {b : Nat} {s : ByteArray} {d : Int} {k : Nat} {op : List Fm} {ys : List Value} {B : Nat → Prop}
theorem PW.putted {f : Fm} {t : List Fm} {g n cap n1 : Nat} {zs : List Value} {lv kv m lv' : Value} {xs : List Value} {S Bt Bf Sv : Nat → Prop} {v : V} {c0 c1 c2 c3 c4 c5 : Value}
    (h : PW W0 b s d k (f :: t) (.slice (some ⟨g, 0, none⟩) (n + 1) cap) ys B W) (hn : t.length = n)
    (e1 : ys = zs ++ fcells f lv kv m) (e2 : zs.length = t.length * 8) (e3 : isSt W W0.heap.size t zs Bt) (e4 : isFm W W0.heap.size f lv kv m xs S Bf) (e5 : ∀ q, Bf q → ¬ Bt q) (e6 : ∀ q, (Bt q ∨ Bf q) → B q)
    (hva : isVa W Sv v (.agg #[c0, c1, c2, c3, c4, c5])) (hSv : ∀ q, Sv q → Off W0 b (.slice (some ⟨g, 0, none⟩) (n + 1) cap) B q ∧ q < W.heap.size) (hn1 : f.vs.length = n1)
    (hb : Below W0.heap.size W0 y) (hsz : W.heap.size ≤ y.heap.size) (keep : ∀ q, q < W.heap.size → lv.ownBlock ≠ some q → q ≠ g → y.heap[q]? = W.heap[q]?)
    (own' : y.ownsRow W0.heap.size 28 6 lv' (n1 + 1) (xs ++ [c0, c1, c2, c3, c4, c5])) (hnew : ∀ q, lv'.ownBlock = some q → lv.ownBlock = some q ∨ W.heap.size ≤ q)
    (hrow : y.ownsRow W0.heap.size 69 8 (.slice (some ⟨g, 0, none⟩) (n + 1) cap) (n + 1) (ys.set (n * 8 + 4) lv')) :
    ∃ ys' B', PW W0 b s d k ({ f with vs := f.vs ++ [v] } :: t) (.slice (some ⟨g, 0, none⟩) (n + 1) cap) ys' B' y ∧
      Frm W0 b (.slice (some ⟨g, 0, none⟩) (n + 1) cap) (fun q => B q ∨ Sv q) W (.slice (some ⟨g, 0, none⟩) (n + 1) cap) B' y ∧ ∀ q, B' q → (B q ∨ Sv q) ∨ W.heap.size ≤ q := by
  have hgB : ∀ q, B q → q ≠ g := fun q e e' => (h.hB q e).2.2.2 (by rw [e']; rfl)
  have hglt : g < W.heap.size := (h.own.lt g rfl).2
  have hlvlt : ∀ q, lv.ownBlock = some q → q < W.heap.size := fun q e => (e4.lo.lt q e).2
  have hlk := types_apart e4.lo e4.ko (by decide)
  have hSg : ∀ q, Sv q → q ≠ g := fun q e e' => (hSv q e).1.2.2.2 (by rw [e']; rfl)
  have hSl : ∀ q, Sv q → lv.ownBlock ≠ some q := fun q e e' => (hSv q e).1.2.2.1 (e6 q (.inr (e4.hl q e')))
  have hSk : ∀ q, Sv q → kv.ownBlock ≠ some q := fun q e e' => (hSv q e).1.2.2.1 (e6 q (.inr (e4.hk q e')))
  have hys : ys.set (n * 8 + 4) lv' = zs ++ fcells { f with vs := f.vs ++ [v] } lv' kv m := by
    rw [e1, List.set_append_right _ _ (by rw [e2, hn]; omega), e2, hn, Nat.add_sub_cancel_left]
    rfl
  rw [hys] at hrow
  refine ⟨_, _, h.top (W' := y) (f' := { f with vs := f.vs ++ [v] }) (S' := fun q => S q ∨ Sv q) (Bf' := fun q => (Bf q ∨ Sv q) ∨ lv'.ownBlock = some q) (lv := lv') (kv := kv) (m := m) (xs := xs ++ [c0, c1, c2, c3, c4, c5]) hn e3 (fun q e => e6 q (.inl e)) hb hsz ?_ hrow ?_ ?_, ⟨hsz, fun q h1 h2 => ⟨keep q h1 (fun e => h2.2.2.1 (.inl (e6 q (.inr (e4.hl q e))))) (fun e => h2.2.2.2 (by rw [e]; rfl)), h2.1, h2.2.1, fun e => ?_, h2.2.2.2⟩⟩, fun q e => ?_⟩
  · rintro q hq (e | rfl)
    · exact keep q hq (fun e' => e5 q (e4.hl q e') e) (hgB q (e6 q (.inl e)))
    · exact keep q hq (fun e' => (h.hB q (e6 q (.inr (e4.hl q e')))).2.2.1 rfl) (fun e' => h.hb (by rw [e']; rfl))
  · refine ⟨?_, ?_, ?_, e4.kz, ?_, e4.ml, ?_, ?_, ?_⟩
    · show y.ownsRow W0.heap.size 28 6 lv' (f.vs ++ [v]).length _
      rw [List.length_append, hn1]
      exact own'
    · refine Ow.la_app _ _ _ _ (Ow.la_mono (fun q e => .inl e) _ _ (la_kp e4.la fun q e => ?_)) (Ow.la_single (isVa_mono (fun q e => .inr e) _ _ (isVa_kp hva fun q e => ?_)))
      · have h1 := e4.hS q e
        exact keep q (h.hB q (e6 q (.inr h1.1))).2.1 h1.2.2.1 (hgB q (e6 q (.inr h1.1)))
      · exact keep q (hSv q e).2 (hSl q e) (hSg q e)
    · refine own_kp e4.ko fun q e => keep q (e4.ko.lt q e).2 (fun e' => hlk q e' e) (hgB q (e6 q (.inr (e4.hk q e))))
    · intro hf
      obtain ⟨mb, rfl, m1, m2, m3, m4⟩ := e4.mo hf
      refine ⟨mb, rfl, map_kp m1 (keep mb (h.hB mb (e6 mb (.inr m2))).2.1 (map_apart e4.lo m1) (hgB mb (e6 mb (.inr m2)))), .inl (.inl m2), ?_, m4⟩
      rintro (e | e)
      · exact m3 e
      · exact (hSv mb e).1.2.2.1 (e6 mb (.inr m2))
    · rintro q (e | e)
      · have h1 := e4.hS q e
        refine ⟨.inl (.inl h1.1), h1.2.1, fun e' => ?_, h1.2.2.2⟩
        rcases hnew q e' with e2 | e2
        · exact h1.2.2.1 e2
        · have := (h.hB q (e6 q (.inr h1.1))).2.1
          omega
      · refine ⟨.inl (.inr e), (hSv q e).1.1, fun e' => ?_, hSk q e⟩
        rcases hnew q e' with e2 | e2
        · exact hSl q e e2
        · have := (hSv q e).2
          omega
    · intro q e; exact .inr e
    · intro q e; exact .inl (.inl (e4.hk q e))
  · rintro q ((e | e) | e)
    · have h1 := h.hB q (e6 q (.inr e))
      exact ⟨h1.1, by omega, h1.2.2.1, hgB q (e6 q (.inr e)), e5 q e⟩
    · have h1 := hSv q e
      exact ⟨h1.1.1, by omega, h1.1.2.1, hSg q e, fun e2 => h1.1.2.2.1 (e6 q (.inl e2))⟩
    · have h2 := own'.lt q e
      rcases hnew q e with e' | e'
      · have h1 := h.hB q (e6 q (.inr (e4.hl q e')))
        exact ⟨h1.1, by omega, h1.2.2.1, hgB q (e6 q (.inr (e4.hl q e'))), e5 q (e4.hl q e')⟩
      · have h3 := h.blt
        exact ⟨h2.1, h2.2, by omega, by omega, fun e2 => by have := (h.hB q (e6 q (.inl e2))).2.1; omega⟩
  · rcases e with e | (e | e) | e
    · exact h2.2.2.1 (.inl (e6 q (.inl e)))
    · exact h2.2.2.1 (.inl (e6 q (.inr e)))
    · exact h2.2.2.1 (.inr e)
    · rcases hnew q e with e' | e'
      · exact h2.2.2.1 (.inl (e6 q (.inr (e4.hl q e'))))
      · omega
  · rcases e with e | (e | e) | e
    · exact .inl (.inl (e6 q (.inl e)))
    · exact .inl (.inl (e6 q (.inr e)))
    · exact .inl (.inr e)
    · rcases hnew q e with e' | e'
      · exact .inl (.inl (e6 q (.inr (e4.hl q e'))))
      · exact .inr e'
end
end Go.Proofs.YtgbagdfcdljleaaGreatDoor
