/-
  A disk, what is kept of it beside, and an act's box.
-/
import Derived.Test.YtmajlanncchbnaaYt
import Derived.Deep.CutRange
import Derived.Deep.CutBlock
set_option linter.unusedVariables false
namespace Go.Proofs.Ytmajlanncchbnaa
open Go.RowKit Go.Shelf Go.Lib Go.Deep

/-- A disk, and a row beside it. -/
def K0 (w : World) (bp : Nat) (s : DS) (vp wv : Value) (x : List UInt8) (W : World) : Prop :=
  Dk 44 w.heap.size bp s vp W ∧ ow w.heap.size W wv x ∧ (∀ k, vp.ownBlock = some k → wv.ownBlock ≠ some k) ∧ Below w.heap.size w W
/-- .. and a box. -/
def K1 (w : World) (bp N : Nat) (cs : Array Value) (s : DS) (vp wv : Value) (x : List UInt8) (W : World) : Prop :=
  K0 w bp s vp wv x W ∧ W.heap[N]? = some (.cells cs 31 (0, 0))
theorem K0.below {w : World} {bp : Nat} {s : DS} {vp wv : Value} {x : List UInt8} {W W' : World} (h : K0 w bp s vp wv x W) (hb : Below W.heap.size W W') : K0 w bp s vp wv x W' :=
  ⟨h.1.below hb, ow_rd_below h.2.1 hb, h.2.2.1, h.2.2.2.trans (hb.mono h.2.2.2.size)⟩
theorem K1.below {w : World} {bp N : Nat} {cs : Array Value} {s : DS} {vp wv : Value} {x : List UInt8} {W W' : World} (h : K1 w bp N cs s vp wv x W) (hb : Below W.heap.size W W') : K1 w bp N cs s vp wv x W' :=
  ⟨h.1.below hb, (hb.block N (Array.getElem?_eq_some_iff.1 h.2).1).trans h.2⟩
theorem K1.new {w : World} {bp : Nat} {s : DS} {vp wv : Value} {x : List UInt8} {W : World} (h : K0 w bp s vp wv x W) (cs : Array Value) : K1 w bp W.heap.size cs s vp wv x (W.alloc (.cells cs 31)) :=
  ⟨h.below ((Below.refl _ _).alloc (Nat.le_refl _) _), heap_alloc_new W _⟩
theorem act_not_own {base N : Nat} {cs : Array Value} {v : Value} {x : List UInt8} {W : World} (hN : W.heap[N]? = some (.cells cs 31 (0, 0))) (h : ow base W v x) : v.ownBlock ≠ some N := fun e => by
  obtain ⟨_, _, cur, hc⟩ := h.lt N e
  rw [hN] at hc
  have := Option.some.inj hc
  simp only [Obj.cells.injEq] at this
  exact absurd this.2.1 (by decide)
theorem act_not_dk {t : TypeId} {base N b : Nat} {cs : Array Value} {v : Value} {s : DS} {W : World} (hN : W.heap[N]? = some (.cells cs 31 (0, 0))) (ht : 31 ≠ t) (h : Dk t base b s v W) : ¬ Fp b v N := by
  rintro (rfl | hk)
  · obtain ⟨_, _, _, ⟨k, hk, _⟩, _⟩ := h
    rw [hN] at hk
    have := Option.some.inj hk
    simp only [Obj.cells.injEq] at this
    exact ht this.2.1
  · exact act_not_own hN h.2.2.2.2 hk
theorem dk_not_own {t : TypeId} {base base' b : Nat} {v v' : Value} {s : DS} {x : List UInt8} {W : World} (h : Dk t base b s v W) (h' : ow base' W v' x) : v'.ownBlock ≠ some b := fun e => by
  obtain ⟨_, _, ht, ⟨k, hk, _⟩, _⟩ := h
  obtain ⟨_, _, cur, hc⟩ := h'.lt b e
  rw [hk] at hc
  have := Option.some.inj hc
  simp only [Obj.cells.injEq] at this
  exact ht this.2.1
/-- A deed on the disk. -/
theorem K1.call {w : World} {bp N : Nat} {cs : Array Value} {s : DS} {vp wv : Value} {x : List UInt8} {W : World} (f : Nat) (ap : Array Value) (r : Int × DS) (h : K1 w bp N cs s vp wv x W)
    (hp : Dk 44 w.heap.size bp s vp W → w.heap.size ≤ W.heap.size → Calls Try.prog f ap W (DQ 44 w.heap.size bp vp W r)) :
    Calls Try.prog f ap W fun e w' => e = .returned (.int .i64 r.1) ∧ Hid (∃ vp', K1 w bp N cs r.2 vp' wv x w') := by
  obtain ⟨⟨h1, h2, h3, h4⟩, h5⟩ := h
  refine (hp h1 h4.size).mono ?_
  rintro e w' ⟨rfl, vp', q1, q2, q3⟩
  refine ⟨rfl, Lib.hid ⟨vp', ⟨q1, h2.keep fun k o hk ho => q3.2 k o ho ?_, fun k hk hk2 => ?_, h4.trans (q3.below (fun k hk => (h1.fp k hk).1) h4.size)⟩, q3.2 _ _ h5 (act_not_dk h5 (by decide) h1)⟩⟩
  · rintro (rfl | hk2)
    · exact dk_not_own h1 h2 hk
    · exact h3 k hk2 hk
  · rcases q2 with e2 | e2
    · exact h3 k (e2 ▸ hk) hk2
    · have := e2 k hk
      have := (h2.lt k hk2).2.1
      omega
/-- The row beside is appended to. -/
theorem K1.append {w : World} {bp N : Nat} {cs : Array Value} {s : DS} {vp wv wv' : Value} {x y : List UInt8} {W W' : World} (h : K1 w bp N cs s vp wv x W) (gr : W.grownBy W' wv.ownBlock) (own : ow w.heap.size W' wv' y)
    (at' : wv'.ownBlock = wv.ownBlock ∨ wv'.ownBlock = some W.heap.size) : K1 w bp N cs s vp wv' y W' := by
  obtain ⟨⟨h1, h2, h3, h4⟩, h5⟩ := h
  have hF : Fr (fun k => wv.ownBlock = some k) W W' := Fr.grown gr fun r hr => hr
  refine ⟨⟨h1.fr hF ?_, own, fun k hk hk2 => ?_, h4.trans (hF.below (fun k hk => (h2.lt k hk).1) h4.size)⟩, hF.2 _ _ h5 (act_not_own h5 h2)⟩
  · rintro k (rfl | hk) hk2
    · exact dk_not_own h1 h2 hk2
    · exact h3 k hk hk2
  · rcases at' with e | e
    · exact h3 k hk (e ▸ hk2)
    · rw [e] at hk2
      have := (h1.fp k (.inr hk)).2
      simp at hk2
      omega
theorem K1.cut {w : World} {bp N : Nat} {cs : Array Value} {s : DS} {vp : Value} {o : Option Addr} {n c : Nat} {x : List UInt8} {W : World} (h : K1 w bp N cs s vp (.slice o n c) x W) (k : Nat) (hk : k ≤ x.length) (hc : k ≤ c) : K1 w bp N cs s vp (.slice o k c) (x.take k) W := by
  obtain ⟨⟨h1, h2, h3, h4⟩, h5⟩ := h
  refine ⟨⟨h1, h2.cut k c hk hc (Nat.le_refl _), fun j hj hj2 => h3 j hj ?_, h4⟩, h5⟩
  cases o
  · cases hj2
  · exact hj2
/-- The row beside begins anew: an empty one is built. -/
theorem K1.anew {w : World} {bp N : Nat} {cs : Array Value} {s : DS} {vp wv : Value} {x : List UInt8} {W : World} (h : K1 w bp N cs s vp wv x W) : K1 w bp N cs s vp (.slice (some ⟨W.heap.size, 0, none⟩) 0 0) [] (W.alloc (.cells #[] 5)) := by
  have hb : Below W.heap.size W (W.alloc (.cells #[] 5)) := (Below.refl _ _).alloc (Nat.le_refl _) _
  obtain ⟨⟨h1, h2, h3, h4⟩, h5⟩ := h.below hb
  have h0 := h.1.1
  refine ⟨⟨h1, ow.new (W := W) [] #[] 0 h.1.2.2.2.size (Nat.le_refl _) (by unfold maxLen; omega) (Nat.zero_le _) rfl, fun k hk hk2 => ?_, h4⟩, h5⟩
  have := (h0.fp k (.inr hk)).2
  have : W.heap.size = k := by simpa [Value.ownBlock] using hk2
  omega
/-- What the tail asks. -/
theorem K0.asks {w : World} {bp : Nat} {s : DS} {vp wv : Value} {W : World} (h : K0 w bp s vp wv s.f W) :
    (Calls Try.prog 16 #[.pointer (some ⟨bp, 0, none⟩)] W fun e w' => ∃ o c, e = .returned (.tuple #[.slice o (byD s).length c, .int .i64 (beD s)]) ∧ Hid (rd w' (byD s) (.slice o (byD s).length c) ∧ Below W.heap.size W w')) ∧
    (Calls Try.prog 22 #[.pointer (some ⟨bp, 0, none⟩)] W fun e w' => e = .returned (.int .i64 s.f.length) ∧ W = w') ∧
    (Calls Try.prog 21 #[.pointer (some ⟨bp, 0, none⟩)] W fun e w' => e = .returned (.bool s.dn) ∧ W = w') ∧ rd W s.f wv :=
  ⟨bytes_any W h.1, len_any W h.1, down_any W h.1, h.2.1.rd⟩
theorem as_later2 {w wr : World} {l : List AC} {a : Addr} (h : isAs w l a) (hb : Below w.heap.size w wr) (i : Nat) (hi : i < l.length) : ∃ c1, wr.cell? (a.add (i * 3)) = some (.int .i64 l[i].d) ∧ wr.cell? ⟨(a.add (i * 3)).block, (a.add (i * 3)).off + 1, none⟩ = some c1 ∧ wr.cell? ⟨(a.add (i * 3)).block, (a.add (i * 3)).off + 2, none⟩ = some (.int .i64 l[i].n) ∧ rd w l[i].b c1 := by
  obtain ⟨c1, g0, g1, g2, h3⟩ := as_at h i hi
  have hc : ∀ a c, w.cell? a = some c → wr.cell? a = some c := fun a c hc => (Fr.of_below (B := fun _ => False) hb).cell a c (fun h => h) hc
  exact ⟨c1, hc _ _ g0, hc _ _ g1, hc _ _ g2, h3⟩
theorem act_cells {N : Nat} {x y z : Value} {W : World} (h : W.heap[N]? = some (.cells #[x, y, z] 31 (0, 0))) : W.cell? ⟨N, 0, none⟩ = some x ∧ W.cell? ⟨N, 1, none⟩ = some y ∧ W.cell? ⟨N, 2, none⟩ = some z :=
  ⟨by simp [World.cell?, h], by simp [World.cell?, h], by simp [World.cell?, h]⟩
theorem K0.cap {w : World} {bp : Nat} {s : DS} {vp : Value} {o : Option Addr} {n c : Nat} {x : List UInt8} {W : World} (h : K0 w bp s vp (.slice o n c) x W) : n = x.length ∧ x.length ≤ c ∧ c ≤ maxLen := by
  obtain ⟨o2, c2, e2, h2, h3, _⟩ := h.2.1.form
  cases e2
  exact ⟨rfl, h2, h3⟩
/-- What holds behind an act: of the deed d on a disk that was down or not (dn), its answer r, is it noted as armed (am), the disk then, the number noted. -/
def OC (d : Int) (dn : Bool) (r : Int) (am : Bool) (s : DS) (k : Int) : Prop :=
  ((d < 3 ∧ r = 60 ∧ dn = false) → am = true ∧ s.ar = none) ∧ (¬ (d < 3 ∧ r = 60 ∧ dn = false) → am = s.ar.isSome) ∧ (d < 3 → r = 0 → am = false ∧ dn = false) ∧ (dn = true → d < 5 → r = 60) ∧ (s.dn = true → s.ar = none) ∧ ∀ n, s.ar = some n → k = n
theorem K1.box {w : World} {bp N : Nat} {x y z x' : Value} {s : DS} {vp wv : Value} {xs : List UInt8} {W : World} (h : K1 w bp N #[x, y, z] s vp wv xs W) (hN : w.heap.size ≤ N) : K1 w bp N #[x', y, z] s vp wv xs (W.setCell ⟨N, 0, none⟩ x') := by
  obtain ⟨⟨h1, h2, h3, h4⟩, h5⟩ := h
  have hF := Fr.set (B := fun k => k = N) W N 0 x' rfl
  refine ⟨⟨h1.fr hF (fun k hk e => act_not_dk h5 (by decide) h1 (e ▸ hk)), h2.keep fun k o hk ho => hF.2 k o ho (fun e => act_not_own h5 h2 (e ▸ hk)), h3, h4.trans (hF.below (fun k e => by omega) h4.size)⟩, ?_⟩
  simp [World.setCell, Array.getElem?_modify, h5]
def TN3 (tn : Bool) (d r : Int) (dn : Bool) : Prop := tn = true ↔ (d < 3 ∧ r = 60 ∧ dn = false)
def IV (s : DS) (k : Int) : Prop := (s.dn = true → s.ar = none) ∧ ∀ n, s.ar = some n → k = n
theorem iv_new : IV ⟨[], false, none⟩ 0 := ⟨fun _ => rfl, fun n hn => by cases hn⟩
def BB (bb : Bool) (d : Int) : Prop := bb = true ↔ (d < 0 ∨ 5 < d)
theorem tn3_yes {d : Int} (h : d < 3) : TN3 true d 60 false := ⟨fun _ => ⟨h, rfl, rfl⟩, fun _ => rfl⟩
theorem tn3_no {d r : Int} {dn : Bool} (h : ¬ (d < 3 ∧ r = 60 ∧ dn = false)) : TN3 false d r dn := ⟨(fun e => by cases e), fun h2 => absurd h2 h⟩
theorem bb_yes {d : Int} (h : d < 0) : BB true d := ⟨fun _ => .inl h, fun _ => rfl⟩
theorem bb_dec {d : Int} (h : 0 ≤ d) : BB (decide (5 < d)) d := ⟨fun e => .inr (of_decide_eq_true e), fun h2 => decide_eq_true (by omega)⟩
end Go.Proofs.Ytmajlanncchbnaa
