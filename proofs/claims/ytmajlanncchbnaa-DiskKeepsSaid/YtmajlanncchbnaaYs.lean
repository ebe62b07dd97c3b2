/-
  great: a sum of lengths; the statement that a disk and the reference's do alike.
-/
import Derived.Test.YtmajlanncchbnaaYr
import Derived.IntWalk
set_option linter.unusedVariables false
namespace Go.Proofs.Ytmajlanncchbnaa
open Go.RowKit Go.Shelf Go.Lib Go.Deep

theorem add_succ (a : Addr) (i j : Nat) (hj : j ≠ 0) : a.add (i + j) = ⟨(a.add i).block, (a.add i).off + j, none⟩ := by
  unfold Addr.add
  by_cases hi : i = 0
  · subst hi
    simp [hj]
  · simp [hi]
    omega
/-- The act at place i. -/
theorem as_at {W : World} {l : List AC} {a : Addr} (h : isAs W l a) (i : Nat) (hi : i < l.length) : ∃ c1, W.cell? (a.add (i * 3)) = some (.int .i64 l[i].d) ∧ W.cell? ⟨(a.add (i * 3)).block, (a.add (i * 3)).off + 1, none⟩ = some c1 ∧ W.cell? ⟨(a.add (i * 3)).block, (a.add (i * 3)).off + 2, none⟩ = some (.int .i64 l[i].n) ∧ rd W l[i].b c1 := by
  obtain ⟨c1, h0, h1, h2, h3⟩ := h i hi
  rw [add_succ _ _ _ (by decide)] at h1 h2
  exact ⟨c1, h0, h1, h2, h3⟩

def IsB (e : Ending) : Prop := ∃ g : Bool, e = .returned (.bool g)
set_option maxRecDepth 100000 in
set_option maxHeartbeats 4000000 in
theorem great_any (v : Value) (l : List AC) (a : Addr) (cap : Nat) (w : World) (hv : slv v l.length a cap) (hl : isAs w l a) :
    Calls Try.prog 7 #[v] w fun e w' => IsB e ∧ w = w' := by
  obtain ⟨o, rfl, hc1, hc2, ho⟩ := hv
  unfold maxLen at hc2
  have HL := Lib.hid hl
  have HO := Lib.hid ho
  clear hl ho
  go_enter Try.func7, Try.ntmps7
  go_wp2_with fail
  go_loop [3, 4] (fun n i => ∃ (j : Nat) (k : Int), j ≤ l.length ∧ i = .int .i64 j ∧ n = .int .i64 k) (fun _ i => l.length - (intOf i).toNat)
  case atStart => exact ⟨0, 0, by omega, rfl, rfl⟩
  case round =>
    obtain ⟨j, k, hj, rfl, rfl⟩ := hrel
    by_cases hlt : j < l.length
    · by_cases h2 : j ≤ 200
      · obtain rfl := HO.out (by omega)
        obtain ⟨c1, g0, g1, g2, h3⟩ := as_at HL.out j hlt
        obtain ⟨ob, ab, cb, rfl, hb1, hb2, hb3⟩ := h3
        unfold maxLen at hb2
        generalize l[j] = X at *
        have hlt' : (j : Int) < (l.length : Int) := by omega
        have h2' : (j : Int) ≤ 200 := by omega
        go_wp2_with fail
        go_round
        case rel => exact ⟨j + 1, _, by omega, by go_num, rfl⟩
        case measure => simp [intOf]; omega
      · have hlt' : (j : Int) < (l.length : Int) := by omega
        have h2' : decide ((j : Int) ≤ 200) = false := decide_eq_false (by omega)
        have h2'' : decide (j ≤ 200) = false := decide_eq_false (by omega)
        go_wp2_with fail
        all_goals go_ret
        all_goals exact ⟨⟨_, rfl⟩, rfl⟩
    · obtain rfl : j = l.length := by omega
      go_wp2_with fail
      all_goals go_ret
      all_goals exact ⟨⟨_, rfl⟩, rfl⟩

/-- A deed on one of both: where it lies now. -/
theorem J.p {W0 : World} {bp br : Nat} {sp sr : DS} {w1 w2 : World} {vp vr : Value} {r : Int × DS} {e : Ending} (h : J W0 bp br sp sr vp vr w1)
    (hq : DQ 44 W0.heap.size bp vp w1 r e w2) : e = .returned (.int .i64 r.1) ∧ ∃ v', J W0 bp br r.2 sr v' vr w2 ∧ (v'.ownBlock = vp.ownBlock ∨ ∀ k, v'.ownBlock = some k → w1.heap.size ≤ k) ∧ Fr (Fp bp vp) w1 w2 := by
  obtain ⟨he, v', h1, h2, h3⟩ := hq
  refine ⟨he, v', ⟨h1, h.2.1.fr h3 (fun k hk hk2 => h.apart k hk2 hk), fun k hk hk2 => ?_, h.2.2.2.trans (h3.below (fun k hk => (h.low k (.inl hk)).1) h.2.2.2.size)⟩, h2, h3⟩
  rcases h2 with e2 | e2
  · exact h.2.2.1 k (e2 ▸ hk) hk2
  · have := e2 k hk
    have := (h.low k (.inr (.inr hk2))).2
    omega
/-- An old disk, its copy, and the reference's. -/
def OG (W0 : World) (bp br N : Nat) (s : DS) (vr v' : Value) (w : World) : Prop :=
  ∃ s1 vp1, J W0 bp br s1 s vp1 vr w ∧ Dk 44 W0.heap.size N s v' w ∧ (∀ k, Fp N v' k → ¬ Fp bp vp1 k) ∧ ∀ k, Fp N v' k → ¬ Fp br vr k
theorem OG.below {W0 : World} {bp br N : Nat} {s : DS} {vr v' : Value} {w w2 : World} (h : OG W0 bp br N s vr v' w) (hb : Below w.heap.size w w2) : OG W0 bp br N s vr v' w2 := by
  obtain ⟨s1, vp1, h1, h2, h3, h4⟩ := h
  exact ⟨s1, vp1, h1.below hb, h2.below hb, h3, h4⟩
theorem OG.new {W0 : World} {bp br N : Nat} {s : DS} {vp vr v' : Value} {w w2 : World} (h : J W0 bp br s s vp vr w) (h1 : Dk 44 W0.heap.size N s v' w2) (hN : w.heap.size ≤ N) (hv : ∀ k, v'.ownBlock = some k → w.heap.size ≤ k) (hb : Below w.heap.size w w2) : OG W0 bp br N s vr v' w2 := by
  have hl : ∀ k, Fp N v' k → w.heap.size ≤ k := by
    rintro k (rfl | hk)
    · exact hN
    · exact hv k hk
  refine ⟨s, vp, h.below hb, h1, fun k hk hk2 => ?_, fun k hk hk2 => ?_⟩
  · have := (h.low k (.inl hk2)).2
    have := hl k hk
    omega
  · have := (h.low k (.inr hk2)).2
    have := hl k hk
    omega
theorem OG.done {W0 : World} {bp br N : Nat} {s : DS} {vr v' : Value} {w : World} (h : OG W0 bp br N s vr v' w) : J W0 N br s s v' vr w := by
  obtain ⟨s1, vp1, h1, h2, h3, h4⟩ := h
  exact ⟨h2, h1.2.1, fun k hk hk2 => h4 k (.inr hk) (.inr hk2), h1.2.2.2⟩
/-- A deed on the old one. -/
theorem OG.call {W0 : World} {bp br N : Nat} {s : DS} {vr v' : Value} {w : World} (f : Nat) (ap : Array Value) (step : DS → Int × DS) (h : OG W0 bp br N s vr v' w)
    (hp : ∀ s v, Dk 44 W0.heap.size bp s v w → W0.heap.size ≤ w.heap.size → Calls Try.prog f ap w (DQ 44 W0.heap.size bp v w (step s))) :
    Calls Try.prog f ap w fun e w' => ∃ i, e = .returned (.int .i64 i) ∧ Hid (OG W0 bp br N s vr v' w') := by
  obtain ⟨s1, vp1, h1, h2, h3, h4⟩ := h
  refine (hp s1 vp1 h1.1 h1.2.2.2.size).mono fun e w' hq => ?_
  obtain ⟨e1, vp2, h5, h6, h7⟩ := h1.p hq
  refine ⟨_, e1, Lib.hid ⟨_, vp2, h5, h2.fr h7 h3, fun k hk hk2 => ?_, h4⟩⟩
  rcases hk2 with rfl | hk2
  · exact h3 _ hk (.inl rfl)
  · rcases h6 with e2 | e2
    · exact h3 k hk (.inr (e2 ▸ hk2))
    · have := e2 k hk2
      have := (h2.fp k hk).2
      omega
end Go.Proofs.Ytmajlanncchbnaa
