/-
  Two clouds in new memory, and any boxes beside them; things in a row of their own. · CloudTurned, walked.
-/
import Derived.Test.YtkigeegahepnaaaGreatDoorHR
import Derived.Test.YtkigeegahepnaaaGreatDoorHL
set_option linter.unusedVariables false
set_option linter.unusedSimpArgs false
namespace Go.Proofs.YtkigeegahepnaaaGreatDoor
open Go.RowKit Go.Maps Go.Deep

/-- Two clouds, all in new memory; boxes beside them. -/
def TwoL (w0 : World) (b1 : Nat) (c1 : CSt) (b2 : Nat) (c2 : CSt) (bs : List (Nat × Obj)) (W : World) : Prop :=
  ∃ P1 P2, CA W P1 b1 c1 ∧ CA W P2 b2 c2 ∧ (∀ k, P1 k → ¬ P2 k) ∧ (∀ k, P1 k → w0.heap.size ≤ k) ∧ (∀ k, P2 k → w0.heap.size ≤ k) ∧ KB w0 W ∧ ∀ p ∈ bs, W.heap[p.1]? = some p.2 ∧ ¬ P1 p.1 ∧ ¬ P2 p.1
section
variable {w0 W W' : World} {b1 b2 : Nat} {c1 c2 c1' : CSt} {bs : List (Nat × Obj)}
theorem TwoL.of (h : Two w0 b1 c1 b2 c2 none W) : TwoL w0 b1 c1 b2 c2 [] W := by
  obtain ⟨P1, P2, h1, h2, h3, h4, h5, h6, h7⟩ := h
  exact ⟨P1, P2, h1, h2, h3, h4, h5, h6, fun p e => absurd e List.not_mem_nil⟩
theorem TwoL.swap (h : TwoL w0 b1 c1 b2 c2 bs W) : TwoL w0 b2 c2 b1 c1 bs W := by
  obtain ⟨P1, P2, h1, h2, h3, h4, h5, h6, h7⟩ := h
  exact ⟨P2, P1, h2, h1, fun k hk hk' => h3 k hk' hk, h5, h4, h6, fun p e => ⟨(h7 p e).1, (h7 p e).2.2, (h7 p e).2.1⟩⟩
theorem TwoL.below (h : TwoL w0 b1 c1 b2 c2 bs W) (hb : Below W.heap.size W W') : TwoL w0 b1 c1 b2 c2 bs W' := by
  obtain ⟨P1, P2, h1, h2, h3, h4, h5, h6, h7⟩ := h
  exact ⟨P1, P2, h1.below hb, h2.below hb, h3, h4, h5, h6.trans (hb.mono h6.size), fun p e => ⟨(hb.block _ (Array.getElem?_eq_some_iff.1 (h7 p e).1).1).trans (h7 p e).1, (h7 p e).2⟩⟩
theorem TwoL.kb (h : TwoL w0 b1 c1 b2 c2 bs W) : KB w0 W := by
  obtain ⟨P1, P2, h1, h2, h3, h4, h5, h6, h7⟩ := h
  exact h6
theorem TwoL.less {bs' : List (Nat × Obj)} (h : TwoL w0 b1 c1 b2 c2 bs W) (hs : ∀ p ∈ bs', p ∈ bs) : TwoL w0 b1 c1 b2 c2 bs' W := by
  obtain ⟨P1, P2, h1, h2, h3, h4, h5, h6, h7⟩ := h
  exact ⟨P1, P2, h1, h2, h3, h4, h5, h6, fun p e => h7 p (hs p e)⟩
theorem TwoL.two (h : TwoL w0 b1 c1 b2 c2 bs W) : Two w0 b1 c1 b2 c2 none W := by
  obtain ⟨P1, P2, h1, h2, h3, h4, h5, h6, h7⟩ := h
  exact ⟨P1, P2, h1, h2, h3, h4, h5, h6, fun p e => by cases e⟩
/-- A new block is one of the boxes. -/
theorem TwoL.add {g : Nat} {o : Obj} (h : TwoL w0 b1 c1 b2 c2 bs W) (hb : Below W.heap.size W W') (hg : W.heap.size ≤ g) (ho : W'.heap[g]? = some o) : TwoL w0 b1 c1 b2 c2 ((g, o) :: bs) W' := by
  obtain ⟨P1, P2, h1, h2, h3, h4, h5, h6, h7⟩ := h
  refine ⟨P1, P2, h1.below hb, h2.below hb, h3, h4, h5, h6.trans (hb.mono h6.size), fun p e => ?_⟩
  rcases List.mem_cons.1 e with rfl | e
  · exact ⟨ho, fun hk => by have := h1.lt _ hk; omega, fun hk => by have := h2.lt _ hk; omega⟩
  · exact ⟨(hb.block _ (Array.getElem?_eq_some_iff.1 (h7 p e).1).1).trans (h7 p e).1, (h7 p e).2⟩
theorem TwoL.alloc (h : TwoL w0 b1 c1 b2 c2 bs W) (cs : Array Value) (t : TypeId) : TwoL w0 b1 c1 b2 c2 ((W.heap.size, .cells cs t (0, 0)) :: bs) (W.alloc (.cells cs t)) :=
  h.add kbA (Nat.le_refl _) (World.alloc_heap_new _ _)
theorem TwoL.allocD (h : TwoL w0 b1 c1 b2 c2 bs W) (cs : Array Value) (t : TypeId) : TwoL w0 b1 c1 b2 c2 ((W.heap.size, .cells cs t (0, 0)) :: bs) (W.drew.alloc (.cells cs t)) :=
  h.add (by go_grown) (Nat.le_refl _) (World.alloc_heap_new W.drew _)
theorem TwoL.allocE (h : TwoL w0 b1 c1 b2 c2 bs W) (cs : Array Value) (t : TypeId) : TwoL w0 b1 c1 b2 c2 ((W.heap.size, .cells cs t (0, 0)) :: bs) (W.alloc (.cells cs t)).drew :=
  h.add (by go_grown) (Nat.le_refl _) (World.alloc_heap_new W _)
theorem TwoL.box {B : Nat} {o : Obj} (h : TwoL w0 b1 c1 b2 c2 bs W) (hm : (B, o) ∈ bs) : W.heap[B]? = some o := by
  obtain ⟨P1, P2, h1, h2, h3, h4, h5, h6, h7⟩ := h
  exact (h7 _ hm).1
/-- The first is touched. -/
theorem TwoL.left (h : TwoL w0 b1 c1 b2 c2 bs W) : ∃ P, OnK W P b1 c1 W ∧ ∀ c1' W', OnK W P b1 c1' W' → TwoL w0 b1 c1' b2 c2 bs W' := by
  obtain ⟨P1, P2, h1, h2, h3, h4, h5, h6, h7⟩ := h
  refine ⟨P1, h1.on, fun c1' W' ho => ?_⟩
  obtain ⟨P, g1, g2⟩ := CA.of ho
  have hF := ho.fr
  refine ⟨P, P2, g1, h2.other hF h1.nos (fun k hk hk' => h3 k hk' hk), fun k hk hk' => ?_, fun k hk => ?_, h5, h6.trans (hF.below h4 h6.size), fun p e => ?_⟩
  · rcases g2 k hk with h | h
    · exact h3 k h hk'
    · have := h2.lt k hk'; omega
  · rcases g2 k hk with h | h
    · exact h4 k h
    · exact Nat.le_trans h6.size h
  · obtain ⟨q1, q2, q3⟩ := h7 p e
    refine ⟨hF.2 _ _ q1 q2, fun hk => ?_, q3⟩
    rcases g2 _ hk with h | h
    · exact q2 h
    · have := (Array.getElem?_eq_some_iff.1 q1).1; omega
end
theorem TwoL.drH {w0 W : World} {b1 b2 : Nat} {c1 c2 : CSt} {bs : List (Nat × Obj)} (h : Hid (TwoL w0 b1 c1 b2 c2 bs W)) : Hid (TwoL w0 b1 c1 b2 c2 bs W.drew) := Lib.hid (h.out.below (by go_grown))
/-- On the way through the same change of both. -/
def TwoS (w0 : World) (b1 : Nat) (c cx : CSt) (b2 : Nat) (bs : List (Nat × Obj)) (W : World) : Prop := TwoL w0 b1 c b2 c bs W ∨ TwoL w0 b1 cx b2 c bs W ∨ TwoL w0 b1 cx b2 cx bs W
theorem TwoS.dr {w0 W : World} {b1 b2 : Nat} {c cx : CSt} {bs : List (Nat × Obj)} (h : Hid (TwoS w0 b1 c cx b2 bs W)) : Hid (TwoS w0 b1 c cx b2 bs W.drew) := Lib.hid (by
  rcases h.out with h | h | h
  · exact .inl (h.below (by go_grown))
  · exact .inr (.inl (h.below (by go_grown)))
  · exact .inr (.inr (h.below (by go_grown))))

theorem ph_size {s : St} (h : okS s) {t : Th} (ht : t ∈ s.l) : t.ph.size ≤ 200 := by
  obtain ⟨h1, -, -⟩ := h.2.1 t ht
  obtain ⟨e, -⟩ := num_true h1
  rw [e]
  have h2 : (physS (numL t.ph).1).size = (112 :: Nu.txt (numL t.ph).1).length := Nu.size_arr _
  have h3 := Nu.txt_len (numL t.ph).1
  rw [h2, List.length_cons]
  omega
/-- Things, in a row that is new. -/
def ThN (lo : Nat) (L : List Th) (v : Value) (W : World) : Prop := ∃ o cap, v = .slice o L.length cap ∧ L.length ≤ cap ∧ cap ≤ maxLen ∧ isTs W L v ∧ (0 < L.length → ∃ g, o = some ⟨g, 0, none⟩ ∧ lo ≤ g ∧ g < W.heap.size)
set_option maxHeartbeats 1000000 in
theorem thingsN_any {w : World} {N b : Nat} {s : St} {L : List (Cl × An)} {tk fl : List Int} {lv mv tv fv : Value} (h : isC w N b s L tk fl lv mv tv fv) (hF : fineS s) : Calls Tryz.prog 28 #[.pointer (some ⟨b, 0, none⟩)] w fun e w' => (∃ o cap, e = .returned (.slice o s.l.length cap) ∧ ThN w.heap.size s.l (.slice o s.l.length cap) w') ∧ Below w.heap.size w w' := by
  obtain ⟨r0, r1, r2, r3, r4⟩ := five_cells h.box
  obtain ⟨lv', e, hts, -⟩ := h.st
  simp only [Value.agg.injEq, Array.mk.injEq, List.cons.injEq, and_true] at e
  subst e
  have HC : Hid (Calls Tryz.prog 47 #[lv] w fun e w' => ∃ o cap, e = .returned (.slice o s.l.length cap) ∧ ThN w.heap.size s.l (.slice o s.l.length cap) w' ∧ Below w.heap.size w w') := Lib.hid (by
    refine (ccTs_any s.l lv w (fun _ => True) (by have := hF.1; omega) (fun t ht => (hF.2 t ht).2) (fun _ _ => trivial) (isTsa_mono (fun q hq => ⟨trivial, hq⟩) (isTsa_of hts))).mono ?_
    rintro e w' ⟨v', rfl, ht, hb⟩
    have ht' := ht.ts
    obtain ⟨ol, g, cap, rfl, k1, k2, k3⟩ := ht
    exact ⟨ol, cap, rfl, ⟨ol, cap, rfl, k1, k2, ht', fun h0 => by obtain ⟨q1, q2, q3, -⟩ := k3 h0; exact ⟨g, q1, q2, q3⟩⟩, hb⟩)
  obtain ⟨o, cap, ot, ct, of, cf, m, rfl, rfl, rfl, rfl⟩ := h.forms
  clear h hts
  go_enter Tryz.func28, Tryz.ntmps28
  go_wp2_with (go_at_call 47; refine HC.out.mono ?_; rintro e w5 ⟨o', c', rfl, hr, hb⟩)
  go_ret
  exact ⟨⟨_, _, rfl, hr⟩, hb⟩
theorem ThingsN_on {w W : World} {P : Nat → Prop} {b n : Nat} {c : CSt} (h : OnK w P b c W) (hg : goodC c n) (hn : n ≤ 1000) : Calls Tryz.prog 28 #[.pointer (some ⟨b, 0, none⟩)] W fun e w' => (∃ o cap, e = .returned (.slice o c.s.l.length cap) ∧ ThN W.heap.size c.s.l (.slice o c.s.l.length cap) w') ∧ Below W.heap.size W w' := by
  obtain ⟨lv, mv, tv, fv, hc, hf, hp⟩ := h
  exact thingsN_any hc (hg.fineS hn)
/-- What a thing's cells hold, wherever the row stays. -/
theorem ThN.cells {lo : Nat} {L : List Th} {v : Value} {W : World} (h : ThN lo L v W) (h0 : 0 < L.length) : ∃ g ob cap, v = .slice (some ⟨g, 0, none⟩) L.length cap ∧ L.length ≤ cap ∧ cap ≤ maxLen ∧ lo ≤ g ∧ W.heap[g]? = some ob ∧
    ∀ W' : World, W'.heap[g]? = some ob → ∀ i (hi : i < L.length), ∃ oo nn cc, W'.cell? ((⟨g, 0, none⟩ : Addr).add (i * 3)) = some (.string L[i].ph) ∧ W'.cell? ⟨((⟨g, 0, none⟩ : Addr).add (i * 3)).block, ((⟨g, 0, none⟩ : Addr).add (i * 3)).off + 1, none⟩ = some (.string L[i].ty) ∧ W'.cell? ⟨((⟨g, 0, none⟩ : Addr).add (i * 3)).block, ((⟨g, 0, none⟩ : Addr).add (i * 3)).off + 2, none⟩ = some (.slice oo nn cc) := by
  obtain ⟨o, cap, rfl, hc1, hc2, ⟨a, cap', ⟨o', e, -, -, ho'⟩, hat⟩, hg⟩ := h
  obtain ⟨g, rfl, hlo, hlt⟩ := hg h0
  simp only [Value.slice.injEq] at e
  obtain ⟨rfl, -, rfl⟩ := e
  have ha := ho' h0
  cases ha
  refine ⟨g, W.heap[g], cap, rfl, hc1, hc2, hlo, Array.getElem?_eq_getElem hlt, fun W' hW' i hi => ?_⟩
  obtain ⟨pv, g0, g1, g2, ⟨_, cc, ⟨oo, rfl, _⟩, _⟩, -, -⟩ := hat i hi
  have hkeep : ∀ (a : Addr) c, a.block = g → W.cell? a = some c → W'.cell? a = some c := fun a c hb hc => by
    rw [← hc]
    refine World.cell?_of_block ?_
    rw [hb, hW', Array.getElem?_eq_getElem hlt]
  exact ⟨oo, _, cc, hkeep _ _ (add_block _ _) g0, hkeep _ _ (add_block _ _) g1, hkeep _ _ (add_block _ _) g2⟩
end Go.Proofs.YtkigeegahepnaaaGreatDoor

namespace Go.Proofs.YtkigeegahepnaaaGreatDoor
open Go.RowKit Go.Maps Go.Deep

set_option maxRecDepth 100000 in
set_option maxHeartbeats 16000000 in
theorem cloudTurned_any (LL : List (List G)) (v : Value) (MM : List (List G)) (u : Value) (w : World) (hE : Env9 w) (h : isGss w LL v) (h' : isGss w MM u) : Calls Tryz.prog 9 #[v, u] w fun e w' => e = .returned (.bool true) ∧ Below w.heap.size w w' := by
  obtain ⟨a, cap, ⟨o, rfl, hc1, hc2, ho⟩, hat⟩ := h
  obtain ⟨a', cap', ⟨o', rfl, hc1', hc2', ho'⟩, hat'⟩ := h'
  unfold maxLen at hc2 hc2'
  have HAT : Hid (∀ i (hi : i < LL.length), ∃ oo c, isGs w LL[i] (.slice oo LL[i].length c) ∧ ∀ W, Hid (KB w W) → W.cell? (a.add i) = some (.slice oo LL[i].length c)) := Lib.hid fun i hi => by
    obtain ⟨pv, q1, q2⟩ := hat i hi
    rw [Nat.mul_one] at q1
    have q2' := q2
    obtain ⟨_, c, ⟨oo, rfl, _⟩, _⟩ := q2
    exact ⟨oo, c, q2', fun W hK => cell_below hK.out _ _ q1⟩
  have HBT : Hid (∀ i (hi : i < MM.length), ∃ oo c, isGs w MM[i] (.slice oo MM[i].length c) ∧ ∀ W, Hid (KB w W) → W.cell? (a'.add i) = some (.slice oo MM[i].length c)) := Lib.hid fun i hi => by
    obtain ⟨pv, q1, q2⟩ := hat' i hi
    rw [Nat.mul_one] at q1
    have q2' := q2
    obtain ⟨_, c, ⟨oo, rfl, _⟩, _⟩ := q2
    exact ⟨oo, c, q2', fun W hK => cell_below hK.out _ _ q1⟩
  have WK : Hid (∀ W, Hid (KB w W) → Calls Tryz.prog 11 #[] W fun e w' => e = .returned (.bool true) ∧ Hid (KB w w')) := Lib.hid fun W hK => (wakes11_any W (hE.kb hK.out)).mono fun e w' ⟨h1, h2⟩ => ⟨h1, Lib.hid (hK.out.trans (h2.mono hK.out.size))⟩
  have HE := Lib.hid (fun W (hK : KB w W) => hE.kb hK)
  have KW0 : Hid (KB w w) := Lib.hid (Below.refl _ _)
  clear hat hat' hE
  go_enter Tryz.func9, Tryz.ntmps9
  by_cases hl1 : 12 < LL.length
  · have d1 : decide ((12 : Int) < (LL.length : Int)) = true := decide_eq_true (by omega)
    go_wp2_with (go_at_call 11; refine (WK.out _ KW0).mono ?_; rintro e w3 ⟨rfl, K3⟩)
    go_ret
    exact ⟨rfl, K3.out⟩
  · have d1 : decide ((12 : Int) < (LL.length : Int)) = false := decide_eq_false (by omega)
    by_cases hl2 : 12 < MM.length
    · have d2 : decide ((12 : Int) < (MM.length : Int)) = true := decide_eq_true (by omega)
      go_wp2_with (go_at_call 11; refine (WK.out _ KW0).mono ?_; rintro e w3 ⟨rfl, K3⟩)
      go_ret
      exact ⟨rfl, K3.out⟩
    · have d2 : decide ((12 : Int) < (MM.length : Int)) = false := decide_eq_false (by omega)
      go_wp2_with (first
        | (go_at_call 12; first | (refine (new_any _).mono ?_; rintro e w5 ⟨rfl, rfl⟩))
        )
      have HT0 := Lib.hid (Two.new w)
      generalize (w.alloc (.cells #[.slice none 0 0, .int .i64 0, .map none, .slice none 0 0, .slice none 0 0] 72)).alloc (.cells #[.slice none 0 0, .int .i64 0, .map none, .slice none 0 0, .slice none 0 0] 72) = W2 at *
      generalize w.heap.size + 1 = b2 at *
      generalize w.heap.size = b1 at *
      go_loopw [7, 29] (fun nv iv wx => ∃ (j n : Nat) (c : CSt), j ≤ LL.length ∧ iv = .int .i64 j ∧ nv = .int .i64 n ∧ Hid (TI c j n) ∧ Hid (Two w b1 c b2 c none wx)) (fun _ iv _ => LL.length - (intOf iv).toNat)
      case atStart => exact ⟨0, 0, zC, by omega, rfl, rfl, Lib.hid TI.zero, HT0⟩
      case round =>
        obtain ⟨j, n, c, hj, rfl, rfl, HI, HT⟩ := hrel
        clear HT0
        by_cases hlt : j < LL.length
        · obtain rfl := ho (by omega)
          obtain ⟨oo, cc, hg, hcell⟩ := HAT.out j hlt
          have KWr : Hid (KB w wr) := Lib.hid HT.out.kb
          have q0 := hcell wr KWr
          have GX := Lib.hid (great9_any LL[j] _ wr (isGs_below KWr.out hg))
          by_cases hgr : greatG LL[j] = true
          · rw [hgr] at GX
            clear hg hcell hgr
            generalize LL[j] = ps at *
            go_wp2_with (first
              | (go_at_call 34; refine GX.out.mono ?_; rintro e w2 ⟨rfl, hb2⟩; have K2 : Hid (KB w w2) := Lib.hid (KWr.out.trans (hb2.mono KWr.out.size)); clear hb2)
              | (go_at_call 11; refine (WK.out _ K2).mono ?_; rintro e w3 ⟨rfl, K3⟩))
            go_ret
            exact ⟨rfl, K3.out⟩
          · have hgr' : greatG LL[j] = false := by simpa using hgr
            rw [hgr'] at GX
            have hfx := fine_callT (j := j) (by omega) hgr'
            have d8 : IntKind.i64.wrap ((j : Int) + 1) = (j : Int) + 1 := by simp [IntKind.wrap, IntKind.bits, IntKind.signed]; omega
            have d9 : IntKind.i64.wrap ((n : Int) + 1) = (n : Int) + 1 := by have := HI.out.le; simp [IntKind.wrap, IntKind.bits, IntKind.signed]; omega
            have HXI : Hid (∀ W, KB w W → isX W (callT j LL[j]) (.agg #[.int .i64 ((j : Int) + 1), .int .i8 0, .string ⟨#[]⟩, .string ⟨#[68, 105, 115, 107]⟩, .slice oo LL[j].length cc])) := Lib.hid fun W hK => ⟨_, rfl, isGs_below hK hg, okX_fine hfx⟩
            have hj12 : j ≤ 12 := by omega
            have HFX := Lib.hid hfx
            by_cases hw : wrongC (callT j LL[j]) = 0
            · obtain ⟨he0, hi2⟩ := HI.out.good hj12 hfx hw
              have HE0 := Lib.hid he0
              have HI2 := Lib.hid hi2
              have HGC := Lib.hid (good_submit HI.out.g hfx)
              have HG0 := Lib.hid HI.out.g
              have hj1 : j + 1 ≤ 1000 := by omega
              clear hg hcell hgr hgr' hw he0 hi2 hfx HI
              generalize LL[j] = ps at *
              go_wp2_with fail
              refine GX.out.mono ?_
              rintro e w2 ⟨rfl, hb2⟩
              have hT1 := (HT.out.below hb2).alloc #[.int .i64 ((j : Int) + 1), .int .i8 0, .string ⟨#[]⟩, .string ⟨#[68, 105, 115, 107]⟩, .slice oo ps.length cc] 32
              obtain ⟨P1, on1, -, -, keep1⟩ := hT1.left
              have HS1 := Lib.hid (Submit_on on1 (HE.out _ hT1.kb) HFX.out (HXI.out _ hT1.kb) HG0.out (by omega))
              rw [HE0.out] at HS1
              have KP1 := Lib.hid keep1
              clear hT1 on1 keep1 hb2
              go_wp2_with fail
              refine HS1.out.mono ?_
              rintro e w6 ⟨rfl, hon6⟩
              have T6 := Lib.hid (KP1.out _ _ hon6).swap
              obtain ⟨r0, r1, r2, r3, r4⟩ := five_cells T6.out.box
              obtain ⟨P2, on2, -, -, keep2⟩ := T6.out.left
              have HS2 := Lib.hid (Submit_on on2 (HE.out _ T6.out.kb) HFX.out (HXI.out _ T6.out.kb) HG0.out (by omega))
              have KP2 := Lib.hid keep2
              clear hon6 on2 keep2
              go_wp2_with fail
              refine HS2.out.mono ?_
              rintro e w7 ⟨rfl, hon7⟩
              have T7 := Lib.hid (KP2.out _ _ hon7).swap
              obtain ⟨P3, on3, -, -, keep3⟩ := T7.out.left
              have HS3 := Lib.hid (End_on on3 (HE.out _ T7.out.kb) HGC.out hj1 0 true)
              have KP3 := Lib.hid keep3
              clear hon7 on3 keep3 r0 r1 r2 r3 r4
              go_wp2_with fail
              refine HS3.out.mono ?_
              rintro e w8 ⟨rfl, hon8⟩
              have T8 := Lib.hid (KP3.out _ _ hon8).swap
              obtain ⟨P4, on4, -, -, keep4⟩ := T8.out.left
              have HS4 := Lib.hid (End_on on4 (HE.out _ T8.out.kb) HGC.out hj1 0 true)
              have KP4 := Lib.hid keep4
              clear hon8 on4 keep4
              go_wp2_with fail
              refine HS4.out.mono ?_
              rintro e w9 ⟨rfl, hon9⟩
              have HT9 := Lib.hid (KP4.out _ _ hon9).swap.nobox
              clear hon9
              go_wp2_with fail
              go_roundw
              case rel => exact ⟨j + 1, n + 1, _, by omega, by go_num, by go_num, HI2, HT9⟩
              case measure => simp [intOf]; omega
            · have hs := submit_wrong (c := c) hw
              have z1 : (wrongC (callT j LL[j]) == 0) = false := beqI hw
              have z2 : (wrongC (callT j LL[j]) != 0) = true := bne_iff_ne.2 hw
              have HSS := Lib.hid hs
              have HI2 := Lib.hid HI.out.mono
              have HG0 := Lib.hid HI.out.g
              clear hg hcell hgr hgr' hw hs hfx
              generalize LL[j] = ps at *
              go_wp2_with fail
              refine GX.out.mono ?_
              rintro e w2 ⟨rfl, hb2⟩
              have hT1 := (HT.out.below hb2).alloc #[.int .i64 ((j : Int) + 1), .int .i8 0, .string ⟨#[]⟩, .string ⟨#[68, 105, 115, 107]⟩, .slice oo ps.length cc] 32
              obtain ⟨P1, on1, -, -, keep1⟩ := hT1.left
              have HS1 := Lib.hid (Submit_on on1 (HE.out _ hT1.kb) HFX.out (HXI.out _ hT1.kb) HG0.out (by omega))
              rw [HSS.out] at HS1
              have KP1 := Lib.hid keep1
              clear hT1 on1 keep1 hb2 HSS
              generalize wrongC (callT j ps) = ec at *
              go_wp2_with fail
              refine HS1.out.mono ?_
              rintro e w6 ⟨rfl, hon6⟩
              have HT6 := Lib.hid (KP1.out _ _ hon6).nobox
              clear hon6
              go_wp2_with fail
              go_roundw
              case rel => exact ⟨j + 1, n, c, by omega, by go_num, rfl, HI2, HT6⟩
              case measure => simp [intOf]; omega
        · obtain rfl : j = LL.length := by omega
          have hn : n ≤ 12 := by have := HI.out.le; omega
          obtain ⟨T, hT⟩ : ∃ T, c.s.l = T := ⟨_, rfl⟩
          have hTn : T.length = n := by rw [← hT]; exact HI.out.len
          have HU0 : Hid (UI T c 0 LL.length []) := Lib.hid (by rw [← hT]; exact HI.out.start)
          have HTL := Lib.hid (TwoL.of HT.out)
          have HTH : Hid (Calls Tryz.prog 28 #[.pointer (some ⟨b1, 0, none⟩)] wr fun e w' => (∃ o cap, e = .returned (.slice o T.length cap) ∧ Hid (ThN wr.heap.size T (.slice o T.length cap) w')) ∧ Hid (TwoL w b1 c b2 c [] w') ∧ Hid (Below wr.heap.size wr w')) := by
            obtain ⟨P, on, -⟩ := HTL.out.left
            have := ThingsN_on on HI.out.g (by omega)
            rw [hT] at this
            exact Lib.hid (this.mono fun e w' ⟨⟨o, cap, e1, e2⟩, hb⟩ => ⟨⟨o, cap, e1, Lib.hid e2⟩, Lib.hid (HTL.out.below hb), Lib.hid hb⟩)
          subst hTn
          clear hlt hj hT HI HT KW0 HAT
          go_upto_block 2 with (go_at_call 28; refine HTH.out.mono ?_; rintro e w6 ⟨⟨o6, c6, rfl, HTN⟩, HT6, HB6⟩)
          have HCEL : Hid (∃ bs : List (Nat × Obj), TwoL w b1 c b2 c bs w6 ∧ ∀ (c2 : CSt) W, TwoL w b1 c2 b2 c2 bs W → ∀ i (hi : i < T.length), ∃ aT oo nn cc, o6 = some aT ∧ W.cell? (aT.add (i * 3)) = some (.string T[i].ph) ∧ W.cell? ⟨(aT.add (i * 3)).block, (aT.add (i * 3)).off + 1, none⟩ = some (.string T[i].ty) ∧ W.cell? ⟨(aT.add (i * 3)).block, (aT.add (i * 3)).off + 2, none⟩ = some (.slice oo nn cc)) := Lib.hid (by
            rcases Nat.eq_zero_or_pos T.length with h0 | h0
            · exact ⟨[], HT6.out, fun c2 W _ i hi => absurd hi (by omega)⟩
            · obtain ⟨g, ob, cap2, e, k1, k2, k3, k4, k5⟩ := HTN.out.cells h0
              simp only [Value.slice.injEq] at e
              obtain ⟨e, -, -⟩ := e
              refine ⟨[(g, ob)], HTL.out.add HB6.out k3 k4, fun c2 W hW i hi => ?_⟩
              obtain ⟨oo, nn, cc, q0, q1, q2⟩ := k5 W (hW.box (List.mem_singleton.2 rfl)) i hi
              exact ⟨_, oo, nn, cc, e, q0, q1, q2⟩)
          obtain ⟨bs, HTB, HCE⟩ : ∃ bs : List (Nat × Obj), Hid (TwoL w b1 c b2 c bs w6) ∧ Hid (∀ (c2 : CSt) W, TwoL w b1 c2 b2 c2 bs W → ∀ i (hi : i < T.length), ∃ aT oo nn cc, o6 = some aT ∧ W.cell? (aT.add (i * 3)) = some (.string T[i].ph) ∧ W.cell? ⟨(aT.add (i * 3)).block, (aT.add (i * 3)).off + 1, none⟩ = some (.string T[i].ty) ∧ W.cell? ⟨(aT.add (i * 3)).block, (aT.add (i * 3)).off + 2, none⟩ = some (.slice oo nn cc)) := by
            obtain ⟨bs, h1, h2⟩ := HCEL.out
            exact ⟨bs, Lib.hid h1, Lib.hid h2⟩
          clear HCEL HTN HT6 HB6 HTL HTH
          have hfl0 : (c.fl.length : Int) = 0 := by have := HU0.out.fl; rw [this]; rfl
          go_cut [11] (fun s11 wx => ∃ (c2 : CSt) (i : Nat) (r : List (Nat × List G)), s11 = .int .i64 (c2.fl.length : Int) ∧ i ≤ 12 ∧ Hid (UI T c2 i LL.length r) ∧ Hid (TwoL w b1 c2 b2 c2 [] wx))
          case first =>
            go_wp2_with fail
            go_loopw [11, 58] (fun sv iv wx => ∃ (i : Nat) (c2 : CSt) (r : List (Nat × List G)), i ≤ T.length ∧ iv = .int .i64 i ∧ sv = .int .i64 (c2.fl.length : Int) ∧ Hid (UI T c2 i LL.length r) ∧ Hid (TwoL w b1 c2 b2 c2 bs wx)) (fun _ iv _ => T.length - (intOf iv).toNat)
            case atStart => exact ⟨0, c, [], by omega, rfl, by rw [hfl0], HU0, HTB⟩
            case round =>
              obtain ⟨i, c2, r, hi, rfl, rfl, HU, HT⟩ := hrel
              clear HTB HU0 hfl0
              by_cases hlt : i < T.length
              · obtain ⟨aT, oo, nn, cc, rfl, q0, q1, q2⟩ := HCE.out c2 wr HT.out i hlt
                have HTA := Lib.hid (HT.out.alloc #[.string T[i].ph, .string T[i].ty, .slice oo nn cc] 44)
                by_cases hm : i < MM.length
                · have d9 : decide ((MM.length : Int) ≤ (i : Int)) = false := decide_eq_false (by omega)
                  have d10 : IntKind.i64.wrap (100 + (i : Int)) = 100 + (i : Int) := by simp [IntKind.wrap, IntKind.bits, IntKind.signed]; omega
                  obtain rfl := ho' (by omega)
                  obtain ⟨om, cm, hgm, hcm⟩ := HBT.out i hm
                  have qm := hcm _ (Lib.hid HTA.out.kb)
                  have GX := Lib.hid (great9_any MM[i] _ _ (isGs_below HTA.out.kb hgm))
                  have HCM := Lib.hid hcm
                  have HGM := Lib.hid hgm
                  by_cases hgr : greatG MM[i] = true
                  · rw [hgr] at GX
                    clear hgr hgm hcm
                    generalize MM[i] = ps at *
                    go_wp2_with (go_at_call 34; refine GX.out.mono ?_; rintro e w3 ⟨rfl, hb3⟩)
                    go_meet
                    exact ⟨c2, i, r, rfl, by omega, HU, Lib.hid ((HTA.out.below hb3).less (fun p hp => absurd hp List.not_mem_nil))⟩
                  · have hgr' : greatG MM[i] = false := by simpa using hgr
                    rw [hgr'] at GX
                    have HGF := Lib.hid hgr'
                    clear hgr hgr' hgm hcm
                    generalize MM[i] = ps at *
                    go_upto_region 22 with (go_at_call 34; refine GX.out.mono ?_; rintro e w3 ⟨rfl, hb3⟩)
                    have HT3 := Lib.hid (HTA.out.below hb3)
                    obtain ⟨m0, m1, m2⟩ := three_cells (HT3.out.box (List.mem_cons_self ..))
                    have qm3 := HCM.out w3 (Lib.hid HT3.out.kb)
                    clear q0 q1 q2 qm hb3 GX HTA
                    have hi1000 : i ≤ 1000 := by omega
                    have hTm : T[i] ∈ c2.s.l := by rw [HU.out.sl]; exact List.getElem_mem hlt
                    have HFX := Lib.hid (fine_updT hi1000 (ph_size HU.out.g.okS hTm) HGF.out)
                    have HXI : Hid (∀ W, KB w W → isX W (updT i T[i].ph ps) (.agg #[.int .i64 (100 + (i : Int)), .int .i8 1, .string T[i].ph, .string ⟨#[68, 105, 115, 107]⟩, .slice om ps.length cm])) := Lib.hid fun W hK => ⟨_, rfl, isGs_below hK HGM.out, okX_fine HFX.out⟩
                    have HST := Lib.hid (HU.out.step hlt (by omega) HFX.out)
                    have HG0 := Lib.hid HU.out.g
                    have m0d : w3.drew.cell? ⟨wr.heap.size, 0, none⟩ = _ := m0
                    have q3d : w3.drew.cell? (a'.add i) = _ := qm3
                    have kbZ : Below w3.heap.size w3 (w3.alloc (.cells #[.int .i64 0, .int .i8 0, .string ⟨#[]⟩, .string ⟨#[]⟩, .slice none 0 0] 32)) := by go_grown
                    have m0a := cell_below kbZ _ _ m0
                    have q3a := cell_below kbZ _ _ qm3
                    have kbY : Below w3.heap.size w3 (w3.drew.alloc (.cells #[.int .i64 0, .int .i8 0, .string ⟨#[]⟩, .string ⟨#[]⟩, .slice none 0 0] 32)) := by go_grown
                    have m0b := cell_below kbY _ _ m0
                    have q3b := cell_below kbY _ _ qm3
                    clear m1 m2 hTm kbZ kbY
                    go_cut [14] (fun s14 wx => ∃ B, s14 = .pointer (some ⟨B, 0, none⟩) ∧ Hid (TwoL w b1 c2 b2 c2 ((B, .cells #[.int .i64 (100 + (i : Int)), .int .i8 1, .string T[i].ph, .string ⟨#[68, 105, 115, 107]⟩, .slice om ps.length cm] 32 (0, 0)) :: (wr.heap.size, .cells #[.string T[i].ph, .string T[i].ty, .slice oo nn cc] 44 (0, 0)) :: bs) wx))
                    case first =>
                      go_region_law (fail)
                      all_goals
                        go_wp2_with fail
                        go_meet
                        first
                          | exact ⟨_, rfl, Lib.hid (HT3.out.allocD _ _)⟩
                          | exact ⟨_, rfl, Lib.hid (HT3.out.alloc _ _)⟩
                          | exact ⟨_, rfl, Lib.hid (HT3.out.allocE _ _)⟩
                    case rest =>
                      obtain ⟨B, rfl, HT4⟩ := hcut
                      generalize wc = w4 at *
                      clear m0 qm3 m0d q3d m0a q3a m0b q3b HT3
                      obtain ⟨y0, y1, y2, y3, y4⟩ := five_cells (HT4.out.box (List.mem_cons_self ..))
                      obtain ⟨xv, hxv⟩ : ∃ xv, Value.agg #[.int .i64 (100 + (i : Int)), .int .i8 1, .string T[i].ph, .string ⟨#[68, 105, 115, 107]⟩, .slice om ps.length cm] = xv := ⟨_, rfl⟩
                      have HXV := Lib.hid hxv
                      obtain ⟨BS, HBS⟩ : ∃ BS : List (Nat × Obj), Hid (((B, .cells #[.int .i64 (100 + (i : Int)), .int .i8 1, .string T[i].ph, .string ⟨#[68, 105, 115, 107]⟩, .slice om ps.length cm] 32 (0, 0)) :: (wr.heap.size, .cells #[.string T[i].ph, .string T[i].ty, .slice oo nn cc] 44 (0, 0)) :: bs : List (Nat × Obj)) = BS) := ⟨_, Lib.hid rfl⟩
                      rw [HBS.out] at HT4
                      have HBX : Hid (∀ c d W, TwoL w b1 c b2 d BS W → W.cell? ⟨B, 0, none⟩ = some (.int .i64 (100 + (i : Int))) ∧ W.cell? ⟨B, 1, none⟩ = some (.int .i8 1) ∧ W.cell? ⟨B, 2, none⟩ = some (.string T[i].ph) ∧ W.cell? ⟨B, 3, none⟩ = some (.string ⟨#[68, 105, 115, 107]⟩) ∧ W.cell? ⟨B, 4, none⟩ = some (.slice om ps.length cm)) := Lib.hid fun c d W hW => five_cells (hW.box (by rw [← HBS.out]; exact List.mem_cons_self ..))
                      have HLS : Hid (∀ c d W, TwoL w b1 c b2 d BS W → TwoL w b1 c b2 d bs W) := Lib.hid fun c d W hW => hW.less (fun p hp => by rw [← HBS.out]; exact List.mem_cons_of_mem _ (List.mem_cons_of_mem _ hp))
                      obtain ⟨cx, hcx⟩ : ∃ cx, (submitC c2 (updT i T[i].ph ps)).1 = cx := ⟨_, rfl⟩
                      obtain ⟨ex, hex⟩ : ∃ ex, (submitC c2 (updT i T[i].ph ps)).2 = ex := ⟨_, rfl⟩
                      rw [hcx] at HST
                      have CS1 : Hid (∀ W, Hid (TwoL w b1 c2 b2 c2 BS W) → Calls Tryz.prog 14 #[.pointer (some ⟨b1, 0, none⟩), .agg #[.int .i64 (100 + (i : Int)), .int .i8 1, .string T[i].ph, .string ⟨#[68, 105, 115, 107]⟩, .slice om ps.length cm]] W fun e w' => e = .returned (.int .i64 ex) ∧ Hid (TwoS w b1 c2 cx b2 BS w') ∧ Hid (TwoL w b1 cx b2 c2 BS w')) := Lib.hid fun W hW => by
                        obtain ⟨P1, on1, keep1⟩ := hW.out.left
                        have := Submit_on on1 (HE.out _ hW.out.kb) HFX.out (HXI.out _ hW.out.kb) HG0.out (by omega)
                        rw [hcx, hex] at this
                        exact this.mono fun e w' ⟨e1, h1⟩ => ⟨e1, Lib.hid (.inr (.inl (keep1 _ _ h1))), Lib.hid (keep1 _ _ h1)⟩
                      have CS2 : Hid (∀ W, Hid (TwoL w b1 cx b2 c2 BS W) → Calls Tryz.prog 14 #[.pointer (some ⟨b2, 0, none⟩), .agg #[.int .i64 (100 + (i : Int)), .int .i8 1, .string T[i].ph, .string ⟨#[68, 105, 115, 107]⟩, .slice om ps.length cm]] W fun e w' => e = .returned (.int .i64 ex) ∧ Hid (TwoS w b1 c2 cx b2 BS w') ∧ Hid (TwoL w b1 cx b2 cx BS w')) := Lib.hid fun W hW => by
                        obtain ⟨P1, on1, keep1⟩ := hW.out.swap.left
                        have := Submit_on on1 (HE.out _ hW.out.kb) HFX.out (HXI.out _ hW.out.kb) HG0.out (by omega)
                        rw [hcx, hex] at this
                        exact this.mono fun e w' ⟨e1, h1⟩ => ⟨e1, Lib.hid (.inr (.inr (keep1 _ _ h1).swap)), Lib.hid (keep1 _ _ h1).swap⟩
                      have HS : Hid (∀ W, Hid (TwoS w b1 c2 cx b2 BS W) → Hid (TwoS w b1 c2 cx b2 BS W) ∧ W.cell? ⟨B, 0, none⟩ = some (.int .i64 (100 + (i : Int))) ∧ W.cell? ⟨B, 1, none⟩ = some (.int .i8 1) ∧ W.cell? ⟨B, 2, none⟩ = some (.string T[i].ph) ∧ W.cell? ⟨B, 3, none⟩ = some (.string ⟨#[68, 105, 115, 107]⟩) ∧ W.cell? ⟨B, 4, none⟩ = some (.slice om ps.length cm)) := Lib.hid fun W hW => ⟨hW, by
                        rcases hW.out with h | h | h
                        · exact HBX.out _ _ _ h
                        · exact HBX.out _ _ _ h
                        · exact HBX.out _ _ _ h⟩
                      have HTS : Hid (TwoS w b1 c2 cx b2 BS w4) := Lib.hid (.inl HT4.out)
                      have z1 : (ex != ex) = false := by simp
                      clear hcx hex hxv HXV HFX HXI HG0 HU
                      go_upto_region 23 with fail
                      go_cut [89] (fun s89 wx => s89 = .bool false ∧ Hid (TwoL w b1 cx b2 cx BS wx))
                      case first =>
                        go_region_held3 (fun W => Hid (TwoS w b1 c2 cx b2 BS W) ∧ W.cell? ⟨B, 0, none⟩ = some (.int .i64 (100 + (i : Int))) ∧ W.cell? ⟨B, 1, none⟩ = some (.int .i8 1) ∧ W.cell? ⟨B, 2, none⟩ = some (.string T[i].ph) ∧ W.cell? ⟨B, 3, none⟩ = some (.string ⟨#[68, 105, 115, 107]⟩) ∧ W.cell? ⟨B, 4, none⟩ = some (.slice om ps.length cm))
                          (first | (refine HS.out _ ?_; first | assumption | exact TwoS.dr (by assumption)))
                          (first
                            | (go_at_call 14; have hx5 := HL5; refine (CS2.out _ (by first | assumption | exact TwoL.drH (by assumption))).mono ?_; rintro e w6 ⟨rfl, HS6, HL6⟩)
                            | (go_at_call 14; refine (CS1.out _ (by first | assumption | exact TwoL.drH (by assumption))).mono ?_; rintro e w5 ⟨rfl, HS5, HL5⟩))
                        all_goals
                          go_wp2_with fail
                          go_meet
                          exact ⟨rfl, by first | assumption | exact TwoL.drH (by assumption)⟩
                      case rest =>
                        obtain ⟨rfl, HT5⟩ := hcut
                        generalize wc = w8 at *
                        obtain ⟨r', hU'⟩ := HST.out
                        have HU2 := Lib.hid hU'
                        obtain ⟨P1, on1, -⟩ := HT5.out.left
                        have HF := Lib.hid (Flight_on on1 HU2.out.g (by omega))
                        clear on1 hU' HST HS CS1 CS2 HTS HT4 y0 y1 y2 y3 y4
                        go_wp2_with (go_at_call 24; refine HF.out.mono ?_; rintro e w9 ⟨⟨o9, c9, rfl, -⟩, hb9⟩)
                        go_roundw
                        case rel => exact ⟨i + 1, cx, r', by omega, by go_num, rfl, HU2, Lib.hid (HLS.out _ _ _ (HT5.out.below hb9))⟩
                        case measure => simp [intOf]; omega
                · have d9 : decide ((MM.length : Int) ≤ (i : Int)) = true := decide_eq_true (by omega)
                  go_wp2_with fail
                  go_meet
                  exact ⟨c2, i, r, rfl, by omega, HU, Lib.hid (HTA.out.less (fun p hp => absurd hp List.not_mem_nil))⟩
              · go_wp2_with fail
                go_meet
                exact ⟨c2, i, r, rfl, by omega, HU, Lib.hid (HT.out.less (fun p hp => absurd hp List.not_mem_nil))⟩
          case rest =>
            obtain ⟨c2, i, r, rfl, hi12, HU, HT⟩ := hcut
            generalize wc = w7 at *
            have HEI := Lib.hid (HU.out.fin (show LL.length + i ≤ 24 by omega))
            have HND := Lib.hid HU.out.nd
            have hrl : c2.fl.length = r.length := by rw [HU.out.fl]; simp
            have hr24 : r.length ≤ 24 := by have := HU.out.g.slen; have := HU.out.g.len; omega
            rw [hrl]
            have d11 : IntKind.i64.wrap ((r.length : Int) - 1) = (r.length : Int) - 1 := by simp [IntKind.wrap, IntKind.bits, IntKind.signed]; omega
            clear hrl HU HCE
            go_wp2_with fail
            go_loopw [15] (fun kv wx => ∃ (m : Nat) (ca cb : CSt), m ≤ r.length ∧ kv = .int .i64 ((m : Int) - 1) ∧ Hid (EI T ca (r.drop (r.length - m)) (r.take (r.length - m))) ∧ Hid (EI T cb (r.take m) (r.drop m).reverse) ∧ Hid (TwoL w b1 ca b2 cb [] wx)) (fun kv _ => (intOf kv + 1).toNat)
            case atStart => exact ⟨r.length, c2, c2, Nat.le_refl _, rfl, Lib.hid (by rw [Nat.sub_self]; exact HEI.out), Lib.hid (by rw [List.take_length, List.drop_length]; exact HEI.out), HT⟩
            case round =>
              obtain ⟨m, ca, cb, hm, rfl, HA, HB, HTT⟩ := hrel
              clear HT HEI
              rcases m with _ | m
              · have hEA : EI T ca [] r := by
                  have := HA.out
                  rw [Nat.sub_zero, List.drop_length, List.take_length] at this
                  exact this
                have hEB : EI T cb [] r.reverse := by
                  have := HB.out
                  rw [List.take_zero, List.drop_zero] at this
                  exact this
                obtain ⟨s1, s2, s3, s4⟩ := EI.same HND.out hEA hEB
                have HGA := Lib.hid hEA.g
                have HGB := Lib.hid hEB.g
                have HTH1 : Hid (∀ W, Hid (TwoL w b1 ca b2 cb [] W) → Calls Tryz.prog 28 #[.pointer (some ⟨b1, 0, none⟩)] W fun e w' => (∃ o cap, e = .returned (.slice o T.length cap) ∧ Hid (isTs w' ca.s.l (.slice o T.length cap))) ∧ Hid (TwoL w b1 ca b2 cb [] w') ∧ Hid (Below W.heap.size W w')) := Lib.hid fun W hT => by
                  obtain ⟨P, on, -⟩ := hT.out.left
                  have := Things_on on HGA.out (by decide)
                  rw [s2] at this
                  exact this.mono fun e w' ⟨⟨o, cap, e1, e2⟩, hb⟩ => ⟨⟨o, cap, e1, Lib.hid e2⟩, Lib.hid (hT.out.below hb), Lib.hid hb⟩
                have HTH2 : Hid (∀ W, Hid (TwoL w b1 ca b2 cb [] W) → Calls Tryz.prog 28 #[.pointer (some ⟨b2, 0, none⟩)] W fun e w' => (∃ o cap, e = .returned (.slice o T.length cap) ∧ Hid (isTs w' ca.s.l (.slice o T.length cap))) ∧ Hid (TwoL w b1 ca b2 cb [] w') ∧ Hid (Below W.heap.size W w')) := Lib.hid fun W hT => by
                  obtain ⟨P, on, -⟩ := hT.out.swap.left
                  have := Things_on on HGB.out (by decide)
                  rw [← s1, s2] at this
                  exact this.mono fun e w' ⟨⟨o, cap, e1, e2⟩, hb⟩ => ⟨⟨o, cap, e1, Lib.hid e2⟩, Lib.hid (hT.out.below hb), Lib.hid hb⟩
                have HFL1 : Hid (∀ W, Hid (TwoL w b1 ca b2 cb [] W) → Calls Tryz.prog 24 #[.pointer (some ⟨b1, 0, none⟩)] W fun e w' => (∃ o cap, e = .returned (.slice o 0 cap)) ∧ Hid (TwoL w b1 ca b2 cb [] w')) := Lib.hid fun W hT => by
                  obtain ⟨P, on, -⟩ := hT.out.left
                  have := Flight_on on HGA.out (by decide)
                  rw [s3] at this
                  exact this.mono fun e w' ⟨⟨o, cap, e1, e2⟩, hb⟩ => ⟨⟨o, cap, e1⟩, Lib.hid (hT.out.below hb)⟩
                have HFL2 : Hid (∀ W, Hid (TwoL w b1 ca b2 cb [] W) → Calls Tryz.prog 24 #[.pointer (some ⟨b2, 0, none⟩)] W fun e w' => (∃ o cap, e = .returned (.slice o 0 cap)) ∧ Hid (TwoL w b1 ca b2 cb [] w')) := Lib.hid fun W hT => by
                  obtain ⟨P, on, -⟩ := hT.out.swap.left
                  have := Flight_on on HGB.out (by decide)
                  rw [s4] at this
                  exact this.mono fun e w' ⟨⟨o, cap, e1, e2⟩, hb⟩ => ⟨⟨o, cap, e1⟩, Lib.hid (hT.out.below hb)⟩
                have SMT : Hid (∀ W o cap o' cap', Hid (isTs W ca.s.l (.slice o T.length cap)) → Hid (isTs W ca.s.l (.slice o' T.length cap')) → Calls Tryz.prog 22 #[.slice o T.length cap, .slice o' T.length cap'] W fun e w' => e = .returned (.bool true) ∧ Hid (Below W.heap.size W w')) := Lib.hid fun W o cap o' cap' hT hT' => (things_same ca.s.l _ _ W (fun t ht => (HGA.out.fine t ht).2) (by have := HGA.out.slen; have := HGA.out.len; omega) hT.out hT'.out).mono fun e w' ⟨e1, hb⟩ => ⟨e1, Lib.hid hb⟩
                have z1 : ((T.length : Int) == (T.length : Int)) = true := beq_self_eq_true _
                clear HA HB hEA hEB s1 s2 s3 s4 HND HGA HGB hm
                go_wp2_with fail
                refine (HTH1.out _ HTT).mono ?_
                rintro e w10 ⟨⟨o10, c10, rfl, -⟩, T10, -⟩
                go_wp2_with fail
                refine (HFL1.out _ T10).mono ?_
                rintro e w11 ⟨⟨o11, c11, rfl⟩, T11⟩
                go_wp2_with fail
                refine (HFL2.out _ T11).mono ?_
                rintro e w12 ⟨⟨o12, c12, rfl⟩, T12⟩
                go_wp2_with fail
                refine (HTH1.out _ T12).mono ?_
                rintro e w13 ⟨⟨o13, c13, rfl, t13⟩, T13, -⟩
                go_wp2_with fail
                refine (HTH2.out _ T13).mono ?_
                rintro e w14 ⟨⟨o14, c14, rfl, t14⟩, T14, b14⟩
                have t134 := Lib.hid (isTs_below b14.out t13.out)
                go_wp2_with fail
                refine (SMT.out _ _ _ _ _ t134 t14).mono ?_
                rintro e w15 ⟨rfl, b15⟩
                have K15 : Hid (KB w w15) := Lib.hid (T14.out.below b15.out).kb
                go_wp2_with fail
                refine (WK.out _ K15).mono ?_
                rintro e w16 ⟨rfl, K16⟩
                go_wp2_with fail
                go_ret
                exact ⟨rfl, K16.out⟩
              · have hk : ((m + 1 : Nat) : Int) - 1 = (m : Int) := by omega
                have d12 : decide ((0 : Int) ≤ (m : Int)) = true := decide_eq_true (by omega)
                have d13 : IntKind.i64.wrap ((m : Int) - 1) = (m : Int) - 1 := by simp [IntKind.wrap, IntKind.bits, IntKind.signed]; omega
                rw [hk]
                have hA2 := EI.fwd (t := r.length - (m + 1)) (by omega) HA.out
                rw [show r.length - (m + 1) + 1 = r.length - m by omega] at hA2
                have HA2 := Lib.hid hA2
                have HB2 := Lib.hid (EI.bwd (m := m) (by omega) HB.out)
                obtain ⟨P1, on1, keep1⟩ := HTT.out.left
                have HS1 := Lib.hid (End_on on1 (HE.out _ HTT.out.kb) HA.out.g (by decide) 0 true)
                have KP1 := Lib.hid keep1
                have HGB := Lib.hid HB.out.g
                clear on1 keep1 hA2 HA HB hk
                go_wp2_with fail
                refine HS1.out.mono ?_
                rintro e w10 ⟨rfl, hon10⟩
                have T10 := Lib.hid (KP1.out _ _ hon10).swap
                obtain ⟨P2, on2, keep2⟩ := T10.out.left
                have HS2 := Lib.hid (End_on on2 (HE.out _ T10.out.kb) HGB.out (by decide) m true)
                have KP2 := Lib.hid keep2
                clear hon10 on2 keep2
                go_wp2_with fail
                refine HS2.out.mono ?_
                rintro e w11 ⟨rfl, hon11⟩
                have T11 := Lib.hid (KP2.out _ _ hon11).swap
                clear hon11
                go_wp2_with fail
                go_roundw
                case rel => exact ⟨m, _, _, by omega, rfl, HA2, HB2, T11⟩
                case measure => simp [intOf] <;> omega
end Go.Proofs.YtkigeegahepnaaaGreatDoor
