/-
  The program's copied.
-/
import Derived.Test.YtdbfpojgaalfmaaDoorDS
import Derived.Deep.RegionHeld3
import Derived.StillTailTactics
import Derived.IntWalk
set_option linter.unusedVariables false
namespace Go.Proofs.YtdbfpojgaalfmaaDoor
open Go.RowKit Go.Shelf

theorem store_six2 {w : World} {b n : Nat} {t : TypeId} {f : Nat → Value} (h : w.rowIs b t n f) (p : Nat) (hp : p + 5 < n) (c0 c1 c2 c3 c4 c5 : Value) (hc : ∀ u ∈ [c0, c1, c2, c3, c4, c5], u.oneCell' = true) :
    ∃ w1 w2 w3 w4 w5 w6 f', ((∃ u, w.cell? ⟨b, p, none⟩ = some u) ∧ w.frozen? ⟨b, p, none⟩ = false ∧ w.setCell ⟨b, p, none⟩ c0 = w1) ∧ ((∃ u, w1.cell? ⟨b, p + 1, none⟩ = some u) ∧ w1.frozen? ⟨b, p + 1, none⟩ = false ∧ w1.setCell ⟨b, p + 1, none⟩ c1 = w2) ∧ ((∃ u, w2.cell? ⟨b, p + 2, none⟩ = some u) ∧ w2.frozen? ⟨b, p + 2, none⟩ = false ∧ w2.setCell ⟨b, p + 2, none⟩ c2 = w3) ∧ ((∃ u, w3.cell? ⟨b, p + 3, none⟩ = some u) ∧ w3.frozen? ⟨b, p + 3, none⟩ = false ∧ w3.setCell ⟨b, p + 3, none⟩ c3 = w4) ∧ ((∃ u, w4.cell? ⟨b, p + 4, none⟩ = some u) ∧ w4.frozen? ⟨b, p + 4, none⟩ = false ∧ w4.setCell ⟨b, p + 4, none⟩ c4 = w5) ∧ ((∃ u, w5.cell? ⟨b, p + 5, none⟩ = some u) ∧ w5.frozen? ⟨b, p + 5, none⟩ = false ∧ w5.setCell ⟨b, p + 5, none⟩ c5 = w6) ∧
      w6.rowIs b t n f' ∧ w.grownBy w6 (some b) ∧ f' p = c0 ∧ f' (p + 1) = c1 ∧ f' (p + 2) = c2 ∧ f' (p + 3) = c3 ∧ f' (p + 4) = c4 ∧ f' (p + 5) = c5 ∧ ∀ i, (i < p ∨ p + 6 ≤ i) → f' i = f i := by
  have h1 := h.set p c0
  have h2 := h1.set (p + 1) c1
  have h3 := h2.set (p + 2) c2
  have h4 := h3.set (p + 3) c3
  have h5 := h4.set (p + 4) c4
  have h6 := h5.set (p + 5) c5
  refine ⟨_, _, _, _, _, _, _, ⟨⟨_, h.cell (show p < n by omega)⟩, h.frozen _, rfl⟩, ⟨⟨_, h1.cell (show p + 1 < n by omega)⟩, h1.frozen _, rfl⟩, ⟨⟨_, h2.cell (show p + 2 < n by omega)⟩, h2.frozen _, rfl⟩, ⟨⟨_, h3.cell (show p + 3 < n by omega)⟩, h3.frozen _, rfl⟩, ⟨⟨_, h4.cell (show p + 4 < n by omega)⟩, h4.frozen _, rfl⟩, ⟨⟨_, h5.cell (show p + 5 < n by omega)⟩, h5.frozen _, rfl⟩, h6, ?_, ?_, ?_, ?_, ?_, ?_, ?_, ?_⟩
  · exact grown_trans (grown_trans (grown_trans (grown_trans (grown_trans (grown_set _ _ _ _) (grown_set _ _ _ _)) (grown_set _ _ _ _)) (grown_set _ _ _ _)) (grown_set _ _ _ _)) (grown_set _ _ _ _)
  all_goals try (simp; done)
  intro i hi
  rw [if_neg (by omega), if_neg (by omega), if_neg (by omega), if_neg (by omega), if_neg (by omega), if_neg (by omega)]

def FB (w : World) (cs zs : Array Value) (wr : World) : Prop :=
  Below w.heap.size w wr ∧ wr.heap[w.heap.size]? = some (.cells cs 26 (0, 0)) ∧ wr.heap[w.heap.size + 1]? = some (.cells zs 26 (0, 0))
theorem FB.grown {w wr wr' : World} {cs zs : Array Value} {row : Option Nat} (h : FB w cs zs wr) (hg : wr.grownBy wr' row) (hr : ∀ r, row = some r → w.heap.size + 1 < r) : FB w cs zs wr' := by
  obtain ⟨h1, h2, h3⟩ := h
  refine ⟨h1.grown hg h1.size (fun r e => by have := hr r e; omega), ?_, ?_⟩
  · exact (hg.block _ (Array.getElem?_eq_some_iff.1 h2).1 (fun e => by have := hr _ e.symm; omega)).trans h2
  · exact (hg.block _ (Array.getElem?_eq_some_iff.1 h3).1 (fun e => by have := hr _ e.symm; omega)).trans h3
/-- The parts' row of the call's own, of which so many parts are copies. -/
def LC (B : Nat → Prop) (z : Nat) (l : List V) (gL cap : Nat) (j : Nat) (wr : World) : Prop :=
  0 < l.length → ∃ f, wr.rowIs gL 26 (cap * 6) f ∧ ∀ i (h : i < l.length), isVa wr (fun q => B q ∨ (i < j ∧ z ≤ q)) l[i] (.agg #[f (i * 6), f (i * 6 + 1), f (i * 6 + 2), f (i * 6 + 3), f (i * 6 + 4), f (i * 6 + 5)])
def KCo (ks : List ByteArray) (gK cap : Nat) (wr : World) : Prop :=
  0 < ks.length → ∃ f, wr.rowIs gK 9 cap f ∧ ∀ i (h : i < ks.length), f i = .string ks[i]
theorem KCo.grown {ks : List ByteArray} {gK cap : Nat} {wr wr' : World} {row : Option Nat} (h : KCo ks gK cap wr) (hg : wr.grownBy wr' row) (hr : some gK ≠ row) : KCo ks gK cap wr' := fun h0 => by
  obtain ⟨f, h1, h2⟩ := h h0
  exact ⟨f, rowIs_grown h1 hg hr, h2⟩
theorem LC.grown {B : Nat → Prop} {z : Nat} {l : List V} {gL cap j : Nat} {wr wr' : World} {row : Option Nat} (h : LC B z l gL cap j wr) (hg : wr.grownBy wr' row) (hr : some gL ≠ row) (hB : ∀ q, (B q ∨ z ≤ q) → some q ≠ row) : LC B z l gL cap j wr' := fun h0 => by
  obtain ⟨f, h1, h2⟩ := h h0
  exact ⟨f, rowIs_grown h1 hg hr, fun i hi => isVa_grown hg (fun q hq => hB q (hq.imp id (·.2))) (h2 i hi)⟩
theorem row_clone {w : World} {B : Nat → Prop} {l : List V} {a : Addr} {news : List Value} {f : Nat → Value} (hvas : isVas w B l a) (hw1 : news.length = l.length * 6) (hw2 : ∀ j u, news[j]? = some u → w.cell? (a.add j) = some u) (hf : ∀ j u, news[j]? = some u → f j = u) (i : Nat) (h : i < l.length) :
    isVa w B l[i] (.agg #[f (i * 6), f (i * 6 + 1), f (i * 6 + 2), f (i * 6 + 3), f (i * 6 + 4), f (i * 6 + 5)]) := by
  obtain ⟨c0, c1, c2, c3, c4, c5, g0, g1, g2, g3, g4, g5, hx⟩ := isVas_get l a i h hvas
  have key : ∀ p c, p < l.length * 6 → w.cell? (a.add p) = some c → f p = c := fun p c hp hc => by
    have h1 : news[p]? = some (news[p]'(by omega)) := List.getElem?_eq_getElem (by omega)
    have h2 := hw2 _ _ h1
    rw [hc] at h2
    rw [hf _ _ h1]
    exact (Option.some.inj h2).symm
  rw [key _ _ (by omega) g0, key _ _ (by omega) g1, key _ _ (by omega) g2, key _ _ (by omega) g3, key _ _ (by omega) g4, key _ _ (by omega) g5]
  exact hx

set_option maxRecDepth 100000 in
set_option maxHeartbeats 4000000 in
theorem pcopied_zero (x : V) (v : Value) (w : World) (B : Nat → Prop) (ha : isVa w B x v) (hBq : ∀ q, B q → q < w.heap.size) :
    Calls Tryd.prog 64 #[v, .int .i64 0] w fun e w' => ∃ v', e = .returned v' ∧ isVa w' (fun q => B q ∨ w.heap.size ≤ q) x v' ∧ Below w.heap.size w w' := by
  have h := isV_of_a x v ha
  obtain ⟨k, b, n, s, o, m, c, o2, m2, c2, rfl⟩ := isV_six h
  have HA := Lib.hid ha
  have HB := Lib.hid hBq
  clear ha hBq h
  go_enter Tryd.func64, Tryd.ntmps64
  go_wp2_with fail
  refine bodyPost_ret (v := .agg #[.int .i8 k, .bool b, .int .i64 n, .string s, .slice o m c, .slice o2 m2 c2]) (by simp [results, Tryd.results64, go_sem]) rfl ?_
  have hb : Below w.heap.size w ((w.alloc (.cells #[.int .i8 k, .bool b, .int .i64 n, .string s, .slice o m c, .slice o2 m2 c2] 26)).alloc (.cells #[.int .i8 k, .bool b, .int .i64 n, .string s, .slice o m c, .slice o2 m2 c2] 26)) := by go_grown
  exact ⟨_, rfl, isVa_mono (fun q hq => .inl hq) _ _ (isVa_keep (fun a c _ hc => cell_below hb _ _ hc) _ _ HA.out), hb⟩

set_option maxRecDepth 100000 in
set_option maxHeartbeats 8000000 in
theorem pcopied_any : ∀ (N : Nat) (x : V) (v : Value) (w : World) (B : Nat → Prop) (lv : Nat), sizeV x ≤ N → N ≤ 1000000 → lv ≤ 65536 → fineV x → isVa w B x v → (∀ q, B q → q < w.heap.size) →
    Calls Tryd.prog 64 #[v, .int .i64 lv] w fun e w' => ∃ v', e = .returned v' ∧ isVa w' (fun q => B q ∨ w.heap.size ≤ q) x v' ∧ Below w.heap.size w w'
  | 0, x, v, w, B, lv, hN, _, _, _, _, _ => absurd (sizeV_pos x) (by omega)
  | N + 1, x, v, w, B, lv0, hN, hM, hlv, hF, ha, hBq => by
    rcases lv0 with _ | lv
    · exact pcopied_zero x v w B ha hBq
    obtain ⟨kk, b, n, s, l, ks⟩ := x
    unfold isVa at ha
    obtain ⟨lvv, kv, rfl, hkk, hn, hs, ⟨a, cap, ⟨o, rfl, hc1, hc2, ho⟩, hBa, hvas⟩, ⟨a2, cap2, ⟨o2, rfl, hc3, hc4, ho2⟩, hBk, hks⟩⟩ := ha
    have hvs := isVs_of_a l a hvas
    have HMK := Lib.hid (And.intro hkk (And.intro hn hs))
    unfold maxLen at hs hc2 hc4
    have hll : l.length ≤ 1000000 := by have := sizeVs_len l; rw [sizeV] at hN; omega
    have hkl : ks.length ≤ 3000 := hF (.mk kk b n s l ks) (by rw [walkV]; exact List.mem_cons_self)
    obtain ⟨news, hw1, hw2, hw3⟩ := cells_of l a hvs
    have CL : Hid (∀ w1, KB w w1 → Calls Tryd.prog 71 #[.slice o l.length cap] w1 fun e w' => ∃ v', e = .returned v' ∧ w'.ownsRow w1.heap.size 26 6 v' l.length news ∧ Below w1.heap.size w1 w') := Lib.hid fun w1 hK => cloneV_any o a l.length cap ho hll news w1 hw1 (fun j u h => cell_below hK _ _ (hw2 j u h)) hw3
    have CK : Hid (∀ w1, KB w w1 → Calls Tryd.prog 72 #[.slice o2 ks.length cap2] w1 fun e w' => ∃ v', e = .returned v' ∧ w'.ownsRow w1.heap.size 9 1 v' ks.length (ks.map Value.string) ∧ Below w1.heap.size w1 w') := Lib.hid fun w1 hK => cloneS_any o2 a2 ks.length cap2 ho2 (by omega) (ks.map Value.string) w1 (by simp) (fun j u h => by
      rw [List.getElem?_map] at h
      obtain ⟨z, hz, rfl⟩ := Option.map_eq_some_iff.1 h
      obtain ⟨hj, rfl⟩ := List.getElem?_eq_some_iff.1 hz
      exact cell_below hK _ _ (hks j hj).1) (fun u hu => by obtain ⟨z, _, rfl⟩ := List.mem_map.1 hu; rfl)
    have hB0 : KB w ((w.alloc (.cells #[.int .i8 kk, .bool b, .int .i64 n, .string s, .slice o l.length cap, .slice o2 ks.length cap2] 26)).alloc (.cells #[.int .i8 0, .bool false, .int .i64 0, .string ⟨#[]⟩, .slice none 0 0, .slice none 0 0] 26)) := by unfold KB; go_grown
    have bX : ((w.alloc (.cells #[.int .i8 kk, .bool b, .int .i64 n, .string s, .slice o l.length cap, .slice o2 ks.length cap2] 26)).alloc (.cells #[.int .i8 0, .bool false, .int .i64 0, .string ⟨#[]⟩, .slice none 0 0, .slice none 0 0] 26)).heap[w.heap.size]? = some (.cells #[.int .i8 kk, .bool b, .int .i64 n, .string s, .slice o l.length cap, .slice o2 ks.length cap2] 26 (0, 0)) := (Below.heap_alloc _ _ _ (by simp)).trans (World.alloc_heap_new w _)
    have bR := World.alloc_heap_new (w.alloc (.cells #[.int .i8 kk, .bool b, .int .i64 n, .string s, .slice o l.length cap, .slice o2 ks.length cap2] 26)) (.cells #[.int .i8 0, .bool false, .int .i64 0, .string ⟨#[]⟩, .slice none 0 0, .slice none 0 0] 26)
    have hsz : ((w.alloc (.cells #[.int .i8 kk, .bool b, .int .i64 n, .string s, .slice o l.length cap, .slice o2 ks.length cap2] 26)).alloc (.cells #[.int .i8 0, .bool false, .int .i64 0, .string ⟨#[]⟩, .slice none 0 0, .slice none 0 0] 26)).heap.size = w.heap.size + 2 := by simp
    rw [World.size_alloc] at bR
    have ROW := Lib.hid (fun (f : Nat → Value) hf i h => row_clone (f := f) hvas hw1 hw2 hf i h)
    have HKS := Lib.hid (fun i h => (hks i h).2)
    have HF0 := Lib.hid hF
    have HBQ := Lib.hid hBq
    have hlv0 : ((lv + 1 : Nat) : Int) = (lv : Int) + 1 := by omega
    have hlz : ((lv : Int) + 1 == 0) = false := beqI (by omega)
    have hls : IntKind.i64.wrap ((lv : Int) + 1 - 1) = (lv : Int) := by rw [show (lv : Int) + 1 - 1 = lv by omega]; exact IntWalk.i64_in _ (by omega)
    have hls2 : IntKind.i64.wrap (lv : Int) = (lv : Int) := IntWalk.i64_in _ (by omega)
    rw [hlv0]
    clear hvs hks hw1 hw2 hw3 hkk hn ho2 ho hvas hBa hBk hBq hlv0
    go_enter Tryd.func64, Tryd.ntmps64
    go_wp2_with fail
    generalize hW1 : ((w.alloc (.cells #[.int .i8 kk, .bool b, .int .i64 n, .string s, .slice o l.length cap, .slice o2 ks.length cap2] 26)).alloc (.cells #[.int .i8 0, .bool false, .int .i64 0, .string ⟨#[]⟩, .slice none 0 0, .slice none 0 0] 26)) = W1 at *
    clear hW1
    obtain ⟨r0, r1, r2, r3, r4, r5⟩ := six_cells bX
    go_region_with (first
      | (go_at_call 71; refine (CL.out _ ?_).mono ?_; exact hB0.drew; rintro e w3 ⟨lv3, rfl, hol, hb3⟩; obtain ⟨ol, gL, capL, rfl, cl1, cl2, hL⟩ := clone_row hol; have r5 := cell_below hb3 _ _ (show W1.drew.cell? ⟨w.heap.size, 5, none⟩ = _ from r5))
      | (go_at_call 72; refine (CK.out _ ?_).mono ?_; exact hB0.drew.trans (hb3.mono hB0.drew.size); rintro e w4 ⟨kv4, rfl, hok4, hb4⟩; obtain ⟨okk, gK, capK, rfl, cq1, cq2, hK⟩ := clone_row hok4; have bX4 := (((below_drew_of hb3).trans (hb4.mono (below_drew_of hb3).size)).block w.heap.size (by omega)).trans bX; obtain ⟨y1, y2, ⟨⟨_, q1⟩, q1', q1''⟩, ⟨⟨_, q2⟩, q2', q2''⟩, hy2, hgy⟩ := box_set (.slice ol l.length capL) (.slice okk ks.length capK) bX4))
    ·
      have hb14 : Below W1.heap.size W1 w4 := (below_drew_of hb3).trans (hb4.mono (below_drew_of hb3).size)
      have bR4 := (hb14.block (w.heap.size + 1) (by omega)).trans bR
      have hz3 : W1.heap.size ≤ w3.heap.size := (below_drew_of hb3).size
      have hz4 := hb4.size
      have hB4 : KB w w4 := hB0.trans (hb14.mono hB0.size)
      have hzy := hgy.size
      have hFB : FB w #[.int .i8 kk, .bool b, .int .i64 n, .string s, .slice ol l.length capL, .slice okk ks.length capK] #[.int .i8 0, .bool false, .int .i64 0, .string ⟨#[]⟩, .slice none 0 0, .slice none 0 0] y2 := ⟨hB4.grown hgy hB4.size (fun r e => by cases e; exact Nat.le_refl _), hy2, (hgy.block _ (Array.getElem?_eq_some_iff.1 bR4).1 (fun e => by have := Option.some.inj e; omega)).trans bR4⟩
      have hLC : LC B y2.heap.size l gL capL 0 y2 := fun h0 => by
        obtain ⟨_, hg1, hg2, f, h4, h5⟩ := hL h0
        have hg1' : W1.heap.size ≤ gL := hg1
        refine ⟨f, rowIs_grown (rowIs_grown h4 (grown_bel hb4) (by simp)) hgy (fun e => by have := Option.some.inj e; omega), fun i hi => ?_⟩
        exact isVa_mono (fun q hq => .inl hq) _ _ (isVa_grown hgy (fun q hq e => by have := HBQ.out q hq; have := Option.some.inj e; omega) (isVa_keep (fun a c _ hc => cell_below hB4 _ _ hc) _ _ (ROW.out f h5 i hi)))
      have hKC : KCo ks gK capK y2 := fun h0 => by
        obtain ⟨_, hg1, hg2, f, h4, h5⟩ := hK h0
        rw [Nat.mul_one] at h4
        refine ⟨f, rowIs_grown h4 hgy (fun e => by have := Option.some.inj e; omega), fun i hi => ?_⟩
        exact h5 i (.string ks[i]) (by rw [List.getElem?_map, List.getElem?_eq_getElem hi]; rfl)
      have HQ : Hid ((0 < l.length → ol = some ⟨gL, 0, none⟩ ∧ w.heap.size + 1 < gL ∧ gL < y2.heap.size) ∧ (0 < ks.length → okk = some ⟨gK, 0, none⟩ ∧ w.heap.size + 1 < gK ∧ gK < y2.heap.size ∧ (0 < l.length → gK ≠ gL))) := Lib.hid ⟨fun h0 => by
        obtain ⟨h1, h2, h3, _⟩ := hL h0
        have h2' : W1.heap.size ≤ gL := h2
        exact ⟨h1, by omega, by omega⟩, fun h0 => by
        obtain ⟨h1, h2, h3, _⟩ := hK h0
        refine ⟨h1, by omega, by omega, fun h0' => ?_⟩
        obtain ⟨_, _, h3', _⟩ := hL h0'
        omega⟩
      have HFB := Lib.hid hFB
      have HLC := Lib.hid hLC
      have HKC := Lib.hid hKC
      have HZY : Hid (w.heap.size ≤ y2.heap.size) := Lib.hid (by omega)
      have HMX := Lib.hid (And.intro cl1 (And.intro cl2 (And.intro cq1 cq2)))
      unfold maxLen at cl2 cq2
      obtain ⟨m0, m1, m2, m3, m4, m5⟩ := six_cells hy2
      clear hb14 bR4 hB4 hFB hLC hKC hL hK hol hok4 hb3 hb4 bX bR bX4 hgy hy2 CL CK ROW q1 q1' q1'' q2 q2' q2'' r0 r1 r2 r3 r4 r5 hz3 hz4 hzy hsz hB0
      go_wp2_with fail
      go_loopw [21] (fun i wr => ∃ j : Nat, j ≤ l.length ∧ i = .int .i64 j ∧ Hid (FB w #[.int .i8 kk, .bool b, .int .i64 n, .string s, .slice ol l.length capL, .slice okk ks.length capK] #[.int .i8 0, .bool false, .int .i64 0, .string ⟨#[]⟩, .slice none 0 0, .slice none 0 0] wr ∧ y2.heap.size ≤ wr.heap.size) ∧ Hid (LC B y2.heap.size l gL capL j wr) ∧ Hid (KCo ks gK capK wr)) (fun i _ => l.length - (intOf i).toNat)
      case atStart => exact ⟨0, by omega, rfl, Lib.hid ⟨HFB.out, Nat.le_refl _⟩, HLC, HKC⟩
      case round =>
        obtain ⟨j, hj, rfl, hF, hLR, hKR⟩ := hrel
        by_cases hlt : j < l.length
        · obtain ⟨rfl, hg1, hg2⟩ := HQ.out.1 (by omega)
          obtain ⟨f, hf1, hf2⟩ := hLR.out (by omega)
          have e0 := hf1.cell (show j * 6 < capL * 6 by omega)
          have e1 := hf1.cell (show j * 6 + 1 < capL * 6 by omega)
          have e2 := hf1.cell (show j * 6 + 2 < capL * 6 by omega)
          have e3 := hf1.cell (show j * 6 + 3 < capL * 6 by omega)
          have e4 := hf1.cell (show j * 6 + 4 < capL * 6 by omega)
          have e5 := hf1.cell (show j * 6 + 5 < capL * 6 by omega)
          have hxe := isVa_mono (B' := B) (fun q hq => hq.elim id (fun h => absurd h.1 (by omega))) _ _ (hf2 j hlt)
          obtain ⟨k', b', n', s', o1, m1', p1, o3, m3', p3, hag⟩ := isV_six (isV_of_a _ _ hxe)
          rw [hag] at hxe
          simp only [Value.agg.injEq, Array.mk.injEq, List.cons.injEq, and_true] at hag
          obtain ⟨a0, a1, a2', a3, a4, a5⟩ := hag
          rw [a0] at e0
          rw [a1] at e1
          rw [a2'] at e2
          rw [a3] at e3
          rw [a4] at e4
          rw [a5] at e5
          have HI : Hid (∀ w1, KB wr w1 → Calls Tryd.prog 64 #[.agg #[.int .i8 k', .bool b', .int .i64 n', .string s', .slice o1 m1' p1, .slice o3 m3' p3], .int .i64 lv] w1 fun e w' => ∃ v', e = .returned v' ∧ isVa w' (fun q => B q ∨ wr.heap.size ≤ q) l[j] v' ∧ KB wr w' ∧ KB w1 w') := Lib.hid fun w1 hK => (pcopied_any N l[j] _ w1 B lv (by have := sizeVs_get l j hlt; rw [sizeV] at hN; omega) (by omega) (by omega) (fun z hz => HF0.out z (walk_part (List.getElem_mem hlt) rfl z hz)) (isVa_keep (fun q c _ hc => cell_below hK _ _ hc) _ _ hxe) (fun q hq => by have h1 := HBQ.out q hq; have h2 := hF.out.1.1.size; have h3 := hK.size; omega)).mono fun e w' ⟨v', he, hv, hb⟩ => ⟨v', he, isVa_mono (fun q (hq : B q ∨ w1.heap.size ≤ q) => Or.imp id (fun h => Nat.le_trans hK.size h) hq) _ _ hv, hK.trans (hb.mono hK.size), hb⟩
          obtain ⟨b0, b1, b2, b3, b4, b5⟩ := six_cells hF.out.1.2.1
          have hzr : w.heap.size + 1 < wr.heap.size := (Array.getElem?_eq_some_iff.1 hF.out.1.2.2).1
          have hzl : gL < wr.heap.size := hf1.lt
          have hbp : KB wr (wr.alloc (.cells #[.int .i8 k', .bool b', .int .i64 n', .string s', .slice o1 m1' p1, .slice o3 m3' p3] 26)) := kbA
          have HF2 := Lib.hid hf2
          have HF1 := Lib.hid hf1
          have HBP := Lib.hid hbp
          clear hxe a0 a1 a2' a3 a4 a5 hf2 hf1 hbp
          go_wp2_with fail
          have hzr0 : w.heap.size < wr.heap.size := by omega
          obtain ⟨c0, c1, c2, c3, c4, c5⟩ := six_cells (World.alloc_heap_new wr (.cells #[.int .i8 k', .bool b', .int .i64 n', .string s', .slice o1 m1' p1, .slice o3 m3' p3] 26))
          have b4 := cell_below HBP.out _ _ b4
          clear b0 b1 b2 b3 b5 e0 e1 e2 e3 e4 e5
          generalize hW2 : wr.alloc (.cells #[.int .i8 k', .bool b', .int .i64 n', .string s', .slice o1 m1' p1, .slice o3 m3' p3] 26) = W2 at *
          clear hW2
          refine wp_region_held_drew (S := fun w' => w'.cell? ⟨w.heap.size, 4, none⟩ = some (.slice (some ⟨gL, 0, none⟩) l.length capL) ∧ w'.cell? ⟨wr.heap.size, 0, none⟩ = some (.int .i8 k') ∧ w'.cell? ⟨wr.heap.size, 1, none⟩ = some (.bool b') ∧ w'.cell? ⟨wr.heap.size, 2, none⟩ = some (.int .i64 n') ∧ w'.cell? ⟨wr.heap.size, 3, none⟩ = some (.string s') ∧ w'.cell? ⟨wr.heap.size, 4, none⟩ = some (.slice o1 m1' p1) ∧ w'.cell? ⟨wr.heap.size, 5, none⟩ = some (.slice o3 m3' p3)) (by kernel_rfl) ?_ (fun hHeld => ?_)
          · (exact ⟨b4, c0, c1, c2, c3, c4, c5⟩)
          refine' wpAnyH_take (i := 0) (oi := { dst := some 26, op := Go.Op.fieldAddr 26 (Go.Operand.tmp 2) 4, type := 0, pos := "tree.go:103", after := #[], guard := none }) (v := _) rfl (by kernel_rfl) (by kernel_rfl) (by kernel_rfl) (fun _ _ _ h => h) (Or.inl ⟨by rfl, ?yy1_1⟩) (by assumption) ?rr1_1
          case yy1_1 => (intro w hSw; (try dsimp only at hSw); go_simp; try with_reducible rfl)
          (try simp only [Act.put, List.setIfInBounds_toArray, List.set_cons_zero, List.set_cons_succ])
          refine' wpAnyH_take (i := 1) (oi := { dst := some 27, op := Go.Op.load 23 (Go.Operand.tmp 26), type := 23, pos := "tree.go:103", after := #[{ on := 0, ground := Go.Ground.data }], guard := none }) (v := _) rfl (by kernel_rfl) (by kernel_rfl) (by kernel_rfl) (fun _ _ _ h => h) (Or.inl ⟨by rfl, ?yy1_2⟩) (by assumption) ?rr1_2
          case yy1_2 => (intro w hSw; (try dsimp only at hSw); go_simp; try with_reducible rfl)
          (try simp only [Act.put, List.setIfInBounds_toArray, List.set_cons_zero, List.set_cons_succ])
          refine' wpAnyH_take (i := 2) (oi := { dst := some 28, op := Go.Op.move (Go.Operand.tmp 5), type := 3, pos := "tree.go:103", after := #[], guard := none }) (v := _) rfl (by kernel_rfl) (by kernel_rfl) (by kernel_rfl) (fun _ _ _ h => h) (Or.inl ⟨by rfl, ?yy1_3⟩) (by assumption) ?rr1_3
          case yy1_3 => (intro w hSw; (try dsimp only at hSw); go_simp; try with_reducible rfl)
          (try simp only [Act.put, List.setIfInBounds_toArray, List.set_cons_zero, List.set_cons_succ])
          refine' wpAnyH_take (i := 3) (oi := { dst := some 29, op := Go.Op.load 26 (Go.Operand.tmp 6), type := 26, pos := "tree.go:103", after := #[], guard := none }) (v := _) rfl (by kernel_rfl) (by kernel_rfl) (by kernel_rfl) (fun _ _ _ h => h) (Or.inl ⟨by rfl, ?yy1_4⟩) (by assumption) ?rr1_4
          case yy1_4 => (intro w hSw; (try dsimp only at hSw); go_simp; try with_reducible rfl)
          (try simp only [Act.put, List.setIfInBounds_toArray, List.set_cons_zero, List.set_cons_succ])
          refine' wpAnyH_take (i := 4) (oi := { dst := some 30, op := Go.Op.move (Go.Operand.tmp 1), type := 3, pos := "tree.go:103", after := #[], guard := none }) (v := _) rfl (by kernel_rfl) (by kernel_rfl) (by kernel_rfl) (fun _ _ _ h => h) (Or.inl ⟨by rfl, ?yy1_5⟩) (by assumption) ?rr1_5
          case yy1_5 => (intro w hSw; (try dsimp only at hSw); go_simp; try with_reducible rfl)
          (try simp only [Act.put, List.setIfInBounds_toArray, List.set_cons_zero, List.set_cons_succ])
          refine' wpAnyH_take (i := 5) (oi := { dst := some 31, op := Go.Op.binOp Go.BinOp.sub 3 (Go.Operand.tmp 30) (Go.Operand.const (Go.Value.int Go.IntKind.i64 1)) 3, type := 3, pos := "tree.go:103", after := #[{ on := 4, ground := Go.Ground.data }], guard := none }) (v := _) rfl (by kernel_rfl) (by kernel_rfl) (by kernel_rfl) (fun _ _ _ h => h) (Or.inl ⟨by rfl, ?yy1_6⟩) (by assumption) ?rr1_6
          case yy1_6 => (intro w hSw; (try dsimp only at hSw); go_simp; try with_reducible rfl)
          (try simp only [Act.put, List.setIfInBounds_toArray, List.set_cons_zero, List.set_cons_succ])
          refine wpAnyH_ready (rs := [6]) (by kernel_rfl) (by simp) ?_
          refine AllReadyH.cons (o := { dst := some 32, op := Go.Op.call { callee := Go.Callee.value (Go.Operand.func 64), args := #[Go.Operand.tmp 29, Go.Operand.tmp 31], argTypes := #[26, 3] }, type := 26, pos := "tree.go:103", after := #[{ on := 3, ground := Go.Ground.data }, { on := 5, ground := Go.Ground.data }], guard := none }) rfl (fun K hK => ?_) AllReadyH.nil
          (go_simp; (go_at_call 64; refine (HI.out _ ?_).mono ?_; exact HBP.out.drew; rintro e w6 ⟨v6, rfl, hva, hb6, hb7⟩; obtain ⟨k6, b6, n6, s6, o6, m6, p6, o7, m7, p7, rfl⟩ := isV_six (isV_of_a _ _ hva); have hf6 := rowIs_grown HF1.out (grown_bel hb6) (by simp); obtain ⟨x1, x2, x3, x4, x5, x6, f', ⟨⟨_, q1⟩, q1', q1''⟩, ⟨⟨_, q2⟩, q2', q2''⟩, ⟨⟨_, q3⟩, q3', q3''⟩, ⟨⟨_, q4⟩, q4', q4''⟩, ⟨⟨_, q5⟩, q5', q5''⟩, ⟨⟨_, q6⟩, q6', q6''⟩, hf7, hg7, u0, u1, u2, u3, u4, u5, hold⟩ := store_six2 hf6 (j * 6) (by omega) (.int .i8 k6) (.bool b6) (.int .i64 n6) (.string s6) (.slice o6 m6 p6) (.slice o7 m7 p7) (by intro u hu; simp only [List.mem_cons, List.not_mem_nil, or_false] at hu; rcases hu with rfl | rfl | rfl | rfl | rfl | rfl <;> rfl); have HF7 := Lib.hid (And.intro hf7 (And.intro hg7 (And.intro u0 (And.intro u1 (And.intro u2 (And.intro u3 (And.intro u4 (And.intro u5 hold)))))))); have HVA := Lib.hid hva; have HB6 := Lib.hid hb6; have b4 : w6.cell? ⟨w.heap.size, 4, none⟩ = _ := cell_below hb7 _ _ (show W2.drew.cell? ⟨w.heap.size, 4, none⟩ = _ from b4); have c0 : w6.cell? ⟨wr.heap.size, 0, none⟩ = _ := cell_below hb7 _ _ (show W2.drew.cell? ⟨wr.heap.size, 0, none⟩ = _ from c0); have c1 : w6.cell? ⟨wr.heap.size, 1, none⟩ = _ := cell_below hb7 _ _ (show W2.drew.cell? ⟨wr.heap.size, 1, none⟩ = _ from c1); have c2 : w6.cell? ⟨wr.heap.size, 2, none⟩ = _ := cell_below hb7 _ _ (show W2.drew.cell? ⟨wr.heap.size, 2, none⟩ = _ from c2); have c3 : w6.cell? ⟨wr.heap.size, 3, none⟩ = _ := cell_below hb7 _ _ (show W2.drew.cell? ⟨wr.heap.size, 3, none⟩ = _ from c3); have c4 : w6.cell? ⟨wr.heap.size, 4, none⟩ = _ := cell_below hb7 _ _ (show W2.drew.cell? ⟨wr.heap.size, 4, none⟩ = _ from c4); have c5 : w6.cell? ⟨wr.heap.size, 5, none⟩ = _ := cell_below hb7 _ _ (show W2.drew.cell? ⟨wr.heap.size, 5, none⟩ = _ from c5); have b4x : x6.cell? ⟨w.heap.size, 4, none⟩ = _ := hg7.cell b4 (fun e => by have := Option.some.inj e; simp at this; omega); have c0x : x6.cell? ⟨wr.heap.size, 0, none⟩ = _ := hg7.cell c0 (fun e => by have := Option.some.inj e; simp at this; omega); have c1x : x6.cell? ⟨wr.heap.size, 1, none⟩ = _ := hg7.cell c1 (fun e => by have := Option.some.inj e; simp at this; omega); have c2x : x6.cell? ⟨wr.heap.size, 2, none⟩ = _ := hg7.cell c2 (fun e => by have := Option.some.inj e; simp at this; omega); have c3x : x6.cell? ⟨wr.heap.size, 3, none⟩ = _ := hg7.cell c3 (fun e => by have := Option.some.inj e; simp at this; omega); have c4x : x6.cell? ⟨wr.heap.size, 4, none⟩ = _ := hg7.cell c4 (fun e => by have := Option.some.inj e; simp at this; omega); have c5x : x6.cell? ⟨wr.heap.size, 5, none⟩ = _ := hg7.cell c5 (fun e => by have := Option.some.inj e; simp at this; omega); clear hf7 hg7 u0 u1 u2 u3 u4 u5 hold hva hb6 hf6 hb7))
          refine hK.out _ _ ?_ (fun hHeld => ?_)
          · (exact ⟨b4, c0, c1, c2, c3, c4, c5⟩)
          clear hK K
          (try simp only [Act.put, List.setIfInBounds_toArray, List.set_cons_zero, List.set_cons_succ])
          refine' wpAnyH_take (i := 7) (oi := { dst := some 33, op := Go.Op.indexAddr 23 (Go.Operand.tmp 27) (Go.Operand.tmp 28), type := 0, pos := "tree.go:103", after := #[{ on := 1, ground := Go.Ground.data }, { on := 2, ground := Go.Ground.data }, { on := 0, ground := Go.Ground.phase }, { on := 1, ground := Go.Ground.phase }, { on := 2, ground := Go.Ground.phase }, { on := 3, ground := Go.Ground.phase }, { on := 4, ground := Go.Ground.phase }, { on := 5, ground := Go.Ground.phase }, { on := 6, ground := Go.Ground.phase }], guard := none }) (v := _) rfl (by kernel_rfl) (by kernel_rfl) (by kernel_rfl) (fun _ _ _ h => h) (Or.inl ⟨by rfl, ?yy1_7⟩) (by assumption) ?rr1_7
          case yy1_7 => (intro w hSw; (try dsimp only at hSw); go_simp; try with_reducible rfl)
          (try simp only [Act.put, List.setIfInBounds_toArray, List.set_cons_zero, List.set_cons_succ])
          refine wpAnyH_ready (rs := [8]) (by kernel_rfl) (by simp) ?_
          refine AllReadyH.cons (o := { dst := none, op := Go.Op.store 26 (Go.Operand.tmp 33) (Go.Operand.tmp 32), type := 0, pos := "tree.go:103", after := #[{ on := 7, ground := Go.Ground.data }, { on := 6, ground := Go.Ground.data }, { on := 6, ground := Go.Ground.chain }, { on := 0, ground := Go.Ground.phase }, { on := 1, ground := Go.Ground.phase }, { on := 2, ground := Go.Ground.phase }, { on := 3, ground := Go.Ground.phase }, { on := 4, ground := Go.Ground.phase }, { on := 5, ground := Go.Ground.phase }, { on := 6, ground := Go.Ground.phase }], guard := none }) rfl (fun K hK => ?_) AllReadyH.nil
          go_simp
          refine hK.out _ _ ?_ (fun hHeld => ?_)
          · (exact ⟨b4x, c0x, c1x, c2x, c3x, c4x, c5x⟩)
          clear hK K
          (try simp only [Act.put, List.setIfInBounds_toArray, List.set_cons_zero, List.set_cons_succ])
          refine wpAnyH_done (by kernel_rfl) ?_ _
          go_wp2_with fail
          have hzr6 := HB6.out.size
          have hF6 : FB w #[.int .i8 kk, .bool b, .int .i64 n, .string s, .slice (some ⟨gL, 0, none⟩) l.length capL, .slice okk ks.length capK] #[.int .i8 0, .bool false, .int .i64 0, .string ⟨#[]⟩, .slice none 0 0, .slice none 0 0] x6 := (hF.out.1.grown (grown_bel HB6.out) (fun r e => by cases e)).grown HF7.out.2.1 (fun r e => by cases e; omega)
          have hLR6 : LC B y2.heap.size l gL capL (j + 1) x6 := fun _ => by
            obtain ⟨hf7, hg7, u0, u1, u2, u3, u4, u5, hold⟩ := HF7.out
            refine ⟨f', hf7, fun i hi => ?_⟩
            have hne : ∀ q, (B q ∨ y2.heap.size ≤ q) → some q ≠ some gL := fun q hq e => by
              have h1 := Option.some.inj e
              have h2 := HZY.out
              rcases hq with hq | hq
              · have := HBQ.out q hq; omega
              · omega
            by_cases e : i = j
            · subst e
              rw [u0, u1, u2, u3, u4, u5]
              exact isVa_grown hg7 (fun q hq => hne q (Or.imp id (·.2) hq)) (isVa_mono (fun q (hq : B q ∨ wr.heap.size ≤ q) => Or.imp id (fun h => ⟨by omega, Nat.le_trans hF.out.2 h⟩) hq) _ _ HVA.out)
            · rw [hold (i * 6) (by omega), hold (i * 6 + 1) (by omega), hold (i * 6 + 2) (by omega), hold (i * 6 + 3) (by omega), hold (i * 6 + 4) (by omega), hold (i * 6 + 5) (by omega)]
              exact isVa_grown hg7 (fun q hq => hne q (Or.imp id (·.2) hq)) (isVa_mono (fun q (hq : B q ∨ (i < j ∧ y2.heap.size ≤ q)) => Or.imp id (fun h => ⟨by omega, h.2⟩) hq) _ _ (isVa_keep (fun a c _ hc => cell_below HB6.out _ _ hc) _ _ (HF2.out i hi)))
          have hKR6 : KCo ks gK capK x6 := fun h0 => by
            obtain ⟨_, _, _, h4⟩ := HQ.out.2 h0
            exact ((hKR.out.grown (grown_bel HB6.out) (by simp)).grown HF7.out.2.1 (fun e => h4 (by omega) (Option.some.inj e))) h0
          have hsz6 : y2.heap.size ≤ x6.heap.size := by
            have h1 := hF.out.2
            have h2 := HF7.out.2.1.size
            omega
          have HF6 := Lib.hid (And.intro hF6 hsz6)
          have HLR6 := Lib.hid hLR6
          have HKR6 := Lib.hid hKR6
          clear hF6 hLR6 hKR6 hsz6 hzr6
          go_roundw
          case rel => exact ⟨j + 1, by omega, by go_num, HF6, HLR6, HKR6⟩
          case measure => simp [intOf]; omega
        · obtain rfl : j = l.length := by omega
          obtain ⟨b0, b1, b2, b3, b4, b5⟩ := six_cells hF.out.1.2.1
          have hn1 := hF.out.1.2.2
          obtain ⟨x1, x2, x3, x4, x5, x6, f', ⟨⟨_, t1⟩, t1', t1''⟩, ⟨⟨_, t2⟩, t2', t2''⟩, ⟨⟨_, t3⟩, t3', t3''⟩, ⟨⟨_, t4⟩, t4', t4''⟩, ⟨⟨_, t5⟩, t5', t5''⟩, ⟨⟨_, t6⟩, t6', t6''⟩, hf7, hg7, e0, e1, e2, e3, e4, e5, -⟩ := store_six (rowIs_six hn1) 0 (by decide) (.int .i8 kk) (.bool b) (.int .i64 n) (.string s) (.slice ol l.length capL) (.slice okk ks.length capK) (by intro u hu; simp only [List.mem_cons, List.not_mem_nil, or_false] at hu; rcases hu with rfl | rfl | rfl | rfl | rfl | rfl <;> rfl)
          simp only [Nat.zero_add] at t2 t2' t2'' t3 t3' t3'' t4 t4' t4'' t5 t5' t5'' t6 t6' t6'' e1 e2 e3 e4 e5
          have d0 := hf7.cell (show 0 < 6 by decide)
          have d1 := hf7.cell (show 1 < 6 by decide)
          have d2 := hf7.cell (show 2 < 6 by decide)
          have d3 := hf7.cell (show 3 < 6 by decide)
          have d4 := hf7.cell (show 4 < 6 by decide)
          have d5 := hf7.cell (show 5 < 6 by decide)
          rw [e0] at d0
          rw [e1] at d1
          rw [e2] at d2
          rw [e3] at d3
          rw [e4] at d4
          rw [e5] at d5
          have HD := Lib.hid (And.intro d0 (And.intro d1 (And.intro d2 (And.intro d3 (And.intro d4 d5)))))
          have hbel : Below w.heap.size w x6 := hF.out.1.1.grown hg7 hF.out.1.1.size (fun r e => by cases e; omega)
          have hLR6 : LC B y2.heap.size l gL capL l.length x6 := fun h0 => by
            obtain ⟨_, hg1, hg2⟩ := HQ.out.1 h0
            have h2 := HZY.out
            exact (hLR.out.grown hg7 (fun e => by have := Option.some.inj e; omega) (fun q hq e => by
              have h1 := Option.some.inj e
              rcases hq with hq | hq
              · have := HBQ.out q hq; omega
              · omega)) h0
          have hKR6 : KCo ks gK capK x6 := fun h0 => by
            obtain ⟨_, hg1, hg2, hg3⟩ := HQ.out.2 h0
            exact (hKR.out.grown hg7 (fun e => by have := Option.some.inj e; omega)) h0
          have HEND := Lib.hid (And.intro hbel (And.intro hLR6 hKR6))
          clear hbel hLR6 hKR6 hf7 hg7 hn1 e0 e1 e2 e3 e4 e5 d0 d1 d2 d3 d4 d5 hF hLR hKR
          go_wp2_with fail
          obtain ⟨d0, d1, d2, d3, d4, d5⟩ := HD.out
          refine bodyPost_ret (v := .agg #[.int .i8 kk, .bool b, .int .i64 n, .string s, .slice ol l.length capL, .slice okk ks.length capK]) (by simp [results, Tryd.results64, go_sem, d0, d1, d2, d3, d4, d5]) rfl ?_
          obtain ⟨hbel, hLR6, hKR6⟩ := HEND.out
          clear d0 d1 d2 d3 d4 d5
          have hZ := HZY.out
          have cm := HMX.out
          have hlist : isVas x6 (fun q => B q ∨ w.heap.size ≤ q) l ⟨gL, 0, none⟩ := by
            rcases Nat.eq_zero_or_pos l.length with h0 | h0
            · rw [List.length_eq_zero_iff.1 h0]; unfold isVas; trivial
            · obtain ⟨f, hf1, hf2⟩ := hLR6 h0
              refine isVas_mk l _ (fun i h => ⟨_, _, _, _, _, _, ?_, ?_, ?_, ?_, ?_, ?_, isVa_mono (fun q (hq : B q ∨ (i < l.length ∧ y2.heap.size ≤ q)) => Or.imp id (fun h => Nat.le_trans hZ h.2) hq) _ _ (hf2 i h)⟩)
              all_goals rw [add_offs]; exact hf1.cell (by omega)
          have hkeys : isKa x6 (fun q => B q ∨ w.heap.size ≤ q) ks (.slice okk ks.length capK) := by
            refine ⟨⟨gK, 0, none⟩, capK, ⟨okk, rfl, cm.2.2.1, cm.2.2.2, fun h => (HQ.out.2 h).1⟩, fun h => .inr ?_, fun i hi => ?_⟩
            · have := (HQ.out.2 h).2.1
              show w.heap.size ≤ gK
              omega
            · obtain ⟨f, hf1, hf2⟩ := hKR6 (by omega)
              rw [add_offs, hf1.cell (show i < capK by omega), hf2 i hi]
              exact ⟨rfl, HKS.out i hi⟩
          refine ⟨_, rfl, ?_, hbel⟩
          unfold isVa
          obtain ⟨h1, h2, h3⟩ := HMK.out
          refine ⟨_, _, rfl, h1, h2, h3, ⟨⟨gL, 0, none⟩, capL, ⟨ol, rfl, cm.1, cm.2.1, fun h => (HQ.out.1 h).1⟩, fun h => .inr ?_, hlist⟩, hkeys⟩
          have := (HQ.out.1 h).2.1
          show w.heap.size ≤ gL
          omega
    ·
      have hb14 : Below W1.heap.size W1 w4 := (below_drew_of hb3).trans (hb4.mono (below_drew_of hb3).size)
      have bR4 := (hb14.block (w.heap.size + 1) (by omega)).trans bR
      have hz3 : W1.heap.size ≤ w3.heap.size := (below_drew_of hb3).size
      have hz4 := hb4.size
      have hB4 : KB w w4 := hB0.trans (hb14.mono hB0.size)
      have hzy := hgy.size
      have hFB : FB w #[.int .i8 kk, .bool b, .int .i64 n, .string s, .slice ol l.length capL, .slice okk ks.length capK] #[.int .i8 0, .bool false, .int .i64 0, .string ⟨#[]⟩, .slice none 0 0, .slice none 0 0] y2 := ⟨hB4.grown hgy hB4.size (fun r e => by cases e; exact Nat.le_refl _), hy2, (hgy.block _ (Array.getElem?_eq_some_iff.1 bR4).1 (fun e => by have := Option.some.inj e; omega)).trans bR4⟩
      have hLC : LC B y2.heap.size l gL capL 0 y2 := fun h0 => by
        obtain ⟨_, hg1, hg2, f, h4, h5⟩ := hL h0
        have hg1' : W1.heap.size ≤ gL := hg1
        refine ⟨f, rowIs_grown (rowIs_grown h4 (grown_bel hb4) (by simp)) hgy (fun e => by have := Option.some.inj e; omega), fun i hi => ?_⟩
        exact isVa_mono (fun q hq => .inl hq) _ _ (isVa_grown hgy (fun q hq e => by have := HBQ.out q hq; have := Option.some.inj e; omega) (isVa_keep (fun a c _ hc => cell_below hB4 _ _ hc) _ _ (ROW.out f h5 i hi)))
      have hKC : KCo ks gK capK y2 := fun h0 => by
        obtain ⟨_, hg1, hg2, f, h4, h5⟩ := hK h0
        rw [Nat.mul_one] at h4
        refine ⟨f, rowIs_grown h4 hgy (fun e => by have := Option.some.inj e; omega), fun i hi => ?_⟩
        exact h5 i (.string ks[i]) (by rw [List.getElem?_map, List.getElem?_eq_getElem hi]; rfl)
      have HQ : Hid ((0 < l.length → ol = some ⟨gL, 0, none⟩ ∧ w.heap.size + 1 < gL ∧ gL < y2.heap.size) ∧ (0 < ks.length → okk = some ⟨gK, 0, none⟩ ∧ w.heap.size + 1 < gK ∧ gK < y2.heap.size ∧ (0 < l.length → gK ≠ gL))) := Lib.hid ⟨fun h0 => by
        obtain ⟨h1, h2, h3, _⟩ := hL h0
        have h2' : W1.heap.size ≤ gL := h2
        exact ⟨h1, by omega, by omega⟩, fun h0 => by
        obtain ⟨h1, h2, h3, _⟩ := hK h0
        refine ⟨h1, by omega, by omega, fun h0' => ?_⟩
        obtain ⟨_, _, h3', _⟩ := hL h0'
        omega⟩
      have HFB := Lib.hid hFB
      have HLC := Lib.hid hLC
      have HKC := Lib.hid hKC
      have HZY : Hid (w.heap.size ≤ y2.heap.size) := Lib.hid (by omega)
      have HMX := Lib.hid (And.intro cl1 (And.intro cl2 (And.intro cq1 cq2)))
      unfold maxLen at cl2 cq2
      obtain ⟨m0, m1, m2, m3, m4, m5⟩ := six_cells hy2
      clear hb14 bR4 hB4 hFB hLC hKC hL hK hol hok4 hb3 hb4 bX bR bX4 hgy hy2 CL CK ROW q1 q1' q1'' q2 q2' q2'' r0 r1 r2 r3 r4 r5 hz3 hz4 hzy hsz hB0
      go_wp2_with fail
      go_loopw [21] (fun i wr => ∃ j : Nat, j ≤ l.length ∧ i = .int .i64 j ∧ Hid (FB w #[.int .i8 kk, .bool b, .int .i64 n, .string s, .slice ol l.length capL, .slice okk ks.length capK] #[.int .i8 0, .bool false, .int .i64 0, .string ⟨#[]⟩, .slice none 0 0, .slice none 0 0] wr ∧ y2.heap.size ≤ wr.heap.size) ∧ Hid (LC B y2.heap.size l gL capL j wr) ∧ Hid (KCo ks gK capK wr)) (fun i _ => l.length - (intOf i).toNat)
      case atStart => exact ⟨0, by omega, rfl, Lib.hid ⟨HFB.out, Nat.le_refl _⟩, HLC, HKC⟩
      case round =>
        obtain ⟨j, hj, rfl, hF, hLR, hKR⟩ := hrel
        by_cases hlt : j < l.length
        · obtain ⟨rfl, hg1, hg2⟩ := HQ.out.1 (by omega)
          obtain ⟨f, hf1, hf2⟩ := hLR.out (by omega)
          have e0 := hf1.cell (show j * 6 < capL * 6 by omega)
          have e1 := hf1.cell (show j * 6 + 1 < capL * 6 by omega)
          have e2 := hf1.cell (show j * 6 + 2 < capL * 6 by omega)
          have e3 := hf1.cell (show j * 6 + 3 < capL * 6 by omega)
          have e4 := hf1.cell (show j * 6 + 4 < capL * 6 by omega)
          have e5 := hf1.cell (show j * 6 + 5 < capL * 6 by omega)
          have hxe := isVa_mono (B' := B) (fun q hq => hq.elim id (fun h => absurd h.1 (by omega))) _ _ (hf2 j hlt)
          obtain ⟨k', b', n', s', o1, m1', p1, o3, m3', p3, hag⟩ := isV_six (isV_of_a _ _ hxe)
          rw [hag] at hxe
          simp only [Value.agg.injEq, Array.mk.injEq, List.cons.injEq, and_true] at hag
          obtain ⟨a0, a1, a2', a3, a4, a5⟩ := hag
          rw [a0] at e0
          rw [a1] at e1
          rw [a2'] at e2
          rw [a3] at e3
          rw [a4] at e4
          rw [a5] at e5
          have HI : Hid (∀ w1, KB wr w1 → Calls Tryd.prog 64 #[.agg #[.int .i8 k', .bool b', .int .i64 n', .string s', .slice o1 m1' p1, .slice o3 m3' p3], .int .i64 lv] w1 fun e w' => ∃ v', e = .returned v' ∧ isVa w' (fun q => B q ∨ wr.heap.size ≤ q) l[j] v' ∧ KB wr w' ∧ KB w1 w') := Lib.hid fun w1 hK => (pcopied_any N l[j] _ w1 B lv (by have := sizeVs_get l j hlt; rw [sizeV] at hN; omega) (by omega) (by omega) (fun z hz => HF0.out z (walk_part (List.getElem_mem hlt) rfl z hz)) (isVa_keep (fun q c _ hc => cell_below hK _ _ hc) _ _ hxe) (fun q hq => by have h1 := HBQ.out q hq; have h2 := hF.out.1.1.size; have h3 := hK.size; omega)).mono fun e w' ⟨v', he, hv, hb⟩ => ⟨v', he, isVa_mono (fun q (hq : B q ∨ w1.heap.size ≤ q) => Or.imp id (fun h => Nat.le_trans hK.size h) hq) _ _ hv, hK.trans (hb.mono hK.size), hb⟩
          obtain ⟨b0, b1, b2, b3, b4, b5⟩ := six_cells hF.out.1.2.1
          have hzr : w.heap.size + 1 < wr.heap.size := (Array.getElem?_eq_some_iff.1 hF.out.1.2.2).1
          have hzl : gL < wr.heap.size := hf1.lt
          have hbp : KB wr (wr.alloc (.cells #[.int .i8 k', .bool b', .int .i64 n', .string s', .slice o1 m1' p1, .slice o3 m3' p3] 26)) := kbA
          have HF2 := Lib.hid hf2
          have HF1 := Lib.hid hf1
          have HBP := Lib.hid hbp
          clear hxe a0 a1 a2' a3 a4 a5 hf2 hf1 hbp
          go_wp2_with fail
          have hzr0 : w.heap.size < wr.heap.size := by omega
          obtain ⟨c0, c1, c2, c3, c4, c5⟩ := six_cells (World.alloc_heap_new wr (.cells #[.int .i8 k', .bool b', .int .i64 n', .string s', .slice o1 m1' p1, .slice o3 m3' p3] 26))
          have b4 := cell_below HBP.out _ _ b4
          clear b0 b1 b2 b3 b5 e0 e1 e2 e3 e4 e5
          generalize hW2 : wr.alloc (.cells #[.int .i8 k', .bool b', .int .i64 n', .string s', .slice o1 m1' p1, .slice o3 m3' p3] 26) = W2 at *
          clear hW2
          refine wp_region_held_drew (S := fun w' => w'.cell? ⟨w.heap.size, 4, none⟩ = some (.slice (some ⟨gL, 0, none⟩) l.length capL) ∧ w'.cell? ⟨wr.heap.size, 0, none⟩ = some (.int .i8 k') ∧ w'.cell? ⟨wr.heap.size, 1, none⟩ = some (.bool b') ∧ w'.cell? ⟨wr.heap.size, 2, none⟩ = some (.int .i64 n') ∧ w'.cell? ⟨wr.heap.size, 3, none⟩ = some (.string s') ∧ w'.cell? ⟨wr.heap.size, 4, none⟩ = some (.slice o1 m1' p1) ∧ w'.cell? ⟨wr.heap.size, 5, none⟩ = some (.slice o3 m3' p3)) (by kernel_rfl) ?_ (fun hHeld => ?_)
          · (exact ⟨b4, c0, c1, c2, c3, c4, c5⟩)
          refine' wpAnyH_take (i := 0) (oi := { dst := some 26, op := Go.Op.fieldAddr 26 (Go.Operand.tmp 2) 4, type := 0, pos := "tree.go:103", after := #[], guard := none }) (v := _) rfl (by kernel_rfl) (by kernel_rfl) (by kernel_rfl) (fun _ _ _ h => h) (Or.inl ⟨by rfl, ?yy2_1⟩) (by assumption) ?rr2_1
          case yy2_1 => (intro w hSw; (try dsimp only at hSw); go_simp; try with_reducible rfl)
          (try simp only [Act.put, List.setIfInBounds_toArray, List.set_cons_zero, List.set_cons_succ])
          refine' wpAnyH_take (i := 1) (oi := { dst := some 27, op := Go.Op.load 23 (Go.Operand.tmp 26), type := 23, pos := "tree.go:103", after := #[{ on := 0, ground := Go.Ground.data }], guard := none }) (v := _) rfl (by kernel_rfl) (by kernel_rfl) (by kernel_rfl) (fun _ _ _ h => h) (Or.inl ⟨by rfl, ?yy2_2⟩) (by assumption) ?rr2_2
          case yy2_2 => (intro w hSw; (try dsimp only at hSw); go_simp; try with_reducible rfl)
          (try simp only [Act.put, List.setIfInBounds_toArray, List.set_cons_zero, List.set_cons_succ])
          refine' wpAnyH_take (i := 2) (oi := { dst := some 28, op := Go.Op.move (Go.Operand.tmp 5), type := 3, pos := "tree.go:103", after := #[], guard := none }) (v := _) rfl (by kernel_rfl) (by kernel_rfl) (by kernel_rfl) (fun _ _ _ h => h) (Or.inl ⟨by rfl, ?yy2_3⟩) (by assumption) ?rr2_3
          case yy2_3 => (intro w hSw; (try dsimp only at hSw); go_simp; try with_reducible rfl)
          (try simp only [Act.put, List.setIfInBounds_toArray, List.set_cons_zero, List.set_cons_succ])
          refine' wpAnyH_take (i := 3) (oi := { dst := some 29, op := Go.Op.load 26 (Go.Operand.tmp 6), type := 26, pos := "tree.go:103", after := #[], guard := none }) (v := _) rfl (by kernel_rfl) (by kernel_rfl) (by kernel_rfl) (fun _ _ _ h => h) (Or.inl ⟨by rfl, ?yy2_4⟩) (by assumption) ?rr2_4
          case yy2_4 => (intro w hSw; (try dsimp only at hSw); go_simp; try with_reducible rfl)
          (try simp only [Act.put, List.setIfInBounds_toArray, List.set_cons_zero, List.set_cons_succ])
          refine' wpAnyH_take (i := 4) (oi := { dst := some 30, op := Go.Op.move (Go.Operand.tmp 1), type := 3, pos := "tree.go:103", after := #[], guard := none }) (v := _) rfl (by kernel_rfl) (by kernel_rfl) (by kernel_rfl) (fun _ _ _ h => h) (Or.inl ⟨by rfl, ?yy2_5⟩) (by assumption) ?rr2_5
          case yy2_5 => (intro w hSw; (try dsimp only at hSw); go_simp; try with_reducible rfl)
          (try simp only [Act.put, List.setIfInBounds_toArray, List.set_cons_zero, List.set_cons_succ])
          refine' wpAnyH_take (i := 5) (oi := { dst := some 31, op := Go.Op.binOp Go.BinOp.sub 3 (Go.Operand.tmp 30) (Go.Operand.const (Go.Value.int Go.IntKind.i64 1)) 3, type := 3, pos := "tree.go:103", after := #[{ on := 4, ground := Go.Ground.data }], guard := none }) (v := _) rfl (by kernel_rfl) (by kernel_rfl) (by kernel_rfl) (fun _ _ _ h => h) (Or.inl ⟨by rfl, ?yy2_6⟩) (by assumption) ?rr2_6
          case yy2_6 => (intro w hSw; (try dsimp only at hSw); go_simp; try with_reducible rfl)
          (try simp only [Act.put, List.setIfInBounds_toArray, List.set_cons_zero, List.set_cons_succ])
          refine wpAnyH_ready (rs := [6]) (by kernel_rfl) (by simp) ?_
          refine AllReadyH.cons (o := { dst := some 32, op := Go.Op.call { callee := Go.Callee.value (Go.Operand.func 64), args := #[Go.Operand.tmp 29, Go.Operand.tmp 31], argTypes := #[26, 3] }, type := 26, pos := "tree.go:103", after := #[{ on := 3, ground := Go.Ground.data }, { on := 5, ground := Go.Ground.data }], guard := none }) rfl (fun K hK => ?_) AllReadyH.nil
          (go_simp; (go_at_call 64; refine (HI.out _ ?_).mono ?_; exact HBP.out.drew; rintro e w6 ⟨v6, rfl, hva, hb6, hb7⟩; obtain ⟨k6, b6, n6, s6, o6, m6, p6, o7, m7, p7, rfl⟩ := isV_six (isV_of_a _ _ hva); have hf6 := rowIs_grown HF1.out (grown_bel hb6) (by simp); obtain ⟨x1, x2, x3, x4, x5, x6, f', ⟨⟨_, q1⟩, q1', q1''⟩, ⟨⟨_, q2⟩, q2', q2''⟩, ⟨⟨_, q3⟩, q3', q3''⟩, ⟨⟨_, q4⟩, q4', q4''⟩, ⟨⟨_, q5⟩, q5', q5''⟩, ⟨⟨_, q6⟩, q6', q6''⟩, hf7, hg7, u0, u1, u2, u3, u4, u5, hold⟩ := store_six2 hf6 (j * 6) (by omega) (.int .i8 k6) (.bool b6) (.int .i64 n6) (.string s6) (.slice o6 m6 p6) (.slice o7 m7 p7) (by intro u hu; simp only [List.mem_cons, List.not_mem_nil, or_false] at hu; rcases hu with rfl | rfl | rfl | rfl | rfl | rfl <;> rfl); have HF7 := Lib.hid (And.intro hf7 (And.intro hg7 (And.intro u0 (And.intro u1 (And.intro u2 (And.intro u3 (And.intro u4 (And.intro u5 hold)))))))); have HVA := Lib.hid hva; have HB6 := Lib.hid hb6; have b4 : w6.cell? ⟨w.heap.size, 4, none⟩ = _ := cell_below hb7 _ _ (show W2.drew.cell? ⟨w.heap.size, 4, none⟩ = _ from b4); have c0 : w6.cell? ⟨wr.heap.size, 0, none⟩ = _ := cell_below hb7 _ _ (show W2.drew.cell? ⟨wr.heap.size, 0, none⟩ = _ from c0); have c1 : w6.cell? ⟨wr.heap.size, 1, none⟩ = _ := cell_below hb7 _ _ (show W2.drew.cell? ⟨wr.heap.size, 1, none⟩ = _ from c1); have c2 : w6.cell? ⟨wr.heap.size, 2, none⟩ = _ := cell_below hb7 _ _ (show W2.drew.cell? ⟨wr.heap.size, 2, none⟩ = _ from c2); have c3 : w6.cell? ⟨wr.heap.size, 3, none⟩ = _ := cell_below hb7 _ _ (show W2.drew.cell? ⟨wr.heap.size, 3, none⟩ = _ from c3); have c4 : w6.cell? ⟨wr.heap.size, 4, none⟩ = _ := cell_below hb7 _ _ (show W2.drew.cell? ⟨wr.heap.size, 4, none⟩ = _ from c4); have c5 : w6.cell? ⟨wr.heap.size, 5, none⟩ = _ := cell_below hb7 _ _ (show W2.drew.cell? ⟨wr.heap.size, 5, none⟩ = _ from c5); have b4x : x6.cell? ⟨w.heap.size, 4, none⟩ = _ := hg7.cell b4 (fun e => by have := Option.some.inj e; simp at this; omega); have c0x : x6.cell? ⟨wr.heap.size, 0, none⟩ = _ := hg7.cell c0 (fun e => by have := Option.some.inj e; simp at this; omega); have c1x : x6.cell? ⟨wr.heap.size, 1, none⟩ = _ := hg7.cell c1 (fun e => by have := Option.some.inj e; simp at this; omega); have c2x : x6.cell? ⟨wr.heap.size, 2, none⟩ = _ := hg7.cell c2 (fun e => by have := Option.some.inj e; simp at this; omega); have c3x : x6.cell? ⟨wr.heap.size, 3, none⟩ = _ := hg7.cell c3 (fun e => by have := Option.some.inj e; simp at this; omega); have c4x : x6.cell? ⟨wr.heap.size, 4, none⟩ = _ := hg7.cell c4 (fun e => by have := Option.some.inj e; simp at this; omega); have c5x : x6.cell? ⟨wr.heap.size, 5, none⟩ = _ := hg7.cell c5 (fun e => by have := Option.some.inj e; simp at this; omega); clear hf7 hg7 u0 u1 u2 u3 u4 u5 hold hva hb6 hf6 hb7))
          refine hK.out _ _ ?_ (fun hHeld => ?_)
          · (exact ⟨b4, c0, c1, c2, c3, c4, c5⟩)
          clear hK K
          (try simp only [Act.put, List.setIfInBounds_toArray, List.set_cons_zero, List.set_cons_succ])
          refine' wpAnyH_take (i := 7) (oi := { dst := some 33, op := Go.Op.indexAddr 23 (Go.Operand.tmp 27) (Go.Operand.tmp 28), type := 0, pos := "tree.go:103", after := #[{ on := 1, ground := Go.Ground.data }, { on := 2, ground := Go.Ground.data }, { on := 0, ground := Go.Ground.phase }, { on := 1, ground := Go.Ground.phase }, { on := 2, ground := Go.Ground.phase }, { on := 3, ground := Go.Ground.phase }, { on := 4, ground := Go.Ground.phase }, { on := 5, ground := Go.Ground.phase }, { on := 6, ground := Go.Ground.phase }], guard := none }) (v := _) rfl (by kernel_rfl) (by kernel_rfl) (by kernel_rfl) (fun _ _ _ h => h) (Or.inl ⟨by rfl, ?yy2_7⟩) (by assumption) ?rr2_7
          case yy2_7 => (intro w hSw; (try dsimp only at hSw); go_simp; try with_reducible rfl)
          (try simp only [Act.put, List.setIfInBounds_toArray, List.set_cons_zero, List.set_cons_succ])
          refine wpAnyH_ready (rs := [8]) (by kernel_rfl) (by simp) ?_
          refine AllReadyH.cons (o := { dst := none, op := Go.Op.store 26 (Go.Operand.tmp 33) (Go.Operand.tmp 32), type := 0, pos := "tree.go:103", after := #[{ on := 7, ground := Go.Ground.data }, { on := 6, ground := Go.Ground.data }, { on := 6, ground := Go.Ground.chain }, { on := 0, ground := Go.Ground.phase }, { on := 1, ground := Go.Ground.phase }, { on := 2, ground := Go.Ground.phase }, { on := 3, ground := Go.Ground.phase }, { on := 4, ground := Go.Ground.phase }, { on := 5, ground := Go.Ground.phase }, { on := 6, ground := Go.Ground.phase }], guard := none }) rfl (fun K hK => ?_) AllReadyH.nil
          go_simp
          refine hK.out _ _ ?_ (fun hHeld => ?_)
          · (exact ⟨b4x, c0x, c1x, c2x, c3x, c4x, c5x⟩)
          clear hK K
          (try simp only [Act.put, List.setIfInBounds_toArray, List.set_cons_zero, List.set_cons_succ])
          refine wpAnyH_done (by kernel_rfl) ?_ _
          go_wp2_with fail
          have hzr6 := HB6.out.size
          have hF6 : FB w #[.int .i8 kk, .bool b, .int .i64 n, .string s, .slice (some ⟨gL, 0, none⟩) l.length capL, .slice okk ks.length capK] #[.int .i8 0, .bool false, .int .i64 0, .string ⟨#[]⟩, .slice none 0 0, .slice none 0 0] x6 := (hF.out.1.grown (grown_bel HB6.out) (fun r e => by cases e)).grown HF7.out.2.1 (fun r e => by cases e; omega)
          have hLR6 : LC B y2.heap.size l gL capL (j + 1) x6 := fun _ => by
            obtain ⟨hf7, hg7, u0, u1, u2, u3, u4, u5, hold⟩ := HF7.out
            refine ⟨f', hf7, fun i hi => ?_⟩
            have hne : ∀ q, (B q ∨ y2.heap.size ≤ q) → some q ≠ some gL := fun q hq e => by
              have h1 := Option.some.inj e
              have h2 := HZY.out
              rcases hq with hq | hq
              · have := HBQ.out q hq; omega
              · omega
            by_cases e : i = j
            · subst e
              rw [u0, u1, u2, u3, u4, u5]
              exact isVa_grown hg7 (fun q hq => hne q (Or.imp id (·.2) hq)) (isVa_mono (fun q (hq : B q ∨ wr.heap.size ≤ q) => Or.imp id (fun h => ⟨by omega, Nat.le_trans hF.out.2 h⟩) hq) _ _ HVA.out)
            · rw [hold (i * 6) (by omega), hold (i * 6 + 1) (by omega), hold (i * 6 + 2) (by omega), hold (i * 6 + 3) (by omega), hold (i * 6 + 4) (by omega), hold (i * 6 + 5) (by omega)]
              exact isVa_grown hg7 (fun q hq => hne q (Or.imp id (·.2) hq)) (isVa_mono (fun q (hq : B q ∨ (i < j ∧ y2.heap.size ≤ q)) => Or.imp id (fun h => ⟨by omega, h.2⟩) hq) _ _ (isVa_keep (fun a c _ hc => cell_below HB6.out _ _ hc) _ _ (HF2.out i hi)))
          have hKR6 : KCo ks gK capK x6 := fun h0 => by
            obtain ⟨_, _, _, h4⟩ := HQ.out.2 h0
            exact ((hKR.out.grown (grown_bel HB6.out) (by simp)).grown HF7.out.2.1 (fun e => h4 (by omega) (Option.some.inj e))) h0
          have hsz6 : y2.heap.size ≤ x6.heap.size := by
            have h1 := hF.out.2
            have h2 := HF7.out.2.1.size
            omega
          have HF6 := Lib.hid (And.intro hF6 hsz6)
          have HLR6 := Lib.hid hLR6
          have HKR6 := Lib.hid hKR6
          clear hF6 hLR6 hKR6 hsz6 hzr6
          go_roundw
          case rel => exact ⟨j + 1, by omega, by go_num, HF6, HLR6, HKR6⟩
          case measure => simp [intOf]; omega
        · obtain rfl : j = l.length := by omega
          obtain ⟨b0, b1, b2, b3, b4, b5⟩ := six_cells hF.out.1.2.1
          have hn1 := hF.out.1.2.2
          obtain ⟨x1, x2, x3, x4, x5, x6, f', ⟨⟨_, t1⟩, t1', t1''⟩, ⟨⟨_, t2⟩, t2', t2''⟩, ⟨⟨_, t3⟩, t3', t3''⟩, ⟨⟨_, t4⟩, t4', t4''⟩, ⟨⟨_, t5⟩, t5', t5''⟩, ⟨⟨_, t6⟩, t6', t6''⟩, hf7, hg7, e0, e1, e2, e3, e4, e5, -⟩ := store_six (rowIs_six hn1) 0 (by decide) (.int .i8 kk) (.bool b) (.int .i64 n) (.string s) (.slice ol l.length capL) (.slice okk ks.length capK) (by intro u hu; simp only [List.mem_cons, List.not_mem_nil, or_false] at hu; rcases hu with rfl | rfl | rfl | rfl | rfl | rfl <;> rfl)
          simp only [Nat.zero_add] at t2 t2' t2'' t3 t3' t3'' t4 t4' t4'' t5 t5' t5'' t6 t6' t6'' e1 e2 e3 e4 e5
          have d0 := hf7.cell (show 0 < 6 by decide)
          have d1 := hf7.cell (show 1 < 6 by decide)
          have d2 := hf7.cell (show 2 < 6 by decide)
          have d3 := hf7.cell (show 3 < 6 by decide)
          have d4 := hf7.cell (show 4 < 6 by decide)
          have d5 := hf7.cell (show 5 < 6 by decide)
          rw [e0] at d0
          rw [e1] at d1
          rw [e2] at d2
          rw [e3] at d3
          rw [e4] at d4
          rw [e5] at d5
          have HD := Lib.hid (And.intro d0 (And.intro d1 (And.intro d2 (And.intro d3 (And.intro d4 d5)))))
          have hbel : Below w.heap.size w x6 := hF.out.1.1.grown hg7 hF.out.1.1.size (fun r e => by cases e; omega)
          have hLR6 : LC B y2.heap.size l gL capL l.length x6 := fun h0 => by
            obtain ⟨_, hg1, hg2⟩ := HQ.out.1 h0
            have h2 := HZY.out
            exact (hLR.out.grown hg7 (fun e => by have := Option.some.inj e; omega) (fun q hq e => by
              have h1 := Option.some.inj e
              rcases hq with hq | hq
              · have := HBQ.out q hq; omega
              · omega)) h0
          have hKR6 : KCo ks gK capK x6 := fun h0 => by
            obtain ⟨_, hg1, hg2, hg3⟩ := HQ.out.2 h0
            exact (hKR.out.grown hg7 (fun e => by have := Option.some.inj e; omega)) h0
          have HEND := Lib.hid (And.intro hbel (And.intro hLR6 hKR6))
          clear hbel hLR6 hKR6 hf7 hg7 hn1 e0 e1 e2 e3 e4 e5 d0 d1 d2 d3 d4 d5 hF hLR hKR
          go_wp2_with fail
          obtain ⟨d0, d1, d2, d3, d4, d5⟩ := HD.out
          refine bodyPost_ret (v := .agg #[.int .i8 kk, .bool b, .int .i64 n, .string s, .slice ol l.length capL, .slice okk ks.length capK]) (by simp [results, Tryd.results64, go_sem, d0, d1, d2, d3, d4, d5]) rfl ?_
          obtain ⟨hbel, hLR6, hKR6⟩ := HEND.out
          clear d0 d1 d2 d3 d4 d5
          have hZ := HZY.out
          have cm := HMX.out
          have hlist : isVas x6 (fun q => B q ∨ w.heap.size ≤ q) l ⟨gL, 0, none⟩ := by
            rcases Nat.eq_zero_or_pos l.length with h0 | h0
            · rw [List.length_eq_zero_iff.1 h0]; unfold isVas; trivial
            · obtain ⟨f, hf1, hf2⟩ := hLR6 h0
              refine isVas_mk l _ (fun i h => ⟨_, _, _, _, _, _, ?_, ?_, ?_, ?_, ?_, ?_, isVa_mono (fun q (hq : B q ∨ (i < l.length ∧ y2.heap.size ≤ q)) => Or.imp id (fun h => Nat.le_trans hZ h.2) hq) _ _ (hf2 i h)⟩)
              all_goals rw [add_offs]; exact hf1.cell (by omega)
          have hkeys : isKa x6 (fun q => B q ∨ w.heap.size ≤ q) ks (.slice okk ks.length capK) := by
            refine ⟨⟨gK, 0, none⟩, capK, ⟨okk, rfl, cm.2.2.1, cm.2.2.2, fun h => (HQ.out.2 h).1⟩, fun h => .inr ?_, fun i hi => ?_⟩
            · have := (HQ.out.2 h).2.1
              show w.heap.size ≤ gK
              omega
            · obtain ⟨f, hf1, hf2⟩ := hKR6 (by omega)
              rw [add_offs, hf1.cell (show i < capK by omega), hf2 i hi]
              exact ⟨rfl, HKS.out i hi⟩
          refine ⟨_, rfl, ?_, hbel⟩
          unfold isVa
          obtain ⟨h1, h2, h3⟩ := HMK.out
          refine ⟨_, _, rfl, h1, h2, h3, ⟨⟨gL, 0, none⟩, capL, ⟨ol, rfl, cm.1, cm.2.1, fun h => (HQ.out.1 h).1⟩, fun h => .inr ?_, hlist⟩, hkeys⟩
          have := (HQ.out.1 h).2.1
          show w.heap.size ≤ gL
          omega
    ·
      have hb14 : Below W1.heap.size W1 w4 := (below_drew_of hb3).trans (hb4.mono (below_drew_of hb3).size)
      have bR4 := (hb14.block (w.heap.size + 1) (by omega)).trans bR
      have hz3 : W1.heap.size ≤ w3.heap.size := (below_drew_of hb3).size
      have hz4 := hb4.size
      have hB4 : KB w w4 := hB0.trans (hb14.mono hB0.size)
      have hzy := hgy.size
      have hFB : FB w #[.int .i8 kk, .bool b, .int .i64 n, .string s, .slice ol l.length capL, .slice okk ks.length capK] #[.int .i8 0, .bool false, .int .i64 0, .string ⟨#[]⟩, .slice none 0 0, .slice none 0 0] y2 := ⟨hB4.grown hgy hB4.size (fun r e => by cases e; exact Nat.le_refl _), hy2, (hgy.block _ (Array.getElem?_eq_some_iff.1 bR4).1 (fun e => by have := Option.some.inj e; omega)).trans bR4⟩
      have hLC : LC B y2.heap.size l gL capL 0 y2 := fun h0 => by
        obtain ⟨_, hg1, hg2, f, h4, h5⟩ := hL h0
        have hg1' : W1.heap.size ≤ gL := hg1
        refine ⟨f, rowIs_grown (rowIs_grown h4 (grown_bel hb4) (by simp)) hgy (fun e => by have := Option.some.inj e; omega), fun i hi => ?_⟩
        exact isVa_mono (fun q hq => .inl hq) _ _ (isVa_grown hgy (fun q hq e => by have := HBQ.out q hq; have := Option.some.inj e; omega) (isVa_keep (fun a c _ hc => cell_below hB4 _ _ hc) _ _ (ROW.out f h5 i hi)))
      have hKC : KCo ks gK capK y2 := fun h0 => by
        obtain ⟨_, hg1, hg2, f, h4, h5⟩ := hK h0
        rw [Nat.mul_one] at h4
        refine ⟨f, rowIs_grown h4 hgy (fun e => by have := Option.some.inj e; omega), fun i hi => ?_⟩
        exact h5 i (.string ks[i]) (by rw [List.getElem?_map, List.getElem?_eq_getElem hi]; rfl)
      have HQ : Hid ((0 < l.length → ol = some ⟨gL, 0, none⟩ ∧ w.heap.size + 1 < gL ∧ gL < y2.heap.size) ∧ (0 < ks.length → okk = some ⟨gK, 0, none⟩ ∧ w.heap.size + 1 < gK ∧ gK < y2.heap.size ∧ (0 < l.length → gK ≠ gL))) := Lib.hid ⟨fun h0 => by
        obtain ⟨h1, h2, h3, _⟩ := hL h0
        have h2' : W1.heap.size ≤ gL := h2
        exact ⟨h1, by omega, by omega⟩, fun h0 => by
        obtain ⟨h1, h2, h3, _⟩ := hK h0
        refine ⟨h1, by omega, by omega, fun h0' => ?_⟩
        obtain ⟨_, _, h3', _⟩ := hL h0'
        omega⟩
      have HFB := Lib.hid hFB
      have HLC := Lib.hid hLC
      have HKC := Lib.hid hKC
      have HZY : Hid (w.heap.size ≤ y2.heap.size) := Lib.hid (by omega)
      have HMX := Lib.hid (And.intro cl1 (And.intro cl2 (And.intro cq1 cq2)))
      unfold maxLen at cl2 cq2
      obtain ⟨m0, m1, m2, m3, m4, m5⟩ := six_cells hy2
      clear hb14 bR4 hB4 hFB hLC hKC hL hK hol hok4 hb3 hb4 bX bR bX4 hgy hy2 CL CK ROW q1 q1' q1'' q2 q2' q2'' r0 r1 r2 r3 r4 r5 hz3 hz4 hzy hsz hB0
      go_wp2_with fail
      go_loopw [21] (fun i wr => ∃ j : Nat, j ≤ l.length ∧ i = .int .i64 j ∧ Hid (FB w #[.int .i8 kk, .bool b, .int .i64 n, .string s, .slice ol l.length capL, .slice okk ks.length capK] #[.int .i8 0, .bool false, .int .i64 0, .string ⟨#[]⟩, .slice none 0 0, .slice none 0 0] wr ∧ y2.heap.size ≤ wr.heap.size) ∧ Hid (LC B y2.heap.size l gL capL j wr) ∧ Hid (KCo ks gK capK wr)) (fun i _ => l.length - (intOf i).toNat)
      case atStart => exact ⟨0, by omega, rfl, Lib.hid ⟨HFB.out, Nat.le_refl _⟩, HLC, HKC⟩
      case round =>
        obtain ⟨j, hj, rfl, hF, hLR, hKR⟩ := hrel
        by_cases hlt : j < l.length
        · obtain ⟨rfl, hg1, hg2⟩ := HQ.out.1 (by omega)
          obtain ⟨f, hf1, hf2⟩ := hLR.out (by omega)
          have e0 := hf1.cell (show j * 6 < capL * 6 by omega)
          have e1 := hf1.cell (show j * 6 + 1 < capL * 6 by omega)
          have e2 := hf1.cell (show j * 6 + 2 < capL * 6 by omega)
          have e3 := hf1.cell (show j * 6 + 3 < capL * 6 by omega)
          have e4 := hf1.cell (show j * 6 + 4 < capL * 6 by omega)
          have e5 := hf1.cell (show j * 6 + 5 < capL * 6 by omega)
          have hxe := isVa_mono (B' := B) (fun q hq => hq.elim id (fun h => absurd h.1 (by omega))) _ _ (hf2 j hlt)
          obtain ⟨k', b', n', s', o1, m1', p1, o3, m3', p3, hag⟩ := isV_six (isV_of_a _ _ hxe)
          rw [hag] at hxe
          simp only [Value.agg.injEq, Array.mk.injEq, List.cons.injEq, and_true] at hag
          obtain ⟨a0, a1, a2', a3, a4, a5⟩ := hag
          rw [a0] at e0
          rw [a1] at e1
          rw [a2'] at e2
          rw [a3] at e3
          rw [a4] at e4
          rw [a5] at e5
          have HI : Hid (∀ w1, KB wr w1 → Calls Tryd.prog 64 #[.agg #[.int .i8 k', .bool b', .int .i64 n', .string s', .slice o1 m1' p1, .slice o3 m3' p3], .int .i64 lv] w1 fun e w' => ∃ v', e = .returned v' ∧ isVa w' (fun q => B q ∨ wr.heap.size ≤ q) l[j] v' ∧ KB wr w' ∧ KB w1 w') := Lib.hid fun w1 hK => (pcopied_any N l[j] _ w1 B lv (by have := sizeVs_get l j hlt; rw [sizeV] at hN; omega) (by omega) (by omega) (fun z hz => HF0.out z (walk_part (List.getElem_mem hlt) rfl z hz)) (isVa_keep (fun q c _ hc => cell_below hK _ _ hc) _ _ hxe) (fun q hq => by have h1 := HBQ.out q hq; have h2 := hF.out.1.1.size; have h3 := hK.size; omega)).mono fun e w' ⟨v', he, hv, hb⟩ => ⟨v', he, isVa_mono (fun q (hq : B q ∨ w1.heap.size ≤ q) => Or.imp id (fun h => Nat.le_trans hK.size h) hq) _ _ hv, hK.trans (hb.mono hK.size), hb⟩
          obtain ⟨b0, b1, b2, b3, b4, b5⟩ := six_cells hF.out.1.2.1
          have hzr : w.heap.size + 1 < wr.heap.size := (Array.getElem?_eq_some_iff.1 hF.out.1.2.2).1
          have hzl : gL < wr.heap.size := hf1.lt
          have hbp : KB wr (wr.alloc (.cells #[.int .i8 k', .bool b', .int .i64 n', .string s', .slice o1 m1' p1, .slice o3 m3' p3] 26)) := kbA
          have HF2 := Lib.hid hf2
          have HF1 := Lib.hid hf1
          have HBP := Lib.hid hbp
          clear hxe a0 a1 a2' a3 a4 a5 hf2 hf1 hbp
          go_wp2_with fail
          have hzr0 : w.heap.size < wr.heap.size := by omega
          obtain ⟨c0, c1, c2, c3, c4, c5⟩ := six_cells (World.alloc_heap_new wr (.cells #[.int .i8 k', .bool b', .int .i64 n', .string s', .slice o1 m1' p1, .slice o3 m3' p3] 26))
          have b4 := cell_below HBP.out _ _ b4
          clear b0 b1 b2 b3 b5 e0 e1 e2 e3 e4 e5
          generalize hW2 : wr.alloc (.cells #[.int .i8 k', .bool b', .int .i64 n', .string s', .slice o1 m1' p1, .slice o3 m3' p3] 26) = W2 at *
          clear hW2
          refine wp_region_held_drew (S := fun w' => w'.cell? ⟨w.heap.size, 4, none⟩ = some (.slice (some ⟨gL, 0, none⟩) l.length capL) ∧ w'.cell? ⟨wr.heap.size, 0, none⟩ = some (.int .i8 k') ∧ w'.cell? ⟨wr.heap.size, 1, none⟩ = some (.bool b') ∧ w'.cell? ⟨wr.heap.size, 2, none⟩ = some (.int .i64 n') ∧ w'.cell? ⟨wr.heap.size, 3, none⟩ = some (.string s') ∧ w'.cell? ⟨wr.heap.size, 4, none⟩ = some (.slice o1 m1' p1) ∧ w'.cell? ⟨wr.heap.size, 5, none⟩ = some (.slice o3 m3' p3)) (by kernel_rfl) ?_ (fun hHeld => ?_)
          · (exact ⟨b4, c0, c1, c2, c3, c4, c5⟩)
          refine' wpAnyH_take (i := 0) (oi := { dst := some 26, op := Go.Op.fieldAddr 26 (Go.Operand.tmp 2) 4, type := 0, pos := "tree.go:103", after := #[], guard := none }) (v := _) rfl (by kernel_rfl) (by kernel_rfl) (by kernel_rfl) (fun _ _ _ h => h) (Or.inl ⟨by rfl, ?yy3_1⟩) (by assumption) ?rr3_1
          case yy3_1 => (intro w hSw; (try dsimp only at hSw); go_simp; try with_reducible rfl)
          (try simp only [Act.put, List.setIfInBounds_toArray, List.set_cons_zero, List.set_cons_succ])
          refine' wpAnyH_take (i := 1) (oi := { dst := some 27, op := Go.Op.load 23 (Go.Operand.tmp 26), type := 23, pos := "tree.go:103", after := #[{ on := 0, ground := Go.Ground.data }], guard := none }) (v := _) rfl (by kernel_rfl) (by kernel_rfl) (by kernel_rfl) (fun _ _ _ h => h) (Or.inl ⟨by rfl, ?yy3_2⟩) (by assumption) ?rr3_2
          case yy3_2 => (intro w hSw; (try dsimp only at hSw); go_simp; try with_reducible rfl)
          (try simp only [Act.put, List.setIfInBounds_toArray, List.set_cons_zero, List.set_cons_succ])
          refine' wpAnyH_take (i := 2) (oi := { dst := some 28, op := Go.Op.move (Go.Operand.tmp 5), type := 3, pos := "tree.go:103", after := #[], guard := none }) (v := _) rfl (by kernel_rfl) (by kernel_rfl) (by kernel_rfl) (fun _ _ _ h => h) (Or.inl ⟨by rfl, ?yy3_3⟩) (by assumption) ?rr3_3
          case yy3_3 => (intro w hSw; (try dsimp only at hSw); go_simp; try with_reducible rfl)
          (try simp only [Act.put, List.setIfInBounds_toArray, List.set_cons_zero, List.set_cons_succ])
          refine' wpAnyH_take (i := 3) (oi := { dst := some 29, op := Go.Op.load 26 (Go.Operand.tmp 6), type := 26, pos := "tree.go:103", after := #[], guard := none }) (v := _) rfl (by kernel_rfl) (by kernel_rfl) (by kernel_rfl) (fun _ _ _ h => h) (Or.inl ⟨by rfl, ?yy3_4⟩) (by assumption) ?rr3_4
          case yy3_4 => (intro w hSw; (try dsimp only at hSw); go_simp; try with_reducible rfl)
          (try simp only [Act.put, List.setIfInBounds_toArray, List.set_cons_zero, List.set_cons_succ])
          refine' wpAnyH_take (i := 4) (oi := { dst := some 30, op := Go.Op.move (Go.Operand.tmp 1), type := 3, pos := "tree.go:103", after := #[], guard := none }) (v := _) rfl (by kernel_rfl) (by kernel_rfl) (by kernel_rfl) (fun _ _ _ h => h) (Or.inl ⟨by rfl, ?yy3_5⟩) (by assumption) ?rr3_5
          case yy3_5 => (intro w hSw; (try dsimp only at hSw); go_simp; try with_reducible rfl)
          (try simp only [Act.put, List.setIfInBounds_toArray, List.set_cons_zero, List.set_cons_succ])
          refine' wpAnyH_take (i := 5) (oi := { dst := some 31, op := Go.Op.binOp Go.BinOp.sub 3 (Go.Operand.tmp 30) (Go.Operand.const (Go.Value.int Go.IntKind.i64 1)) 3, type := 3, pos := "tree.go:103", after := #[{ on := 4, ground := Go.Ground.data }], guard := none }) (v := _) rfl (by kernel_rfl) (by kernel_rfl) (by kernel_rfl) (fun _ _ _ h => h) (Or.inl ⟨by rfl, ?yy3_6⟩) (by assumption) ?rr3_6
          case yy3_6 => (intro w hSw; (try dsimp only at hSw); go_simp; try with_reducible rfl)
          (try simp only [Act.put, List.setIfInBounds_toArray, List.set_cons_zero, List.set_cons_succ])
          refine wpAnyH_ready (rs := [6]) (by kernel_rfl) (by simp) ?_
          refine AllReadyH.cons (o := { dst := some 32, op := Go.Op.call { callee := Go.Callee.value (Go.Operand.func 64), args := #[Go.Operand.tmp 29, Go.Operand.tmp 31], argTypes := #[26, 3] }, type := 26, pos := "tree.go:103", after := #[{ on := 3, ground := Go.Ground.data }, { on := 5, ground := Go.Ground.data }], guard := none }) rfl (fun K hK => ?_) AllReadyH.nil
          (go_simp; (go_at_call 64; refine (HI.out _ ?_).mono ?_; exact HBP.out.drew; rintro e w6 ⟨v6, rfl, hva, hb6, hb7⟩; obtain ⟨k6, b6, n6, s6, o6, m6, p6, o7, m7, p7, rfl⟩ := isV_six (isV_of_a _ _ hva); have hf6 := rowIs_grown HF1.out (grown_bel hb6) (by simp); obtain ⟨x1, x2, x3, x4, x5, x6, f', ⟨⟨_, q1⟩, q1', q1''⟩, ⟨⟨_, q2⟩, q2', q2''⟩, ⟨⟨_, q3⟩, q3', q3''⟩, ⟨⟨_, q4⟩, q4', q4''⟩, ⟨⟨_, q5⟩, q5', q5''⟩, ⟨⟨_, q6⟩, q6', q6''⟩, hf7, hg7, u0, u1, u2, u3, u4, u5, hold⟩ := store_six2 hf6 (j * 6) (by omega) (.int .i8 k6) (.bool b6) (.int .i64 n6) (.string s6) (.slice o6 m6 p6) (.slice o7 m7 p7) (by intro u hu; simp only [List.mem_cons, List.not_mem_nil, or_false] at hu; rcases hu with rfl | rfl | rfl | rfl | rfl | rfl <;> rfl); have HF7 := Lib.hid (And.intro hf7 (And.intro hg7 (And.intro u0 (And.intro u1 (And.intro u2 (And.intro u3 (And.intro u4 (And.intro u5 hold)))))))); have HVA := Lib.hid hva; have HB6 := Lib.hid hb6; have b4 : w6.cell? ⟨w.heap.size, 4, none⟩ = _ := cell_below hb7 _ _ (show W2.drew.cell? ⟨w.heap.size, 4, none⟩ = _ from b4); have c0 : w6.cell? ⟨wr.heap.size, 0, none⟩ = _ := cell_below hb7 _ _ (show W2.drew.cell? ⟨wr.heap.size, 0, none⟩ = _ from c0); have c1 : w6.cell? ⟨wr.heap.size, 1, none⟩ = _ := cell_below hb7 _ _ (show W2.drew.cell? ⟨wr.heap.size, 1, none⟩ = _ from c1); have c2 : w6.cell? ⟨wr.heap.size, 2, none⟩ = _ := cell_below hb7 _ _ (show W2.drew.cell? ⟨wr.heap.size, 2, none⟩ = _ from c2); have c3 : w6.cell? ⟨wr.heap.size, 3, none⟩ = _ := cell_below hb7 _ _ (show W2.drew.cell? ⟨wr.heap.size, 3, none⟩ = _ from c3); have c4 : w6.cell? ⟨wr.heap.size, 4, none⟩ = _ := cell_below hb7 _ _ (show W2.drew.cell? ⟨wr.heap.size, 4, none⟩ = _ from c4); have c5 : w6.cell? ⟨wr.heap.size, 5, none⟩ = _ := cell_below hb7 _ _ (show W2.drew.cell? ⟨wr.heap.size, 5, none⟩ = _ from c5); have b4x : x6.cell? ⟨w.heap.size, 4, none⟩ = _ := hg7.cell b4 (fun e => by have := Option.some.inj e; simp at this; omega); have c0x : x6.cell? ⟨wr.heap.size, 0, none⟩ = _ := hg7.cell c0 (fun e => by have := Option.some.inj e; simp at this; omega); have c1x : x6.cell? ⟨wr.heap.size, 1, none⟩ = _ := hg7.cell c1 (fun e => by have := Option.some.inj e; simp at this; omega); have c2x : x6.cell? ⟨wr.heap.size, 2, none⟩ = _ := hg7.cell c2 (fun e => by have := Option.some.inj e; simp at this; omega); have c3x : x6.cell? ⟨wr.heap.size, 3, none⟩ = _ := hg7.cell c3 (fun e => by have := Option.some.inj e; simp at this; omega); have c4x : x6.cell? ⟨wr.heap.size, 4, none⟩ = _ := hg7.cell c4 (fun e => by have := Option.some.inj e; simp at this; omega); have c5x : x6.cell? ⟨wr.heap.size, 5, none⟩ = _ := hg7.cell c5 (fun e => by have := Option.some.inj e; simp at this; omega); clear hf7 hg7 u0 u1 u2 u3 u4 u5 hold hva hb6 hf6 hb7))
          refine hK.out _ _ ?_ (fun hHeld => ?_)
          · (exact ⟨b4, c0, c1, c2, c3, c4, c5⟩)
          clear hK K
          (try simp only [Act.put, List.setIfInBounds_toArray, List.set_cons_zero, List.set_cons_succ])
          refine' wpAnyH_take (i := 7) (oi := { dst := some 33, op := Go.Op.indexAddr 23 (Go.Operand.tmp 27) (Go.Operand.tmp 28), type := 0, pos := "tree.go:103", after := #[{ on := 1, ground := Go.Ground.data }, { on := 2, ground := Go.Ground.data }, { on := 0, ground := Go.Ground.phase }, { on := 1, ground := Go.Ground.phase }, { on := 2, ground := Go.Ground.phase }, { on := 3, ground := Go.Ground.phase }, { on := 4, ground := Go.Ground.phase }, { on := 5, ground := Go.Ground.phase }, { on := 6, ground := Go.Ground.phase }], guard := none }) (v := _) rfl (by kernel_rfl) (by kernel_rfl) (by kernel_rfl) (fun _ _ _ h => h) (Or.inl ⟨by rfl, ?yy3_7⟩) (by assumption) ?rr3_7
          case yy3_7 => (intro w hSw; (try dsimp only at hSw); go_simp; try with_reducible rfl)
          (try simp only [Act.put, List.setIfInBounds_toArray, List.set_cons_zero, List.set_cons_succ])
          refine wpAnyH_ready (rs := [8]) (by kernel_rfl) (by simp) ?_
          refine AllReadyH.cons (o := { dst := none, op := Go.Op.store 26 (Go.Operand.tmp 33) (Go.Operand.tmp 32), type := 0, pos := "tree.go:103", after := #[{ on := 7, ground := Go.Ground.data }, { on := 6, ground := Go.Ground.data }, { on := 6, ground := Go.Ground.chain }, { on := 0, ground := Go.Ground.phase }, { on := 1, ground := Go.Ground.phase }, { on := 2, ground := Go.Ground.phase }, { on := 3, ground := Go.Ground.phase }, { on := 4, ground := Go.Ground.phase }, { on := 5, ground := Go.Ground.phase }, { on := 6, ground := Go.Ground.phase }], guard := none }) rfl (fun K hK => ?_) AllReadyH.nil
          go_simp
          refine hK.out _ _ ?_ (fun hHeld => ?_)
          · (exact ⟨b4x, c0x, c1x, c2x, c3x, c4x, c5x⟩)
          clear hK K
          (try simp only [Act.put, List.setIfInBounds_toArray, List.set_cons_zero, List.set_cons_succ])
          refine wpAnyH_done (by kernel_rfl) ?_ _
          go_wp2_with fail
          have hzr6 := HB6.out.size
          have hF6 : FB w #[.int .i8 kk, .bool b, .int .i64 n, .string s, .slice (some ⟨gL, 0, none⟩) l.length capL, .slice okk ks.length capK] #[.int .i8 0, .bool false, .int .i64 0, .string ⟨#[]⟩, .slice none 0 0, .slice none 0 0] x6 := (hF.out.1.grown (grown_bel HB6.out) (fun r e => by cases e)).grown HF7.out.2.1 (fun r e => by cases e; omega)
          have hLR6 : LC B y2.heap.size l gL capL (j + 1) x6 := fun _ => by
            obtain ⟨hf7, hg7, u0, u1, u2, u3, u4, u5, hold⟩ := HF7.out
            refine ⟨f', hf7, fun i hi => ?_⟩
            have hne : ∀ q, (B q ∨ y2.heap.size ≤ q) → some q ≠ some gL := fun q hq e => by
              have h1 := Option.some.inj e
              have h2 := HZY.out
              rcases hq with hq | hq
              · have := HBQ.out q hq; omega
              · omega
            by_cases e : i = j
            · subst e
              rw [u0, u1, u2, u3, u4, u5]
              exact isVa_grown hg7 (fun q hq => hne q (Or.imp id (·.2) hq)) (isVa_mono (fun q (hq : B q ∨ wr.heap.size ≤ q) => Or.imp id (fun h => ⟨by omega, Nat.le_trans hF.out.2 h⟩) hq) _ _ HVA.out)
            · rw [hold (i * 6) (by omega), hold (i * 6 + 1) (by omega), hold (i * 6 + 2) (by omega), hold (i * 6 + 3) (by omega), hold (i * 6 + 4) (by omega), hold (i * 6 + 5) (by omega)]
              exact isVa_grown hg7 (fun q hq => hne q (Or.imp id (·.2) hq)) (isVa_mono (fun q (hq : B q ∨ (i < j ∧ y2.heap.size ≤ q)) => Or.imp id (fun h => ⟨by omega, h.2⟩) hq) _ _ (isVa_keep (fun a c _ hc => cell_below HB6.out _ _ hc) _ _ (HF2.out i hi)))
          have hKR6 : KCo ks gK capK x6 := fun h0 => by
            obtain ⟨_, _, _, h4⟩ := HQ.out.2 h0
            exact ((hKR.out.grown (grown_bel HB6.out) (by simp)).grown HF7.out.2.1 (fun e => h4 (by omega) (Option.some.inj e))) h0
          have hsz6 : y2.heap.size ≤ x6.heap.size := by
            have h1 := hF.out.2
            have h2 := HF7.out.2.1.size
            omega
          have HF6 := Lib.hid (And.intro hF6 hsz6)
          have HLR6 := Lib.hid hLR6
          have HKR6 := Lib.hid hKR6
          clear hF6 hLR6 hKR6 hsz6 hzr6
          go_roundw
          case rel => exact ⟨j + 1, by omega, by go_num, HF6, HLR6, HKR6⟩
          case measure => simp [intOf]; omega
        · obtain rfl : j = l.length := by omega
          obtain ⟨b0, b1, b2, b3, b4, b5⟩ := six_cells hF.out.1.2.1
          have hn1 := hF.out.1.2.2
          obtain ⟨x1, x2, x3, x4, x5, x6, f', ⟨⟨_, t1⟩, t1', t1''⟩, ⟨⟨_, t2⟩, t2', t2''⟩, ⟨⟨_, t3⟩, t3', t3''⟩, ⟨⟨_, t4⟩, t4', t4''⟩, ⟨⟨_, t5⟩, t5', t5''⟩, ⟨⟨_, t6⟩, t6', t6''⟩, hf7, hg7, e0, e1, e2, e3, e4, e5, -⟩ := store_six (rowIs_six hn1) 0 (by decide) (.int .i8 kk) (.bool b) (.int .i64 n) (.string s) (.slice ol l.length capL) (.slice okk ks.length capK) (by intro u hu; simp only [List.mem_cons, List.not_mem_nil, or_false] at hu; rcases hu with rfl | rfl | rfl | rfl | rfl | rfl <;> rfl)
          simp only [Nat.zero_add] at t2 t2' t2'' t3 t3' t3'' t4 t4' t4'' t5 t5' t5'' t6 t6' t6'' e1 e2 e3 e4 e5
          have d0 := hf7.cell (show 0 < 6 by decide)
          have d1 := hf7.cell (show 1 < 6 by decide)
          have d2 := hf7.cell (show 2 < 6 by decide)
          have d3 := hf7.cell (show 3 < 6 by decide)
          have d4 := hf7.cell (show 4 < 6 by decide)
          have d5 := hf7.cell (show 5 < 6 by decide)
          rw [e0] at d0
          rw [e1] at d1
          rw [e2] at d2
          rw [e3] at d3
          rw [e4] at d4
          rw [e5] at d5
          have HD := Lib.hid (And.intro d0 (And.intro d1 (And.intro d2 (And.intro d3 (And.intro d4 d5)))))
          have hbel : Below w.heap.size w x6 := hF.out.1.1.grown hg7 hF.out.1.1.size (fun r e => by cases e; omega)
          have hLR6 : LC B y2.heap.size l gL capL l.length x6 := fun h0 => by
            obtain ⟨_, hg1, hg2⟩ := HQ.out.1 h0
            have h2 := HZY.out
            exact (hLR.out.grown hg7 (fun e => by have := Option.some.inj e; omega) (fun q hq e => by
              have h1 := Option.some.inj e
              rcases hq with hq | hq
              · have := HBQ.out q hq; omega
              · omega)) h0
          have hKR6 : KCo ks gK capK x6 := fun h0 => by
            obtain ⟨_, hg1, hg2, hg3⟩ := HQ.out.2 h0
            exact (hKR.out.grown hg7 (fun e => by have := Option.some.inj e; omega)) h0
          have HEND := Lib.hid (And.intro hbel (And.intro hLR6 hKR6))
          clear hbel hLR6 hKR6 hf7 hg7 hn1 e0 e1 e2 e3 e4 e5 d0 d1 d2 d3 d4 d5 hF hLR hKR
          go_wp2_with fail
          obtain ⟨d0, d1, d2, d3, d4, d5⟩ := HD.out
          refine bodyPost_ret (v := .agg #[.int .i8 kk, .bool b, .int .i64 n, .string s, .slice ol l.length capL, .slice okk ks.length capK]) (by simp [results, Tryd.results64, go_sem, d0, d1, d2, d3, d4, d5]) rfl ?_
          obtain ⟨hbel, hLR6, hKR6⟩ := HEND.out
          clear d0 d1 d2 d3 d4 d5
          have hZ := HZY.out
          have cm := HMX.out
          have hlist : isVas x6 (fun q => B q ∨ w.heap.size ≤ q) l ⟨gL, 0, none⟩ := by
            rcases Nat.eq_zero_or_pos l.length with h0 | h0
            · rw [List.length_eq_zero_iff.1 h0]; unfold isVas; trivial
            · obtain ⟨f, hf1, hf2⟩ := hLR6 h0
              refine isVas_mk l _ (fun i h => ⟨_, _, _, _, _, _, ?_, ?_, ?_, ?_, ?_, ?_, isVa_mono (fun q (hq : B q ∨ (i < l.length ∧ y2.heap.size ≤ q)) => Or.imp id (fun h => Nat.le_trans hZ h.2) hq) _ _ (hf2 i h)⟩)
              all_goals rw [add_offs]; exact hf1.cell (by omega)
          have hkeys : isKa x6 (fun q => B q ∨ w.heap.size ≤ q) ks (.slice okk ks.length capK) := by
            refine ⟨⟨gK, 0, none⟩, capK, ⟨okk, rfl, cm.2.2.1, cm.2.2.2, fun h => (HQ.out.2 h).1⟩, fun h => .inr ?_, fun i hi => ?_⟩
            · have := (HQ.out.2 h).2.1
              show w.heap.size ≤ gK
              omega
            · obtain ⟨f, hf1, hf2⟩ := hKR6 (by omega)
              rw [add_offs, hf1.cell (show i < capK by omega), hf2 i hi]
              exact ⟨rfl, HKS.out i hi⟩
          refine ⟨_, rfl, ?_, hbel⟩
          unfold isVa
          obtain ⟨h1, h2, h3⟩ := HMK.out
          refine ⟨_, _, rfl, h1, h2, h3, ⟨⟨gL, 0, none⟩, capL, ⟨ol, rfl, cm.1, cm.2.1, fun h => (HQ.out.1 h).1⟩, fun h => .inr ?_, hlist⟩, hkeys⟩
          have := (HQ.out.1 h).2.1
          show w.heap.size ≤ gL
          omega
end Go.Proofs.YtdbfpojgaalfmaaDoor
