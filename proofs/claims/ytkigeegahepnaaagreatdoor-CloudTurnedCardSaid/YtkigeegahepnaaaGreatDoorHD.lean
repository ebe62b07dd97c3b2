/-
  The cloud's Ask; its Calls. · The cloud's Calls. · The calls of no cloud; the small ones of a cloud. · Clouds in memory, by what they are.
-/
import Derived.Test.YtkigeegahepnaaaGreatDoorHC
import Derived.Test.YtkigeegahepnaaaGreatDoorGV
import Derived.Deep.RegionLaw
import Derived.Deep.RegionWith
import Derived.Deep.RegionHeld3
import Derived.Deep.Cut
import Derived.Deep.CutBlock
import Derived.Deep.CutRange
import Derived.Deep.DeepCutAuto
import Derived.Test.YtkigeegahepnaaaGreatDoorHA
import Derived.Test.YtkigeegahepnaaaGreatDoorGW
import Derived.Test.YtkigeegahepnaaaGreatDoorHB
set_option linter.unusedVariables false
set_option linter.unusedSimpArgs false
namespace Go.Proofs.YtkigeegahepnaaaGreatDoor
open Go.RowKit Go.Maps Go.Deep

set_option maxRecDepth 100000 in
set_option maxHeartbeats 8000000 in
theorem ask_any (z : Int) (w : World) {N b : Nat} {s : St} {L : List (Cl × An)} {tk fl : List Int} {lv mv tv fv : Value} (h : isC w N b s L tk fl lv mv tv fv) (hz : okZ z) :
    Calls Tryz.prog 18 #[.pointer (some ⟨b, 0, none⟩), .int .i64 z] w fun e w' => e = .returned (.tuple #[.agg #[.bool (askC ⟨s, L, fl⟩ z).1.en, .bool (askC ⟨s, L, fl⟩ z).1.ok, .string (askC ⟨s, L, fl⟩ z).1.ph], .bool (askC ⟨s, L, fl⟩ z).2]) ∧ Below w.heap.size w w' := by
  obtain ⟨u, hlk, hto⟩ := h.mp.look hz
  obtain ⟨ou, cu, rfl, -⟩ := isTo_form hto
  obtain ⟨mo, rfl⟩ : ∃ mo, mv = .map mo := by obtain ⟨_, _, _, _, _, _, m, -, -, -, e⟩ := h.forms; exact ⟨m, e⟩
  have e1 : (askC ⟨s, L, fl⟩ z).1 = ((findC L z).getD (zCl, zAn)).2 := by
    unfold askC
    dsimp only
    cases findC L z <;> rfl
  have e2 : (askC ⟨s, L, fl⟩ z).2 = (findC L z).isSome := by
    unfold askC
    dsimp only
    cases findC L z <;> rfl
  rw [e1, e2]
  have lk := hlk (w.alloc (.cells #[.bool false, .bool false, .string ⟨#[]⟩] 38)) true (fun m e => Below.block (kbA (w := w) (o := .cells #[.bool false, .bool false, .string ⟨#[]⟩] 38)) _ (h.lt m (.inr (.inl e))))
  obtain ⟨-, -, b2, -, -⟩ := five_cells ((Below.block (kbA (w := w) (o := .cells #[.bool false, .bool false, .string ⟨#[]⟩] 38)) b h.bl).trans h.box)
  generalize (findC L z).getD (zCl, zAn) = pp at *
  generalize (findC L z).isSome = ok at *
  clear h hlk hto e1 e2
  go_enter Tryz.func18, Tryz.ntmps18
  go_wp2_with fail
  refine bodyPost_ret (v := .tuple #[.agg #[.bool pp.2.en, .bool pp.2.ok, .string pp.2.ph], .bool ok]) (by simp [results, Tryz.results18, go_sem]) rfl ?_
  exact ⟨rfl, by go_grown⟩
set_option maxRecDepth 100000 in
set_option maxHeartbeats 4000000 in
theorem ccX_P (x : Cl) (o : Option Addr) (cap : Nat) (w : World) (P : Nat → Prop) (hL : fineG x.ps) (hP : ∀ q, w.heap.size ≤ q → P q) (hg : isGsa w (fun q => P q ∧ q < w.heap.size) x.ps (.slice o x.ps.length cap)) :
    Calls Tryz.prog 36 #[.agg #[.int .i64 x.tok, .int .i8 x.kd, .string x.ph, .string x.ty, .slice o x.ps.length cap]] w fun e w' => ∃ o cap, e = .returned (.agg #[.int .i64 x.tok, .int .i8 x.kd, .string x.ph, .string x.ty, .slice o x.ps.length cap]) ∧ isGsa w' P x.ps (.slice o x.ps.length cap) ∧ Below w.heap.size w w' := by
  have HB2 : Hid (KB w ((w.alloc (.cells #[.int .i64 x.tok, .int .i8 x.kd, .string x.ph, .string x.ty, .slice o x.ps.length cap] 32)).alloc (.cells #[.int .i64 0, .int .i8 0, .string ⟨#[]⟩, .string ⟨#[]⟩, .slice none 0 0] 32))) := Lib.hid (by unfold KB; go_grown)
  have n1 := (Below.heap_alloc (w.alloc (.cells #[.int .i64 x.tok, .int .i8 x.kd, .string x.ph, .string x.ty, .slice o x.ps.length cap] 32)) (.cells #[.int .i64 0, .int .i8 0, .string ⟨#[]⟩, .string ⟨#[]⟩, .slice none 0 0] 32) w.heap.size (by simp)).trans (World.alloc_heap_new w _)
  have n2 := World.alloc_heap_new (w.alloc (.cells #[.int .i64 x.tok, .int .i8 x.kd, .string x.ph, .string x.ty, .slice o x.ps.length cap] 32)) (.cells #[.int .i64 0, .int .i8 0, .string ⟨#[]⟩, .string ⟨#[]⟩, .slice none 0 0] 32)
  rw [World.size_alloc] at n2
  have CP := Lib.hid (ccG_any x.ps _ _ (fun q => P q ∧ q ≠ w.heap.size ∧ q ≠ w.heap.size + 1) hL (fun q hq => ⟨hP q (by simp at hq; omega), by simp at hq; omega, by simp at hq; omega⟩) (isGsa_mono (fun q hq => ⟨⟨hq.1, by have := hq.2; omega, by have := hq.2; omega⟩, by have := hq.2; have := HB2.out.size; omega⟩) (isGsa_keep (fun a c _ hc => cell_below HB2.out _ _ hc) hg)))
  have HN1 := Lib.hid n1
  have HN2 := Lib.hid n2
  clear n1 n2 hg hL hP
  go_enter Tryz.func36, Tryz.ntmps36
  go_wp2_with (go_at_call 51; refine CP.out.mono ?_; rintro e w6 ⟨v6, rfl, hg6, hb6⟩; obtain ⟨o6, cap6, rfl⟩ := isGsa_form hg6; have hm1 := (hb6.block w.heap.size (by simp; omega)).trans HN1.out; have hm2 := (hb6.block (w.heap.size + 1) (by simp)).trans HN2.out; obtain ⟨y0, ⟨⟨_, s1⟩, s1', s1''⟩, hy0, hgy0⟩ := box_five4 (.slice o6 x.ps.length cap6) hm1; obtain ⟨m0, m1, m2, m3, m4⟩ := five_cells hy0; have hm2y := (hgy0.block (w.heap.size + 1) (Array.getElem?_eq_some_iff.1 hm2).1 (fun e => by have := Option.some.inj e; omega)).trans hm2; obtain ⟨x1, x2, x3, x4, x5, f', ⟨⟨_, q1⟩, q1', q1''⟩, ⟨⟨_, q2⟩, q2', q2''⟩, ⟨⟨_, q3⟩, q3', q3''⟩, ⟨⟨_, q4⟩, q4', q4''⟩, ⟨⟨_, q5⟩, q5', q5''⟩, hf7, hg7, u0, u1, u2, u3, u4, -⟩ := store_five (rowIs_five hm2y) 0 (by decide) (.int .i64 x.tok) (.int .i8 x.kd) (.string x.ph) (.string x.ty) (.slice o6 x.ps.length cap6); simp only [Nat.zero_add] at q2 q2' q2'' q3 q3' q3'' q4 q4' q4'' q5 q5' q5'' u1 u2 u3 u4)
  have d0 := hf7.cell (show 0 < 5 by decide)
  have d1 := hf7.cell (show 1 < 5 by decide)
  have d2 := hf7.cell (show 2 < 5 by decide)
  have d3 := hf7.cell (show 3 < 5 by decide)
  have d4 := hf7.cell (show 4 < 5 by decide)
  rw [u0] at d0
  rw [u1] at d1
  rw [u2] at d2
  rw [u3] at d3
  rw [u4] at d4
  refine bodyPost_ret (v := .agg #[.int .i64 x.tok, .int .i8 x.kd, .string x.ph, .string x.ty, .slice o6 x.ps.length cap6]) (by simp [results, Tryz.results36, go_sem, d0, d1, d2, d3, d4]) rfl ?_
  have hb7 : Below w.heap.size w x5 := ((HB2.out.trans (hb6.mono HB2.out.size)).grown hgy0 (by have := HB2.out.size; have := hb6.size; omega) (fun r e => by cases e; omega)).grown hg7 (by have := HB2.out.size; have := hb6.size; have := hgy0.size; omega) (fun r e => by cases e; omega)
  exact ⟨_, _, rfl, isGsa_mono (fun q hq => hq.1) (isGsa_keep (fun a c hq hc => hg7.cell (hgy0.cell hc (fun e => hq.2.1 (Option.some.inj e))) (fun e => hq.2.2 (Option.some.inj e))) hg6), hb7⟩

/-! Calls. -/
/-- A row of calls, as cells. -/
def isXL (W : World) (B : Nat → Prop) : List Cl → List Value → Prop
  | [], xs => xs = []
  | x :: r, xs => ∃ o c rest, xs = .int .i64 x.tok :: .int .i8 x.kd :: .string x.ph :: .string x.ty :: .slice o x.ps.length c :: rest ∧ isGsa W B x.ps (.slice o x.ps.length c) ∧ okX x ∧ isXL W B r rest
theorem isXL_app {W : World} {B : Nat → Prop} : ∀ (l m : List Cl) (xs ys : List Value), isXL W B l xs → isXL W B m ys → isXL W B (l ++ m) (xs ++ ys)
  | [], m, xs, ys, h, k => by
    unfold isXL at h
    subst h
    exact k
  | x :: t, m, xs, ys, h, k => by
    unfold isXL at h
    obtain ⟨o, c, rest, rfl, h1, h2, h3⟩ := h
    show isXL W B (x :: (t ++ m)) _
    unfold isXL
    exact ⟨o, c, rest ++ ys, rfl, h1, h2, isXL_app t m rest ys h3 k⟩
theorem isXL_keep {W W' : World} {B : Nat → Prop} (hc : ∀ a c, B a.block → W.cell? a = some c → W'.cell? a = some c) : ∀ (l : List Cl) (xs : List Value), isXL W B l xs → isXL W' B l xs
  | [], xs, h => by unfold isXL at h ⊢; exact h
  | x :: t, xs, h => by
    unfold isXL at h ⊢
    obtain ⟨o, c, rest, rfl, h1, h2, h3⟩ := h
    exact ⟨o, c, rest, rfl, isGsa_keep hc h1, h2, isXL_keep hc t rest h3⟩
theorem isXL_mono {W : World} {B B' : Nat → Prop} (hb : ∀ q, B q → B' q) : ∀ (l : List Cl) (xs : List Value), isXL W B l xs → isXL W B' l xs
  | [], xs, h => by unfold isXL at h ⊢; exact h
  | x :: t, xs, h => by
    unfold isXL at h ⊢
    obtain ⟨o, c, rest, rfl, h1, h2, h3⟩ := h
    exact ⟨o, c, rest, rfl, isGsa_mono hb h1, h2, isXL_mono hb t rest h3⟩
theorem isXL_at {W : World} {B : Nat → Prop} : ∀ (l : List Cl) (xs : List Value) (a : Addr), a.spot = none → isXL W B l xs → (∀ j u, xs[j]? = some u → W.cell? (a.add j) = some u) → ∀ i (h : i < l.length), isXat W l[i] (a.add (i * 5))
  | x :: t, xs, a, hs, h, hc, i, hi => by
    unfold isXL at h
    obtain ⟨o, c, rest, rfl, h1, h2, h3⟩ := h
    have ad : ∀ k, a.add k = ⟨a.block, a.off + k, none⟩ := fun k => by
      obtain ⟨ab, ao, asp⟩ := a
      obtain rfl : asp = none := hs
      unfold Addr.add
      split
      · rename_i hk; subst hk; rfl
      · rfl
    rcases i with _ | i
    · have e0 : a.add (0 * 5) = ⟨a.block, a.off, none⟩ := ad 0
      rw [e0]
      refine ⟨.slice o x.ps.length c, ?_, ?_, ?_, ?_, ?_, isGs_of_a h1, h2⟩
      · have := hc 0 _ rfl; rw [ad] at this; exact this
      · have := hc 1 _ rfl; rw [ad] at this; exact this
      · have := hc 2 _ rfl; rw [ad] at this; exact this
      · have := hc 3 _ rfl; rw [ad] at this; exact this
      · have := hc 4 _ rfl; rw [ad] at this; exact this
    · have := isXL_at t rest (a.add 5) (by rw [ad]) h3 (fun j u hj => by
        have := hc (j + 5) u (by simpa using hj)
        rw [Addr.add_add, show 5 + j = j + 5 by omega]
        exact this) i (by simpa using hi)
      rw [Addr.add_add, show 5 + i * 5 = (i + 1) * 5 by omega] at this
      exact this
structure RX (w : World) (L : List Cl) (k c : Nat) (oo : Option Addr) (xs : List Value) (W : World) : Prop where
  bel : KB w W
  own : W.ownsRow w.heap.size 32 5 (.slice oo k c) k xs
  len : L.length = k
  tl : isXL W (fun q => some q ≠ (Value.slice oo k c).ownBlock ∧ q < W.heap.size) L xs
theorem RX.below {w W W' : World} {L : List Cl} {k c : Nat} {oo : Option Addr} {xs : List Value} (h : RX w L k c oo xs W) (hb : Below W.heap.size W W') : RX w L k c oo xs W' :=
  ⟨h.bel.trans (hb.mono h.bel.size), h.own.kept (row := none) ⟨hb.os, hb.tape, hb.output, hb.size, fun k hk _ => hb.block k hk⟩ (by cases hob : (Value.slice oo k c).ownBlock with | none => exact .inl rfl | some r => exact .inr (fun e => by cases e)), h.len, isXL_mono (fun q hq => ⟨hq.1, Nat.lt_of_lt_of_le hq.2 hb.size⟩) _ _ (isXL_keep (fun a c _ hc => cell_below hb _ _ hc) _ _ h.tl)⟩
theorem RX.push {w W W' : World} {L : List Cl} {k c c' : Nat} {oo o' : Option Addr} {xs : List Value} (h : RX w L k c oo xs W) {x : Cl} {o1 : Option Addr} {c1 : Nat} (hok : okX x) (hg : isGsa W (fun q => some q ≠ (Value.slice oo k c).ownBlock) x.ps (.slice o1 x.ps.length c1))
    (ho : W'.ownsRow w.heap.size 32 5 (.slice o' (k + 1) c') (k + 1) (xs ++ [.int .i64 x.tok, .int .i8 x.kd, .string x.ph, .string x.ty, .slice o1 x.ps.length c1])) (gr : W.grownBy W' (Value.slice oo k c).ownBlock)
    (at' : (Value.slice o' (k + 1) c').ownBlock = (Value.slice oo k c).ownBlock ∨ (Value.slice o' (k + 1) c').ownBlock = some W.heap.size) : RX w (L ++ [x]) (k + 1) c' o' (xs ++ [.int .i64 x.tok, .int .i8 x.kd, .string x.ph, .string x.ty, .slice o1 x.ps.length c1]) W' := by
  have hl : isXL W (fun q => some q ≠ (Value.slice oo k c).ownBlock ∧ q < W.heap.size) (L ++ [x]) (xs ++ [.int .i64 x.tok, .int .i8 x.kd, .string x.ph, .string x.ty, .slice o1 x.ps.length c1]) := by
    refine isXL_app _ _ _ _ h.tl ?_
    unfold isXL
    exact ⟨o1, c1, [], rfl, isGsa_lt hg, hok, by unfold isXL; rfl⟩
  refine ⟨h.bel.grown gr h.bel.size (fun r e => (h.own.lt r e).1), ho, by rw [List.length_append, h.len]; rfl, isXL_mono (fun q hq => ⟨fun e => ?_, Nat.lt_of_lt_of_le hq.2 gr.size⟩) _ _ (isXL_keep (fun a c hq hc => gr.cell hc hq.1) _ _ hl)⟩
  rcases at' with e2 | e2
  · exact hq.1 (by rw [e, e2])
  · rw [e2] at e
    have := Option.some.inj e
    have := hq.2
    omega
theorem RX.fin {w W : World} {L : List Cl} {k c : Nat} {oo : Option Addr} {xs : List Value} (h : RX w L k c oo xs W) : isXs W L (.slice oo k c) := by
  obtain ⟨o9, ad, c9, e, h1, h2, h3, h4, h5⟩ := own_form h.own
  simp only [Value.slice.injEq, true_and] at e
  obtain ⟨rfl, rfl⟩ := e
  have hl := h.len
  subst hl
  by_cases h0 : 0 < L.length
  · refine ⟨ad, c, ⟨oo, rfl, h1, h2, h3⟩, isXL_at L xs ad ?_ h.tl h5⟩
    match L, h0, h.tl with
    | x :: t, _, q =>
      unfold isXL at q
      obtain ⟨_, _, rest, rfl, -⟩ := q
      have := cell_spot (h5 0 _ rfl)
      obtain ⟨ab, ao, asp⟩ := ad
      simp only [Addr.add] at this
      split at this
      · assumption
      · simp_all
  · exact ⟨ad, c, ⟨oo, rfl, h1, h2, h3⟩, fun i hi => absurd hi (by omega)⟩
end Go.Proofs.YtkigeegahepnaaaGreatDoor

namespace Go.Proofs.YtkigeegahepnaaaGreatDoor
open Go.RowKit Go.Maps Go.Deep

theorem infoCall : (Tryz.prog.info? 32).map (fun i => (i.zero, i.size, i.bytes)) = some (some (.agg #[.int .i64 0, .int .i8 0, .string ⟨#[]⟩, .string ⟨#[]⟩, .slice none 0 0]), 5, 72) := by kernel_rfl
theorem news_five {W : World} {c0 c1 c2 c3 c4 : Value} {t : TypeId} : ∀ q u, [c0, c1, c2, c3, c4][q]? = some u → (W.alloc (.cells #[c0, c1, c2, c3, c4] t)).cell? ((⟨W.heap.size, 0, none⟩ : Addr).add q) = some u := fun q u hq => by
  rcases q with _ | _ | _ | _ | _ | q
  · obtain rfl := Option.some.inj hq
    simp [Addr.add]
  · obtain rfl := Option.some.inj hq
    simp [Addr.add]
  · obtain rfl := Option.some.inj hq
    simp [Addr.add]
  · obtain rfl := Option.some.inj hq
    simp [Addr.add]
  · obtain rfl := Option.some.inj hq
    simp [Addr.add]
  · simp at hq
theorem ones_five {z k : Int} {s s' : ByteArray} {o : Option Addr} {m c : Nat} : ∀ u ∈ [Value.int .i64 z, .int .i8 k, .string s, .string s', .slice o m c], u.oneCell' = true := fun u hu => by
  simp only [List.mem_cons, List.not_mem_nil, or_false] at hu
  rcases hu with rfl | rfl | rfl | rfl | rfl <;> rfl
theorem fld_told (W : World) (c0 c1 c2 c3 c4 c5 c6 c7 : Value) : (Instr.field 78 (.agg #[c0, c1, c2, c3, c4, c5, c6, c7]) 0).run Tryz.prog W = .ok (.agg #[c0, c1, c2, c3, c4]) W := by kernel_rfl
set_option maxRecDepth 100000 in
set_option maxHeartbeats 8000000 in
theorem calls_any (w : World) {N b : Nat} {s : St} {L : List (Cl × An)} {tk fl : List Int} {lv mv tv fv : Value} (h : isC w N b s L tk fl lv mv tv fv) (htk : tk = L.map (·.1.tok)) (hu : L.Pairwise (fun p q => p.1.tok ≠ q.1.tok)) (hF : ∀ p ∈ L, fineX p.1) (hl : L.length ≤ 1000000) :
    Calls Tryz.prog 31 #[.pointer (some ⟨b, 0, none⟩)] w fun e w' => (∃ o c, e = .returned (.slice o L.length c) ∧ isXs w' (L.map (·.1)) (.slice o L.length c)) ∧ Below w.heap.size w w' := by
  have htl : tk.length = L.length := by rw [htk, List.length_map]
  obtain ⟨mo, rfl⟩ : ∃ mo, mv = .map mo := by obtain ⟨_, _, _, _, _, _, m, -, -, -, e⟩ := h.forms; exact ⟨m, e⟩
  obtain ⟨ot, ct, rfl, -, hct, -⟩ := h.tk.form
  have HTK : Hid (∀ j (hj : j < L.length), ∃ a, ot = some a ∧ ∀ W, KB w W → W.cell? (a.add j) = some (.int .i64 L[j].1.tok)) := Lib.hid (by
    intro j hj
    obtain ⟨o, a, c, e, h1, h2, h3, h4⟩ := h.tk.rd
    simp only [Value.slice.injEq, true_and] at e
    obtain ⟨rfl, rfl⟩ := e
    refine ⟨a, h3 (by omega), fun W hK => cell_below hK _ _ (h4 j _ ?_)⟩
    unfold iCells
    rw [htk, List.getElem?_map, List.getElem?_map, List.getElem?_eq_getElem hj]
    rfl)
  have LK : Hid (∀ j (hj : j < L.length), ∃ o c, (∀ W, KB w W → (Instr.lookup 70 (.map mo) (.int .i64 L[j].1.tok) false).run Tryz.prog W = .ok (.agg #[.int .i64 L[j].1.tok, .int .i8 L[j].1.kd, .string L[j].1.ph, .string L[j].1.ty, .slice o L[j].1.ps.length c, .bool L[j].2.en, .bool L[j].2.ok, .string L[j].2.ph]) W) ∧ isGs w L[j].1.ps (.slice o L[j].1.ps.length c)) := Lib.hid (by
    intro j hj
    obtain ⟨u, hlk, hto⟩ := h.mp.look (hF _ (List.getElem_mem hj)).2.2.2.1
    rw [findC_mem hu (List.getElem_mem hj)] at hto
    obtain ⟨o, c, rfl, hps⟩ := isTo_form hto
    exact ⟨o, c, fun W hK => hlk W false (fun m e => hK.block _ (h.lt m (.inr (.inl e)))), hps⟩)
  have BX : Hid (∀ W, KB w W → W.cell? ⟨b, 2, none⟩ = some (.map mo) ∧ W.cell? ⟨b, 3, none⟩ = some (.slice ot L.length ct)) := Lib.hid (by
    intro W hK
    obtain ⟨-, -, q, q2, -⟩ := five_cells ((hK.block b h.bl).trans h.box)
    rw [htl] at q2
    exact ⟨q, q2⟩)
  obtain ⟨-, -, b2, b3, -⟩ := five_cells h.box
  rw [htl] at b3
  have HF := Lib.hid hF
  clear h htk hu hF htl
  obtain ⟨i0, hi, hz0, hz1, hz2⟩ := info_parts infoCall
  go_enter Tryz.func31, Tryz.ntmps31
  go_wp2_with (at_make; refine wpList_make_own _ rfl _ _ 55 rfl w.heap.size 32 i0 _ 5 Tryz.underlying55 hi hz0 hz1 _ _ _ L.length rfl rfl rfl (by rw [hz2]; omega) (by unfold maxLen; omega) (Nat.le_refl _) ?_)
  intro w1 own1 gr1
  have HR0 : Hid (RX w [] 0 L.length (some ⟨w.heap.size, 0, none⟩) [] w1) := Lib.hid ⟨Below.grown (Below.refl _ _ : KB w w) gr1 (Nat.le_refl _) (fun r e => by cases e), own1, rfl, by unfold isXL; rfl⟩
  obtain ⟨-, q3⟩ := BX.out w1 HR0.out.bel
  clear own1 gr1 b2 b3
  go_wp2_with fail
  go_loopw [3, 19] (fun sv iv wr => ∃ (j c : Nat) (oo : Option Addr) (xs : List Value), j ≤ L.length ∧ iv = .int .i64 j ∧ sv = .slice oo j c ∧ Hid (RX w ((L.map (·.1)).take j) j c oo xs wr)) (fun _ iv _ => L.length - (intOf iv).toNat)
  case atStart => exact ⟨0, _, _, [], by omega, rfl, rfl, HR0⟩
  case round =>
    obtain ⟨j, c, oo, xs, hj, rfl, rfl, HR⟩ := hrel
    clear HR0
    by_cases hlt : j < L.length
    · obtain ⟨a, rfl, hcell⟩ := HTK.out j hlt
      have q0 := hcell wr HR.out.bel
      obtain ⟨o1, c1, hlk, hgs⟩ := LK.out j hlt
      have lk := hlk wr HR.out.bel
      obtain ⟨q2, -⟩ := BX.out wr HR.out.bel
      have hfx := HF.out _ (List.getElem_mem hlt)
      have hge : ∀ r, (Value.slice oo j c).ownBlock = some r → w.heap.size ≤ r := fun r e => (HR.out.own.lt r e).1
      have CX := Lib.hid (ccX_P L[j].1 o1 c1 wr (fun q => some q ≠ (Value.slice oo j c).ownBlock) (fineG_of hfx.1) (fun q hq e => by have := (HR.out.own.lt q e.symm).2; omega) (isGsa_mono (fun q hq => ⟨fun e => by have := hge q e.symm; omega, by have := HR.out.bel.size; omega⟩) (isGsa_keep (fun a c _ hc => cell_below HR.out.bel _ _ hc) (isGsa_of hgs))))
      have HOK := Lib.hid (okX_fine hfx)
      have htk : (L.map (·.1)).take (j + 1) = (L.map (·.1)).take j ++ [L[j].1] := by
        rw [List.take_succ_eq_append_getElem (by simpa using hlt), List.getElem_map]
      have HT := Lib.hid htk
      clear hcell hlk hgs hfx hge htk
      generalize L[j].1 = x at *
      generalize L[j].2 = an at *
      have fld := fld_told wr (.int .i64 x.tok) (.int .i8 x.kd) (.string x.ph) (.string x.ty) (.slice o1 x.ps.length c1) (.bool an.en) (.bool an.ok) (.string an.ph)
      have hjj : j + 1 ≤ 1000000 := by omega
      have HJ := Lib.hid hjj
      go_wp2_with (first
        | (go_at_call 36; refine CX.out.mono ?_; rintro e w6 ⟨o6, c6, rfl, hg6, hb6⟩; have HR6 := Lib.hid (HR.out.below hb6); have HR7 := Lib.hid (HR6.out.below (kbA (o := .cells #[.int .i64 x.tok, .int .i8 x.kd, .string x.ph, .string x.ty, .slice o6 x.ps.length c6] 32))); have HG7 := Lib.hid (isGsa_keep (fun a c _ hc => cell_below (kbA (w := w6) (o := .cells #[.int .i64 x.tok, .int .i8 x.kd, .string x.ph, .string x.ty, .slice o6 x.ps.length c6] 32)) _ _ hc) hg6); clear hg6 hb6)
        | (at_builtin; refine wpList_append_row_at rfl _ _ 55 rfl w.heap.size 32 i0 _ 5 72 Tryz.underlying55 hi hz0 hz1 hz2 rfl (by decide) _ j xs rfl HR7.out.own (some ⟨w6.heap.size, 0, none⟩) ⟨w6.heap.size, 0, none⟩ 1 1 [.int .i64 x.tok, .int .i8 x.kd, .string x.ph, .string x.ty, .slice o6 x.ps.length c6] rfl (fun _ => rfl) rfl news_five ones_five (by have := HJ.out; unfold maxLen; omega) (by have := HJ.out; omega) HR7.out.bel.size ?_))
      intro o2 c2 w7 own7 gr7 at7
      have HR8 := Lib.hid (HR7.out.push HOK.out HG7.out own7 gr7 (by rw [World.size_alloc]; exact at7))
      rw [← HT.out] at HR8
      clear own7 gr7 at7 HR6 HR7 HG7 lk fld q0 q2 CX
      go_wp2_with fail
      go_roundw
      case rel => exact ⟨j + 1, c2, o2, _, by omega, by go_num, rfl, HR8⟩
      case measure => simp [intOf]; omega
    · obtain rfl : j = L.length := by omega
      have hfin := HR.out.fin
      rw [List.take_of_length_le (by simp)] at hfin
      have HFI := Lib.hid hfin
      clear hfin
      go_wp2_with fail
      go_ret
      exact ⟨⟨_, _, rfl, HFI.out⟩, HR.out.bel⟩
end Go.Proofs.YtkigeegahepnaaaGreatDoor

namespace Go.Proofs.YtkigeegahepnaaaGreatDoor
open Go.RowKit Go.Maps

set_option maxHeartbeats 1000000 in
theorem submit_nil (w : World) (x : Cl) (o : Option Addr) (cap : Nat) : Calls Tryz.prog 14 #[.pointer none, .agg #[.int .i64 x.tok, .int .i8 x.kd, .string x.ph, .string x.ty, .slice o x.ps.length cap]] w fun e w' => e = .returned (.int .i64 1) ∧ Below w.heap.size w w' := by
  go_enter Tryz.func14, Tryz.ntmps14
  go_wp2_with fail
  go_ret
  exact ⟨rfl, by first | exact Below.refl _ _ | go_grown⟩
set_option maxHeartbeats 1000000 in
theorem end_nil (w : World) (k : Int) (well : Bool) : Calls Tryz.prog 16 #[.pointer none, .int .i64 k, .bool well] w fun e w' => e = .returned (.tuple #[.int .i64 0, .agg #[.bool false, .bool false, .string ⟨#[]⟩], .int .i64 1]) ∧ Below w.heap.size w w' := by
  go_enter Tryz.func16, Tryz.ntmps16
  go_wp2_with fail
  refine bodyPost_ret (v := .tuple #[.int .i64 0, .agg #[.bool false, .bool false, .string ⟨#[]⟩], .int .i64 1]) (by simp [results, Tryz.results16, go_sem]) rfl ?_
  exact ⟨rfl, by first | exact Below.refl _ _ | go_grown⟩
set_option maxHeartbeats 1000000 in
theorem ask_nil (w : World) (z : Int) : Calls Tryz.prog 18 #[.pointer none, .int .i64 z] w fun e w' => e = .returned (.tuple #[.agg #[.bool false, .bool false, .string ⟨#[]⟩], .bool false]) ∧ Below w.heap.size w w' := by
  go_enter Tryz.func18, Tryz.ntmps18
  go_wp2_with fail
  refine bodyPost_ret (v := .tuple #[.agg #[.bool false, .bool false, .string ⟨#[]⟩], .bool false]) (by simp [results, Tryz.results18, go_sem]) rfl ?_
  exact ⟨rfl, by first | exact Below.refl _ _ | go_grown⟩
set_option maxHeartbeats 1000000 in
theorem get_nil (w : World) (p : ByteArray) : Calls Tryz.prog 20 #[.pointer none, .string p] w fun e w' => e = .returned (.tuple #[.agg #[.string ⟨#[]⟩, .string ⟨#[]⟩, .slice none 0 0], .bool false]) ∧ Below w.heap.size w w' := by
  go_enter Tryz.func20, Tryz.ntmps20
  go_wp2_with fail
  refine bodyPost_ret (v := .tuple #[.agg #[.string ⟨#[]⟩, .string ⟨#[]⟩, .slice none 0 0], .bool false]) (by simp [results, Tryz.results20, go_sem]) rfl ?_
  exact ⟨rfl, by first | exact Below.refl _ _ | go_grown⟩
set_option maxHeartbeats 1000000 in
theorem flight_nil (w : World) : Calls Tryz.prog 24 #[.pointer none] w fun e w' => e = .returned (.slice none 0 0) ∧ Below w.heap.size w w' := by
  go_enter Tryz.func24, Tryz.ntmps24
  go_wp2_with fail
  go_ret
  exact ⟨rfl, by first | exact Below.refl _ _ | go_grown⟩
set_option maxHeartbeats 1000000 in
theorem things_nil (w : World) : Calls Tryz.prog 28 #[.pointer none] w fun e w' => e = .returned (.slice none 0 0) ∧ Below w.heap.size w w' := by
  go_enter Tryz.func28, Tryz.ntmps28
  go_wp2_with fail
  go_ret
  exact ⟨rfl, by first | exact Below.refl _ _ | go_grown⟩
set_option maxHeartbeats 1000000 in
theorem calls_nil (w : World) : Calls Tryz.prog 31 #[.pointer none] w fun e w' => e = .returned (.slice none 0 0) ∧ Below w.heap.size w w' := by
  go_enter Tryz.func31, Tryz.ntmps31
  go_wp2_with fail
  go_ret
  exact ⟨rfl, by first | exact Below.refl _ _ | go_grown⟩
set_option maxHeartbeats 1000000 in
theorem made_nil (w : World) : Calls Tryz.prog 26 #[.pointer none] w fun e w' => e = .returned (.int .i64 0) ∧ Below w.heap.size w w' := by
  go_enter Tryz.func26, Tryz.ntmps26
  go_wp2_with fail
  go_ret
  exact ⟨rfl, by first | exact Below.refl _ _ | go_grown⟩

set_option maxHeartbeats 1000000 in
theorem new_any (w : World) : Calls Tryz.prog 12 #[] w fun e w' => e = .returned (.pointer (some ⟨w.heap.size, 0, none⟩)) ∧ w' = w.alloc (.cells #[.slice none 0 0, .int .i64 0, .map none, .slice none 0 0, .slice none 0 0] 72) := by
  go_enter Tryz.func12, Tryz.ntmps12
  go_wp2_with fail
  go_ret
  exact ⟨rfl, rfl⟩
section
variable {w : World} {N b : Nat} {s : St} {L : List (Cl × An)} {tk fl : List Int} {lv mv tv fv : Value}
set_option maxHeartbeats 1000000 in
theorem made_any (h : isC w N b s L tk fl lv mv tv fv) : Calls Tryz.prog 26 #[.pointer (some ⟨b, 0, none⟩)] w fun e w' => e = .returned (.int .i64 s.made) ∧ Below w.heap.size w w' := by
  obtain ⟨r0, r1, r2, r3, r4⟩ := five_cells h.box
  clear h
  go_enter Tryz.func26, Tryz.ntmps26
  go_wp2_with fail
  go_ret
  exact ⟨rfl, Below.refl _ _⟩
theorem infoInt : (Tryz.prog.info? 3).map (fun i => (i.zero, i.size, i.bytes)) = some (some (.int .i64 0), 1, 8) := by kernel_rfl
/-- Numbers that are read in new memory. -/
def rdN (W : World) (lo : Nat) (x : List Int) (v : Value) : Prop := rdI W x v ∧ ∀ k, v.ownBlock = some k → lo ≤ k
theorem rdN.fr {B : Nat → Prop} {W W' : World} {lo : Nat} {x : List Int} {v : Value} (h : rdN W lo x v) (hF : Fr B W W') (hB : ∀ k, B k → k < lo) : rdN W' lo x v := by
  refine ⟨?_, h.2⟩
  obtain ⟨⟨o, a, c, rfl, h2, h3, h4, h5⟩, h6⟩ := h
  refine ⟨o, a, c, rfl, h2, h3, h4, fun j u hj => hF.cell _ _ (fun hk => ?_) (h5 j u hj)⟩
  have hl := (List.getElem?_eq_some_iff.1 hj).1
  rw [iCells_length] at hl
  have e := h4 (by omega)
  subst e
  have h7 := h6 a.block rfl
  have h8 := hB _ hk
  have h9 : (a.add j).block = a.block := by unfold Addr.add; split <;> rfl
  omega
theorem rdN.below {W W' : World} {lo : Nat} {x : List Int} {v : Value} (h : rdN W lo x v) (hb : Below W.heap.size W W') : rdN W' lo x v := ⟨h.1.below hb, h.2⟩
theorem rdI_of_row {W : World} {base n : Nat} {v : Value} {x : List Int} (h : W.ownsRow base 3 1 v n (iCells x)) (hn : n = x.length) : rdI W x v := by
  subst hn
  obtain ⟨o, g, cap, rfl, c1, c2, h3⟩ := clone_row h
  refine ⟨o, ⟨g, 0, none⟩, cap, rfl, c1, c2, fun h0 => (h3 h0).1, fun j u hj => ?_⟩
  have hjl := (List.getElem?_eq_some_iff.1 hj).1
  rw [iCells_length] at hjl
  obtain ⟨_, _, _, f, hr, hf⟩ := h3 (by omega)
  rw [add0', hr.cell (by omega), hf j u hj]
/-- slices.Clone of numbers. -/
theorem cloneI_any (x : List Int) (v : Value) (w : World) (hl : x.length ≤ 1000000) (h : owI 0 w v x) :
    Calls Tryz.prog 46 #[v] w fun e w' => ∃ v', e = .returned v' ∧ rdN w' w.heap.size x v' ∧ Below w.heap.size w w' := by
  have hrd := h.rd
  rcases h with ⟨rfl, rfl⟩ | ⟨g, c, cur, rfl, -, -, -⟩
  · exact (Tryz.slices_Clone_nil_f46 0 0 w).mono fun e w' ⟨he, hw⟩ => ⟨_, he, ⟨rdI_nil _, fun k e => by cases e⟩, by rw [hw]; exact Below.refl _ _⟩
  · obtain ⟨i0, hi0, hz0, hz1, hz2⟩ := info_parts infoInt
    obtain ⟨o, a, c', e, h1, h2, h3, h4⟩ := hrd
    simp only [Value.slice.injEq, true_and] at e
    obtain ⟨rfl, rfl⟩ := e
    refine (Tryz.slices_Clone_f46 i0 _ 1 8 hi0 hz0 hz1 hz2 rfl (by decide) (fun w => by kernel_rfl) g 0 x.length c (iCells x) w (by rw [iCells_length, Nat.mul_one]) (by unfold maxLen; omega) (by omega) (fun j u hj => ?_) (fun u hu => ?_)).mono fun e w' ⟨v', he, hr, _, hb⟩ => ⟨v', he, ⟨rdI_of_row hr rfl, fun k e => (hr.lt k e).1⟩, hb⟩
    · have hjl := (List.getElem?_eq_some_iff.1 hj).1
      rw [iCells_length] at hjl
      have e := Option.some.inj (h3 (by omega))
      have := h4 j u hj
      rw [← e, add0'] at this
      rw [Nat.zero_add]
      exact this
    · unfold iCells at hu
      obtain ⟨z, _, rfl⟩ := List.mem_map.1 hu
      rfl
set_option maxHeartbeats 1000000 in
theorem flight_any (h : isC w N b s L tk fl lv mv tv fv) (hl : fl.length ≤ 1000000) : Calls Tryz.prog 24 #[.pointer (some ⟨b, 0, none⟩)] w fun e w' => (∃ v', e = .returned v' ∧ rdN w' w.heap.size fl v') ∧ Below w.heap.size w w' := by
  obtain ⟨r0, r1, r2, r3, r4⟩ := five_cells h.box
  have HC := Lib.hid (cloneI_any fl fv w hl h.fl)
  obtain ⟨o, cap, ot, ct, of, cf, m, rfl, rfl, rfl, rfl⟩ := h.forms
  clear h
  go_enter Tryz.func24, Tryz.ntmps24
  go_wp2_with (go_at_call 46; refine HC.out.mono ?_; rintro e w5 ⟨v', rfl, hr, hb⟩; obtain ⟨o', a', c', rfl, hr'⟩ := id hr.1)
  go_ret
  exact ⟨⟨_, rfl, hr⟩, hb⟩
end
end Go.Proofs.YtkigeegahepnaaaGreatDoor

namespace Go.Proofs.YtkigeegahepnaaaGreatDoor
open Go.RowKit Go.Maps Go.Deep

def toks (L : List (Cl × An)) : List Int := L.map (·.1.tok)
theorem toks_snoc (L : List (Cl × An)) (x : Cl) : toks (L ++ [(x, zAn)]) = toks L ++ [x.tok] := by simp [toks]
theorem toks_setA (L : List (Cl × An)) (z : Int) (a : An) : toks (setA L z a) = toks L := by
  have h := congrArg (List.map (·.tok)) (setA_toks L z a)
  rw [List.map_map, List.map_map] at h
  exact h
theorem toks_len (L : List (Cl × An)) : (toks L).length = L.length := by simp [toks]
/-- The cloud c lies at b, as a call from the world w on left it. -/
def OnK (w : World) (P : Nat → Prop) (b : Nat) (c : CSt) (W : World) : Prop := OnC w P c.L.length b c.s c.L (toks c.L) c.fl W
section
variable {w W W' : World} {P : Nat → Prop} {b n : Nat} {c : CSt}
theorem OnK.below (h : OnK w P b c W) (hb : Below W.heap.size W W') : OnK w P b c W' := by
  obtain ⟨lv, mv, tv, fv, hc, hf, hp⟩ := h
  exact ⟨lv, mv, tv, fv, hc.below hb, hf.trans (Fr.of_below hb), hp⟩
theorem OnK.bel (h : OnK w (fun k => w.heap.size ≤ k) b c W) : KB w W := by
  obtain ⟨lv, mv, tv, fv, hc, hf, hp⟩ := h
  exact hf.below (fun k hk => hk) (Nat.le_refl _)
theorem OnK.new (w : World) : OnK w (fun k => w.heap.size ≤ k) w.heap.size zC (w.alloc (.cells #[.slice none 0 0, .int .i64 0, .map none, .slice none 0 0, .slice none 0 0] 72)) :=
  ⟨_, _, _, _, isC.new w, Fr.of_below kbA, fun k hk => .inl (by
    rcases hk with rfl | h | h | h
    · exact Nat.le_refl _
    · cases h
    · cases h
    · cases h)⟩
theorem OnK.lt (h : OnK w P b c W) : b < W.heap.size := by
  obtain ⟨lv, mv, tv, fv, hc, -, -⟩ := h
  exact hc.bl
theorem okZ_find {c : CSt} {n : Nat} (hg : goodC c n) {p : Cl × An} (hp : p ∈ c.L) : okZ p.1.tok := (hg.calls p hp).1.2.2.2.1
theorem Submit_on (h : OnK w P b c W) (hE : Env9 W) {x : Cl} {v : Value} (hF : fineX x) (hX : isX W x v) (hg : goodC c n) (hn : n ≤ 1000) :
    Calls Tryz.prog 14 #[.pointer (some ⟨b, 0, none⟩), v] W fun e w' => e = .returned (.int .i64 (submitC c x).2) ∧ OnK w P b (submitC c x).1 w' := by
  obtain ⟨lv, mv, tv, fv, hc, hf, hp⟩ := h
  have h1 := hg.len
  have h2 := hg.slen
  refine (submit_any x v W hE hF hX hc (by omega) (by rw [toks_len]; omega) (by omega)).mono ?_
  rintro e w' ⟨rfl, h⟩
  unfold submitC
  rcases h with ⟨hw, hn, hon⟩ | ⟨hn, hon⟩
  · rw [if_pos hw, if_neg (by rw [hn]; decide)]
    refine ⟨by rw [hw], OnC.step hf hp ?_⟩
    show OnC W (Fp b mv tv fv) (c.L ++ [(x, zAn)]).length b c.s (c.L ++ [(x, zAn)]) (toks (c.L ++ [(x, zAn)])) (c.fl ++ [x.tok]) w'
    rw [toks_snoc]
    exact hon
  · by_cases hw : wrongC x = 0
    · rw [if_pos hw]
      rcases hn with hn | hn
      · exact absurd hw hn
      · rw [if_pos hn]
        exact ⟨by rw [hw], OnC.step hf hp hon⟩
    · rw [if_neg hw]
      exact ⟨rfl, OnC.step hf hp hon⟩
theorem End_on (h : OnK w P b c W) (hE : Env9 W) (hg : goodC c n) (hn : n ≤ 1000) (k : Int) (well : Bool) :
    Calls Tryz.prog 16 #[.pointer (some ⟨b, 0, none⟩), .int .i64 k, .bool well] W fun e w' => e = .returned (.tuple #[.int .i64 (endC c k well).2.1, .agg #[.bool (endC c k well).2.2.1.en, .bool (endC c k well).2.2.1.ok, .string (endC c k well).2.2.1.ph], .int .i64 (endC c k well).2.2.2]) ∧ OnK w P b (endC c k well).1 w' := by
  obtain ⟨lv, mv, tv, fv, hc, hf, hp⟩ := h
  have h1 := hg.len
  have h2 := hg.slen
  by_cases hk : 0 ≤ k ∧ k < c.fl.length
  · obtain ⟨i, rfl⟩ : ∃ i : Nat, k = i := ⟨k.toNat, by omega⟩
    have hi : i < c.fl.length := by omega
    obtain ⟨x, hx, htk, hm, hfx, hw⟩ := hg.at hi
    rw [endC_good hg hi well hx]
    have hz : okZ c.fl[i] := by
      have := hfx.2.2.2.1
      rwa [htk] at this
    have hd := did_end (well := well) (hg.fineS hn) hg.okS hfx
    refine (end_good i well W hE (hg.fineS hn) hc hi (by omega) (by omega) rfl hz hx hfx (held_good hg) (held_of_call hw) rfl ⟨held_of_ok hd.ok, (held_good hg).2⟩).mono ?_
    rintro e w' ⟨rfl, hon⟩
    refine ⟨rfl, OnC.step hf hp ?_⟩
    show OnC W (Fp b mv tv fv) (setA c.L c.fl[i] (endA c.s x well).2).length b (endA c.s x well).1 (setA c.L c.fl[i] (endA c.s x well).2) (toks (setA c.L c.fl[i] (endA c.s x well).2)) _ w'
    rw [toks_setA, setA_len]
    exact hon
  · rw [endC_bad hk]
    refine (end_bad k well W hc hk).mono ?_
    rintro e w' ⟨rfl, hb⟩
    exact ⟨rfl, OnC.step hf hp (hc.on hb)⟩
theorem Ask_on (h : OnK w P b c W) {z : Int} (hz : okZ z) :
    Calls Tryz.prog 18 #[.pointer (some ⟨b, 0, none⟩), .int .i64 z] W fun e w' => e = .returned (.tuple #[.agg #[.bool (askC c z).1.en, .bool (askC c z).1.ok, .string (askC c z).1.ph], .bool (askC c z).2]) ∧ Below W.heap.size W w' := by
  obtain ⟨lv, mv, tv, fv, hc, hf, hp⟩ := h
  exact ask_any z W hc hz
theorem Made_on (h : OnK w P b c W) : Calls Tryz.prog 26 #[.pointer (some ⟨b, 0, none⟩)] W fun e w' => e = .returned (.int .i64 c.s.made) ∧ Below W.heap.size W w' := by
  obtain ⟨lv, mv, tv, fv, hc, hf, hp⟩ := h
  exact made_any hc
theorem Flight_on (h : OnK w P b c W) (hg : goodC c n) (hn : n ≤ 1000) : Calls Tryz.prog 24 #[.pointer (some ⟨b, 0, none⟩)] W fun e w' => (∃ o cap, e = .returned (.slice o c.fl.length cap) ∧ rdN w' W.heap.size c.fl (.slice o c.fl.length cap)) ∧ Below W.heap.size W w' := by
  obtain ⟨lv, mv, tv, fv, hc, hf, hp⟩ := h
  have h1 := hg.len
  have h2 := hg.slen
  refine (flight_any hc (by omega)).mono ?_
  rintro e w' ⟨⟨v', rfl, hr⟩, hb⟩
  have hr' := hr
  obtain ⟨⟨o', a', c', rfl, -⟩, -⟩ := hr
  exact ⟨⟨o', c', rfl, hr'⟩, hb⟩
theorem Things_on (h : OnK w P b c W) (hg : goodC c n) (hn : n ≤ 1000) : Calls Tryz.prog 28 #[.pointer (some ⟨b, 0, none⟩)] W fun e w' => (∃ o cap, e = .returned (.slice o c.s.l.length cap) ∧ isTs w' c.s.l (.slice o c.s.l.length cap)) ∧ Below W.heap.size W w' := by
  obtain ⟨lv, mv, tv, fv, hc, hf, hp⟩ := h
  exact things_any hc (hg.fineS hn)
theorem Calls_on (h : OnK w P b c W) (hg : goodC c n) (hn : n ≤ 1000) : Calls Tryz.prog 31 #[.pointer (some ⟨b, 0, none⟩)] W fun e w' => (∃ o cap, e = .returned (.slice o c.L.length cap) ∧ isXs w' (c.L.map (·.1)) (.slice o c.L.length cap)) ∧ Below W.heap.size W w' := by
  obtain ⟨lv, mv, tv, fv, hc, hf, hp⟩ := h
  have h1 := hg.len
  exact calls_any W hc rfl hg.uniq (fun p hp => (hg.calls p hp).1) (by omega)
end
end Go.Proofs.YtkigeegahepnaaaGreatDoor
