/-
  The program's Bind.
-/
import Derived.Test.YtlamkadllbgamaaGreatDoorEa
set_option linter.unusedVariables false
set_option linter.unusedSimpArgs false
namespace Go.Proofs.YtlamkadllbgamaaGreatDoor
open Go.RowKit Go.Maps

noncomputable def errP (L : List PR) (gs : List G) : Nat → ByteArray × Int
  | 0 => (⟨#[]⟩, checkP L)
  | 1 => (⟨#[]⟩, if riseB (gs.map G.nm) then 0 else 2)
  | 2 => (if (strange L gs).isSome then ((strange L gs).getD zG).nm else ⟨#[]⟩, if (strange L gs).isSome then 140 else 0)
  | _ => (if (unfit L gs).isSome then ((unfit L gs).getD zP).nm else ⟨#[]⟩, if (unfit L gs).isSome then 140 else 0)
/-- What Bind tells beside the values. -/
noncomputable def bindF (L : List PR) (gs : List G) : ByteArray × Int :=
  if (errP L gs 0).2 ≠ 0 then errP L gs 0 else if (errP L gs 1).2 ≠ 0 then errP L gs 1 else if (errP L gs 2).2 ≠ 0 then errP L gs 2 else if (errP L gs 3).2 ≠ 0 then errP L gs 3 else (⟨#[]⟩, 0)
theorem bindF_none {L : List PR} {gs : List G} (h : ∀ i, i < 4 → (errP L gs i).2 = 0) : bindF L gs = (⟨#[]⟩, 0) := by
  unfold bindF
  rw [if_neg (by simpa using h 0 (by decide)), if_neg (by simpa using h 1 (by decide)), if_neg (by simpa using h 2 (by decide)), if_neg (by simpa using h 3 (by decide))]
theorem bindF_at {L : List PR} {gs : List G} {j : Nat} (hj : j < 4) (h : ∀ i, i < j → (errP L gs i).2 = 0) (h0 : (errP L gs j).2 ≠ 0) : bindF L gs = errP L gs j := by
  unfold bindF
  match j, hj, h, h0 with
  | 0, _, _, h0 => rw [if_pos h0]
  | 1, _, h, h0 => rw [if_neg (by simpa using h 0 (by decide)), if_pos h0]
  | 2, _, h, h0 => rw [if_neg (by simpa using h 0 (by decide)), if_neg (by simpa using h 1 (by decide)), if_pos h0]
  | 3, _, h, h0 => rw [if_neg (by simpa using h 0 (by decide)), if_neg (by simpa using h 1 (by decide)), if_neg (by simpa using h 2 (by decide)), if_pos h0]
theorem kind_flat {num : Bool} {x : V} (h : kindB num x = true) : flatV x ∧ pcheckV x = 0 ∧ x.kind ≠ 0 := by
  have hk : (x.kind = 3 ∨ x.kind = 2) ∧ pcheckV x = 0 := by
    unfold kindB at h
    by_cases h3 : x.kind = 3
    · rw [if_pos h3] at h
      simp only [Bool.and_eq_true, decide_eq_true_eq] at h
      exact ⟨.inl h3, h.2.2⟩
    · rw [if_neg h3] at h
      by_cases h2 : x.kind = 2
      · rw [if_pos h2] at h
        simp only [Bool.and_eq_true, decide_eq_true_eq] at h
        exact ⟨.inr h2, h.2⟩
      · rw [if_neg h2] at h; cases h
  obtain ⟨hk, hc⟩ := hk
  have hw : wrongV x = 0 := by
    have : pwrongV x = 0 := by
      refine Classical.byContradiction fun e => ?_
      unfold pcheckV at hc
      rw [if_pos e] at hc
      exact e hc
    exact (pwrong_zero this).1
  refine ⟨?_, hc, by omega⟩
  obtain ⟨k, b, n, s, l, ks⟩ := x
  have hp : plainP (.mk k b n s l ks) := by
    refine plain_eq (Classical.byContradiction fun e => ?_)
    have ho : ownW (.mk k b n s l ks) = 2 := by rw [ownW_mk, if_pos (by simpa using e)]
    rw [wrongV, ho, if_neg (by decide)] at hw
    cases hw
  simp only [V.kind] at hk
  obtain ⟨_, _, _, _, h4, _, h5⟩ := hp
  refine ⟨?_, ?_⟩
  · show l = []
    exact Classical.byContradiction fun e => by rcases h4 e with e | e <;> omega
  · show ks = []
    exact List.eq_nil_of_length_eq_zero (h5 (by omega))
theorem may_flat {p : PR} {g : G} (h : mayP p g = true) : flatV g.v := by
  unfold mayP at h
  rw [Bool.and_eq_true] at h
  obtain ⟨_, h⟩ := h
  cases hu : g.unk with
  | true =>
    rw [hu, if_pos rfl] at h
    simp only [Bool.and_eq_true] at h
    rw [sm_eq h.1]
    exact ⟨rfl, rfl⟩
  | false =>
    rw [hu, if_neg Bool.false_ne_true] at h
    simp only [Bool.and_eq_true] at h
    exact (kind_flat h.1).1
theorem all_fit {L : List PR} {gs : List G} (h : (errP L gs 3).2 = 0) : ∀ p ∈ L, mayP p (valP gs p) = true := by
  have hn : unfit L gs = none := by
    cases hu : unfit L gs with
    | none => rfl
    | some p =>
      have : (errP L gs 3).2 = 140 := by show (if (unfit L gs).isSome then (140 : Int) else 0) = 140; rw [hu]; rfl
      rw [this] at h; cases h
  intro p hp
  have := List.find?_eq_none.1 hn p hp
  simpa using this

set_option maxRecDepth 100000 in
set_option maxHeartbeats 2000000 in
theorem faults_any (n n' c c' : Nat) (o o' : Option Addr) (w : World) :
    Calls Tryz.prog 14 #[.slice o n c, .slice o' n' c'] w fun e w' => ∃ b1 b2 b4 : Nat, e = .returned (.slice (some ⟨b4, 0, none⟩) 4 4) ∧ w'.cell? ⟨b1, 0, none⟩ = some (.slice o n c) ∧ w'.cell? ⟨b2, 0, none⟩ = some (.slice o' n' c') ∧
      w'.cell? ⟨b4, 0, none⟩ = some (.func (.func 31) #[] #[.pointer (some ⟨b1, 0, none⟩)]) ∧ w'.cell? ⟨b4, 1, none⟩ = some (.func (.func 32) #[] #[.pointer (some ⟨b2, 0, none⟩)]) ∧ w'.cell? ⟨b4, 2, none⟩ = some (.func (.func 36) #[] #[.pointer (some ⟨b1, 0, none⟩), .pointer (some ⟨b2, 0, none⟩)]) ∧ w'.cell? ⟨b4, 3, none⟩ = some (.func (.func 40) #[] #[.pointer (some ⟨b1, 0, none⟩), .pointer (some ⟨b2, 0, none⟩)]) ∧ Below w.heap.size w w' := by
  have HB : Hid (KB w ((((w.alloc (.cells #[.slice o n c] 22)).alloc (.cells #[.slice o' n' c'] 23))).alloc (.cells #[.func (.func 31) #[] #[.pointer (some ⟨w.heap.size, 0, none⟩)], .func (.func 32) #[] #[.pointer (some ⟨w.heap.size + 1, 0, none⟩)], .func (.func 36) #[] #[.pointer (some ⟨w.heap.size, 0, none⟩), .pointer (some ⟨w.heap.size + 1, 0, none⟩)], .func (.func 40) #[] #[.pointer (some ⟨w.heap.size, 0, none⟩), .pointer (some ⟨w.heap.size + 1, 0, none⟩)]] 49))) := Lib.hid (by unfold KB; go_grown)
  have H3 := Lib.hid (three_rows w #[.slice o n c] #[.slice o' n' c'] #[.func (.func 31) #[] #[.pointer (some ⟨w.heap.size, 0, none⟩)], .func (.func 32) #[] #[.pointer (some ⟨w.heap.size + 1, 0, none⟩)], .func (.func 36) #[] #[.pointer (some ⟨w.heap.size, 0, none⟩), .pointer (some ⟨w.heap.size + 1, 0, none⟩)], .func (.func 40) #[] #[.pointer (some ⟨w.heap.size, 0, none⟩), .pointer (some ⟨w.heap.size + 1, 0, none⟩)]] 22 23 49)
  go_enter Tryz.func14, Tryz.ntmps14
  go_wp2_with fail
  go_ret
  exact ⟨w.heap.size, w.heap.size + 1, w.heap.size + 1 + 1, rfl, (H3.out.1 0).trans rfl, (H3.out.2.1 0).trans rfl, (H3.out.2.2 0).trans rfl, (H3.out.2.2 1).trans rfl, (H3.out.2.2 2).trans rfl, (H3.out.2.2 3).trans rfl, HB.out⟩

/-- What Bind hands back. -/
def RetB (L : List PR) (gs : List G) (w : World) (e : Ending) (w' : World) : Prop :=
  ((bindF L gs).2 = 0 → ∃ v' xs, e = .returned (.tuple #[v', .string ⟨#[]⟩, .int .i64 0]) ∧ w'.ownsRow w.heap.size 35 8 v' L.length xs ∧ isGL w' (L.map (valP gs)) xs) ∧
  ((bindF L gs).2 ≠ 0 → e = .returned (.tuple #[.slice none 0 0, .string (bindF L gs).1, .int .i64 (bindF L gs).2])) ∧ Below w.heap.size w w'
theorem own_lower {W : World} {b b' : Nat} {e : TypeId} {size n : Nat} {v : Value} {xs : List Value} (h : W.ownsRow b e size v n xs) (hb : b' ≤ b) : W.ownsRow b' e size v n xs := by
  obtain ⟨h1, h2⟩ := h
  refine ⟨h1, ?_⟩
  rcases h2 with h2 | ⟨g, cap, cur, e1, r1, r⟩
  · exact .inl h2
  · exact .inr ⟨g, cap, cur, e1, Nat.le_trans hb r1, r⟩
set_option maxRecDepth 100000 in
set_option maxHeartbeats 8000000 in
theorem Bind_any (L : List PR) (gs : List G) (v u : Value) (w : World) (hE : Env w) (hP : finePs L) (hG : fineG gs) (h : isPs w L v) (h' : isGs w gs u) :
    Calls Tryz.prog 7 #[v, u] w fun e w' => RetB L gs w e w' := by
  have HEA : Hid (∀ w1 b2, KB w w1 → (∀ i, i < 4 → (errP L gs i).2 = 0) → w1.cell? ⟨b2, 0, none⟩ = some u → Calls Tryz.prog 15 #[v, .func (.func 16) #[] #[.pointer (some ⟨b2, 0, none⟩)]] w1 fun e w' => (∃ v' xs, e = .returned v' ∧ w'.ownsRow w1.heap.size 35 8 v' L.length xs ∧ isGL w' (L.map (valP gs)) xs) ∧ Below w1.heap.size w1 w') := Lib.hid fun w1 b2 hk he hc => eachPG_any L gs b2 v u w1 hP hG (fun p hp => may_flat (all_fit (he 3 (by decide)) p hp)) (isPs_below hk h) (isGs_below hk h') hc
  have HF1 : Hid (∀ w1 b1, KB w w1 → w1.cell? ⟨b1, 0, none⟩ = some v → Calls Tryz.prog 31 #[.pointer (some ⟨b1, 0, none⟩)] w1 fun e w' => e = .returned (.tuple #[.string (errP L gs 0).1, .int .i64 (errP L gs 0).2]) ∧ Below w1.heap.size w1 w') := Lib.hid fun w1 b1 hk hb => fault1_any L v b1 w1 (hE.kb hk) hP (isPs_below hk h) hb
  have HF2 : Hid (∀ w1 b2, KB w w1 → w1.cell? ⟨b2, 0, none⟩ = some u → Calls Tryz.prog 32 #[.pointer (some ⟨b2, 0, none⟩)] w1 fun e w' => e = .returned (.tuple #[.string (errP L gs 1).1, .int .i64 (errP L gs 1).2]) ∧ Below w1.heap.size w1 w') := Lib.hid fun w1 b2 hk hb => fault2_any gs u b2 w1 hG.1 (isGs_below hk h') hb
  have HF3 : Hid (∀ w1 b1 b2, KB w w1 → w1.cell? ⟨b1, 0, none⟩ = some v → w1.cell? ⟨b2, 0, none⟩ = some u → Calls Tryz.prog 36 #[.pointer (some ⟨b1, 0, none⟩), .pointer (some ⟨b2, 0, none⟩)] w1 fun e w' => e = .returned (.tuple #[.string (errP L gs 2).1, .int .i64 (errP L gs 2).2]) ∧ Below w1.heap.size w1 w') := Lib.hid fun w1 b1 b2 hk hb hb' => fault3_any L gs v u b1 b2 w1 hP.1 hG.1 (isPs_below hk h) (isGs_below hk h') hb hb'
  have HF4 : Hid (∀ w1 b1 b2, KB w w1 → w1.cell? ⟨b1, 0, none⟩ = some v → w1.cell? ⟨b2, 0, none⟩ = some u → Calls Tryz.prog 40 #[.pointer (some ⟨b1, 0, none⟩), .pointer (some ⟨b2, 0, none⟩)] w1 fun e w' => e = .returned (.tuple #[.string (errP L gs 3).1, .int .i64 (errP L gs 3).2]) ∧ Below w1.heap.size w1 w') := Lib.hid fun w1 b1 b2 hk hb hb' => fault4_any L gs v u b1 b2 w1 (hE.kb hk) hP hG (isPs_below hk h) (isGs_below hk h') hb hb'
  obtain ⟨o, c, rfl⟩ := isPs_form h
  obtain ⟨o', c', rfl⟩ := isGs_form h'
  clear h h' hP hG hE
  have HB0 : Hid (KB w (w.alloc (.cells #[.slice o' gs.length c'] 23))) := Lib.hid kbA
  have HN := Lib.hid (World.alloc_heap_new w (.cells #[.slice o' gs.length c'] 23))
  generalize gs.length = nG at *
  have ef1 : ∀ args w, (callFunc 31 args).run Tryz.prog w = .ok (.enter 31 args) w := enters_of Tryz.func31 (by kernel_rfl) rfl
  have ef2 : ∀ args w, (callFunc 32 args).run Tryz.prog w = .ok (.enter 32 args) w := enters_of Tryz.func32 (by kernel_rfl) rfl
  have ef3 : ∀ args w, (callFunc 36 args).run Tryz.prog w = .ok (.enter 36 args) w := enters_of Tryz.func36 (by kernel_rfl) rfl
  have ef4 : ∀ args w, (callFunc 40 args).run Tryz.prog w = .ok (.enter 40 args) w := enters_of Tryz.func40 (by kernel_rfl) rfl
  have HFA := Lib.hid (fun w1 => faults_any L.length nG c c' o o' w1)
  go_enter Tryz.func7, Tryz.ntmps7
  go_wp2_with fail
  refine (HFA.out _).mono ?_
  rintro e w2 ⟨b1, b2, b4, rfl, k1, k2, k3, k4, k5, k6, hb2⟩
  have HK2 := Lib.hid (HB0.out.trans (hb2.mono HB0.out.size))
  have HCS := Lib.hid (And.intro k1 (And.intro k2 (And.intro k3 (And.intro k4 (And.intro k5 k6)))))
  have HGB := Lib.hid ((hb2.block w.heap.size (by simp)).trans HN.out)
  clear k1 k2 k3 k4 k5 k6 hb2 HFA HN
  go_wp2_with fail
  go_loopw [15] (fun i wr => ∃ j : Nat, j ≤ 4 ∧ i = .int .i64 j ∧ Hid (Below w2.heap.size w2 wr) ∧ Hid (∀ i, i < j → (errP L gs i).2 = 0)) (fun i _ => 4 - (intOf i).toNat)
  case atStart => exact ⟨0, by omega, rfl, Lib.hid (Below.refl _ _), Lib.hid (fun _ h => absurd h (by omega))⟩
  case round =>
    obtain ⟨j, hj, rfl, hB, hN⟩ := hrel
    have KK : KB w wr := HK2.out.trans (hB.out.mono HK2.out.size)
    have hBc := hB.out
    by_cases hlt : j < 4
    · have hj4 : j = 0 ∨ j = 1 ∨ j = 2 ∨ j = 3 := by omega
      rcases hj4 with rfl | rfl | rfl | rfl
      · have q0 := cell_below hBc _ _ HCS.out.2.2.1
        have HC := Lib.hid (HF1.out _ b1 KK (cell_below hBc _ _ HCS.out.1))
        have HNX : (errP L gs 0).2 = 0 → Hid (∀ i, i < 0 + 1 → (errP L gs i).2 = 0) := fun e => Lib.hid fun i hi => by
          by_cases e2 : i = 0
          · rw [e2]; exact e
          · exact hN.out i (by omega)
        have HBD : (errP L gs 0).2 ≠ 0 → Hid (bindF L gs = errP L gs 0) := fun e => Lib.hid (bindF_at (by decide) hN.out e)
        clear KK hBc hN hlt
        generalize errP L gs 0 = er at *
        obtain ⟨es, ei⟩ := er
        dsimp only at *
        by_cases he : ei = 0
        · have HNN := HNX he
          subst he
          clear HNX HBD
          go_wp2_with (go_at_fn 31; refine HC.out.mono ?_; rintro e w6 ⟨rfl, hb6⟩)
          go_roundw
          case rel => exact ⟨1, by omega, by go_num, Lib.hid (hB.out.trans (hb6.mono hB.out.size)), HNN⟩
          case measure => simp [intOf]
        · have HBB := HBD he
          have z1 : (ei == 0) = false := beqI he
          have z2 : (ei != 0) = true := bne_iff_ne.2 he
          have HE := Lib.hid he
          clear HNX HBD he
          go_wp2_with (go_at_fn 31; refine HC.out.mono ?_; rintro e w6 ⟨rfl, hb6⟩)
          refine bodyPost_ret (v := .tuple #[.slice none 0 0, .string es, .int .i64 ei]) (by simp [results, Tryz.results7, go_sem]) rfl ?_
          unfold RetB
          rw [HBB.out]
          exact ⟨fun e => absurd e HE.out, fun _ => rfl, HK2.out.trans ((hB.out.trans (hb6.mono hB.out.size)).mono HK2.out.size)⟩
      · have q0 := cell_below hBc _ _ HCS.out.2.2.2.1
        have HC := Lib.hid (HF2.out _ b2 KK (cell_below hBc _ _ HCS.out.2.1))
        have HNX : (errP L gs 1).2 = 0 → Hid (∀ i, i < 1 + 1 → (errP L gs i).2 = 0) := fun e => Lib.hid fun i hi => by
          by_cases e2 : i = 1
          · rw [e2]; exact e
          · exact hN.out i (by omega)
        have HBD : (errP L gs 1).2 ≠ 0 → Hid (bindF L gs = errP L gs 1) := fun e => Lib.hid (bindF_at (by decide) hN.out e)
        clear KK hBc hN hlt
        generalize errP L gs 1 = er at *
        obtain ⟨es, ei⟩ := er
        dsimp only at *
        by_cases he : ei = 0
        · have HNN := HNX he
          subst he
          clear HNX HBD
          go_wp2_with (go_at_fn 32; refine HC.out.mono ?_; rintro e w6 ⟨rfl, hb6⟩)
          go_roundw
          case rel => exact ⟨2, by omega, by go_num, Lib.hid (hB.out.trans (hb6.mono hB.out.size)), HNN⟩
          case measure => simp [intOf]
        · have HBB := HBD he
          have z1 : (ei == 0) = false := beqI he
          have z2 : (ei != 0) = true := bne_iff_ne.2 he
          have HE := Lib.hid he
          clear HNX HBD he
          go_wp2_with (go_at_fn 32; refine HC.out.mono ?_; rintro e w6 ⟨rfl, hb6⟩)
          refine bodyPost_ret (v := .tuple #[.slice none 0 0, .string es, .int .i64 ei]) (by simp [results, Tryz.results7, go_sem]) rfl ?_
          unfold RetB
          rw [HBB.out]
          exact ⟨fun e => absurd e HE.out, fun _ => rfl, HK2.out.trans ((hB.out.trans (hb6.mono hB.out.size)).mono HK2.out.size)⟩
      · have q0 := cell_below hBc _ _ HCS.out.2.2.2.2.1
        have HC := Lib.hid (HF3.out _ b1 b2 KK (cell_below hBc _ _ HCS.out.1) (cell_below hBc _ _ HCS.out.2.1))
        have HNX : (errP L gs 2).2 = 0 → Hid (∀ i, i < 2 + 1 → (errP L gs i).2 = 0) := fun e => Lib.hid fun i hi => by
          by_cases e2 : i = 2
          · rw [e2]; exact e
          · exact hN.out i (by omega)
        have HBD : (errP L gs 2).2 ≠ 0 → Hid (bindF L gs = errP L gs 2) := fun e => Lib.hid (bindF_at (by decide) hN.out e)
        clear KK hBc hN hlt
        generalize errP L gs 2 = er at *
        obtain ⟨es, ei⟩ := er
        dsimp only at *
        by_cases he : ei = 0
        · have HNN := HNX he
          subst he
          clear HNX HBD
          go_wp2_with (go_at_fn 36; refine HC.out.mono ?_; rintro e w6 ⟨rfl, hb6⟩)
          go_roundw
          case rel => exact ⟨3, by omega, by go_num, Lib.hid (hB.out.trans (hb6.mono hB.out.size)), HNN⟩
          case measure => simp [intOf]
        · have HBB := HBD he
          have z1 : (ei == 0) = false := beqI he
          have z2 : (ei != 0) = true := bne_iff_ne.2 he
          have HE := Lib.hid he
          clear HNX HBD he
          go_wp2_with (go_at_fn 36; refine HC.out.mono ?_; rintro e w6 ⟨rfl, hb6⟩)
          refine bodyPost_ret (v := .tuple #[.slice none 0 0, .string es, .int .i64 ei]) (by simp [results, Tryz.results7, go_sem]) rfl ?_
          unfold RetB
          rw [HBB.out]
          exact ⟨fun e => absurd e HE.out, fun _ => rfl, HK2.out.trans ((hB.out.trans (hb6.mono hB.out.size)).mono HK2.out.size)⟩
      · have q0 := cell_below hBc _ _ HCS.out.2.2.2.2.2
        have HC := Lib.hid (HF4.out _ b1 b2 KK (cell_below hBc _ _ HCS.out.1) (cell_below hBc _ _ HCS.out.2.1))
        have HNX : (errP L gs 3).2 = 0 → Hid (∀ i, i < 3 + 1 → (errP L gs i).2 = 0) := fun e => Lib.hid fun i hi => by
          by_cases e2 : i = 3
          · rw [e2]; exact e
          · exact hN.out i (by omega)
        have HBD : (errP L gs 3).2 ≠ 0 → Hid (bindF L gs = errP L gs 3) := fun e => Lib.hid (bindF_at (by decide) hN.out e)
        clear KK hBc hN hlt
        generalize errP L gs 3 = er at *
        obtain ⟨es, ei⟩ := er
        dsimp only at *
        by_cases he : ei = 0
        · have HNN := HNX he
          subst he
          clear HNX HBD
          go_wp2_with (go_at_fn 40; refine HC.out.mono ?_; rintro e w6 ⟨rfl, hb6⟩)
          go_roundw
          case rel => exact ⟨4, by omega, by go_num, Lib.hid (hB.out.trans (hb6.mono hB.out.size)), HNN⟩
          case measure => simp [intOf]
        · have HBB := HBD he
          have z1 : (ei == 0) = false := beqI he
          have z2 : (ei != 0) = true := bne_iff_ne.2 he
          have HE := Lib.hid he
          clear HNX HBD he
          go_wp2_with (go_at_fn 40; refine HC.out.mono ?_; rintro e w6 ⟨rfl, hb6⟩)
          refine bodyPost_ret (v := .tuple #[.slice none 0 0, .string es, .int .i64 ei]) (by simp [results, Tryz.results7, go_sem]) rfl ?_
          unfold RetB
          rw [HBB.out]
          exact ⟨fun e => absurd e HE.out, fun _ => rfl, HK2.out.trans ((hB.out.trans (hb6.mono hB.out.size)).mono HK2.out.size)⟩
    · obtain rfl : j = 4 := by omega
      have hz := bindF_none hN.out
      have HZ := Lib.hid hz
      have q1 := (hB.out.block w.heap.size (Array.getElem?_eq_some_iff.1 HGB.out).1).trans HGB.out
      have HE := Lib.hid (HEA.out wr w.heap.size KK hN.out (by simp [World.cell?, q1]))
      have HKK := Lib.hid KK
      clear hN hz KK hBc q1 hlt
      go_wp2_with (go_at_call 15; refine HE.out.mono ?_; rintro e w6 ⟨⟨v6, xs, rfl, ho6, hx6⟩, hb6⟩; obtain ⟨o6, a6, c6, rfl, -⟩ := own_form ho6; have HO6 := Lib.hid ho6; have HX6 := Lib.hid hx6; clear ho6 hx6)
      refine bodyPost_ret (v := .tuple #[.slice o6 L.length c6, .string ⟨#[]⟩, .int .i64 0]) (by simp [results, Tryz.results7, go_sem]) rfl ?_
      unfold RetB
      rw [HZ.out]
      exact ⟨fun _ => ⟨_, xs, rfl, own_lower HO6.out HKK.out.size, HX6.out⟩, fun e => absurd rfl e, HKK.out.trans (hb6.mono HKK.out.size)⟩
end Go.Proofs.YtlamkadllbgamaaGreatDoor
