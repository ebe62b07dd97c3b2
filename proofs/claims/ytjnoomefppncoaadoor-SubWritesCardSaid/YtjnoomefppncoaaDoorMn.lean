/-
  Write of package sub.
-/
import Derived.Test.YtjnoomefppncoaaDoorMl
set_option linter.unusedVariables false
namespace Go.Proofs.YtjnoomefppncoaaDoor
open Go.RowKit Go.Shelf

/-- The first j expressions may be parts, and no two texts among them stand one behind the other. -/
def okP (l : List E) (j : Nat) : Prop := ∀ i (h : i < l.length), i < j → partB l[i] = true ∧ ∀ k (hk : k + 1 = i), ¬ (l[i].kind = 0 ∧ (l[k]'(by omega)).kind = 0)
/-- What Write tells of expressions. -/
def WriteR (l : List E) (w : World) (e : Ending) (w' : World) : Prop :=
  (okP l l.length → match wrR (l.map toX).reverse with
    | none => e = .returned (.tuple #[.string ⟨#[]⟩, .int .i64 130])
    | some z => e = .returned (.tuple #[.string (bs z), .int .i64 0])) ∧
  (¬ okP l l.length → e = .returned (.tuple #[.string ⟨#[]⟩, .int .i64 2])) ∧ Below w.heap.size w w'
theorem okP_zero (l : List E) : okP l 0 := fun i h h0 => absurd h0 (by omega)
theorem okP_succ {l : List E} {j : Nat} (h : okP l j) (hj : j < l.length) (h1 : partB l[j] = true) (h2 : ∀ k (hk : k + 1 = j), ¬ (l[j].kind = 0 ∧ (l[k]'(by omega)).kind = 0)) : okP l (j + 1) := fun i hi hij => by
  by_cases e : i = j
  · subst e; exact ⟨h1, h2⟩
  · exact h i hi (by omega)
theorem okP_prev {l : List E} {i : Nat} (hlt : i + 1 < l.length) (hy : ¬ (l[i]'(by omega)).kind = 0) : ∀ k (hk : k + 1 = i + 1), ¬ (l[i + 1].kind = 0 ∧ (l[k]'(by omega)).kind = 0) := fun k hk h => by
  obtain rfl : k = i := by omega
  exact hy h.2
theorem box_six {W w5 : World} {u0 u1 u2 u3 u4 u5 : Value} {t : TypeId} (hb : Below (W.alloc (.cells #[u0, u1, u2, u3, u4, u5] t)).heap.size (W.alloc (.cells #[u0, u1, u2, u3, u4, u5] t)) w5) :
    w5.cell? ⟨W.heap.size, 0, none⟩ = some u0 ∧ w5.cell? ⟨W.heap.size, 1, none⟩ = some u1 ∧ w5.cell? ⟨W.heap.size, 2, none⟩ = some u2 ∧ w5.cell? ⟨W.heap.size, 3, none⟩ = some u3 ∧ w5.cell? ⟨W.heap.size, 4, none⟩ = some u4 ∧ w5.cell? ⟨W.heap.size, 5, none⟩ = some u5 := by
  have h := heap_alloc_new W (.cells #[u0, u1, u2, u3, u4, u5] t)
  have k : ∀ i u, (#[u0, u1, u2, u3, u4, u5] : Array Value)[i]? = some u → w5.cell? ⟨W.heap.size, i, none⟩ = some u := fun i u hu => (hb.cell (p := ⟨W.heap.size, i, none⟩) (by simp)).trans ((cell_of_row _ _ i _ _ (0, 0) h).trans hu)
  exact ⟨k 0 _ rfl, k 1 _ rfl, k 2 _ rfl, k 3 _ rfl, k 4 _ rfl, k 5 _ rfl⟩
theorem below_box {w W w5 : World} {ob : Obj} (h : Below w.heap.size w W) (hb : Below (W.alloc ob).heap.size (W.alloc ob) w5) : Below w.heap.size w w5 := (h.alloc h.size ob).trans (hb.mono (h.alloc h.size ob).size)
theorem wrR_stop : ∀ (A B : List X), wrR B = none → wrR (A ++ B) = none
  | [], B, h => h
  | x :: A, B, h => by
    show (match wrR (A ++ B) with | none => none | some a => match wr1 x with | none => none | some b => some (a ++ b)) = none
    rw [wrR_stop A B h]
theorem wrR_snoc (xs : List X) (j : Nat) (h : j < xs.length) : wrR (xs.take (j + 1)).reverse = match wrR (xs.take j).reverse with
    | none => none
    | some a => match wr1 xs[j] with
      | none => none
      | some b => some (a ++ b) := by
  rw [List.take_succ_eq_append_getElem h, List.reverse_append, List.reverse_cons, List.reverse_nil, List.nil_append, List.cons_append, List.nil_append]
  rfl

set_option maxRecDepth 100000 in
set_option maxHeartbeats 8000000 in
theorem write_walk (l : List E) (v : Value) (w : World) (hE : Env w) (hl : l.length ≤ 2000) (hsm : ∀ x ∈ l, smallE x) (hv : isEl w l v) :
    Calls Tryd.prog 17 #[v] w (WriteR l w) := by
  obtain ⟨a, cap, ⟨o, rfl, hc1, hc2, ho⟩, hvs⟩ := hv
  have HV := Lib.hid hvs
  have HE := Lib.hid hE
  have HSM := Lib.hid hsm
  clear hvs hE hsm
  go_enter Tryd.func17, Tryd.ntmps17
  go_wp2_with fail
  go_loopw [11] (fun iv wr => ∃ j : Nat, j ≤ l.length ∧ iv = .int .i64 j ∧ Hid (okP l j) ∧ Hid (Below w.heap.size w wr)) (fun iv _ => l.length - (intOf iv).toNat)
  case atStart => exact ⟨0, Nat.zero_le _, rfl, Lib.hid (okP_zero l), Lib.hid (Below.refl _ _)⟩
  case round =>
    obtain ⟨j, hj, rfl, hok, hB⟩ := hrel
    by_cases hlt : j < l.length
    · obtain rfl := ho (by omega)
      have hlti : (j : Int) < (l.length : Int) := by omega
      have hvw := isEs_below hB.out HV.out
      obtain ⟨c0, c1, c2, c3, c4, c5, g0, g1, g2, g3, g4, g5, hx5⟩ := isEs_at l a j hlt hvw
      obtain ⟨o5, cp5, rfl, rfl, rfl, rfl, rfl, rfl⟩ := isE_six hx5
      have HM := Lib.hid fun (ob : Obj) => pmayBe_any l[j] _ (wr.alloc ob) (HE.out.below (hB.out.alloc hB.out.size ob) HE.out.1) (isE_below ((Below.refl _ _).alloc (Nat.le_refl _) ob) hx5)
      clear hx5 hvw
      cases hp : partB l[j] with
      | false =>
        rw [hp] at HM
        have HF : Hid (∀ w' : World, Below w.heap.size w w' → WriteR l w (.returned (.tuple #[.string ⟨#[]⟩, .int .i64 2])) w') := Lib.hid fun w' hb => ⟨fun h => absurd (h j hlt (by omega)).1 (by rw [hp]; simp), fun _ => rfl, hb⟩
        clear hp
        generalize l[j] = x at *
        go_wp2_with (go_at_call 31; refine (HM.out _).mono ?_; rintro e w5 ⟨rfl, hb5⟩)
        go_ret2
        exact HF.out _ (below_box hB.out hb5)
      | true =>
        rw [hp] at HM
        go_wp2_with fail
        go_at_call 31
        refine (HM.out _).mono ?_
        rintro e w5 ⟨rfl, hb5⟩
        obtain ⟨b0, b1, b2, b3, b4, b5⟩ := box_six hb5
        have HB5 := Lib.hid (below_box hB.out hb5)
        clear hb5 HM g0 g1 g2 g3 g4 g5
        rcases j with _ | i
        · have HO : Hid (okP l (0 + 1)) := Lib.hid (okP_succ hok.out hlt hp (fun k hk => absurd hk (by omega)))
          clear hp hok
          generalize l[0] = x at *
          go_wp2_with fail
          go_roundw
          case rel => exact ⟨0 + 1, by omega, by go_num, HO, HB5⟩
          case measure => simp [intOf]; omega
        · have hi0 : (0 : Int) < (i : Int) + 1 := by omega
          by_cases hk0 : l[i + 1].kind = 0
          · have hkt : ((l[i + 1].kind : Int) == 0) = true := by rw [hk0]; rfl
            have HIT := fun W => pisText_any l[i + 1].kind l[i + 1].num l[i + 1].text l[i + 1].name l[i + 1].attr (.slice o5 l[i + 1].list.length cp5) W
            rw [hkt] at HIT
            have HI := Lib.hid HIT
            clear HIT
            have HY : Hid (∀ W, Below w5.heap.size w5 W → ∃ c0 c1 c2 c3 c4 c5, W.cell? (a.add (i * 6)) = some c0 ∧ W.cell? ⟨(a.add (i * 6)).block, (a.add (i * 6)).off + 1, none⟩ = some c1 ∧ W.cell? ⟨(a.add (i * 6)).block, (a.add (i * 6)).off + 2, none⟩ = some c2 ∧ W.cell? ⟨(a.add (i * 6)).block, (a.add (i * 6)).off + 3, none⟩ = some c3 ∧ W.cell? ⟨(a.add (i * 6)).block, (a.add (i * 6)).off + 4, none⟩ = some c4 ∧ W.cell? ⟨(a.add (i * 6)).block, (a.add (i * 6)).off + 5, none⟩ = some c5 ∧ isE W l[i] (.agg #[c0, c1, c2, c3, c4, c5])) := Lib.hid fun W hb => isEs_at l a i (by omega) (isEs_below (HB5.out.trans (hb.mono HB5.out.size)) HV.out)
            by_cases hy0 : l[i].kind = 0
            · have HF : Hid (∀ w' : World, Below w.heap.size w w' → WriteR l w (.returned (.tuple #[.string ⟨#[]⟩, .int .i64 2])) w') := Lib.hid fun w' hb => ⟨fun h => absurd ⟨hk0, hy0⟩ ((h (i + 1) hlt (by omega)).2 i rfl), fun _ => rfl, hb⟩
              have hyt : ((l[i].kind : Int) == 0) = true := by rw [hy0]; rfl
              clear hp hok hk0 hy0
              generalize l[i + 1] = x at *
              generalize l[i] = y at *
              go_wp2_with fail
              go_at_call 25
              refine (HI.out _).mono ?_
              rintro e w6 ⟨rfl, hb6⟩
              obtain ⟨d0, d1, d2, d3, d4, d5, q0, q1, q2, q3, q4, q5, hy⟩ := HY.out w6 hb6
              obtain ⟨o7, cp7, rfl, rfl, rfl, rfl, rfl, rfl⟩ := isE_six hy
              have HB6 := Lib.hid (HB5.out.trans (hb6.mono HB5.out.size))
              clear hy hb6 HY
              go_wp2_with (go_at_call 25; refine (pisText_any _ _ _ _ _ _ _).mono ?_; rintro e w7 ⟨rfl, hb7⟩; rw [hyt])
              go_ret2
              exact HF.out _ (HB6.out.trans (hb7.mono HB6.out.size))
            · have HO : Hid (okP l (i + 1 + 1)) := Lib.hid (okP_succ hok.out hlt hp (okP_prev hlt hy0))
              have hyt : ((l[i].kind : Int) == 0) = false := beq_eq_false_iff_ne.2 hy0
              clear hp hok hk0 hy0
              generalize l[i + 1] = x at *
              generalize l[i] = y at *
              go_wp2_with fail
              go_at_call 25
              refine (HI.out _).mono ?_
              rintro e w6 ⟨rfl, hb6⟩
              obtain ⟨d0, d1, d2, d3, d4, d5, q0, q1, q2, q3, q4, q5, hy⟩ := HY.out w6 hb6
              obtain ⟨o7, cp7, rfl, rfl, rfl, rfl, rfl, rfl⟩ := isE_six hy
              have HB6 := Lib.hid (HB5.out.trans (hb6.mono HB5.out.size))
              clear hy hb6 HY
              go_wp2_with (go_at_call 25; refine (pisText_any _ _ _ _ _ _ _).mono ?_; rintro e w7 ⟨rfl, hb7⟩; rw [hyt])
              go_roundw
              case rel => exact ⟨i + 1 + 1, by omega, by go_num, HO, Lib.hid (HB6.out.trans (hb7.mono HB6.out.size))⟩
              case measure => simp [intOf]; omega
          · have hkt : ((l[i + 1].kind : Int) == 0) = false := beq_eq_false_iff_ne.2 hk0
            have HO : Hid (okP l (i + 1 + 1)) := Lib.hid (okP_succ hok.out hlt hp (fun k hk h => hk0 h.1))
            clear hp hok hk0
            generalize l[i + 1] = x at *
            go_wp2_with (go_at_call 25; refine (pisText_any _ _ _ _ _ _ _).mono ?_; rintro e w7 ⟨rfl, hb7⟩; rw [hkt])
            go_roundw
            case rel => exact ⟨i + 1 + 1, by omega, by go_num, HO, Lib.hid (HB5.out.trans (hb7.mono HB5.out.size))⟩
            case measure => simp [intOf]; omega
    · obtain rfl : j = l.length := by omega
      obtain ⟨W0, rfl⟩ : ∃ W0, W0 = wr := ⟨_, rfl⟩
      have HOK := Lib.hid hok.out
      have HB0 := Lib.hid hB.out
      have hE0 : Hid (Env W0) := Lib.hid (HE.out.kb hB.out)
      have hV0 : Hid (isEs W0 l a) := Lib.hid (isEs_below hB.out HV.out)
      have h3b : 3 ≤ W0.heap.size := hE0.out.1
      have HQ0 : Hid (BQ W0.heap.size [] (W0.alloc (.cells #[.pointer none, .slice none 0 0] 47))) := Lib.hid (.inl ⟨Nat.le_refl _, .slice none 0 0, heap_alloc_new W0 _, World.ownsRowF_nil _ _ _ _, by simp [Value.ownBlock]⟩)
      clear hok hB HV HE
      go_wp2_with fail
      go_loopw [38] (fun iv wr => ∃ (j : Nat) (acc : List UInt8), j ≤ l.length ∧ iv = .int .i64 j ∧ acc.length ≤ 7000 * j ∧ Hid (wrR ((l.map toX).take j).reverse = some acc) ∧ Hid (BQ W0.heap.size acc wr) ∧ Hid (Below W0.heap.size W0 wr)) (fun iv _ => l.length - (intOf iv).toNat)
      case atStart => exact ⟨0, [], Nat.zero_le _, rfl, Nat.zero_le _, Lib.hid rfl, HQ0, Lib.hid ((Below.refl _ _).alloc (Nat.le_refl _) _)⟩
      case round =>
        obtain ⟨j, acc, hj, rfl, hacc, hW, hQ, hB⟩ := hrel
        by_cases hlt : j < l.length
        · obtain rfl := ho (by omega)
          have hlti : (j : Int) < (l.length : Int) := by omega
          have hbw : W0.heap.size ≤ wr.heap.size := Nat.le_of_lt hQ.out.lt
          have hvw : isEs wr l a := isEs_keep (cell_below hB.out) l a hV0.out
          obtain ⟨c0, c1, c2, c3, c4, c5, g0, g1, g2, g3, g4, g5, hx5⟩ := isEs_at l a j hlt hvw
          obtain ⟨o5, cp5, rfl, rfl, rfl, rfl, rfl, rfl⟩ := isE_six hx5
          have hpt := part_of (HOK.out j hlt hlt).1
          have hsm := HSM.out l[j] (List.getElem_mem hlt)
          have hjm : j < (l.map toX).length := by rw [List.length_map]; exact hlt
          have hsn := wrR_snoc (l.map toX) j hjm
          rw [hW.out, List.getElem_map] at hsn
          simp only at hsn
          have hb1 : ∀ ob, Below wr.heap.size wr (wr.alloc ob) := fun ob => (Below.refl _ _).alloc (Nat.le_refl _) ob
          unfold smallE at hsm
          rw [hpt.text, hpt.name, hpt.attr, bs_size, bs_size, bs_size] at hsm
          have hll : l[j].list.length = 0 := by rw [hpt.list]; rfl
          have hput : ∀ ob : Obj, Calls Tryd.prog 32 #[.pointer (some ⟨W0.heap.size, 0, none⟩), .agg #[.int .i8 l[j].kind, .string l[j].text, .int .i64 l[j].num, .string l[j].name, .string l[j].attr, .slice o5 l[j].list.length cp5]] (wr.alloc ob) (PutR W0.heap.size acc (wr1 (toX l[j])) (wr.alloc ob)) := fun ob => by
            rw [hpt.kind, hpt.text, hpt.num, hpt.name, hpt.attr, hll]
            exact put_any W0.heap.size (toX l[j]) o5 cp5 acc (wr.alloc ob) (hE0.out.below (hB.out.trans ((hb1 ob).mono hbw)) h3b) h3b (hQ.out.below (hb1 ob)) hsm (by omega)
          have HBA : Hid (∀ ob w5, Below W0.heap.size (wr.alloc ob) w5 → Below W0.heap.size W0 w5) := Lib.hid fun ob w5 hb => (hB.out.trans ((hb1 ob).mono hbw)).trans hb
          cases hw1 : wr1 (toX l[j]) with
          | none =>
            rw [hw1] at hput hsn
            simp only at hsn
            have HP := Lib.hid hput
            have HF : Hid (∀ w' : World, Below W0.heap.size W0 w' → WriteR l w (.returned (.tuple #[.string ⟨#[]⟩, .int .i64 130])) w') := Lib.hid fun w' hb => by
              refine ⟨fun _ => ?_, fun h => absurd HOK.out h, HB0.out.trans (hb.mono HB0.out.size)⟩
              have : wrR (l.map toX).reverse = none := by
                have e : (l.map toX).reverse = ((l.map toX).drop (j + 1)).reverse ++ ((l.map toX).take (j + 1)).reverse := by rw [← List.reverse_append, List.take_append_drop]
                rw [e]
                exact wrR_stop _ _ hsn
              rw [this]
            clear hput hsn hvw hx5 hpt hsm hw1 hb1 hll hjm
            generalize l[j] = x at *
            go_wp2_with (go_at_call 32; refine (HP.out _).mono ?_; rintro e w5 ⟨rfl, hb5⟩)
            go_ret2
            exact HF.out _ (HBA.out _ _ hb5)
          | some z =>
            rw [hw1] at hput hsn
            simp only at hsn
            have HP := Lib.hid hput
            have HSN := Lib.hid hsn
            have hzl := wr1_len hw1
            clear hput hsn hvw hx5 hpt hw1 hb1 hll hjm
            generalize l[j] = x at *
            go_wp2_with (go_at_call 32; refine (HP.out _).mono ?_; rintro e w5 ⟨rfl, hq5, hb5⟩)
            go_roundw
            case rel => exact ⟨j + 1, acc ++ z, by omega, by go_num, by rw [List.length_append]; omega, HSN, Lib.hid hq5, Lib.hid (HBA.out _ _ hb5)⟩
            case measure => simp [intOf]; omega
        · obtain rfl : j = l.length := by omega
          have hbw : W0.heap.size ≤ wr.heap.size := Nat.le_of_lt hQ.out.lt
          have HS := Lib.hid (Tryd.Builder_String_any_k W0.heap.size W0.heap.size acc wr hQ.out hbw)
          have HF : Hid (∀ w' : World, Below W0.heap.size wr w' → WriteR l w (.returned (.tuple #[.string ⟨acc.toArray⟩, .int .i64 0])) w') := Lib.hid fun w' hb => by
            refine ⟨fun _ => ?_, fun h => absurd HOK.out h, HB0.out.trans ((hB.out.trans hb).mono HB0.out.size)⟩
            have := hW.out
            rw [List.take_of_length_le (by rw [List.length_map]; exact Nat.le_refl _)] at this
            rw [this]
          clear hW hQ
          go_wp2_with (go_at_call 33; refine HS.out.mono ?_; rintro e w7 ⟨rfl, -, hb7, -⟩)
          go_ret2
          exact HF.out _ hb7
end Go.Proofs.YtjnoomefppncoaaDoor
