/-
  The reference's Write.
-/
import Derived.Test.YtjnoomefppncoaaDoorMn
import Derived.Test.YtjnoomefppncoaaDoorMr
import Derived.Test.YtjnoomefppncoaaDoorMs
set_option linter.unusedVariables false
namespace Go.Proofs.YtjnoomefppncoaaDoor
open Go.RowKit Go.Shelf

set_option maxRecDepth 100000 in
set_option maxHeartbeats 8000000 in
theorem rwrite_walk (l : List E) (v : Value) (w : World) (hl : l.length ≤ 2000) (hsm : ∀ x ∈ l, smallE x) (hv : isEl w l v) :
    Calls Tryd.prog 18 #[v] w (WriteR l w) := by
  obtain ⟨a, cap, ⟨o, rfl, hc1, hc2, ho⟩, hvs⟩ := hv
  have HV := Lib.hid hvs
  have HSM := Lib.hid hsm
  clear hvs hsm
  go_enter Tryd.func18, Tryd.ntmps18
  go_wp2_with fail
  go_loopw [4] (fun iv wr => ∃ j : Nat, j ≤ l.length ∧ iv = .int .i64 j ∧ Hid (okP l j) ∧ Hid (Below w.heap.size w wr)) (fun iv _ => l.length - (intOf iv).toNat)
  case atStart => exact ⟨0, Nat.zero_le _, rfl, Lib.hid (okP_zero l), Lib.hid (Below.refl _ _)⟩
  case round =>
    obtain ⟨j, hj, rfl, hok, hB⟩ := hrel
    by_cases hlt : j < l.length
    · obtain rfl := ho (by omega)
      have hlti : (j : Int) < (l.length : Int) := by omega
      have hvw := isEs_below hB.out HV.out
      obtain ⟨c0, c1, c2, c3, c4, c5, g0, g1, g2, g3, g4, g5, hx5⟩ := isEs_at l a j hlt hvw
      obtain ⟨o5, cp5, rfl, rfl, rfl, rfl, rfl, rfl⟩ := isE_six hx5
      have HM := Lib.hid (rpart_any l[j] _ wr hx5)
      clear hx5 hvw
      cases hp : partB l[j] with
      | false =>
        rw [hp] at HM
        have HF : Hid (∀ w' : World, Below w.heap.size w w' → WriteR l w (.returned (.tuple #[.string ⟨#[]⟩, .int .i64 2])) w') := Lib.hid fun w' hb => ⟨fun h => absurd (h j hlt (by omega)).1 (by rw [hp]; simp), fun _ => rfl, hb⟩
        clear hp
        generalize l[j] = x at *
        go_wp2_with (go_at_call 34; refine HM.out.mono ?_; rintro e w5 ⟨rfl, hb5⟩)
        go_ret2
        exact HF.out _ (hB.out.trans (hb5.mono hB.out.size))
      | true =>
        rw [hp] at HM
        go_wp2_with fail
        go_at_call 34
        refine HM.out.mono ?_
        rintro e w5 ⟨rfl, hb5⟩
        have HB5 := Lib.hid (hB.out.trans (hb5.mono hB.out.size))
        have p0 := cell_below hb5 _ _ g0
        clear hb5 HM g0 g1 g2 g3 g4 g5
        rcases j with _ | i
        · have HO : Hid (okP l (0 + 1)) := Lib.hid (okP_succ hok.out hlt hp (fun k hk => absurd hk (by omega)))
          clear hp hok
          generalize l[0] = x at *
          go_wp2_with fail
          go_roundw
          case rel => exact ⟨0 + 1, by omega, by go_num, HO, HB5⟩
          case measure => simp [intOf]; omega
        · have hi0 : (0 : Int) < (i : Int) + 1 := by omega
          obtain ⟨d0, d1, d2, d3, d4, d5, q0, q1, q2, q3, q4, q5, hy⟩ := isEs_at l a i (by omega) (isEs_below HB5.out HV.out)
          obtain ⟨o7, cp7, rfl, rfl, rfl, rfl, rfl, rfl⟩ := isE_six hy
          clear hy q1 q2 q3 q4 q5
          by_cases hk0 : l[i + 1].kind = 0
          · have hkt : ((l[i + 1].kind : Int) == 0) = true := by rw [hk0]; rfl
            by_cases hy0 : l[i].kind = 0
            · have HF : Hid (∀ w' : World, Below w.heap.size w w' → WriteR l w (.returned (.tuple #[.string ⟨#[]⟩, .int .i64 2])) w') := Lib.hid fun w' hb => ⟨fun h => absurd ⟨hk0, hy0⟩ ((h (i + 1) hlt (by omega)).2 i rfl), fun _ => rfl, hb⟩
              have hyt : ((l[i].kind : Int) == 0) = true := by rw [hy0]; rfl
              clear hp hok hk0 hy0
              generalize l[i + 1] = x at *
              generalize l[i] = y at *
              go_wp2_with fail
              go_ret2
              exact HF.out _ HB5.out
            · have HO : Hid (okP l (i + 1 + 1)) := Lib.hid (okP_succ hok.out hlt hp (okP_prev hlt hy0))
              have hyt : ((l[i].kind : Int) == 0) = false := beq_eq_false_iff_ne.2 hy0
              clear hp hok hk0 hy0
              generalize l[i + 1] = x at *
              generalize l[i] = y at *
              go_wp2_with fail
              go_roundw
              case rel => exact ⟨i + 1 + 1, by omega, by go_num, HO, HB5⟩
              case measure => simp [intOf]; omega
          · have hkt : ((l[i + 1].kind : Int) == 0) = false := beq_eq_false_iff_ne.2 hk0
            have HO : Hid (okP l (i + 1 + 1)) := Lib.hid (okP_succ hok.out hlt hp (fun k hk h => hk0 h.1))
            clear hp hok hk0
            generalize l[i + 1] = x at *
            go_wp2_with fail
            go_roundw
            case rel => exact ⟨i + 1 + 1, by omega, by go_num, HO, HB5⟩
            case measure => simp [intOf]; omega
    · obtain rfl : j = l.length := by omega
      obtain ⟨W0, rfl⟩ : ∃ W0, W0 = wr := ⟨_, rfl⟩
      have HOK := Lib.hid hok.out
      have HB0 := Lib.hid hB.out
      have hV0 : Hid (isEs W0 l a) := Lib.hid (isEs_below hB.out HV.out)
      clear hok hB HV
      go_wp2_with fail
      go_loopw [5, 6] (fun uv iv wr => ∃ (j : Nat) (u : ByteArray), j ≤ l.length ∧ iv = .int .i64 j ∧ uv = .string u ∧ u.size ≤ 7000 * j ∧ Hid (wrR ((l.map toX).take j).reverse = some u.data.toList) ∧ Hid (Below W0.heap.size W0 wr)) (fun _ iv _ => l.length - (intOf iv).toNat)
      case atStart => exact ⟨0, ⟨#[]⟩, Nat.zero_le _, rfl, rfl, Nat.zero_le _, Lib.hid rfl, Lib.hid (Below.refl _ _)⟩
      case round =>
        obtain ⟨j, u, hj, rfl, rfl, hacc, hW, hB⟩ := hrel
        by_cases hlt : j < l.length
        · obtain rfl := ho (by omega)
          have hlti : (j : Int) < (l.length : Int) := by omega
          have hvw : isEs wr l a := isEs_keep (cell_below hB.out) l a hV0.out
          obtain ⟨c0, c1, c2, c3, c4, c5, g0, g1, g2, g3, g4, g5, hx5⟩ := isEs_at l a j hlt hvw
          obtain ⟨o5, cp5, rfl, rfl, rfl, rfl, rfl, rfl⟩ := isE_six hx5
          have hpt := part_of (HOK.out j hlt hlt).1
          have hsm := HSM.out l[j] (List.getElem_mem hlt)
          have hjm : j < (l.map toX).length := by rw [List.length_map]; exact hlt
          have hsn := wrR_snoc (l.map toX) j hjm
          rw [hW.out, List.getElem_map] at hsn
          simp only at hsn
          unfold smallE at hsm
          have HB1 : Hid (∀ ob, Below W0.heap.size W0 (wr.alloc ob)) := Lib.hid fun ob => hB.out.alloc hB.out.size ob
          have HXX := Lib.hid hpt
          rcases hq : toX l[j] with t | m | ⟨m, b⟩
          · have k0 : l[j].kind = 0 := by rw [hpt.kind, hq]; rfl
            have et : l[j].text.data.toList = t := by rw [hpt.text, hq]; exact bs_list t
            rw [hq] at hsn
            have ew : wr1 (X.text t) = wrT t := rfl
            rw [ew, ← et] at hsn
            have htl : l[j].text.size ≤ 3000 := by omega
            have HWT := Lib.hid fun W => written_any l[j].text W (by omega)
            unfold WrittenR at HWT
            cases hz : wrT l[j].text.data.toList with
            | none =>
              rw [hz] at hsn HWT
              simp only at hsn
              have HF : Hid (∀ w' : World, Below W0.heap.size W0 w' → WriteR l w (.returned (.tuple #[.string ⟨#[]⟩, .int .i64 130])) w') := Lib.hid fun w' hb => by
                refine ⟨fun _ => ?_, fun h => absurd HOK.out h, HB0.out.trans (hb.mono HB0.out.size)⟩
                have : wrR (l.map toX).reverse = none := by
                  have e : (l.map toX).reverse = ((l.map toX).drop (j + 1)).reverse ++ ((l.map toX).take (j + 1)).reverse := by rw [← List.reverse_append, List.take_append_drop]
                  rw [e]
                  exact wrR_stop _ _ hsn
                rw [this]
              rw [k0] at g0
              clear hsn hvw hx5 hpt HXX hsm hjm hq et ew hz k0 hW
              generalize l[j] = x at *
              go_wp2_with (go_at_call 35; refine (HWT.out _).mono ?_; rintro e w5 ⟨rfl, hb5⟩)
              go_ret2
              exact HF.out _ ((HB1.out _).trans (hb5.mono (HB1.out _).size))
            | some z =>
              rw [hz] at hsn HWT
              simp only at hsn
              have hzl := wrT_len _ _ z (Nat.le_refl _) hz
              rw [toList_length] at hzl
              have HSN : Hid (wrR ((l.map toX).take (j + 1)).reverse = some (u ++ bs z).data.toList) := Lib.hid (by rw [hsn]; simp)
              have hbz : (bs z).size = z.length := bs_size z
              have hsum : u.size + (bs z).size ≤ 9223372036854775807 := by omega
              rw [k0] at g0
              clear hsn hvw hx5 hpt HXX hsm hjm hq et ew hz k0 hW
              generalize l[j] = x at *
              go_wp2_with (go_at_call 35; refine (HWT.out _).mono ?_; rintro e w5 ⟨rfl, hb5⟩)
              go_roundw
              case rel => exact ⟨j + 1, u ++ bs z, by omega, by go_num, rfl, by rw [ByteArray.size_append]; omega, HSN, Lib.hid ((HB1.out _).trans (hb5.mono (HB1.out _).size))⟩
              case measure => simp [intOf]; omega
          · have k0 : l[j].kind = 3 := by rw [hpt.kind, hq]; rfl
            have et : l[j].name.data.toList = m := by rw [hpt.name, hq]; exact bs_list m
            rw [hq] at hsn
            have ew : wr1 (X.ref m) = some (36 :: 123 :: (m ++ [125])) := rfl
            rw [ew, ← et] at hsn
            simp only at hsn
            have htl : l[j].name.size ≤ 3000 := by omega
            have HSN : Hid (wrR ((l.map toX).take (j + 1)).reverse = some (u ++ ⟨#[36, 123]⟩ ++ l[j].name ++ ⟨#[125]⟩).data.toList) := Lib.hid (by rw [hsn]; simp)
            have hsum : u.size + 2 + l[j].name.size + 1 ≤ 9223372036854775807 := by omega
            rw [k0] at g0
            clear hsn hvw hx5 hpt HXX hsm hjm hq et ew k0 hW
            generalize l[j] = x at *
            go_wp2_with fail
            go_roundw
            case rel => exact ⟨j + 1, u ++ ⟨#[36, 123]⟩ ++ x.name ++ ⟨#[125]⟩, by omega, by go_num, rfl, by simp only [ByteArray.size_append]; show u.size + 2 + x.name.size + 1 ≤ _; omega, HSN, Lib.hid (HB1.out _)⟩
            case measure => simp [intOf]; omega
          · have k0 : l[j].kind = 4 := by rw [hpt.kind, hq]; rfl
            have et : l[j].name.data.toList = m := by rw [hpt.name, hq]; exact bs_list m
            have ea : l[j].attr.data.toList = b := by rw [hpt.attr, hq]; exact bs_list b
            rw [hq] at hsn
            have ew : wr1 (X.att m b) = some (36 :: 123 :: (m ++ 46 :: b ++ [125])) := rfl
            rw [ew, ← et, ← ea] at hsn
            simp only at hsn
            have htl : l[j].name.size + l[j].attr.size ≤ 3000 := by omega
            have HSN : Hid (wrR ((l.map toX).take (j + 1)).reverse = some (u ++ ⟨#[36, 123]⟩ ++ l[j].name ++ ⟨#[46]⟩ ++ l[j].attr ++ ⟨#[125]⟩).data.toList) := Lib.hid (by rw [hsn]; simp)
            have hsum : u.size + 2 + l[j].name.size + 1 + l[j].attr.size + 1 ≤ 9223372036854775807 := by omega
            rw [k0] at g0
            clear hsn hvw hx5 hpt HXX hsm hjm hq et ew ea k0 hW
            generalize l[j] = x at *
            go_wp2_with fail
            go_roundw
            case rel => exact ⟨j + 1, u ++ ⟨#[36, 123]⟩ ++ x.name ++ ⟨#[46]⟩ ++ x.attr ++ ⟨#[125]⟩, by omega, by go_num, rfl, by simp only [ByteArray.size_append]; show u.size + 2 + x.name.size + 1 + x.attr.size + 1 ≤ _; omega, HSN, Lib.hid (HB1.out _)⟩
            case measure => simp [intOf]; omega
        · obtain rfl : j = l.length := by omega
          have HF : Hid (WriteR l w (.returned (.tuple #[.string u, .int .i64 0])) wr) := Lib.hid (by
            refine ⟨fun _ => ?_, fun h => absurd HOK.out h, HB0.out.trans (hB.out.mono HB0.out.size)⟩
            have := hW.out
            rw [List.take_of_length_le (by rw [List.length_map]; exact Nat.le_refl _)] at this
            rw [this])
          clear hW
          go_wp2_with fail
          go_ret2
          exact HF.out
end Go.Proofs.YtjnoomefppncoaaDoor
