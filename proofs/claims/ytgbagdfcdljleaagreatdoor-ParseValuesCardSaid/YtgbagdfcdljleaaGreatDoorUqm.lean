/-
  The contract of runes.Unquote, where a quote stands at the place.
-/
import Derived.Test.YtgbagdfcdljleaaGreatDoorUi
set_option linter.unusedVariables false
set_option linter.unusedSimpArgs false
namespace Go.Proofs.YtgbagdfcdljleaaGreatDoor.Ru
open Go.RowKit Go.Shelf Go.Maps
attribute [local go_sem] Oper.semAt_some

set_option maxRecDepth 100000 in
set_option maxHeartbeats 8000000 in
theorem unq_yes (s : ByteArray) (p : Nat) (hp : p < s.size) (h : s[p]'hp = 34) (hs : s.size ≤ 4294967296) (w : World) (hE : Env w) :
    Calls Tryz.prog 52 #[.string s, .int .i64 p] w fun e w' => e = .returned (ansV (unqL s.data.toList p)) ∧ Below w.heap.size w w' := by
  have hsM : s.size ≤ maxLen := by unfold maxLen; omega
  have hS := Lib.hid hsM
  have h1 : ((p : Int) == (s.size : Int)) = false := by rw [beq_eq_false_iff_ne]; omega
  have h2 : (((s[p]'hp).toNat : Int) != 34) = false := by rw [h]; rfl
  have h7 := hE.1
  clear hsM h
  refine (callsIn_wide (n := 9)).1 ?_
  refine callsIn_of_wp_marks Tryz.func52 rfl trivial ?_ rfl
  simp only [Tryz.ntmps52, List.size_toArray, List.length_cons, List.length_nil, Nat.reduceAdd, Nat.reduceSub, Array.replicate_succ, Array.replicate_zero, List.push_toArray, List.append_toArray, List.nil_append, List.cons_append]
  gi_wp2_with fail
  refine ⟨trivial, ?_⟩
  refine (callsIn_wide.2 (meanings_any _)).mono ?_
  rintro e w2 ⟨rfl, om, hb2⟩
  obtain ⟨nm, D, om, hD⟩ := om
  have HD := Lib.hid hD
  clear hD
  have b0 := (((((Boxed.new w 9 (.string s)).alloc (.cells #[.int .i64 p] 3)).alloc (.cells #[.string ⟨#[]⟩] 9)).alloc (.cells #[.int .i64 0] 3)).alloc (.cells #[.int .i64 0] 29)).alloc (.cells #[.pointer none, .slice none 0 0] 84)
  have b1 := ((((Boxed.new (w.alloc (.cells #[.string s] 9)) 3 (.int .i64 p)).alloc (.cells #[.string ⟨#[]⟩] 9)).alloc (.cells #[.int .i64 0] 3)).alloc (.cells #[.int .i64 0] 29)).alloc (.cells #[.pointer none, .slice none 0 0] 84)
  have b2 := (((Boxed.new ((w.alloc (.cells #[.string s] 9)).alloc (.cells #[.int .i64 p] 3)) 9 (.string ⟨#[]⟩)).alloc (.cells #[.int .i64 0] 3)).alloc (.cells #[.int .i64 0] 29)).alloc (.cells #[.pointer none, .slice none 0 0] 84)
  have b3 := ((Boxed.new (((w.alloc (.cells #[.string s] 9)).alloc (.cells #[.int .i64 p] 3)).alloc (.cells #[.string ⟨#[]⟩] 9)) 3 (.int .i64 0)).alloc (.cells #[.int .i64 0] 29)).alloc (.cells #[.pointer none, .slice none 0 0] 84)
  have b4 := (Boxed.new ((((w.alloc (.cells #[.string s] 9)).alloc (.cells #[.int .i64 p] 3)).alloc (.cells #[.string ⟨#[]⟩] 9)).alloc (.cells #[.int .i64 0] 3)) 29 (.int .i64 0)).alloc (.cells #[.pointer none, .slice none 0 0] 84)
  have bd : Lib.IsBuilderF 84 5 w.heap.size (w.heap.size + 1 + 1 + 1 + 1 + 1) [] ((((((w.alloc (.cells #[.string s] 9)).alloc (.cells #[.int .i64 p] 3)).alloc (.cells #[.string ⟨#[]⟩] 9)).alloc (.cells #[.int .i64 0] 3)).alloc (.cells #[.int .i64 0] 29)).alloc (.cells #[.pointer none, .slice none 0 0] 84)) :=
    .inl ⟨by omega, _, by have := World.alloc_heap_new (((((w.alloc (.cells #[.string s] 9)).alloc (.cells #[.int .i64 p] 3)).alloc (.cells #[.string ⟨#[]⟩] 9)).alloc (.cells #[.int .i64 0] 3)).alloc (.cells #[.int .i64 0] 29)) (.cells #[.pointer none, .slice none 0 0] 84); simpa using this, World.ownsRowF_nil _ _ _ _, by simp [Value.ownBlock]⟩
  have bel : Below w.heap.size w ((((((w.alloc (.cells #[.string s] 9)).alloc (.cells #[.int .i64 p] 3)).alloc (.cells #[.string ⟨#[]⟩] 9)).alloc (.cells #[.int .i64 0] 3)).alloc (.cells #[.int .i64 0] 29)).alloc (.cells #[.pointer none, .slice none 0 0] 84)) := by go_grown
  simp only [World.size_alloc] at b1 b2 b3 b4 om
  have z2 := om.lt
  have g2 := grown_of_below hb2
  replace b0 := b0.kept g2 (by simp)
  replace b1 := b1.kept g2 (by simp)
  replace b2 := b2.kept g2 (by simp)
  replace b3 := b3.kept g2 (by simp)
  replace b4 := b4.kept g2 (by simp)
  replace bd := bld_below bd hb2
  replace bel := bel.trans (hb2.mono (by simp; omega))
  clear hb2 g2
  have b8 := Boxed.new w2 85 (.map (some (w.heap.size + 1 + 1 + 1 + 1 + 1 + 1)))
  have c1 := (b1.alloc (.cells #[.map (some (w.heap.size + 1 + 1 + 1 + 1 + 1 + 1))] 85)).cell
  have c0' := ((b0.alloc (.cells #[.map (some (w.heap.size + 1 + 1 + 1 + 1 + 1 + 1))] 85)).alloc (.cells #[.int .i64 ((p : Int) + 1)] 3)).cell
  have c1' := ((b1.alloc (.cells #[.map (some (w.heap.size + 1 + 1 + 1 + 1 + 1 + 1))] 85)).alloc (.cells #[.int .i64 ((p : Int) + 1)] 3)).cell
  have b9 := Boxed.new (w2.alloc (.cells #[.map (some (w.heap.size + 1 + 1 + 1 + 1 + 1 + 1))] 85)) 3 (.int .i64 ((p : Int) + 1))
  rw [World.size_alloc] at b9
  gi_wp2_with fail
  refine ⟨trivial, ?_⟩
  refine (all_in _ _ _).mono ?_
  rintro e w' ⟨rfl, rfl⟩
  have hRs : (s.extract (p + 1) s.size).size = s.size - (p + 1) := Lib.ext_size s (p + 1)
  have hRL : (s.extract (p + 1) s.size).data.toList = s.data.toList.drop (p + 1) := Lib.ext_list s (p + 1)
  have hsl := steps_length (s.extract (p + 1) s.size).data.toList
  rw [show (s.extract (p + 1) s.size).data.toList.length = (s.extract (p + 1) s.size).size by rw [Array.length_toList]; rfl, hRs] at hsl
  have hRM := Lib.hid (show (s.extract (p + 1) s.size).size ≤ maxLen by rw [hRs]; have := hS.out; omega)
  have HRL := Lib.hid hRL
  have HRs := Lib.hid hRs
  clear hRL hRs c1 c0' c1'
  have bR := Boxed.new ((w2.alloc (.cells #[.map (some (w.heap.size + 1 + 1 + 1 + 1 + 1 + 1))] 85)).alloc (.cells #[.int .i64 ((p : Int) + 1)] 3)) 9 (.string (s.extract (p + 1) s.size))
  simp only [World.size_alloc] at bR
  have hUI : UI w s (s.extract (p + 1) s.size) p w2.heap.size nm D (p + 1, []) (((w2.alloc (.cells #[.map (some (w.heap.size + 1 + 1 + 1 + 1 + 1 + 1))] 85)).alloc (.cells #[.int .i64 ((p : Int) + 1)] 3)).alloc (.cells #[.string (s.extract (p + 1) s.size)] 9)) :=
    ⟨⟨bld_below bd (by go_grown), ⟨((b0.alloc _).alloc _).alloc _, ((b1.alloc _).alloc _).alloc _⟩, ⟨((b2.alloc _).alloc _).alloc _, ((b3.alloc _).alloc _).alloc _, ((b4.alloc _).alloc _).alloc _⟩, (b8.alloc _).alloc _, b9.alloc _, bR⟩, ((om.alloc _).alloc _).alloc _, bel.trans (by go_grown)⟩
  have HUI := Lib.hid hUI
  clear hUI b0 b1 b2 b3 b4 b8 b9 bd om
  gi_wp2_with fail
  refine wpIn_rangeFunc_ownG rfl (by omega) (gf := 71) (lb := #[.pointer (some ⟨w2.heap.size + 1 + 1, 0, none⟩)]) rfl trivial (enters_of Tryz.func71 (by kernel_rfl) rfl)
    (all_stops 8 (by omega) (s.extract (p + 1) s.size) hRM.out (w2.heap.size + 1 + 1) w.heap.size _ ?cB (by omega) ?cm bR.cell ?cT) kpB_t (kpB_b ?d1 ?d2) (Below.refl _ _) (fun _ => rfl)
    (fun pre W => UIo w s (s.extract (p + 1) s.size) p w2.heap.size nm D (foldU s.data.toList p (p + 1, []) (pre.map (·.1))) W)
    (fun c pre W => c = .ret ∧ UAo w (foldU s.data.toList p (p + 1, []) (pre.map (·.1))) W) ?hI ?hIx ?h0
    (fun x => { tmps := #[.string s, .int .i64 p, .pointer (some ⟨w.heap.size, 0, none⟩), .pointer (some ⟨w.heap.size + 1, 0, none⟩), .pointer (some ⟨w.heap.size + 1 + 1, 0, none⟩), .pointer (some ⟨w.heap.size + 1 + 1 + 1, 0, none⟩), .pointer (some ⟨w.heap.size + 1 + 1 + 1 + 1, 0, none⟩), .pointer (some ⟨w.heap.size + 1 + 1 + 1 + 1 + 1, 0, none⟩), .pointer (some ⟨w2.heap.size, 0, none⟩), .pointer (some ⟨w2.heap.size + 1, 0, none⟩), .int .i64 x.1.1, .int .i64 x.1.2, undef, .int .i64 p, .bool (decide ((p : Int) < 0)), .bool (decide ((p : Int) < 0)), .int .i64 p, .string s, .int .i64 s.size, .bool false, .bool (decide ((p : Int) < 0)), .int .i64 p, .string s, .int .i64 s.size, .bool false, .bool false, .string s, .int .i64 p, .int .u8 (s[p]'hp).toNat, .bool false, .bool false, undef, .map (some (w.heap.size + 1 + 1 + 1 + 1 + 1 + 1)), .int .i64 p, .int .i64 ((p : Int) + 1), .string s, .int .i64 p, .int .i64 ((p : Int) + 1), .string (s.extract (p + 1) s.size), .func (.func 71) #[] #[.pointer (some ⟨w2.heap.size + 1 + 1, 0, none⟩)], .int .i64 x.1.1, .int .i64 x.1.2, undef, undef, undef, undef, undef, undef, undef, undef, undef, undef, undef, undef, undef, undef, undef, undef, undef, undef, undef, undef, undef, undef, undef, undef, undef, undef, undef, undef, undef, undef, undef, undef, undef, undef, undef, undef, undef, undef, undef], defers := [] }) ?assign ?body ?done ?stop
  case cB => simp
  case cm => simp; omega
  case cT => exact (hE.below (HUI.out.2.2) h7).2.1
  case d1 => simp; omega
  case d2 => simp
  case hI =>
    refine UIo_own (fun pre : List (Stp _) => foldU s.data.toList p (p + 1, []) (pre.map (·.1))) ?_
    simp only [World.size_alloc]; omega
  case hIx =>
    intro c
    refine UAo_own (fun pre : List (Stp _) => foldU s.data.toList p (p + 1, []) (pre.map (·.1))) ?_ (c = .ret)
    simp only [World.size_alloc]; omega
  case h0 => exact HUI.out
  case assign =>
    intro l x W K hK
    unfold encStp
    gi_wp2_with fail
    simpa using hK
  case body =>
    rintro l pre x W hI hlen
    cases hfo : foldU s.data.toList p (p + 1, []) (pre.map (·.1)) with
    | inr a =>
      rw [hfo] at hI
      exact hI.elim
    | inl st =>
      obtain ⟨nx, acc⟩ := st
      have hU : UI w s (s.extract (p + 1) s.size) p w2.heap.size nm D (nx, acc) W := by rw [hfo] at hI; exact hI
      have hsn : foldU s.data.toList p (p + 1, []) ((pre ++ [x]).map (·.1)) = stepU s.data.toList p (nx, acc) x.1 := by
        rw [List.map_append, List.map_cons, List.map_nil, foldU_snoc, hfo]
      have hal := foldU_len _ _ _ _ _ hfo
      simp only [List.length_nil, Nat.zero_add, List.length_map] at hal
      obtain ⟨hx1, hx2, hx3, _⟩ := steps_mem x.2
      have hrv : x.1.2 < 55296 ∨ 57343 < x.1.2 := by have := decodeL_valid ((s.extract (p + 1) s.size).data.toList.drop x.1.1); rw [← hx3] at this; exact this
      have hpl : p + 1 + x.1.1 < s.size := by
        have e : (s.extract (p + 1) s.size).data.toList.length = s.size - (p + 1) := by rw [Array.length_toList]; exact HRs.out
        omega
      have HSN := Lib.hid hsn
      have hbl : (Lib.byteCells acc).length ≤ 4 * pre.length := by rw [byteCells_length]; exact hal
      clear hI hfo hsn hx1 hx3 hal
      have hc1 := hU.1.2.1.2.cell
      have hc0 := hU.1.2.1.1.cell
      have hc9 := hU.1.2.2.2.2.1.cell
      have hf9 := hU.1.2.2.2.2.1.frozen
      have hc8 := hU.1.2.2.2.1.cell
      have zB := hU.2.2.size
      have zk := hU.1.2.2.2.2.2.lt
      dsimp only at hc9
      by_cases hlt : p + 1 + x.1.1 < nx
      · have hst := Lib.hid (show stepU s.data.toList p (nx, acc) x.1 = .inl (nx, acc) by unfold stepU; rw [if_pos hlt])
        have hlt' : (p : Int) + 1 + (x.1.1 : Int) < (nx : Int) := by omega
        clear hlt
        gi_wp2_with fail
        refine ⟨(KeepsOthers.refl W).from _, kpB_refl _ _ _, ?_⟩
        show UIo _ _ _ _ _ _ _ (foldU _ _ _ _) W
        rw [HSN.out, hst.out]
        exact hU
      have hge' : ¬ (p : Int) + 1 + (x.1.1 : Int) < (nx : Int) := by omega
      have zM : w.heap.size + 1 + 1 + 1 + 1 + 1 + 1 < w2.heap.size := z2
      have hN : (p : Int) + 1 + (x.1.1 : Int) = ((p + 1 + x.1.1 : Nat) : Int) := by omega
      by_cases h34 : x.1.2 = 34
      · have hst := Lib.hid (show stepU s.data.toList p (nx, acc) x.1 = .inr (acc, p + 1 + x.1.1 + 1, 0) by unfold stepU; rw [if_neg hlt, if_pos h34])
        have q34 : ((x.1.2 : Int) == 34) = true := by rw [h34]; rfl
        have f2 := hU.1.2.2.1.1.frozen
        have HN := Lib.hid hN
        clear h34 hlt hN
        gi_wp2_with fail
        refine ⟨trivial, ?_⟩
        refine (CallsIn.inRound l (callsIn_wide.2 (Tryz.Builder_String_any_k w.heap.size (w.heap.size + 1 + 1 + 1 + 1 + 1) _ _ hU.1.1 (by omega)))).mono ?_
        rintro e w5 ⟨rfl, bd5, hb5, hk5⟩
        obtain ⟨hU5, ko5, kb5⟩ := hU.wrote zM bd5 hb5 hk5
        have f2 := hU5.1.2.2.1.1.frozen
        have f3 := hU5.1.2.2.1.2.1.frozen
        have f4 := hU5.1.2.2.1.2.2.frozen
        have d2 := hU5.1.2.2.1.1.cell
        have d3 := hU5.1.2.2.1.2.1.cell
        have d4 := hU5.1.2.2.1.2.2.cell
        gi_wp2_with fail
        refine ⟨(ko5.trans (ret_keeps _ _ _ _ _ _ _)).from _, rfl, ?_⟩
        show UAo _ (foldU _ _ _ _) _
        rw [HSN.out, hst.out]
        exact UI.ret hU5 (acc, p + 1 + x.1.1 + 1, 0)
      have q34 : ((x.1.2 : Int) == 34) = false := by rw [beq_eq_false_iff_ne]; omega
      have f2 := hU.1.2.2.1.1.frozen
      have f3 := hU.1.2.2.1.2.1.frozen
      have f4 := hU.1.2.2.1.2.2.frozen
      have d2 := hU.1.2.2.1.1.cell
      have d3 := hU.1.2.2.1.2.1.cell
      have d4 := hU.1.2.2.1.2.2.cell
      by_cases h32 : x.1.2 < 32
      · have hst := Lib.hid (show stepU s.data.toList p (nx, acc) x.1 = .inr ([], p + 1 + x.1.1, 10) by unfold stepU; rw [if_neg hlt, if_neg h34, if_pos h32])
        have q32 : (x.1.2 : Int) < 32 := by omega
        clear h32 h34 hlt hN
        gi_wp2_with fail
        refine ⟨(ret_keeps _ _ _ _ _ _ _).from _, rfl, ?_⟩
        show UAo _ (foldU _ _ _ _) _
        rw [HSN.out, hst.out]
        exact UI.ret hU ([], p + 1 + x.1.1, 10)
      have q32 : ¬ (x.1.2 : Int) < 32 := by omega
      by_cases h92 : x.1.2 = 92
      · have q92 : ((x.1.2 : Int) == 92) = true := by rw [h92]; rfl
        have hesc := escape_any s (p + 1 + x.1.1) hpl hS.out W (hE.below hU.2.2 h7) _ nm D hU.2.1 HD.out
        rw [← hN] at hesc
        cases hL : escL (s.data.toList.drop (p + 1 + x.1.1)) with
        | none =>
          have hst := Lib.hid (show stepU s.data.toList p (nx, acc) x.1 = .inr ([], p + 1 + x.1.1, 10) by unfold stepU; rw [if_neg hlt, if_neg h34, if_neg h32, if_pos h92, hL])
          rw [hL] at hesc
          simp only [pairRes] at hesc
          have HE := Lib.hid hesc
          clear hesc hL h92 h32 h34 hlt hN
          gi_wp2_with fail
          refine ⟨trivial, ?_⟩
          refine (CallsIn.inRound l (callsIn_wide.2 HE.out)).mono ?_
          rintro e w5 ⟨rfl, hb5⟩
          have hU5 := hU.below hb5
          have ko5 := keeps_below hb5
          obtain ⟨hU6, ko6, kb6⟩ := hU5.next0 zM
          have f9 := hU5.1.2.2.2.2.1.frozen
          have f2 := hU6.1.2.2.1.1.frozen
          have f3 := hU6.1.2.2.1.2.1.frozen
          have f4 := hU6.1.2.2.1.2.2.frozen
          have c9 := hU5.1.2.2.2.2.1.cell
          have d9 := hU6.1.2.2.2.2.1.cell
          have d2 := hU6.1.2.2.1.1.cell
          have d3 := hU6.1.2.2.1.2.1.cell
          have d4 := hU6.1.2.2.1.2.2.cell
          dsimp only [Int.ofNat_zero] at c9 d9
          have d9' : (w5.setCell ⟨w2.heap.size + 1, 0, none⟩ (.int .i64 0)).cell? ⟨w2.heap.size + 1, 0, none⟩ = some (.int .i64 0) := d9
          clear d9
          gi_wp2_with fail
          refine ⟨((ko5.trans ko6).trans (ret_keeps _ _ _ _ _ _ _)).from _, rfl, ?_⟩
          show UAo _ (foldU _ _ _ _) _
          rw [HSN.out, hst.out]
          exact UI.ret hU6 ([], p + 1 + x.1.1, 10)
        | some y =>
          have hst := Lib.hid (show stepU s.data.toList p (nx, acc) x.1 = .inl (p + 1 + x.1.1 + y.2, acc ++ Lib.encodeRune y.1) by unfold stepU; rw [if_neg hlt, if_neg h34, if_neg h32, if_pos h92, hL])
          have hy := escL_rune hL
          rw [hL] at hesc
          simp only [pairRes] at hesc
          have HE := Lib.hid hesc
          have hq : p + 1 + x.1.1 + y.2 ≠ 0 := by omega
          obtain ⟨q, hqq⟩ : ∃ q, p + 1 + x.1.1 + y.2 = q := ⟨_, rfl⟩
          rw [hqq] at hst HE hq
          have hq0 : ((q : Int) == 0) = false := by rw [beq_eq_false_iff_ne]; omega
          obtain ⟨y1, y2⟩ := y
          dsimp only at hst HE hy
          clear hesc hL h92 h32 h34 hlt hN hq hqq
          gi_wp2_with fail
          refine ⟨trivial, ?_⟩
          refine (CallsIn.inRound l (callsIn_wide.2 HE.out)).mono ?_
          rintro e w5 ⟨rfl, hb5⟩
          have hU5 := hU.below hb5
          have ko5 := keeps_below hb5
          have kb5 := kpB_below (m := w.heap.size) (B := w2.heap.size + 1 + 1) hb5 (by omega) zk
          obtain ⟨hU6, ko6, kb6⟩ := hU5.next zM q
          have f9 := hU5.1.2.2.2.2.1.frozen
          have c9 := hU5.1.2.2.2.2.1.cell
          have d9 := hU6.1.2.2.2.2.1.cell
          have z5 := hb5.size
          dsimp only at c9 d9
          gi_wp2_with fail
          refine ⟨trivial, ?_⟩
          refine (CallsIn.inRound l (callsIn_wide.2 (writeRune_k w.heap.size (w.heap.size + 1 + 1 + 1 + 1 + 1) _ _ (by omega) (by omega) _ hU6.1.1 (by dsimp only; omega) (by have := hU6.2.2.size; omega)))).mono ?_
          rintro e w7 ⟨rfl, bd7, hb7, hk7⟩
          rw [← Lib.byteCells_encodeRune, ← byteCells_append] at bd7
          obtain ⟨hU7, ko7, kb7⟩ := hU6.wrote zM (.inr bd7) hb7 hk7
          gi_wp2_with fail
          refine ⟨((ko5.trans ko6).trans ko7).from _, kpB_t (kpB_t kb5 kb6) kb7, ?_⟩
          show UIo _ _ _ _ _ _ _ (foldU _ _ _ _) w7
          rw [HSN.out, hst.out]
          exact hU7
      have q92 : ((x.1.2 : Int) == 92) = false := by rw [beq_eq_false_iff_ne]; omega
      have hst := Lib.hid (show stepU s.data.toList p (nx, acc) x.1 = .inl (p + 1 + x.1.1 + (Lib.encodeRune x.1.2).length, acc ++ Lib.encodeRune x.1.2) by unfold stepU; rw [if_neg hlt, if_neg h34, if_neg h32, if_neg h92])
      have hrl := Tryz.utf8_RuneLen x.1.2
      rw [runeLen_enc _ hx2 hrv] at hrl
      have HR := Lib.hid hrl
      have hel := enc_le x.1.2
      obtain ⟨K, hK⟩ : ∃ K, (Lib.encodeRune x.1.2).length = K := ⟨_, rfl⟩
      rw [hK] at hst HR hel
      have HKK := Lib.hid (show (p : Int) + 1 + (x.1.1 : Int) + (K : Int) = ((p + 1 + x.1.1 + K : Nat) : Int) by omega)
      clear hrl h92 h32 h34 hlt hN hK
      gi_wp2_with fail
      refine ⟨trivial, ?_⟩
      refine (CallsIn.inRound l (callsIn_wide.2 (HR.out _))).mono ?_
      rintro e w5 ⟨rfl, rfl⟩
      obtain ⟨hU6, ko6, kb6⟩ := hU.next zM (p + 1 + x.1.1 + K)
      rw [← HKK.out] at hU6 ko6 kb6
      gi_wp2_with fail
      refine ⟨trivial, ?_⟩
      refine (CallsIn.inRound l (callsIn_wide.2 (writeRune_k w.heap.size (w.heap.size + 1 + 1 + 1 + 1 + 1) _ _ (by omega) (by omega) _ hU6.1.1 (by dsimp only; omega) (by have := hU6.2.2.size; omega)))).mono ?_
      rintro e w7 ⟨rfl, bd7, hb7, hk7⟩
      rw [← Lib.byteCells_encodeRune, ← byteCells_append] at bd7
      obtain ⟨hU7, ko7, kb7⟩ := hU6.wrote zM (.inr bd7) hb7 hk7
      gi_wp2_with fail
      refine ⟨(ko6.trans ko7).from _, kpB_t kb6 kb7, ?_⟩
      show UIo _ _ _ _ _ _ _ (foldU _ _ _ _) w7
      rw [HSN.out, hst.out]
      exact hU7
  case stop =>
    rintro D' c pre W hD' hpre ⟨rfl, hA⟩ hK
    have hans : ∃ a, foldU s.data.toList p (p + 1, []) (pre.map (·.1)) = .inr a ∧ UA w a W := by
      unfold UAo at hA
      split at hA
      · exact hA.elim
      · rename_i a ha
        exact ⟨a, ha, hA⟩
    obtain ⟨a, hfa, ⟨u2, u3, u4⟩, uB⟩ := hans
    have hunq : unqL s.data.toList p = a := by
      obtain ⟨ys, hys⟩ := hpre
      unfold unqL
      rw [← HRL.out, ← hys, foldU_app _ _ _ _ _ _ hfa]
    have HQ := Lib.hid hunq
    have grow := grownBy_putObj' W D' (.deferred none)
    have c2 := (u2.kept grow (fun e => by cases e; rw [show W.heap[_]? = _ from u2] at hK; cases hK)).cell
    have c3 := (u3.kept grow (fun e => by cases e; rw [show W.heap[_]? = _ from u3] at hK; cases hK)).cell
    have c4 := (u4.kept grow (fun e => by cases e; rw [show W.heap[_]? = _ from u4] at hK; cases hK)).cell
    clear hA hfa hunq hpre u2 u3 u4
    gi_wp2_with fail
    refine ⟨by simp, .inl ⟨_, _, rfl, run_takeDeferred hK, ?_⟩⟩
    refine ⟨ansV a, by simp [results, Tryz.results52, go_sem, ansV, c2, c3, c4], by rw [HQ.out], uB.trans (belowK_b (w := w) (Nat.le_refl _) W D' _ _ (by simp only [World.size_alloc] at hD'; omega) hK rfl rfl)⟩
  case done =>
    rintro D' xs W hD' hxs hI hK
    cases hfo : foldU s.data.toList p (p + 1, []) (xs.map (·.1)) with
    | inr a =>
      rw [hfo] at hI
      exact hI.elim
    | inl st =>
      have hU : UI w s (s.extract (p + 1) s.size) p w2.heap.size nm D st W := by rw [hfo] at hI; exact hI
      have hunq : unqL s.data.toList p = ([], st.1, 10) := by
        unfold unqL
        rw [← HRL.out, ← hxs, hfo]
      have HQ := Lib.hid hunq
      clear hI hfo hunq hxs
      have f2 := hU.1.2.2.1.1.frozen
      have f3 := hU.1.2.2.1.2.1.frozen
      have f4 := hU.1.2.2.1.2.2.frozen
      have d2 := hU.1.2.2.1.1.cell
      have d3 := hU.1.2.2.1.2.1.cell
      have d4 := hU.1.2.2.1.2.2.cell
      have c9 := hU.1.2.2.2.2.1.cell
      have zk := hU.1.2.2.2.2.2.lt
      have zM : w.heap.size + 1 + 1 + 1 + 1 + 1 + 1 < w2.heap.size := z2
      gi_wp2_with fail
      gi_region
      all_goals gi_wp2_with fail
      all_goals
        obtain ⟨⟨u2, u3, u4⟩, uB⟩ := UI.ret hU ([], st.1, 10)
        have hK' := (ret_keeps W (w.heap.size + 1 + 1) (w.heap.size + 1 + 1 + 1) (w.heap.size + 1 + 1 + 1 + 1) (.string ⟨#[]⟩) (.int .i64 (st.1 : Nat)) (.int .i64 10)).same D' _ hK rfl
        obtain ⟨W5, hW5⟩ : ∃ W5, (((W.setCell ⟨w.heap.size + 1 + 1, 0, none⟩ (.string ⟨#[]⟩)).setCell ⟨w.heap.size + 1 + 1 + 1, 0, none⟩ (.int .i64 (st.1 : Nat))).setCell ⟨w.heap.size + 1 + 1 + 1 + 1, 0, none⟩ (.int .i64 10)).drew = W5 := ⟨_, rfl⟩
        have v2 : Boxed W5 (w.heap.size + 1 + 1) 9 (.string ⟨#[]⟩) := by rw [← hW5]; exact u2
        have v3 : Boxed W5 (w.heap.size + 1 + 1 + 1) 3 (.int .i64 (st.1 : Nat)) := by rw [← hW5]; exact u3
        have v4 : Boxed W5 (w.heap.size + 1 + 1 + 1 + 1) 29 (.int .i64 10) := by rw [← hW5]; exact u4
        have vB : Below w.heap.size w W5 := by rw [← hW5]; exact uB.trans ⟨rfl, rfl, rfl, Nat.le_refl _, fun _ _ => rfl⟩
        have vK : W5.heap[D']? = some (.deferred (some [])) := by rw [← hW5]; exact hK'
        rw [hW5]
        have grow := grownBy_putObj' W5 D' (.deferred none)
        have c2 := (v2.kept grow (fun e => by cases e; rw [show W5.heap[_]? = _ from v2] at vK; cases vK)).cell
        have c3 := (v3.kept grow (fun e => by cases e; rw [show W5.heap[_]? = _ from v3] at vK; cases vK)).cell
        have c4 := (v4.kept grow (fun e => by cases e; rw [show W5.heap[_]? = _ from v4] at vK; cases vK)).cell
        refine ⟨by simp, .inl ⟨_, _, rfl, run_takeDeferred vK, ?_⟩⟩
        refine ⟨ansV ([], st.1, 10), by simp [results, Tryz.results52, go_sem, ansV, c2, c3, c4], by rw [HQ.out], vB.trans (belowK_b (w := w) (Nat.le_refl _) W5 D' _ _ (by simp only [World.size_alloc] at hD'; omega) vK rfl rfl)⟩
end Go.Proofs.YtgbagdfcdljleaaGreatDoor.Ru
