/-
  The reference's Lex.
-/
import Derived.Test.YtjnoomefppncoaaDoorLw
import Derived.Test.YtjnoomefppncoaaDoorLn
import Derived.Test.YtjnoomefppncoaaDoorRz
import Derived.Lib.AppendStr
import Derived.Lib.AppendIntMem
set_option linter.unusedVariables false
namespace Go.Proofs.YtjnoomefppncoaaDoor
open Go.RowKit Go.Shelf

theorem infoU8 : (Tryd.prog.info? 5).map (fun i => (i.zero, i.size, i.bytes)) = some (some (.int .u8 0), 1, 1) := by kernel_rfl
/-- string(b) of a row of one's own. -/
theorem own_str {base : Nat} {W : World} {x : List UInt8} {o : Option Addr} {c : Nat} (h : W.ownsRow base 5 1 (.slice o x.length c) x.length (Lib.byteCells x)) : (convert 38 9 (.slice o x.length c)).run Tryd.prog W = .ok (.string ⟨x.toArray⟩) W := by
  obtain ⟨o', a, c', hv, h1, h2, h3, _, h4⟩ := own_form h
  cases hv
  rcases Nat.eq_zero_or_pos x.length with h0 | h0
  · obtain rfl : x = [] := List.eq_nil_of_length_eq_zero h0
    cases o with
    | none => exact run_convert_bytes_nil W 38 5 Tryd.underlying38 Tryd.underlying5 0 c _ Tryd.underlying9
    | some a => exact run_convert_bytes_back W 38 9 5 a c [] Tryd.underlying38 Tryd.underlying5 Tryd.underlying9 (fun j hj => absurd hj (by simp))
  · rw [h3 h0]
    refine run_convert_bytes_back W 38 9 5 a c x Tryd.underlying38 Tryd.underlying5 Tryd.underlying9 (fun j hj => h4 j _ ?_)
    simp [Lib.byteCells, List.getElem?_eq_getElem hj]

/-- What the loop of the reference's Lex keeps: the parts' row, the text's row. -/
structure RL (w : World) (L : List X) (T : List UInt8) (oo : Option Addr) (co : Nat) (ot : Option Addr) (ct : Nat) (wr : World) : Prop where
  po : wr.ownsRow w.heap.size 36 6 (.slice oo L.length co) L.length (xcells L.reverse)
  pt : wr.ownsRow w.heap.size 5 1 (.slice ot T.length ct) T.length (Lib.byteCells T)
  be : Below w.heap.size w wr
theorem bgrown {B : Nat} {a W W' : World} {row : Option Nat} (h : Below B a W) (hB : B ≤ W.heap.size) (hg : W.grownBy W' row) (hr : ∀ r, row = some r → B ≤ r) : Below B a W' :=
  ⟨hg.os.trans h.os, hg.tape.trans h.tape, hg.output.trans h.output, Nat.le_trans h.size hg.size, fun k hk => (hg.block k (by omega) (fun e => by have := hr k e.symm; omega)).trans (h.block k hk)⟩
theorem own_kind {W : World} {b : Nat} {e : TypeId} {sz n : Nat} {v : Value} {xs : List Value} (h : W.ownsRow b e sz v n xs) : ∀ g, v.ownBlock = some g → ∃ cur, W.heap[g]? = some (.cells cur e (0, 0)) := fun g hg => by
  rcases h.2 with ⟨rfl, _⟩ | ⟨g', cap, cur, rfl, _, h2, _⟩
  · cases hg
  · cases hg; exact ⟨cur, h2⟩
theorem own_apart {W : World} {b b' : Nat} {e e' : TypeId} {sz sz' n n' : Nat} {v v' : Value} {xs xs' : List Value} (h : W.ownsRow b e sz v n xs) (h' : W.ownsRow b' e' sz' v' n' xs') (hne : e ≠ e') : v.ownBlock = none ∨ v.ownBlock ≠ v'.ownBlock := by
  cases hv : v.ownBlock with
  | none => exact .inl rfl
  | some g =>
    refine .inr fun e2 => ?_
    obtain ⟨c1, h1⟩ := own_kind h g hv
    obtain ⟨c2, h2⟩ := own_kind h' g e2.symm
    rw [h1] at h2
    cases h2
    exact hne rfl
section
variable {w : World} {L : List X} {T : List UInt8} {oo ot : Option Addr} {co ct : Nat} {wr W w6 : World}
theorem RL.below (h : RL w L T oo co ot ct wr) (hb : Below wr.heap.size wr W) : RL w L T oo co ot ct W := by
  have hg : wr.grownBy W none := ⟨hb.os, hb.tape, hb.output, hb.size, fun k hk _ => hb.block k hk⟩
  exact ⟨h.po.kept hg (by cases (Value.slice oo L.length co).ownBlock <;> simp), h.pt.kept hg (by cases (Value.slice ot T.length ct).ownBlock <;> simp), h.be.trans (hb.mono h.be.size)⟩
theorem RL.text (h : RL w L T oo co ot ct W) {T' : List UInt8} {o' : Option Addr} {c' : Nat} (own : w6.ownsRow w.heap.size 5 1 (.slice o' T'.length c') T'.length (Lib.byteCells T')) (gr : W.grownBy w6 (Value.slice ot T.length ct).ownBlock) : RL w L T' oo co o' c' w6 :=
  ⟨h.po.kept gr (own_apart h.po h.pt (by decide)), own, bgrown h.be h.be.size gr (fun r e => (h.pt.lt r e).1)⟩
theorem RL.part (h : RL w L T oo co ot ct W) {x : X} {o' : Option Addr} {c' : Nat} (own : w6.ownsRow w.heap.size 36 6 (.slice o' (L.length + 1) c') (L.length + 1) (xcells L.reverse ++ x.cs)) (gr : W.grownBy w6 (Value.slice oo L.length co).ownBlock) : RL w (x :: L) T o' c' ot ct w6 :=
  ⟨by rw [List.reverse_cons, xcells_snoc]; exact own, h.pt.kept gr (own_apart h.pt h.po (by decide)), bgrown h.be h.be.size gr (fun r e => (h.po.lt r e).1)⟩
theorem RL.empty (h : RL w L T oo co ot ct W) : RL w L [] oo co none 0 W := ⟨h.po, World.ownsRow_nil _ _ _ _, h.be⟩
theorem RL.isXr (h : RL w L T oo co ot ct W) : isXr W L.reverse (.slice oo L.length co) := by
  rcases h.po.2 with ⟨h1, h2⟩ | ⟨g, cap, cur, hv, hgB, hg, q1, q2, q3, q4⟩
  · have : L = [] := List.eq_nil_of_length_eq_zero h2
    subst this
    rw [h1]
    exact isXr_nil _
  · cases hv
    refine ⟨_, g, co, by rw [List.length_reverse], by rw [List.length_reverse]; exact q1, q2, fun _ => rfl, fun j u hju => ?_⟩
    have hj2 := (List.getElem?_eq_some_iff.1 hju).1
    rw [xcells_len, List.length_reverse] at hj2
    rw [h.po.cellAt j hj2]
    exact hju
end
theorem hole_text {i : List UInt8} {x : X} (hx : holeP i = some x) : bs x.t = ⟨#[]⟩ ∧ x.isT = false := by
  unfold holeP at hx
  split at hx
  · split at hx
    · cases hx; exact ⟨rfl, rfl⟩
    · cases hx
  · split at hx
    · cases hx; exact ⟨rfl, rfl⟩
    · cases hx
/-- No text ends the parts. -/
def hdN (L : List X) : Prop := ∀ y, L.head? = some y → y.isT = false
theorem flush (T : List UInt8) (L : List X) (hd : hdN L) (hT : T ≠ []) : addR (.text T) L = .text T :: L := addR_cons _ _ fun _ => ⟨hT, hd⟩
theorem byteCells_app (a b : List UInt8) : Lib.byteCells (a ++ b) = Lib.byteCells a ++ Lib.byteCells b := by simp [Lib.byteCells]
theorem news_u8 {w : World} (c : UInt8) : ∀ j u, [Value.int .u8 (c.toNat : Int)][j]? = some u → (w.alloc (.cells #[.int .u8 (c.toNat : Int)] 5)).cell? ((⟨w.heap.size, 0, none⟩ : Addr).add j) = some u := fun j u hj => by
  have e : (⟨w.heap.size, 0, none⟩ : Addr).add j = ⟨w.heap.size, j, none⟩ := by unfold Addr.add; split <;> simp_all
  rw [e, cell_of_row _ _ j _ _ (0, 0) (heap_alloc_new w _), ← Array.getElem?_toList]
  exact hj

set_option maxRecDepth 100000 in
set_option maxHeartbeats 8000000 in
theorem rlexAny (s : ByteArray) (w : World) (hs : s.size ≤ 1000000) : Calls Tryd.prog 10 #[.string s] w (LexC s.data.toList w) := by
  have HV := Lib.hid (rvalid_any s w (by omega))
  obtain ⟨iu, hu, hu0, hu1, hu2⟩ := info_parts infoU8
  obtain ⟨i0, hi, hz0, hz1, hz2⟩ := info_parts infoX
  cases hv : Lib.validD s.data.toList with
  | false =>
    have ha : ansL s.data.toList = ([], 0, 10) := by unfold ansL; rw [if_pos hv]
    rw [hv] at HV
    unfold LexC
    rw [ha]
    clear hv ha hs
    go_enter Tryd.func10, Tryd.ntmps10
    go_wp2_with (go_at_call 21; refine HV.out.mono ?_; rintro e w1 ⟨rfl, rfl⟩)
    go_ret3
    exact ⟨_, rfl, isXr_nil _, Below.refl _ _⟩
  | true =>
    rw [hv] at HV
    by_cases hlen : 4096 < s.size
    · have ha : ansL s.data.toList = ([], 0, 3) := by unfold ansL; rw [if_neg (by rw [hv]; simp), if_pos (by rw [toList_length]; exact hlen)]
      unfold LexC
      rw [ha]
      have hc : (4096 : Int) < (s.size : Int) := by omega
      clear hv ha hs
      go_enter Tryd.func10, Tryd.ntmps10
      go_wp2_with (go_at_call 21; refine HV.out.mono ?_; rintro e w1 ⟨rfl, rfl⟩)
      go_ret3
      exact ⟨_, rfl, isXr_nil _, Below.refl _ _⟩
    have ha : ansL s.data.toList = match lexS s.data.toList 0 [] with
        | .inl p => ([], p, 130)
        | .inr L => (L.reverse, 0, 0) := by unfold ansL; rw [if_neg (by rw [hv]; simp), if_neg (by rw [toList_length]; exact hlen)]; rfl
    have hc : ¬ (4096 : Int) < (s.size : Int) := by omega
    obtain ⟨R, hR⟩ : ∃ R, lexS s.data.toList 0 [] = R := ⟨_, rfl⟩
    rw [hR] at ha
    unfold LexC
    generalize ansL s.data.toList = A at *
    have HA := Lib.hid ha
    have HR0 := Lib.hid hR
    clear ha hR hv
    have hs4 : s.size ≤ 4096 := by omega
    clear hlen hs
    go_enter Tryd.func10, Tryd.ntmps10
    go_wp2_with (go_at_call 21; refine HV.out.mono ?_; rintro e w1 ⟨rfl, rfl⟩)
    go_loopw [5, 6, 7] (fun ov tv pv wr => ∃ (p : Nat) (L : List X) (T : List UInt8) (oo ot : Option Addr) (co ct : Nat), p ≤ s.size ∧ L.length ≤ p ∧ T.length ≤ p ∧ pv = .int .i64 p ∧ ov = .slice oo L.length co ∧ tv = .slice ot T.length ct ∧ Hid (lexS (s.data.toList.drop p) p (addR (.text T) L) = R) ∧ Hid (hdN L) ∧ Hid (RL w L T oo co ot ct wr)) (fun _ _ pv _ => s.size - (intOf pv).toNat)
    case atStart => exact ⟨0, [], [], none, none, 0, 0, Nat.zero_le _, Nat.le_refl _, Nat.le_refl _, rfl, rfl, rfl, Lib.hid (by rw [addR_nil]; exact HR0.out), Lib.hid (fun y hy => by cases hy), Lib.hid ⟨World.ownsRow_nil _ _ _ _, World.ownsRow_nil _ _ _ _, Below.refl _ _⟩⟩
    case round =>
      obtain ⟨p, L, T, oo, ot, co, ct, hp, hLp, hTp, rfl, rfl, rfl, HX, HD, HG⟩ := hrel
      have HR1 : Hid (∀ ob, RL w L T oo co ot ct (wr.alloc ob)) := Lib.hid fun ob => HG.out.below ((Below.refl _ _).alloc (Nat.le_refl _) _)
      have hwr : w.heap.size ≤ wr.heap.size := HG.out.be.size
      by_cases hlt : p < s.size
      · obtain ⟨t, hdt⟩ : ∃ t, s.data.toList.drop p = s[p] :: t := ⟨_, by rw [List.drop_eq_getElem_cons (by rw [toList_length]; exact hlt)]; rfl⟩
        have ht2 : t = s.data.toList.drop (p + 1) := (drop_next hdt).symm
        have hhead : t.head? = if h : p + 1 < s.size then some (s[p + 1]'h) else none := by
          rw [ht2]
          by_cases h1 : p + 1 < s.size
          · rw [dif_pos h1, List.head?_drop, toList_getElem s (p + 1) h1]
          · rw [dif_neg h1, List.drop_eq_nil_of_le (by rw [toList_length]; omega)]; rfl
        have hlti : (p : Int) < (s.size : Int) := by omega
        by_cases ho : s[p] = 36 ∧ t.head? = some 123
        · obtain ⟨h36, hh⟩ := ho
          have h1 : p + 1 < s.size := by
            rcases Nat.lt_or_ge (p + 1) s.size with h | h
            · exact h
            · rw [hhead, dif_neg (by omega)] at hh; cases hh
          have h123 : s[p + 1]'h1 = 123 := by rw [hhead, dif_pos h1] at hh; exact Option.some.inj hh
          have e36 : ((((s[p].toNat : Nat) : Int) != 36) = false) := by rw [h36]; rfl
          have e123 : (((((s[p + 1]'h1).toNat : Nat) : Int) != 123) = false) := by rw [h123]; rfl
          have hc1 : ¬ ((s.size : Int) ≤ (p : Int) + 1) := by omega
          obtain ⟨t', rfl⟩ : ∃ t', t = 123 :: t' := by
            cases t with
            | nil => cases hh
            | cons a b => simp only [List.head?_cons, Option.some.injEq] at hh; exact ⟨b, by rw [hh]⟩
          have ht3 : t' = s.data.toList.drop (p + 2) := by
            have := congrArg List.tail ht2
            rw [List.tail_cons, List.tail_drop] at this
            exact this
          have hlx := HX.out
          rw [hdt, h36, lexS_open, ht3] at hlx
          have hsh := fun W => shut_any s (p + 2) (by omega) W (by unfold maxLen; omega)
          rw [show (((p + 2 : Nat)) : Int) = (p : Int) + 2 by omega] at hsh
          cases hcut : cutB 125 (s.data.toList.drop (p + 2)) with
          | none =>
            rw [hcut] at hlx hsh
            simp only at hlx hsh
            subst hlx
            obtain rfl : A = ([], p, 130) := HA.out
            have HSH := Lib.hid hsh
            have HBE := Lib.hid HG.out.be
            clear hsh HX HA HR0 h36 h123 hh hhead hdt ht2 ht3 hcut HR1 HG HD
            go_wp2_with (go_at_call 22; refine (HSH.out _).mono ?_; rintro e w5 ⟨rfl, rfl⟩)
            go_ret3
            exact ⟨_, rfl, isXr_nil _, HBE.out⟩
          | some q2 =>
            obtain ⟨i, r⟩ := q2
            rw [hcut] at hlx hsh
            simp only at hlx hsh
            obtain ⟨hdi, hni⟩ := cutB_some hcut
            have hil : p + 2 + i.length + 1 + r.length = s.size := by
              have := congrArg List.length hdi
              rw [List.length_drop, toList_length, List.length_append, List.length_cons] at this
              omega
            have hdr : s.data.toList.drop (p + 2 + i.length + 1) = r := by
              rw [show p + 2 + i.length + 1 = (p + 2) + (i.length + 1) by omega, ← List.drop_drop, hdi, show i ++ 125 :: r = (i ++ [125]) ++ r by simp]
              rw [show i.length + 1 = (i ++ [125]).length by simp, List.drop_left]
            have h2 : p + 2 < s.size := by omega
            have hs2 : s[p + 2]'h2 = (i ++ [125]).head (by simp) := by
              have e := List.drop_eq_getElem_cons (l := s.data.toList) (i := p + 2) (by rw [toList_length]; exact h2)
              rw [hdi] at e
              have e2 : (i ++ 125 :: r).head? = some (s.data.toList[p + 2]'(by rw [toList_length]; exact h2)) := by rw [e]; rfl
              have e3 : s.data.toList[p + 2]'(by rw [toList_length]; exact h2) = s[p + 2]'h2 := rfl
              rw [e3] at e2
              cases i with
              | nil => simp at e2; simp [e2]
              | cons a b => simp at e2; simp [e2]
            obtain ⟨q, hq⟩ : ∃ q, p + 2 + i.length = q := ⟨_, rfl⟩
            rw [hq] at hsh hil hdr
            have HSH := Lib.hid hsh
            have HDR := Lib.hid hdr
            have hqs : (q : Int) + 1 ≤ (s.size : Int) := by omega
            have hq0 : ¬ ((q : Int) < 0) := by omega
            have h2i : (p : Int) + 2 < (s.size : Int) := by omega
            by_cases hb : i.head? = some 33
            · rw [if_pos hb] at hlx
              obtain ⟨j, rfl⟩ : ∃ j, i = 33 :: j := by
                cases i with
                | nil => cases hb
                | cons a b => simp only [List.head?_cons, Option.some.injEq] at hb; exact ⟨b, by rw [hb]⟩
              have hbq : (((((s[p + 2]'h2).toNat : Nat) : Int) == 33) = true) := by rw [hs2]; rfl
              have hsub : s.extract (p + 3) (q + 1) = bs (j ++ [125]) := by
                rw [ext_sub, sub_of (l := s.data.toList) (a := p + 3) (b := q + 1) (i := j ++ [125]) (t := r) ?_ (by simp only [List.length_append, List.length_cons, List.length_nil] at hq ⊢; omega)]
                rw [show p + 3 = (p + 2) + 1 by omega, ← List.drop_drop, hdi]
                simp
              have hX3 : Hid (lexS (s.data.toList.drop (q + 1)) (q + 1) (addR (.text ((T ++ [36, 123]) ++ (j ++ [125]))) L) = R) := Lib.hid (by
                rw [HDR.out]
                rw [addR_two] at hlx
                rw [← hlx, show p + 3 + (33 :: j).length = q + 1 by omega, List.append_assoc]
                rfl)
              have hjl : j.length ≤ s.size := by simp only [List.length_cons] at hq; omega
              have hTq : (T ++ [36, 123]).length + (j ++ [125]).length ≤ q + 1 := by simp only [List.length_append, List.length_cons, List.length_nil] at hq ⊢; omega
              have HSU := Lib.hid hsub
              have c3 : (0 : Int) ≤ (p : Int) + 3 := by omega
              have c4 : (p : Int) + 3 ≤ (q : Int) + 1 := by simp only [List.length_cons] at hq; omega
              clear hsh hdr hlx hs2 HX HA HR0 h36 h123 hh hhead hdt ht2 ht3 hcut hdi hni hsub hb HDR hil
              go_upto_region 17 with (first | (go_at_call 22; refine (HSH.out _).mono ?_; rintro e w5 ⟨rfl, rfl⟩) | (at_builtin; refine Lib.wpList_append_own_string _ rfl _ _ 38 9 rfl w.heap.size 5 iu Tryd.underlying38 Tryd.underlying9 hu hu0 hu1 hu2 _ T.length (Lib.byteCells T) rfl HG.out.pt ⟨#[36, 123]⟩ rfl (by unfold maxLen; show T.length + 2 ≤ _; omega) (by show T.length + 2 ≤ _; omega) hwr ?_; intro v6 w6 own6 gr6 nil6; obtain ⟨o6, ad6, c6, rfl, -, -, -, -, -⟩ := own_form own6))
              have HG6 : Hid (RL w L (T ++ [36, 123]) oo co o6 c6 w6) := Lib.hid (HG.out.text (T' := T ++ [36, 123]) (by rw [byteCells_app, List.length_append]; exact own6) gr6)
              clear own6 gr6 nil6
              have hw6 := HG6.out.be.size
              have hT1 : (T ++ [36, 123]).length = T.length + 2 := by simp
              have HP6 : Hid (w6.ownsRow w.heap.size 5 1 (.slice o6 (T.length + 2) c6) (T.length + 2) (Lib.byteCells (T ++ [36, 123]))) := Lib.hid (by have := HG6.out.pt; rw [hT1] at this; exact this)
              have hTq2 : T.length + 2 + (s.extract (p + 3) (q + 1)).size ≤ 1000000 := by rw [HSU.out, bs_size]; simp only [List.length_append, List.length_cons, List.length_nil] at hq ⊢; omega
              go_wp2_with (at_builtin; refine Lib.wpList_append_own_string _ rfl _ _ 38 9 rfl w.heap.size 5 iu Tryd.underlying38 Tryd.underlying9 hu hu0 hu1 hu2 _ (T.length + 2) (Lib.byteCells (T ++ [36, 123])) rfl HP6.out (s.extract (p + 3) (q + 1)) rfl (by unfold maxLen; omega) (by omega) hw6 ?_; intro v7 w7 own7 gr7 nil7; obtain ⟨o7, ad7, c7, rfl, -, -, -, -, -⟩ := own_form own7)
              have hT2 : T.length + 2 + (s.extract (p + 3) (q + 1)).size = ((T ++ [36, 123]) ++ (j ++ [125])).length := by rw [HSU.out, bs_size]; simp only [List.length_append, List.length_cons, List.length_nil]; try omega
              have hT3 : T.length + 2 + (min (q + 1) s.size - (p + 3)) = ((T ++ [36, 123]) ++ (j ++ [125])).length := by simp only [List.length_append, List.length_cons, List.length_nil] at hq ⊢; omega
              have HG7 : Hid (RL w L ((T ++ [36, 123]) ++ (j ++ [125])) oo co o7 c7 w7) := Lib.hid (HG6.out.text (T' := (T ++ [36, 123]) ++ (j ++ [125])) (by rw [byteCells_app, ← hT2]; rw [HSU.out] at own7 ⊢; exact own7) (by rw [hT1]; exact gr7))
              clear own7 gr7 nil7
              go_roundw
              case rel => exact ⟨q + 1, L, (T ++ [36, 123]) ++ (j ++ [125]), oo, o7, co, c7, by omega, by omega, by rw [List.length_append]; exact hTq, by go_num, rfl, by rw [hT3], hX3, HD, HG7⟩
              case measure => simp [intOf]; omega
            · rw [if_neg hb] at hlx
              have hbq : (((((s[p + 2]'h2).toNat : Nat) : Int) == 33) = false) := by
                rw [hs2]
                cases i with
                | nil => rfl
                | cons a b =>
                  refine beq_eq_false_iff_ne.2 (fun e => hb ?_)
                  have : a = 33 := toNat_eq (n := 33) (by simp at e; omega)
                  rw [this]; rfl
              have hsub : s.extract (p + 2) q = bs i := by
                rw [ext_sub, sub_of (l := s.data.toList) (a := p + 2) (b := q) (i := i) (t := 125 :: r) hdi (by omega)]
              have hho := fun W => rhole_any (bs i) W (by rw [bs_size]; omega)
              rw [bs_list] at hho
              have hx := fun x => hole_text (i := i) (x := x)
              unfold HoleR at hho
              have HSU := Lib.hid hsub
              have c3 : (0 : Int) ≤ (p : Int) + 2 := by omega
              have c4 : (p : Int) + 2 ≤ (q : Int) := by omega
              have hil2 : i.length ≤ s.size := by omega
              cases hox : holeP i with
              | none =>
                rw [hox] at hlx hho
                simp only at hlx
                subst hlx
                obtain rfl : A = ([], p, 130) := HA.out
                have HHO := Lib.hid hho
                have HBE := Lib.hid HG.out.be
                clear hsh hdr hs2 HX HA HR0 h36 h123 hh hhead hdt ht2 ht3 hcut hdi hni hsub hb HDR hil HR1 HG HD hho hx hox
                go_wp2_with (first | (go_at_call 22; refine (HSH.out _).mono ?_; rintro e w5 ⟨rfl, rfl⟩) | (go_at_call 23; rw [HSU.out]; refine (HHO.out _).mono ?_; rintro e w5 ⟨⟨k, m, a, rfl, -⟩, hb5⟩))
                go_ret3
                exact ⟨_, rfl, isXr_nil _, (HBE.out.trans (hb5.mono HBE.out.size)).alloc (Nat.le_trans HBE.out.size hb5.size) _⟩
              | some x =>
                obtain ⟨hxt, hxT⟩ := hx x hox
                rw [hox] at hlx hho
                simp only at hlx
                have hho2 : ∀ W, Calls Tryd.prog 23 #[.string (bs i)] W fun e w' => e = .returned (.tuple #[.agg #[.int .i8 x.k, .string (bs x.t), .int .i64 0, .string (bs x.m), .string (bs x.a), .slice none 0 0], .bool true]) ∧ Below W.heap.size W w' := fun W => (hho W).mono fun e w' ⟨⟨k, m, a, he, hka⟩, hb⟩ => ⟨by
                  obtain ⟨h1, h2, h3⟩ := hka x rfl
                  rw [he, h1, h2, h3, hxt]; rfl, hb⟩
                have HHO := Lib.hid hho2
                have hX3 : Hid (lexS (s.data.toList.drop (q + 1)) (q + 1) (addR (.text []) (x :: addR (.text T) L)) = R) := Lib.hid (by
                  rw [HDR.out, addR_nil, ← hlx, show p + 3 + i.length = q + 1 by omega]
                  have : addR x (addR (.text T) L) = x :: addR (.text T) L := by cases x <;> first | rfl | cases hxT
                  rw [this])
                have HD2 : Hid (∀ M : List X, hdN (x :: M)) := Lib.hid fun M y hy => by cases hy; exact hxT
                by_cases hT0 : T = []
                · subst hT0
                  rw [addR_nil (L := L)] at hX3
                  clear hsh hdr hs2 HX HA HR0 h36 h123 hh hhead hdt ht2 ht3 hcut hdi hni hsub hb HDR hil HR1 HD hho hho2 hx hox hlx hxt hxT
                  go_wp2_with (first | (go_at_call 22; refine (HSH.out _).mono ?_; rintro e w5 ⟨rfl, rfl⟩) | (go_at_call 23; rw [HSU.out]; refine (HHO.out _).mono ?_; rintro e w5 ⟨rfl, hb5⟩; have HG5 := Lib.hid (HG.out.below hb5); have hw5 := Nat.le_trans hwr hb5.size; clear hb5) | (at_builtin; refine wpList_append_row_at rfl _ _ 23 rfl w.heap.size 36 i0 zeroX 6 88 Tryd.underlying23 hi hz0 hz1 hz2 rfl (by decide) _ L.length (xcells L.reverse) rfl ((HG5.out.below ((Below.refl _ _).alloc (Nat.le_refl _) (.cells #[.int .i8 x.k, .string (bs x.t), .int .i64 0, .string (bs x.m), .string (bs x.a), .slice none 0 0] 36))).below ((Below.refl _ _).alloc (Nat.le_refl _) (.cells #[.int .i8 x.k, .string (bs x.t), .int .i64 0, .string (bs x.m), .string (bs x.a), .slice none 0 0] 36))).po (some ⟨w5.heap.size + 1, 0, none⟩) ⟨w5.heap.size + 1, 0, none⟩ 1 1 x.cs rfl (fun _ => rfl) rfl (by have := @news_cs x (w5.alloc (.cells #[.int .i8 x.k, .string (bs x.t), .int .i64 0, .string (bs x.m), .string (bs x.a), .slice none 0 0] 36)) 36; rw [show (w5.alloc (.cells #[.int .i8 x.k, .string (bs x.t), .int .i64 0, .string (bs x.m), .string (bs x.a), .slice none 0 0] 36)).heap.size = w5.heap.size + 1 by simp] at this; exact this) (ones_cs _) (by unfold maxLen; omega) (by omega) (by simp; omega) ?_; intro o6 c6 w6 own6 gr6 at6))
                  have HG6 := Lib.hid (((HG5.out.below ((Below.refl _ _).alloc (Nat.le_refl _) (.cells #[.int .i8 x.k, .string (bs x.t), .int .i64 0, .string (bs x.m), .string (bs x.a), .slice none 0 0] 36))).below ((Below.refl _ _).alloc (Nat.le_refl _) (.cells #[.int .i8 x.k, .string (bs x.t), .int .i64 0, .string (bs x.m), .string (bs x.a), .slice none 0 0] 36))).part own6 gr6)
                  clear own6 gr6 at6
                  go_roundw
                  case rel => exact ⟨q + 1, x :: L, [], o6, ot, c6, ct, by omega, by simp only [List.length_cons]; omega, Nat.zero_le _, by go_num, rfl, rfl, hX3, HD2.out L, HG6⟩
                  case measure => simp [intOf]; omega
                · rw [flush T L HD.out hT0] at hX3
                  have hTl : (0 : Int) < (T.length : Int) := by have := List.length_pos_iff.2 hT0; omega
                  have hLp2 : L.length + 1 ≤ q := by have := List.length_pos_iff.2 hT0; omega
                  clear hsh hdr hs2 HX HA HR0 h36 h123 hh hhead hdt ht2 ht3 hcut hdi hni hsub hb HDR hil HR1 HD hho hho2 hx hox hlx hxt hxT hT0
                  go_upto_region 25 with (first | (go_at_call 22; refine (HSH.out _).mono ?_; rintro e w5 ⟨rfl, rfl⟩) | (go_at_call 23; rw [HSU.out]; refine (HHO.out _).mono ?_; rintro e w5 ⟨rfl, hb5⟩; have HG5 := Lib.hid (HG.out.below hb5); have hw5 := Nat.le_trans hwr hb5.size; have hcv5 := own_str (HG5.out.below ((Below.refl _ _).alloc (Nat.le_refl _) (.cells #[.int .i8 x.k, .string (bs x.t), .int .i64 0, .string (bs x.m), .string (bs x.a), .slice none 0 0] 36))).pt; clear hb5) | (at_builtin; refine wpList_append_row_at rfl _ _ 23 rfl w.heap.size 36 i0 zeroX 6 88 Tryd.underlying23 hi hz0 hz1 hz2 rfl (by decide) _ L.length (xcells L.reverse) rfl ((HG5.out.below ((Below.refl _ _).alloc (Nat.le_refl _) (.cells #[.int .i8 x.k, .string (bs x.t), .int .i64 0, .string (bs x.m), .string (bs x.a), .slice none 0 0] 36))).below ((Below.refl _ _).alloc (Nat.le_refl _) (.cells #[.int .i8 0, .string (bs T), .int .i64 0, .string ⟨#[]⟩, .string ⟨#[]⟩, .slice none 0 0] 36))).po (some ⟨w5.heap.size + 1, 0, none⟩) ⟨w5.heap.size + 1, 0, none⟩ 1 1 (X.text T).cs rfl (fun _ => rfl) rfl (by have := @news_cs (X.text T) (w5.alloc (.cells #[.int .i8 x.k, .string (bs x.t), .int .i64 0, .string (bs x.m), .string (bs x.a), .slice none 0 0] 36)) 36; rw [show (w5.alloc (.cells #[.int .i8 x.k, .string (bs x.t), .int .i64 0, .string (bs x.m), .string (bs x.a), .slice none 0 0] 36)).heap.size = w5.heap.size + 1 by simp] at this; exact this) (ones_cs _) (by unfold maxLen; omega) (by omega) (by simp; omega) ?_; intro o6 c6 w6 own6 gr6 at6))
                  have HG6 := Lib.hid (((HG5.out.below ((Below.refl _ _).alloc (Nat.le_refl _) (.cells #[.int .i8 x.k, .string (bs x.t), .int .i64 0, .string (bs x.m), .string (bs x.a), .slice none 0 0] 36))).below ((Below.refl _ _).alloc (Nat.le_refl _) (.cells #[.int .i8 0, .string (bs T), .int .i64 0, .string ⟨#[]⟩, .string ⟨#[]⟩, .slice none 0 0] 36))).part (x := X.text T) own6 gr6)
                  have hbx : w6.heap[w5.heap.size]? = some (.cells #[.int .i8 x.k, .string (bs x.t), .int .i64 0, .string (bs x.m), .string (bs x.a), .slice none 0 0] 36 (0, 0)) := by
                    have h1 : ((w5.alloc (.cells #[.int .i8 x.k, .string (bs x.t), .int .i64 0, .string (bs x.m), .string (bs x.a), .slice none 0 0] 36)).alloc (.cells #[.int .i8 0, .string (bs T), .int .i64 0, .string ⟨#[]⟩, .string ⟨#[]⟩, .slice none 0 0] 36)).heap[w5.heap.size]? = some (.cells #[.int .i8 x.k, .string (bs x.t), .int .i64 0, .string (bs x.m), .string (bs x.a), .slice none 0 0] 36 (0, 0)) :=
                      (((Below.refl (w5.alloc (.cells #[.int .i8 x.k, .string (bs x.t), .int .i64 0, .string (bs x.m), .string (bs x.a), .slice none 0 0] 36)).heap.size (w5.alloc (.cells #[.int .i8 x.k, .string (bs x.t), .int .i64 0, .string (bs x.m), .string (bs x.a), .slice none 0 0] 36))).alloc (Nat.le_refl _) (.cells #[.int .i8 0, .string (bs T), .int .i64 0, .string ⟨#[]⟩, .string ⟨#[]⟩, .slice none 0 0] 36)).block w5.heap.size (by simp)).trans (heap_alloc_new w5 _)
                    refine (gr6.block w5.heap.size (Array.getElem?_eq_some_iff.1 h1).1 (fun e => ?_)).trans h1
                    have := (HG5.out.po.lt w5.heap.size e.symm).2
                    omega
                  have b0 := cell_of_row w6 w5.heap.size 0 _ _ (0, 0) hbx
                  have b1 := cell_of_row w6 w5.heap.size 1 _ _ (0, 0) hbx
                  have b2 := cell_of_row w6 w5.heap.size 2 _ _ (0, 0) hbx
                  have b3 := cell_of_row w6 w5.heap.size 3 _ _ (0, 0) hbx
                  have b4 := cell_of_row w6 w5.heap.size 4 _ _ (0, 0) hbx
                  have b5 := cell_of_row w6 w5.heap.size 5 _ _ (0, 0) hbx
                  have hw6 := HG6.out.be.size
                  clear own6 gr6 at6 hbx hcv5
                  go_wp2_with (at_builtin; refine wpList_append_row_at rfl _ _ 23 rfl w.heap.size 36 i0 zeroX 6 88 Tryd.underlying23 hi hz0 hz1 hz2 rfl (by decide) _ (L.length + 1) (xcells (X.text T :: L).reverse) rfl (HG6.out.below ((Below.refl _ _).alloc (Nat.le_refl _) (.cells #[.int .i8 x.k, .string (bs x.t), .int .i64 0, .string (bs x.m), .string (bs x.a), .slice none 0 0] 36))).po (some ⟨w6.heap.size, 0, none⟩) ⟨w6.heap.size, 0, none⟩ 1 1 x.cs rfl (fun _ => rfl) rfl (news_cs x) (ones_cs _) (by unfold maxLen; omega) (by omega) (by simp; omega) ?_; intro o7 c7 w7 own7 gr7 at7)
                  have HG7 := Lib.hid (((HG6.out.below ((Below.refl _ _).alloc (Nat.le_refl _) (.cells #[.int .i8 x.k, .string (bs x.t), .int .i64 0, .string (bs x.m), .string (bs x.a), .slice none 0 0] 36))).part (x := x) own7 gr7).empty)
                  clear own7 gr7 at7
                  go_roundw
                  case rel => exact ⟨q + 1, x :: X.text T :: L, [], o7, none, c7, 0, by omega, by simp only [List.length_cons]; omega, Nat.zero_le _, by go_num, rfl, rfl, hX3, HD2.out _, HG7⟩
                  case measure => simp [intOf]; omega
        · have hX2 : Hid (lexS (s.data.toList.drop (p + 1)) (p + 1) (addR (.text (T ++ [s[p]])) L) = R) := Lib.hid (by
            have := HX.out
            rw [hdt, lexS_byte _ _ ho, addR_two, ht2] at this
            exact this)
          have hways : ((((s[p].toNat : Nat) : Int) != 36) = true) ∨ ((((s[p].toNat : Nat) : Int) != 36) = false ∧ ((s.size : Int) ≤ (p : Int) + 1)) ∨ (∃ h : p + 1 < s.size, (((s[p].toNat : Nat) : Int) != 36) = false ∧ ¬ ((s.size : Int) ≤ (p : Int) + 1) ∧ ((((s[p + 1]'h).toNat : Nat) : Int) != 123) = true) := by
            by_cases h36 : s[p] = 36
            · have e36 : ((((s[p].toNat : Nat) : Int) != 36) = false) := by rw [h36]; rfl
              by_cases h1 : p + 1 < s.size
              · refine .inr (.inr ⟨h1, e36, by omega, ?_⟩)
                have : s[p + 1] ≠ 123 := fun e => ho ⟨h36, by rw [hhead, dif_pos h1, e]⟩
                have h2 : ((((s[p + 1]'h1).toNat : Nat) : Int) == 123) = false := beq_eq_false_iff_ne.2 (fun e => this (toNat_eq (n := 123) (by omega)))
                rw [bne, h2]; rfl
              · exact .inr (.inl ⟨e36, by omega⟩)
            · have h2 : (((s[p].toNat : Nat) : Int) == 36) = false := beq_eq_false_iff_ne.2 (fun e => h36 (toNat_eq (n := 36) (by omega)))
              exact .inl (by rw [bne, h2]; rfl)
          have HXa := hX2
          clear ho hX2 hhead HX hdt ht2
          rcases hways with h1 | ⟨h1, h2⟩ | ⟨h0, h1, h2, h3⟩
          all_goals
            go_wp2_with (at_builtin; refine wpList_append_row_at rfl _ _ 38 rfl w.heap.size 5 iu (.int .u8 0) 1 1 Tryd.underlying38 hu hu0 hu1 hu2 rfl (by decide) _ T.length (Lib.byteCells T) rfl (HR1.out _).pt (some ⟨wr.heap.size, 0, none⟩) ⟨wr.heap.size, 0, none⟩ 1 1 [.int .u8 (s[p].toNat : Int)] rfl (fun _ => rfl) rfl (news_u8 _) (by intro u hu; rw [List.mem_singleton.1 hu]; rfl) (by unfold maxLen; omega) (by omega) (by simp; omega) ?_; intro o6 c6 w6 own6 gr6 at6)
            have HG6 : Hid (RL w L (T ++ [s[p]]) oo co o6 c6 w6) := Lib.hid ((HR1.out _).text (by rw [byteCells_app, List.length_append]; exact own6) gr6)
            clear own6 gr6 at6
            go_wp2_with fail
            go_roundw
            case rel => exact ⟨p + 1, L, T ++ [s[p]], oo, o6, co, c6, by omega, by omega, by rw [List.length_append]; simp; omega, by go_num, rfl, by simp, HXa, HD, HG6⟩
            case measure => simp [intOf]; omega
      · obtain rfl : p = s.size := by omega
        have hR2 : R = .inr (addR (.text T) L) := by
          have := HX.out
          rw [List.drop_eq_nil_of_le (by rw [toList_length]; exact Nat.le_refl _), lexS_nil] at this
          exact this.symm
        subst hR2
        obtain rfl : A = ((addR (.text T) L).reverse, 0, 0) := HA.out
        clear HX HA HR0
        have hcv : Hid (∀ ob, (convert 38 9 (.slice ot T.length ct)).run Tryd.prog (wr.alloc ob) = .ok (.string ⟨T.toArray⟩) (wr.alloc ob)) := Lib.hid fun ob => own_str (HR1.out ob).pt
        have hcv0 := own_str HG.out.pt
        by_cases hT0 : T = []
        · subst hT0
          rw [addR_nil]
          clear hcv hcv0
          go_wp2_with fail
          go_ret3
          exact ⟨_, rfl, HG.out.isXr, HG.out.be⟩
        · have HFL := Lib.hid (flush T L HD.out hT0)
          have hTl : (0 : Int) < (T.length : Int) := by have := List.length_pos_iff.2 hT0; omega
          clear hT0 hcv
          go_wp2_with (at_builtin; refine wpList_append_row_at rfl _ _ 23 rfl w.heap.size 36 i0 zeroX 6 88 Tryd.underlying23 hi hz0 hz1 hz2 rfl (by decide) _ L.length (xcells L.reverse) rfl (HR1.out _).po (some ⟨wr.heap.size, 0, none⟩) ⟨wr.heap.size, 0, none⟩ 1 1 (X.text T).cs rfl (fun _ => rfl) rfl (news_cs (X.text T)) (ones_cs _) (by unfold maxLen; omega) (by omega) (by simp; omega) ?_; intro o6 c6 w6 own6 gr6 at6)
          have HG6 := Lib.hid ((HR1.out _).part own6 gr6)
          clear own6 gr6 at6
          go_wp2_with fail
          go_ret3
          exact ⟨_, rfl, by show isXr _ (addR (.text T) L).reverse _; rw [HFL.out]; exact HG6.out.isXr, HG6.out.be⟩
end Go.Proofs.YtjnoomefppncoaaDoor
