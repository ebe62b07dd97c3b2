/-
  What is too great. · The law's wakes. · Calls and acts that come in.
-/
import Derived.Test.YtkigeegahepnaaaGreatDoorHD
import Derived.Test.YtkigeegahepnaaaGreatDoorHG
import Derived.Deep.CutRange
import Derived.Test.YtkigeegahepnaaaGreatDoorGT
import Derived.Deep.RegionHeld3
import Derived.Test.YtkigeegahepnaaaGreatDoorGS
set_option linter.unusedVariables false
set_option linter.unusedSimpArgs false
namespace Go.Proofs.YtkigeegahepnaaaGreatDoor
open Go.RowKit Go.Maps Go.Deep

def greatX (x : Cl) : Bool := decide (200 < x.ph.size) || decide (200 < x.ty.size) || greatG x.ps
theorem fineX_of {x : Cl} (h : greatX x = false) (ho : okX x) : fineX x := by
  unfold greatX at h
  simp only [Bool.or_eq_false_iff, decide_eq_false_iff_not] at h
  exact ⟨h.2, by omega, by omega, ho.1, ho.2.1⟩
def actsG (L : List Ac) : Bool := decide (100 < L.length) || L.any (fun y => greatX y.x)
theorem actsG_no {L : List Ac} (h : actsG L = false) : L.length ≤ 100 ∧ ∀ y ∈ L, greatX y.x = false := by
  unfold actsG at h
  rw [Bool.or_eq_false_iff] at h
  exact ⟨by have := of_decide_eq_false h.1; omega, fun y hy => by simpa using List.any_eq_false.1 h.2 y hy⟩

set_option maxRecDepth 100000 in
set_option maxHeartbeats 4000000 in
theorem greatX_any (x : Cl) (v : Value) (w : World) (h : isX w x v) :
    Calls Tryz.prog 33 #[v] w fun e w' => e = .returned (.bool (greatX x)) ∧ Below w.heap.size w w' := by
  obtain ⟨o, cap, rfl, hg, hok⟩ := isX_form h
  have hA1 : KB w (w.alloc (.cells #[.int .i64 x.tok, .int .i8 x.kd, .string x.ph, .string x.ty, .slice o x.ps.length cap] 32)) := kbA
  have HG := Lib.hid (great9_any x.ps _ _ (isGs_below hA1 hg))
  have HA := Lib.hid hA1
  obtain ⟨r, hr⟩ : ∃ r, greatG x.ps = r := ⟨_, rfl⟩
  rw [hr] at HG
  have e : greatX x = (decide (200 < x.ph.size) || decide (200 < x.ty.size) || r) := by unfold greatX; rw [hr]
  rw [e]
  have hm1 := hok.2.2.1
  have hm2 := hok.2.2.2
  clear e hr h hg hA1 hok
  go_enter Tryz.func33, Tryz.ntmps33
  by_cases h1 : 200 < x.ph.size
  · have d1 : decide (200 < x.ph.size) = true := decide_eq_true h1
    have d1' : decide ((200 : Int) < (x.ph.size : Int)) = true := decide_eq_true (by omega)
    go_wp2_with fail
    go_ret
    rw [d1]
    exact ⟨rfl, HA.out⟩
  · have d1 : decide (200 < x.ph.size) = false := decide_eq_false h1
    have d1' : decide ((200 : Int) < (x.ph.size : Int)) = false := decide_eq_false (by omega)
    by_cases h2 : 200 < x.ty.size
    · have d2 : decide (200 < x.ty.size) = true := decide_eq_true h2
      have d2' : decide ((200 : Int) < (x.ty.size : Int)) = true := decide_eq_true (by omega)
      go_wp2_with fail
      go_ret
      rw [d1, d2]
      exact ⟨rfl, HA.out⟩
    · have d2 : decide (200 < x.ty.size) = false := decide_eq_false h2
      have d2' : decide ((200 : Int) < (x.ty.size : Int)) = false := decide_eq_false (by omega)
      go_wp2_with (go_at_call 34; refine HG.out.mono ?_; rintro e w5 ⟨rfl, hb5⟩)
      go_ret
      rw [d1, d2]
      exact ⟨by simp, HA.out.trans (hb5.mono HA.out.size)⟩

set_option maxRecDepth 100000 in
set_option maxHeartbeats 8000000 in
theorem acts11_any (L : List Ac) (v : Value) (w : World) (h : isAs w L v) :
    Calls Tryz.prog 10 #[v] w fun e w' => e = .returned (.bool (actsG L)) ∧ Below w.heap.size w w' := by
  obtain ⟨a, cap, ⟨o, rfl, hc1, hc2, ho⟩, hat⟩ := h
  unfold maxLen at hc2
  have HK := Lib.hid hat
  obtain ⟨r, hr⟩ : ∃ r, actsG L = r := ⟨_, rfl⟩
  rw [hr]
  have HR := Lib.hid hr
  clear hat hr
  go_enter Tryz.func10, Tryz.ntmps10
  by_cases h100 : 100 < L.length
  · have d1 : decide ((100 : Int) < (L.length : Int)) = true := decide_eq_true (by omega)
    obtain rfl : true = r := by
      rw [← HR.out]
      unfold actsG
      rw [decide_eq_true h100, Bool.true_or]
    go_wp2_with fail
    go_ret
    exact ⟨rfl, Below.refl _ _⟩
  · have d1 : decide ((100 : Int) < (L.length : Int)) = false := decide_eq_false (by omega)
    go_wp2_with fail
    go_loopw [10] (fun i wr => ∃ (j : Nat), j ≤ L.length ∧ i = .int .i64 j ∧ Hid ((L.take j).any (fun y => greatX y.x) = false) ∧ Hid (Below w.heap.size w wr)) (fun i _ => L.length - (intOf i).toNat)
    case atStart => exact ⟨0, by omega, rfl, Lib.hid rfl, Lib.hid (Below.refl _ _)⟩
    case round =>
      obtain ⟨j, hj, rfl, hA, hB⟩ := hrel
      by_cases hlt : j < L.length
      · obtain rfl := ho (by omega)
        obtain ⟨o1, c1, q0, q1, q2, q3, q4, q5, q6, hg, hok, -, -⟩ := isAat_seven (isAat_below hB.out (HK.out j hlt))
        have hA1 : KB wr (wr.alloc (.cells #[.int .i64 L[j].dO, .int .i64 L[j].n, .int .i64 L[j].x.tok, .int .i8 L[j].x.kd, .string L[j].x.ph, .string L[j].x.ty, .slice o1 L[j].x.ps.length c1] 34)) := kbA
        have HG := Lib.hid (greatX_any L[j].x _ _ ⟨_, rfl, isGs_below hA1 hg, hok⟩)
        have HA1 := Lib.hid hA1
        have hst : (L.take (j + 1)).any (fun y => greatX y.x) = greatX L[j].x := by
          rw [List.take_succ_eq_append_getElem hlt, List.any_append, hA.out]
          simp
        clear hg hA1 hok
        by_cases hb1 : greatX L[j].x = true
        · have HR2 : Hid (r = true) := Lib.hid (by
            rw [← HR.out]
            unfold actsG
            rw [Bool.or_eq_true, List.any_eq_true]
            exact .inr ⟨L[j], List.getElem_mem hlt, hb1⟩)
          rw [hb1] at HG
          clear hst hb1
          generalize L[j] = t at *
          go_wp2_with (go_at_call 33; refine HG.out.mono ?_; rintro e w5 ⟨rfl, hb5⟩)
          go_ret
          exact ⟨ret_bool HR2.out.symm, hB.out.trans ((HA1.out.trans (hb5.mono HA1.out.size)).mono hB.out.size)⟩
        · have hb1' : greatX L[j].x = false := by simpa using hb1
          rw [hb1'] at HG
          have HA2 : Hid ((L.take (j + 1)).any (fun y => greatX y.x) = false) := Lib.hid (by rw [hst, hb1'])
          clear hst hb1 hb1'
          generalize L[j] = t at *
          go_wp2_with (go_at_call 33; refine HG.out.mono ?_; rintro e w5 ⟨rfl, hb5⟩)
          go_roundw
          case rel => exact ⟨j + 1, by omega, by go_num, HA2, Lib.hid (hB.out.trans ((HA1.out.trans (hb5.mono HA1.out.size)).mono hB.out.size))⟩
          case measure => simp [intOf]; omega
      · obtain rfl : j = L.length := by omega
        have HR2 : Hid (r = false) := Lib.hid (by
          have := hA.out
          rw [List.take_of_length_le (Nat.le_refl _)] at this
          rw [← HR.out]
          unfold actsG
          rw [this, decide_eq_false h100]
          rfl)
        go_wp2_with fail
        go_ret
        exact ⟨ret_bool HR2.out.symm, hB.out⟩
end Go.Proofs.YtkigeegahepnaaaGreatDoor

namespace Go.Proofs.YtkigeegahepnaaaGreatDoor
open Go.RowKit Go.Maps Go.Deep

theorem OnK.frame {w W W' : World} {P : Nat → Prop} {b : Nat} {c : CSt} (h : OnK w P b c W) (hb : Below W.heap.size W W') : ∃ P', OnK W' P' b c W' ∧ (∀ k, P' k → k < W.heap.size) ∧ (∀ k, P' k → P k ∨ w.heap.size ≤ k) ∧ Fr P w W' := by
  obtain ⟨lv, mv, tv, fv, hc, hf, hp⟩ := h
  exact ⟨Fp b mv tv fv, ⟨lv, mv, tv, fv, hc.below hb, Fr.refl _ _, fun k hk => .inl hk⟩, hc.lt, hp, hf.trans (Fr.of_below hb)⟩
theorem OnK.dr {w W : World} {P : Nat → Prop} {b : Nat} {c : CSt} (h : Hid (OnK w P b c W)) : Hid (OnK w P b c W.drew) := Lib.hid (h.out.below (drewB1 _ _))
theorem OnK.fr {w W : World} {P : Nat → Prop} {b : Nat} {c : CSt} (h : OnK w P b c W) : Fr P w W := by
  obtain ⟨lv, mv, tv, fv, hc, hf, hp⟩ := h
  exact hf
theorem OnK.keeps {w0 w W : World} {P : Nat → Prop} {b : Nat} {c : CSt} (h : OnK w P b c W) (hP : ∀ k, P k → w0.heap.size ≤ k) (hb : KB w0 w) : KB w0 W := hb.trans (h.fr.below hP hb.size)
def wx : Cl := ⟨1, 0, ⟨#[]⟩, ⟨#[68, 105, 115, 107]⟩, []⟩
def wc1 : CSt := ⟨⟨[], 0⟩, [(wx, zAn)], [1]⟩
theorem fine_wx : fineX wx := ⟨rfl, by decide, by decide, by unfold okZ wx; decide, by decide⟩
theorem wrong_wx0 : wrongL wx.ty [] = 0 := by
  have h : checkL wx.ty [] = 0 := by
    unfold checkL
    rw [if_pos (by decide), if_pos (by rfl)]
  unfold wrongL
  rw [if_pos h]
  rfl
theorem wrong_wx : wrongC wx = 0 := by
  have h : checkL wx.ty [] = 0 := (wrong_zero wrong_wx0).1
  unfold wrongC
  rw [if_neg (by decide), if_neg (by decide)]
  exact h
theorem wsub1 : submitC zC wx = (wc1, 0) := by
  unfold submitC
  rw [if_pos wrong_wx]
  rfl
theorem wsub2 : submitC wc1 wx = (wc1, 0) := by
  unfold submitC
  rw [if_pos wrong_wx]
  rfl
theorem wgood : goodC wc1 1 := by
  have := good_submit (good_zC 0) fine_wx
  rwa [wsub1] at this
theorem wtake : takeL zS wx = (⟨[⟨⟨#[112, 49]⟩, wx.ty, []⟩], 1⟩, ⟨true, true, ⟨#[112, 49]⟩⟩) := by
  have hc : createL zS wx.ty [] = (⟨[⟨⟨#[112, 49]⟩, wx.ty, []⟩], 1⟩, ⟨#[112, 49]⟩, 0) := by
    unfold createL
    rw [if_pos ((okS_iff _).2 ok_zS), if_pos wrong_wx0, if_neg (by decide)]
    show ((⟨[⟨physS 1, _, []⟩], 1⟩, physS 1, 0) : St × ByteArray × Int) = _
    rw [phys1]
  have he : effectL zS wx = (⟨[⟨⟨#[112, 49]⟩, wx.ty, []⟩], 1⟩, ⟨#[112, 49]⟩, 0) := by
    unfold effectL
    rw [if_pos (show wx.kd = 0 from rfl)]
    exact hc
  unfold takeL
  rw [he]
  rfl
theorem wend : endC wc1 0 true = (⟨⟨[⟨⟨#[112, 49]⟩, wx.ty, []⟩], 1⟩, [(wx, ⟨true, true, ⟨#[112, 49]⟩⟩)], []⟩, 1, ⟨true, true, ⟨#[112, 49]⟩⟩, 0) := by
  have h := endC_good wgood (i := 0) (by decide) true (x := wx) rfl
  have h2 : endA wc1.s wx true = (⟨[⟨⟨#[112, 49]⟩, wx.ty, []⟩], 1⟩, ⟨true, true, ⟨#[112, 49]⟩⟩) := wtake
  rw [h2] at h
  exact h
theorem wgood2 : goodC (⟨⟨[⟨⟨#[112, 49]⟩, wx.ty, []⟩], 1⟩, [(wx, ⟨true, true, ⟨#[112, 49]⟩⟩)], []⟩ : CSt) 1 := by
  have := good_end (by omega) wgood 0 true
  rwa [wend] at this
def WkS (w1 : World) (P : Nat → Prop) (b : Nat) (W : World) : Prop := OnK w1 P b zC W ∨ OnK w1 P b wc1 W
theorem WkS.fr {w1 W : World} {P : Nat → Prop} {b : Nat} (h : WkS w1 P b W) : Fr P w1 W := h.elim (·.fr) (·.fr)
theorem WkS.dr {w1 W : World} {P : Nat → Prop} {b : Nat} (h : Hid (WkS w1 P b W)) : Hid (WkS w1 P b W.drew) := Lib.hid (h.out.imp (·.below (drewB1 _ _)) (·.below (drewB1 _ _)))
set_option maxRecDepth 100000 in
set_option maxHeartbeats 8000000 in
theorem wakes11_any (w : World) (hE : Env9 w) : Calls Tryz.prog 11 #[] w fun e w' => e = .returned (.bool true) ∧ Below w.heap.size w w' := by
  have h0 := OnK.new w
  have hb1 : KB (w.alloc (.cells #[.slice none 0 0, .int .i64 0, .map none, .slice none 0 0, .slice none 0 0] 72)) ((w.alloc (.cells #[.slice none 0 0, .int .i64 0, .map none, .slice none 0 0, .slice none 0 0] 72)).alloc (.cells #[.int .i64 1, .int .i8 0, .string ⟨#[]⟩, .string ⟨#[68, 105, 115, 107]⟩, .slice none 0 0] 32)) := kbA
  obtain ⟨P, hon, hlt, hP, hFr⟩ := h0.frame hb1
  have hbel : KB w ((w.alloc (.cells #[.slice none 0 0, .int .i64 0, .map none, .slice none 0 0, .slice none 0 0] 72)).alloc (.cells #[.int .i64 1, .int .i8 0, .string ⟨#[]⟩, .string ⟨#[68, 105, 115, 107]⟩, .slice none 0 0] 32)) := hFr.below (fun k hk => hk) (Nat.le_refl _)
  have hx := World.alloc_heap_new (w.alloc (.cells #[.slice none 0 0, .int .i64 0, .map none, .slice none 0 0, .slice none 0 0] 72)) (.cells #[.int .i64 1, .int .i8 0, .string ⟨#[]⟩, .string ⟨#[68, 105, 115, 107]⟩, .slice none 0 0] 32)
  rw [World.size_alloc] at hx
  have hnx : ¬ P (w.heap.size + 1) := fun h => by have := hlt _ h; simp at this
  have hPb : ∀ k, P k → w.heap.size ≤ k := fun k hk => (hP k hk).elim id id
  have HE := Lib.hid hE
  have HBEL := Lib.hid hbel
  have HX := Lib.hid (And.intro hx hnx)
  have HP := Lib.hid hPb
  clear h0 hb1 hlt hP hFr hx hnx hPb hE
  go_enter Tryz.func11, Tryz.ntmps11
  go_wp2_with (go_at_call 12; refine (new_any _).mono ?_; rintro e w5 ⟨rfl, rfl⟩)
  generalize (w.alloc (.cells #[.slice none 0 0, .int .i64 0, .map none, .slice none 0 0, .slice none 0 0] 72)).alloc (.cells #[.int .i64 1, .int .i8 0, .string ⟨#[]⟩, .string ⟨#[68, 105, 115, 107]⟩, .slice none 0 0] 32) = W1 at *
  have HON0 : Hid (WkS W1 P w.heap.size W1) := Lib.hid (.inl hon)
  clear hon hbel
  have CC : Hid (∀ W, Hid (WkS W1 P w.heap.size W) → Calls Tryz.prog 14 #[.pointer (some ⟨w.heap.size, 0, none⟩), .agg #[.int .i64 1, .int .i8 0, .string ⟨#[]⟩, .string ⟨#[68, 105, 115, 107]⟩, .slice none 0 0]] W fun e w' => e = .returned (.int .i64 0) ∧ Hid (WkS W1 P w.heap.size w') ∧ Hid (OnK W1 P w.heap.size wc1 w')) := Lib.hid fun W hS => by
    have hx : isX W wx (.agg #[.int .i64 1, .int .i8 0, .string ⟨#[]⟩, .string ⟨#[68, 105, 115, 107]⟩, .slice none 0 0]) := ⟨_, rfl, isGs_none W, okX_fine fine_wx⟩
    rcases hS.out with h | h
    · have hKW := h.keeps HP.out HBEL.out
      refine (Submit_on h (HE.out.kb hKW) fine_wx hx (good_zC 0) (by omega)).mono ?_
      rintro e w' ⟨rfl, h2⟩
      rw [wsub1] at h2 ⊢
      exact ⟨rfl, Lib.hid (.inr h2), Lib.hid h2⟩
    · have hKW := h.keeps HP.out HBEL.out
      refine (Submit_on h (HE.out.kb hKW) fine_wx hx wgood (by omega)).mono ?_
      rintro e w' ⟨rfl, h2⟩
      rw [wsub2] at h2 ⊢
      exact ⟨rfl, Lib.hid (.inr h2), Lib.hid h2⟩
  have HS : Hid (∀ W, Hid (WkS W1 P w.heap.size W) → Hid (WkS W1 P w.heap.size W) ∧ W.cell? ⟨w.heap.size + 1, 0, none⟩ = some (.int .i64 1) ∧ W.cell? ⟨w.heap.size + 1, 1, none⟩ = some (.int .i8 0) ∧ W.cell? ⟨w.heap.size + 1, 2, none⟩ = some (.string ⟨#[]⟩) ∧ W.cell? ⟨w.heap.size + 1, 3, none⟩ = some (.string ⟨#[68, 105, 115, 107]⟩) ∧ W.cell? ⟨w.heap.size + 1, 4, none⟩ = some (.slice none 0 0)) := Lib.hid fun W hS => by
    obtain ⟨-, hf⟩ := hS.out.fr
    exact ⟨hS, five_cells (hf _ _ HX.out.1 HX.out.2)⟩
  obtain ⟨-, r0, r1, r2, r3, r4⟩ := HS.out _ HON0
  go_cut [3, 4] (fun s3 s4 wx => s3 = .int .i64 0 ∧ s4 = .int .i64 0 ∧ Hid (OnK W1 P w.heap.size wc1 wx))
  case first =>
    go_region_held3 (fun W => Hid (WkS W1 P w.heap.size W) ∧ W.cell? ⟨w.heap.size + 1, 0, none⟩ = some (.int .i64 1) ∧ W.cell? ⟨w.heap.size + 1, 1, none⟩ = some (.int .i8 0) ∧ W.cell? ⟨w.heap.size + 1, 2, none⟩ = some (.string ⟨#[]⟩) ∧ W.cell? ⟨w.heap.size + 1, 3, none⟩ = some (.string ⟨#[68, 105, 115, 107]⟩) ∧ W.cell? ⟨w.heap.size + 1, 4, none⟩ = some (.slice none 0 0))
      (first | (refine HS.out _ ?_; first | assumption | exact WkS.dr (by assumption)))
      (first
        | (go_at_call 14; refine (CC.out _ (by first | assumption | exact WkS.dr (by assumption))).mono ?_; rintro e w6 ⟨rfl, hs6, hn6⟩))
    all_goals
      go_wp2_with fail
      go_meet
      exact ⟨rfl, rfl, by assumption⟩
  case rest =>
    obtain ⟨rfl, rfl, HK⟩ := hcut
    clear r0 r1 r2 r3 r4 HS CC HON0
    have hKW := HK.out.keeps HP.out HBEL.out
    have HEN := Lib.hid (End_on HK.out (HE.out.kb hKW) wgood (by omega) 0 true)
    rw [wend] at HEN
    have eqA : ∀ W, (binOp .eql 38 (.agg #[.bool true, .bool true, .string ⟨#[112, 49]⟩]) (.agg #[.bool true, .bool true, .string ⟨#[112, 49]⟩])).run Tryz.prog W = .ok (.bool true) W := fun W => by rw [eq_an]; simp
    go_wp2_with (first
      | (go_at_call 16; refine HEN.out.mono ?_; rintro e w6 ⟨rfl, hon6⟩; have hb7 : KB w6 (w6.alloc (.cells #[.bool true, .bool true, .string ⟨#[112, 49]⟩] 38)) := kbA; have HMD := Lib.hid (Made_on (hon6.below hb7)); have HTH := Lib.hid (fun w7 (h : Below (w6.alloc (.cells #[.bool true, .bool true, .string ⟨#[112, 49]⟩] 38)).heap.size (w6.alloc (.cells #[.bool true, .bool true, .string ⟨#[112, 49]⟩] 38)) w7) => Things_on (n := 1) ((hon6.below hb7).below h) wgood2 (by omega)); have HON := Lib.hid (hon6.below hb7); clear hon6 hb7)
      | (go_at_call 26; refine HMD.out.mono ?_; rintro e w7 ⟨rfl, hb8⟩)
      | (go_at_call 28; refine (HTH.out _ hb8).mono ?_; rintro e w8 ⟨⟨o8, c8, rfl, -⟩, hb9⟩))
    go_ret
    exact ⟨rfl, ((HON.out.below hb8).below hb9).keeps HP.out HBEL.out⟩
end Go.Proofs.YtkigeegahepnaaaGreatDoor

namespace Go.Proofs.YtkigeegahepnaaaGreatDoor
open Go.ChangeShapes Go.WideShapes Go.ChangeAt Go.RowKit Go.ChangeMaps

theorem undX : ∃ f0 f1 f2 f3 f4 : Field, Tryz.prog.underlying 32 = some (.struct #[f0, f1, f2, f3, f4]) ∧ f0.type = 3 ∧ f0.offset = 0 ∧ f1.type = 29 ∧ f1.offset = 1 ∧ f2.type = 9 ∧ f2.offset = 2 ∧ f3.type = 9 ∧ f3.offset = 3 ∧ f4.type = 30 ∧ f4.offset = 4 :=
  ⟨_, _, _, _, _, Tryz.underlying32, rfl, rfl, rfl, rfl, rfl, rfl, rfl, rfl, rfl, rfl⟩
theorem undA : ∃ f0 f1 f2 : Field, Tryz.prog.underlying 34 = some (.struct #[f0, f1, f2]) ∧ f0.type = 3 ∧ f0.offset = 0 ∧ f1.type = 3 ∧ f1.offset = 1 ∧ f2.type = 32 ∧ f2.offset = 2 :=
  ⟨_, _, _, Tryz.underlying34, rfl, rfl, rfl, rfl, rfl, rfl⟩
theorem cellsAct : Tryz.prog.cellsOf 34 = 7 := by kernel_rfl
theorem cellsCall : Tryz.prog.cellsOf 32 = 5 := by kernel_rfl
theorem cellsInt : Tryz.prog.cellsOf 3 = 1 := by kernel_rfl
theorem cellsI8 : Tryz.prog.cellsOf 29 = 1 := by kernel_rfl
theorem cellsGs : Tryz.prog.cellsOf 30 = 1 := by kernel_rfl
instance : Inhabited Cl := ⟨zCl⟩
instance : Inhabited Ac := ⟨⟨0, 0, zCl⟩⟩

theorem list3c {α : Type} {l : List α} (h : l.length = 3) : ∃ a b c, l = [a, b, c] := by
  match l, h with
  | [a, b, c], _ => exact ⟨a, b, c, rfl⟩
theorem list5c {α : Type} {l : List α} (h : l.length = 5) : ∃ a b c d e, l = [a, b, c, d, e] := by
  match l, h with
  | [a, b, c, d, e], _ => exact ⟨a, b, c, d, e, rfl⟩
theorem list7c {α : Type} {l : List α} (h : l.length = 7) : ∃ a b c d e f g, l = [a, b, c, d, e, f, g] := by
  match l, h with
  | [a, b, c, d, e, f, g], _ => exact ⟨a, b, c, d, e, f, g, rfl⟩

section
variable {H : Type} {enc : TypeId × Value → H} {w : World} {base : Nat} {spare : Nat → Bool} {held : Bool}
set_option maxRecDepth 100000 in
theorem open_gs {fuel : Nat} {v : Value} {y : DataW H × List MemPlace} (e4 : DataW.trod enc Tryz.prog w base spare held fuel 30 [v] = some y) : ∃ L : List G, isGs w L v := by
  rcases DataW.trod_slice Tryz.underlying30 e4 with ⟨h0, _⟩ | ⟨a, len, cap, elems, rest, n', hn', h0, _, _, hlc, hcm, hel, hall, _⟩
  · exact ⟨[], ⟨0, 0, none⟩, 0, ⟨none, by simpa using h0, Nat.le_refl _, by unfold maxLen; omega, fun h => absurd h (by decide)⟩, fun i hi => absurd hi (by simp)⟩
  · obtain ⟨l, hl, hp⟩ := list_of len (fun i (g : G) => isGat w g (a.add (i * 8))) (fun i hi => by
      have hi2 := hall i hi
      rw [List.getElem?_eq_getElem (by omega)] at hi2
      obtain ⟨ds, hd1, hd2⟩ := Option.bind_eq_some_iff.1 hi2
      rw [cells48] at hd1
      obtain ⟨_, hdl, hdc⟩ := World.cells?_some hd1
      obtain ⟨g, c0, c1, c2, c3, c4, c5, hds, hX, hs⟩ := given_cells hd2
      subst hds
      have g0 := hdc 0 (by omega)
      have g1 := hdc 1 (by omega)
      have g2 := hdc 2 (by omega)
      have g3 := hdc 3 (by omega)
      have g4 := hdc 4 (by omega)
      have g5 := hdc 5 (by omega)
      have g6 := hdc 6 (by omega)
      have g7 := hdc 7 (by omega)
      rw [add_add] at g0 g1 g2 g3 g4 g5 g6 g7
      rw [add_succ _ _ _ (by decide)] at g1 g2 g3 g4 g5 g6 g7
      exact ⟨g, c0, c1, c2, c3, c4, c5, g0, g1, g2, g3, g4, g5, g6, g7, hX, hs⟩)
    subst hl
    exact ⟨l, a, cap, ⟨some a, by simpa using h0, hlc, hcm, fun _ => rfl⟩, hp⟩
theorem call_cells {n : Nat} {cs : List Value} {x : DataW H × List MemPlace} (h : DataW.trod enc Tryz.prog w base spare held n 32 cs = some x) :
    ∃ (X : Cl) (c4 : Value), cs = [.int .i64 X.tok, .int .i8 X.kd, .string X.ph, .string X.ty, c4] ∧ isGs w X.ps c4 ∧ okX X := by
  obtain ⟨f0', f1', f2', f3', f4', hu, t0, o0, t1, o1, t2, o2, t3, o3, t4, o4⟩ := undX
  obtain ⟨xs, m, rfl, hx, hl, hxl, hall⟩ := DataW.trod_struct hu h
  rw [cellsCall] at hl
  obtain ⟨d0, d1, d2, d3, d4, rfl⟩ := list5c hl
  obtain ⟨a, b, c, d, e, rfl⟩ := list5c (l := xs) hxl
  have h0 := hall 0 f0' rfl
  have h1 := hall 1 f1' rfl
  have h2 := hall 2 f2' rfl
  have h3 := hall 3 f3' rfl
  have h4 := hall 4 f4' rfl
  simp only [t0, o0, t1, o1, t2, o2, t3, o3, t4, o4, cells9, cellsInt, cellsI8, cellsGs, List.drop_succ_cons, List.drop_zero, List.take_succ_cons, List.take_zero, List.getElem?_cons_zero, List.getElem?_cons_succ] at h0 h1 h2 h3 h4
  obtain ⟨k, e0, _, wk⟩ := DataW.trod_int Tryz.underlying3 h0
  obtain ⟨q, e1, _, wq⟩ := DataW.trod_int Tryz.underlying29 h1
  obtain ⟨s', e2, _, hs⟩ := DataW.trod_string Tryz.underlying9 h2
  obtain ⟨s2, e3, _, hs2⟩ := DataW.trod_string Tryz.underlying9 h3
  obtain ⟨L, hL⟩ := open_gs h4
  simp only [List.cons.injEq, and_true] at e0 e1 e2 e3
  exact ⟨⟨k, q, s', s2, L⟩, d4, by rw [e0, e1, e2, e3], hL, ⟨by simp [Lit.wf, IntKind.min, IntKind.max, IntKind.bits, IntKind.signed] at wk; unfold okZ; omega, by simp [Lit.wf, IntKind.min, IntKind.max, IntKind.bits, IntKind.signed] at wq; unfold i8Z; omega, hs, hs2⟩⟩
theorem act_cells {n : Nat} {cs : List Value} {x : DataW H × List MemPlace} (h : DataW.trod enc Tryz.prog w base spare held n 34 cs = some x) :
    ∃ (Y : Ac) (c4 : Value), cs = [.int .i64 Y.dO, .int .i64 Y.n, .int .i64 Y.x.tok, .int .i8 Y.x.kd, .string Y.x.ph, .string Y.x.ty, c4] ∧ isGs w Y.x.ps c4 ∧ okX Y.x ∧ okZ Y.dO ∧ okZ Y.n := by
  obtain ⟨f0', f1', f2', hu, t0, o0, t1, o1, t2, o2⟩ := undA
  obtain ⟨xs, m, rfl, hx, hl, hxl, hall⟩ := DataW.trod_struct hu h
  rw [cellsAct] at hl
  obtain ⟨d0, d1, d2, d3, d4, d5, d6, rfl⟩ := list7c hl
  obtain ⟨a, b, c, rfl⟩ := list3c (l := xs) hxl
  have h0 := hall 0 f0' rfl
  have h1 := hall 1 f1' rfl
  have h2 := hall 2 f2' rfl
  simp only [t0, o0, t1, o1, t2, o2, cellsInt, cellsCall, List.drop_succ_cons, List.drop_zero, List.take_succ_cons, List.take_zero, List.getElem?_cons_zero, List.getElem?_cons_succ] at h0 h1 h2
  obtain ⟨k, e0, _, wk⟩ := DataW.trod_int Tryz.underlying3 h0
  obtain ⟨q, e1, _, wq⟩ := DataW.trod_int Tryz.underlying3 h1
  obtain ⟨X, c4, e2, hL, hX⟩ := call_cells h2
  simp only [List.cons.injEq, and_true] at e0 e1 e2
  obtain ⟨e2, e3, e4, e5, e6⟩ := e2
  exact ⟨⟨k, q, X⟩, c4, by rw [e0, e1, e2, e3, e4, e5, e6], hL, hX, by simp [Lit.wf, IntKind.min, IntKind.max, IntKind.bits, IntKind.signed] at wk; unfold okZ; omega, by simp [Lit.wf, IntKind.min, IntKind.max, IntKind.bits, IntKind.signed] at wq; unfold okZ; omega⟩

set_option maxRecDepth 100000 in
/-- An argument of type []Act. -/
theorem open_arg_as {r : Reach} {b0 : Nat} {v : Value} {d : DataW H} {ps : List MemPlace} (hv : Value.okWide Tryz.prog w r b0 22 v) (h : DataW.Trod enc Tryz.prog w base spare held 22 v d ps) : ∃ L : List Ac, isAs w L v := by
  obtain ⟨o, n0, c0, rfl⟩ := okWide_slice Tryz.underlying22 hv
  obtain ⟨fuel, hf⟩ := h
  have e4 : DataW.trod enc Tryz.prog w base spare held fuel 22 [.slice o n0 c0] = some (d, ps) := by simpa [Value.cells] using hf
  rcases DataW.trod_slice Tryz.underlying22 e4 with ⟨h0, _⟩ | ⟨a, len, cap, elems, rest, n', hn', h0, _, _, hlc, hcm, hel, hall, _⟩
  · exact ⟨[], ⟨0, 0, none⟩, 0, ⟨none, by simpa using h0, Nat.le_refl _, by unfold maxLen; omega, fun h => absurd h (by decide)⟩, fun i hi => absurd hi (by simp)⟩
  · obtain ⟨l, hl, hp⟩ := list_of len (fun i (X : Ac) => isAat w X (a.add (i * 7))) (fun i hi => by
      have hi2 := hall i hi
      rw [List.getElem?_eq_getElem (by omega)] at hi2
      obtain ⟨ds, hd1, hd2⟩ := Option.bind_eq_some_iff.1 hi2
      rw [cellsAct] at hd1
      obtain ⟨_, hdl, hdc⟩ := World.cells?_some hd1
      obtain ⟨X, c4, hds, hX, hs, hd, hn⟩ := act_cells hd2
      subst hds
      have g0 := hdc 0 (by omega)
      have g1 := hdc 1 (by omega)
      have g2 := hdc 2 (by omega)
      have g3 := hdc 3 (by omega)
      have g4 := hdc 4 (by omega)
      have g5 := hdc 5 (by omega)
      have g6 := hdc 6 (by omega)
      rw [add_add] at g0 g1 g2 g3 g4 g5 g6
      rw [add_succ _ _ _ (by decide)] at g1 g2 g3 g4 g5 g6
      exact ⟨X, c4, g0, g1, g2, g3, g4, g5, g6, hX, hs, hd, hn⟩)
    subst hl
    exact ⟨l, a, cap, ⟨some a, by simpa using h0, hlc, hcm, fun _ => rfl⟩, hp⟩
set_option maxRecDepth 100000 in
/-- An argument of type api.Call. -/
theorem open_arg_x {r : Reach} {b0 : Nat} {v : Value} {d : DataW H} {ps : List MemPlace} (hv : Value.okWide Tryz.prog w r b0 32 v) (h : DataW.Trod enc Tryz.prog w base spare held 32 v d ps) : ∃ x : Cl, isX w x v := by
  obtain ⟨cs, rfl, hsz⟩ := okWide_struct Tryz.underlying32 hv
  obtain ⟨fuel, hf⟩ := h
  have h : DataW.trod enc Tryz.prog w base spare held fuel 32 cs.toList = some (d, ps) := by simpa [Value.cells] using hf
  obtain ⟨X, c4, hds, hL, hX⟩ := call_cells h
  refine ⟨X, c4, ?_, hL, hX⟩
  rw [← Array.toArray_toList (xs := cs), hds]
end
end Go.Proofs.YtkigeegahepnaaaGreatDoor
