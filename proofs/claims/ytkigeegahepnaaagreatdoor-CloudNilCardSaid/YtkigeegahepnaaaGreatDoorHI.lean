/-
  CloudNil, walked.
-/
import Derived.Test.YtkigeegahepnaaaGreatDoorHF
set_option linter.unusedVariables false
set_option linter.unusedSimpArgs false
namespace Go.Proofs.YtkigeegahepnaaaGreatDoor
open Go.RowKit Go.Maps Go.Deep

set_option maxRecDepth 100000 in
set_option maxHeartbeats 8000000 in
theorem cloudNil_any (x : Cl) (v : Value) (n : Int) (w : World) (hE : Env9 w) (h : isX w x v) {p : Prop} (hp : p) : Calls Tryz.prog 8 #[v, .int .i64 n] w fun e w' => e = .returned (.bool true) ∧ Below w.heap.size w w' := by
  have HG := Lib.hid fun w1 (hK : KB w w1) => greatX_any x v w1 (isX_below hK h)
  obtain ⟨o, cap, rfl, hg, hok⟩ := isX_form h
  have hA1 : KB w (w.alloc (.cells #[.int .i64 x.tok, .int .i8 x.kd, .string x.ph, .string x.ty, .slice o x.ps.length cap] 32)) := kbA
  have n1 := World.alloc_heap_new w (.cells #[.int .i64 x.tok, .int .i8 x.kd, .string x.ph, .string x.ty, .slice o x.ps.length cap] 32)
  have HE := Lib.hid hE
  have HA := Lib.hid hA1
  have HN := Lib.hid n1
  have HGR := HG.out _ hA1
  have HGR := Lib.hid HGR
  clear HG hg hok h hE hA1 n1
  go_enter Tryz.func8, Tryz.ntmps8
  go_upto_region 1 with fail
  generalize w.alloc (.cells #[.int .i64 x.tok, .int .i8 x.kd, .string x.ph, .string x.ty, .slice o x.ps.length cap] 32) = W1 at *
  have SX : Hid (∀ W, Hid (KB W1 W) → W.cell? ⟨w.heap.size, 0, none⟩ = some (.int .i64 x.tok) ∧ W.cell? ⟨w.heap.size, 1, none⟩ = some (.int .i8 x.kd) ∧ W.cell? ⟨w.heap.size, 2, none⟩ = some (.string x.ph) ∧ W.cell? ⟨w.heap.size, 3, none⟩ = some (.string x.ty) ∧ W.cell? ⟨w.heap.size, 4, none⟩ = some (.slice o x.ps.length cap)) := Lib.hid fun W hK => five_cells ((hK.out.block _ (Array.getElem?_eq_some_iff.1 HN.out).1).trans HN.out)
  have WK : Hid (∀ W, Hid (KB W1 W) → Calls Tryz.prog 11 #[] W fun e w' => e = .returned (.bool true) ∧ Hid (KB W1 w')) := Lib.hid fun W hK => (wakes11_any W (HE.out.kb (HA.out.trans (hK.out.mono HA.out.size)))).mono fun e w' ⟨h1, h2⟩ => ⟨h1, Lib.hid (hK.out.trans (h2.mono hK.out.size))⟩
  have K1 : Hid (KB W1 W1) := Lib.hid (Below.refl _ _)
  obtain ⟨r0, r1, r2, r3, r4⟩ := SX.out _ K1
  by_cases hgr : greatX x = true
  · rw [hgr] at HGR
    clear hgr
    go_wp2_with (first
      | (go_at_call 33; go_loud (refine HGR.out.mono ?_; rintro e w2 ⟨rfl, hb2⟩; have K2 : Hid (KB W1 w2) := Lib.hid hb2; clear hb2))
      | (go_at_call 11; refine (WK.out _ K2).mono ?_; rintro e w3 ⟨rfl, K3⟩))
    go_ret
    exact ⟨rfl, HA.out.trans (K3.out.mono HA.out.size)⟩
  · have hgr' : greatX x = false := by simpa using hgr
    rw [hgr'] at HGR
    clear hgr hgr'
    have eqA : ∀ W, (binOp .eql 38 (.agg #[.bool false, .bool false, .string ⟨#[]⟩]) (.agg #[.bool false, .bool false, .string ⟨#[]⟩])).run Tryz.prog W = .ok (.bool true) W := fun W => by rw [eq_an]; simp
    go_wp2_with (first
      | (go_at_call 33; go_loud (refine HGR.out.mono ?_; rintro e w2 ⟨rfl, hb2⟩; have K2 : Hid (KB W1 w2) := Lib.hid hb2; clear hb2))
      | (go_at_call 16; refine (end_nil _ _ _).mono ?_; rintro e w3 ⟨rfl, hb3⟩; have K3 : Hid (KB W1 w3) := Lib.hid (K2.out.trans (hb3.mono K2.out.size)); have K3a := hkb_alloc (.cells #[.bool false, .bool false, .string ⟨#[]⟩] 38) K3; have N3 := Lib.hid (World.alloc_heap_new w3 (.cells #[.bool false, .bool false, .string ⟨#[]⟩] 38)); clear hb3)
      | (go_at_call 18; refine (ask_nil _ _).mono ?_; rintro e w4 ⟨rfl, hb4⟩; have K4 : Hid (KB W1 w4) := Lib.hid (K3a.out.trans (hb4.mono K3a.out.size)); have J4 := Lib.hid hb4; have K4a := hkb_alloc (.cells #[.bool false, .bool false, .string ⟨#[]⟩] 38) K4; obtain ⟨r0, r1, r2, r3, r4⟩ := SX.out _ K4a; clear hb4)
      | (go_at_call 20; refine (get_nil _ _).mono ?_; rintro e w5 ⟨rfl, hb5⟩; have K5 : Hid (KB W1 w5) := Lib.hid (K4a.out.trans (hb5.mono K4a.out.size)); have J5 : Hid (KB (w3.alloc (.cells #[.bool false, .bool false, .string ⟨#[]⟩] 38)) w5) := Lib.hid ((hkb_alloc (.cells #[.bool false, .bool false, .string ⟨#[]⟩] 38) J4).out.trans (hb5.mono (hkb_alloc (.cells #[.bool false, .bool false, .string ⟨#[]⟩] 38) J4).out.size)); have K5a := hkb_alloc (.cells #[.string ⟨#[]⟩, .string ⟨#[]⟩, .slice none 0 0] 44) K5; have J5a := hkb_alloc (.cells #[.string ⟨#[]⟩, .string ⟨#[]⟩, .slice none 0 0] 44) J5; obtain ⟨r0, r1, r2, r3, r4⟩ := SX.out _ K5a; clear hb5)
      | (go_at_call 14; refine (submit_nil _ x o cap).mono ?_; rintro e w6 ⟨rfl, hb6⟩; have K6 : Hid (KB W1 w6) := Lib.hid (K5a.out.trans (hb6.mono K5a.out.size)); obtain ⟨a0, a1, a2⟩ := three_cells ((hb6.block w3.heap.size (by have := J5a.out.size; simp at this ⊢; omega)).trans ((J5a.out.block w3.heap.size (by simp)).trans N3.out)); clear hb6)
      | (go_at_call 24; refine (flight_nil _).mono ?_; rintro e w7 ⟨rfl, hb7⟩; have K7 : Hid (KB W1 w7) := Lib.hid (K6.out.trans (hb7.mono K6.out.size)); clear hb7)
      | (go_at_call 28; refine (things_nil _).mono ?_; rintro e w8 ⟨rfl, hb8⟩; have K8 : Hid (KB W1 w8) := Lib.hid (K7.out.trans (hb8.mono K7.out.size)); clear hb8)
      | (go_at_call 31; refine (calls_nil _).mono ?_; rintro e w9 ⟨rfl, hb9⟩; have K9 : Hid (KB W1 w9) := Lib.hid (K8.out.trans (hb9.mono K8.out.size)); clear hb9)
      | (go_at_call 26; refine (made_nil _).mono ?_; rintro e w10 ⟨rfl, hb10⟩; have K10 : Hid (KB W1 w10) := Lib.hid (K9.out.trans (hb10.mono K9.out.size)); clear hb10)
      | (go_at_call 11; refine (WK.out _ K10).mono ?_; rintro e w11 ⟨rfl, K11⟩))
    go_ret
    exact ⟨rfl, HA.out.trans (K11.out.mono HA.out.size)⟩
end Go.Proofs.YtkigeegahepnaaaGreatDoor
