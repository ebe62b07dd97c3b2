/-
  The statement SubWrites: whatever the expressions, the law returns true, and the argument reads as before. Conditions: utf8's tables are laid as the program's text lays them.
-/
import Derived.Test.YtjnoomefppncoaaDoorMu
import Derived.Test.YtjnoomefppncoaaDoorLl
import Derived.Test.YtjnoomefppncoaaDoorLo
import Derived.Test.YtjnoomefppncoaaDoorTie
import Derived.Test.YtjnoomefppncoaaDoorCards
import Derived.SevenTiedAt
import Derived.Stop.Joined
namespace Go.Proofs.YtjnoomefppncoaaDoor
open Go.ChangeShapes Go.WideShapes Go.ChangeAt Go.RowKit Go.Shelf
open Go.ChangeMaps (open_string shut_string)
set_option linter.unusedVariables false

theorem laidOutSubWrites : laidOutB Tryd.prog = true := by kernel_rfl
theorem ownSubWrites : ownKnob Tryd.prog.godebug = none := by kernel_rfl

set_option maxRecDepth 100000 in
theorem subWrites_lifted (os : Os) (started : os.Started) (H : Type) (enc : TypeId × Value → H) :
    ReturnsInHanded {} Tryd.checked os 4 .any (fun w args => (Rows.subWritesSpec.pre enc Tryd.prog Tryd.f4 Rows.subWritesRow.domain false w args ∧ laidMetH Tryd.prog Rows.subWritesRow.laid w) ∧ sizedMet enc Tryd.prog Tryd.f4 (OpenSpec.ofChange Rows.subWritesSpec) false w args)
      (Rows.subWritesSpec.post enc Tryd.prog Tryd.f4 false true false false) := by
  refine handed_shaped (C := Tryd.checked) (Y := fun w _ => laidMetH Tryd.prog Rows.subWritesRow.laid w) (fun _ _ _ hh h => h.of_heap hh) ownSubWrites started (by kernel_rfl) Tryd.func4
    (ChangeSpec.witness_shaped (enc := enc) (C := Tryd.checked) (os := os) (X := fun w _ => laidMetH Tryd.prog Rows.subWritesRow.laid w) false (World.laidAll Tryd.prog os Rows.subWritesRow.laid) #[.slice none 0 0] 8 (World.laidAll_os _ _ _)
      (World.shaped_of_ZipB (by kernel_rfl) (by kernel_rfl)) (by kernel_rfl) (by kernel_rfl) (by kernel_rfl)
      (by rw [MakeChecks.laidMetH_plain _ _ _ (by kernel_rfl)]; exact laidMet_laidAll _ (by kernel_rfl) (by kernel_rfl))) ?_
  intro W base args ds gs before hval0 hW hsz0 hsh hL
  have hval : ∀ (j : Nat) t v, Tryd.f4.params[j]? = some t → args[j]? = some v → Value.okWide Tryd.prog W .any base t v := hval0
  have hW' := hW
  obtain ⟨p, q, hA0, hV, rfl, hfz, hnd⟩ := hW
  have hA : DataW.TrodAll enc Tryd.prog W 0 (fun _ => true) true Tryd.f4.params.toList args.toList ds p := hA0
  rw [Tryd.params4] at hA hval
  obtain ⟨v0, d0, rfl, rfl, h0⟩ := trodAll_one hA
  obtain ⟨rfl, rfl⟩ := trodVars_none hV
  have wt0 : ∀ n ∈ d0.weights Tryd.prog 23, n ≤ reachBytes := fun n hn => by
    have hsz := hsz0
    rw [Tryd.params4] at hsz
    have := List.all_eq_true.1 hsz n (DataW.weights_mem_each (ts := [23]) (j := 0) (t := 23) rfl rfl n hn)
    simpa using this
  obtain ⟨x0, z0⟩ := open_arg_e (hval 0 23 v0 rfl rfl) h0 wt0
  have hlt0 : ∀ x ∈ p, x.block < W.heap.size := fun x hx => hW'.lt x (by simp [hx])
  rw [MakeChecks.laidMetH_plain _ _ _ (by kernel_rfl)] at hL
  have hE : Env W := env_of_laid (by simp [Rows.subWritesRow]) (by simp [Rows.subWritesRow]) hL hsh
  clear hA0 hval0 hL
  refine (subWrites_any x0 v0 W hE z0).mono fun e W' ⟨he, bel⟩ => ?_
  subst he
  exact ⟨_, rfl, _, _, _, [], _, [], hW', trodAll_mk1 (shut_bool Tryd.underlying4 _), (trodAll_cons_mk (Below.trod laidOutSubWrites (by kernel_rfl) (of_decide_eq_true (by kernel_rfl)) h0 bel hlt0) trodAll_mk0), rfl, bel.frame _, fun h => by cases h⟩

theorem subWrites_said : Rows.SubWritesSaid :=
  OpenClaim.holds_of_wide 4 Tryd.f4 rfl rfl rfl rfl rfl rfl rfl ⟨rfl, rfl, rfl, rfl, rfl⟩ rfl rfl rfl rfl rfl (by kernel_rfl) Tryd.func4 (by kernel_rfl)
    (of_decide_eq_true (by kernel_rfl)) (by unfold Func.isWrapper; rw [if_neg (of_decide_eq_false (by kernel_rfl))]; exact ⟨rfl, rfl⟩)
    (fun os started H enc _ => subWrites_lifted os started H enc)

theorem subWrites_holds : Rows.SubWritesCardSaid :=
  Claim7.holds_tied_plain_at .later [] _ _ _ _
    subWrites_said (fun _ h => by cases h) (by kernel_rfl) (fun _ h => by cases h) subWrites_row_tie rfl ⟨rfl, rfl⟩ (by kernel_rfl) rfl
    (fun f fn hf hfn => by
      obtain rfl : f = 4 := Option.some.inj ((show Tryd.prog.funcNamed "hoarding/hoardinglaw12.SubWrites" = some 4 by kernel_rfl).symm.trans hf) |>.symm
      obtain rfl : fn = Tryd.f4 := (Option.some.inj (Tryd.func4.symm.trans hfn)).symm
      exact ⟨by kernel_rfl, fun j t ht => by
        rw [Tryd.params4] at ht
        have hm : t ∈ [23] := by have := Array.mem_of_getElem? ht; simpa using this
        have hall : ([23].all fun u => !Tryd.prog.wantsStandIn u) = true := by kernel_rfl
        exact (show Tryd.prog.wantsStandIn t = false by simpa using List.all_eq_true.1 hall t hm)⟩)
    (by kernel_rfl)
#print axioms subWrites_holds
end Go.Proofs.YtjnoomefppncoaaDoor
