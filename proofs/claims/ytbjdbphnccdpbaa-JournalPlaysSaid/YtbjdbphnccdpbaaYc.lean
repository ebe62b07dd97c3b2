/-
  The program's disk: deeds and writes go by functions; the deeds.
-/
import Derived.Test.YtbjdbphnccdpbaaYb
set_option linter.unusedVariables false
namespace Go.Proofs.Ytbjdbphnccdpbaa
open Go.RowKit Go.Shelf Go.Lib Go.Deep

set_option maxRecDepth 100000 in
set_option maxHeartbeats 1000000 in
theorem deed_nil (g : Nat) (lb : Array Value) (w : World) : Calls Try.prog 24 #[.pointer none, .func (.func g) #[] lb] w fun e w' => e = .returned (.int .i64 1) ∧ w' = w := by
  go_enter Try.func24, Try.ntmps24
  go_wp2
  go_ret
  exact ⟨rfl, rfl⟩
set_option maxRecDepth 100000 in
set_option maxHeartbeats 1000000 in
theorem deed_down (b g : Nat) (lb : Array Value) (w : World) (c1 : w.cell? ⟨b, 1, none⟩ = some (.bool true)) : Calls Try.prog 24 #[.pointer (some ⟨b, 0, none⟩), .func (.func g) #[] lb] w fun e w' => e = .returned (.int .i64 60) ∧ w' = w := by
  go_enter Try.func24, Try.ntmps24
  go_wp2
  go_ret
  exact ⟨rfl, rfl⟩
set_option maxRecDepth 100000 in
set_option maxHeartbeats 1000000 in
theorem deed_up (b g : Nat) (lb : Array Value) (w : World) (eg : ∀ args w, (callFunc g args).run Try.prog w = .ok (.enter g args) w) (c1 : w.cell? ⟨b, 1, none⟩ = some (.bool false)) {Q : Int → World → Prop}
    (hd : Calls Try.prog g lb w fun e w' => ∃ i, e = .returned (.int .i64 i) ∧ Q i w') :
    Calls Try.prog 24 #[.pointer (some ⟨b, 0, none⟩), .func (.func g) #[] lb] w fun e w' => ∃ i, e = .returned (.int .i64 i) ∧ Q i w' := by
  have HD := Lib.hid hd
  clear hd
  go_enter Try.func24, Try.ntmps24
  go_wp2
  refine HD.out.mono ?_
  rintro e w2 ⟨i, rfl, hq⟩
  have HQ := Lib.hid hq
  clear hq
  go_wp2
  go_ret
  exact ⟨i, rfl, HQ.out⟩

set_option maxRecDepth 100000 in
set_option maxHeartbeats 1000000 in
theorem write_whole (b g : Nat) (lb : Array Value) (t : Value) (w : World) (eg : ∀ args w, (callFunc g args).run Try.prog w = .ok (.enter g args) w) (c2 : w.cell? ⟨b, 2, none⟩ = some (.bool false)) {Q : World → Prop}
    (hd : Calls Try.prog g lb w fun e w' => e = .returned (.tuple #[]) ∧ Q w') :
    Calls Try.prog 51 #[.pointer (some ⟨b, 0, none⟩), .func (.func g) #[] lb, t] w fun e w' => e = .returned (.int .i64 0) ∧ Q w' := by
  have HD := Lib.hid hd
  clear hd
  go_enter Try.func51, Try.ntmps51
  go_wp2
  refine HD.out.mono ?_
  rintro e w2 ⟨rfl, hq⟩
  have HQ := Lib.hid hq
  clear hq
  go_wp2
  go_ret
  exact ⟨rfl, HQ.out⟩
set_option maxRecDepth 100000 in
set_option maxHeartbeats 1000000 in
theorem write_torn {base : Nat} {s : DS} (b g : Nat) (lb : Array Value) (t : Value) (w : World) (eg : ∀ args w, (callFunc g args).run Try.prog w = .ok (.enter g args) w) (c2 : w.cell? ⟨b, 2, none⟩ = some (.bool true)) {R : Value → World → Prop}
    (hd : Calls Try.prog g lb w fun e w' => e = .returned (.tuple #[]) ∧ ∃ v', Dk 52 base b s v' w' ∧ R v' w') :
    Calls Try.prog 51 #[.pointer (some ⟨b, 0, none⟩), t, .func (.func g) #[] lb] w fun e w' => e = .returned (.int .i64 60) ∧ ∃ v' w1, Dk 52 base b ⟨s.f, true, none⟩ v' w' ∧ R v' w1 ∧ Fr (fun k => k = b) w1 w' := by
  have HD := Lib.hid hd
  clear hd
  go_enter Try.func51, Try.ntmps51
  go_wp2
  refine HD.out.mono ?_
  rintro e w2 ⟨rfl, v', hk, hr⟩
  have HR := Lib.hid hr
  have HF := Lib.hid (fall_any w2 hk)
  clear hk hr
  go_wp2_with fail
  refine HF.out.mono ?_
  rintro e w3 ⟨rfl, hk, hf⟩
  have HQ := Lib.hid (And.intro hk hf)
  clear hk hf
  go_wp2_with fail
  go_ret
  exact ⟨rfl, v', w2, HQ.out.1, HR.out, HQ.out.2⟩
set_option maxRecDepth 100000 in
theorem unchanged_any (w : World) : Calls Try.prog 53 #[] w fun e w' => e = .returned (.tuple #[]) ∧ w' = w := by
  go_enter Try.func53, Try.ntmps53
  go_wp2
  go_end0
  exact ⟨rfl, rfl⟩
end Go.Proofs.Ytbjdbphnccdpbaa
