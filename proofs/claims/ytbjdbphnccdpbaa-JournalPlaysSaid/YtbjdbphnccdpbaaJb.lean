/-
  The program's journal: length, broken, first, there; what Bytes answers, owned.
-/
import Derived.Test.YtbjdbphnccdpbaaJa
import Derived.Test.YtbjdbphnccdpbaaYi
set_option linter.unusedVariables false
namespace Go.Proofs.Ytbjdbphnccdpbaa
open Go.RowKit Go.Shelf Go.Lib Go.Deep

theorem or4 (a b c d : Nat) (ha : a < 256) (hb : b < 256) (hc : c < 256) (hd : d < 256) :
    bits .or IntKind.i64 ((a : Int) * 16777216) ((b : Int) * 65536) = (a : Int) * 16777216 + (b : Int) * 65536 ∧
    bits .or IntKind.i64 ((a : Int) * 16777216 + (b : Int) * 65536) ((c : Int) * 256) = (a : Int) * 16777216 + (b : Int) * 65536 + (c : Int) * 256 ∧
    bits .or IntKind.i64 ((a : Int) * 16777216 + (b : Int) * 65536 + (c : Int) * 256) (d : Int) = (a : Int) * 16777216 + (b : Int) * 65536 + (c : Int) * 256 + (d : Int) := by
  have hk : ∀ n : Int, 0 ≤ n → n < 2 ^ 32 → IntKind.i64.wrap n = n := fun n h0 h1 => by rw [IntKind.wrap_i64]; simp at h1; omega
  refine ⟨?_, ?_, ?_⟩
  · exact bits_join .i64 32 (by decide) hk 24 _ _ (by omega) (by simp) (by simp; omega) (by omega) (by simp; omega) (by simp; omega)
  · exact bits_join .i64 32 (by decide) hk 16 _ _ (by omega) (by simp; omega) (by simp; omega) (by omega) (by simp; omega) (by simp; omega)
  · exact bits_join .i64 32 (by decide) hk 8 _ _ (by omega) (by simp; omega) (by simp; omega) (by omega) (by simp; omega) (by simp; omega)

set_option maxRecDepth 100000 in
set_option maxHeartbeats 4000000 in
theorem jlength_any (p q r u : UInt8) (t : List UInt8) (v : Value) (w : World) (hx : rd w (p :: q :: r :: u :: t) v) : Calls Try.prog 57 #[v] w fun e w' => e = .returned (.int .i64 ((p.toNat : Int) * 16777216 + (q.toNat : Int) * 65536 + (r.toNat : Int) * 256 + (u.toNat : Int))) ∧ Hid (Below w.heap.size w w') := by
  obtain ⟨o, c, rfl, hc1, hc2⟩ := hx.form
  obtain ⟨ab, rfl, hcell⟩ := hx.at (by simp)
  have g0 := hcell 0 (by simp)
  have g1 := hcell 1 (by simp)
  have g2 := hcell 2 (by simp)
  have g3 := hcell 3 (by simp)
  simp only [List.getElem_cons_zero, List.getElem_cons_succ] at g0 g1 g2 g3
  have hlen : 4 ≤ (p :: q :: r :: u :: t).length := by simp
  clear hcell hx hc1 hc2
  generalize (p :: q :: r :: u :: t).length = n at *
  have i0 : (0 : Int) < (n : Int) := by omega
  have i1 : (1 : Int) < (n : Int) := by omega
  have i2 : (2 : Int) < (n : Int) := by omega
  have i3 : (3 : Int) < (n : Int) := by omega
  have g0' : w.cell? ab = some (.int .u8 (p.toNat : Int)) := by simpa [Addr.add] using g0
  have g1' : w.cell? ⟨ab.block, ab.off + 1, none⟩ = some (.int .u8 (q.toNat : Int)) := by simpa [Addr.add] using g1
  have g2' : w.cell? ⟨ab.block, ab.off + 2, none⟩ = some (.int .u8 (r.toNat : Int)) := by simpa [Addr.add] using g2
  have g3' : w.cell? ⟨ab.block, ab.off + 3, none⟩ = some (.int .u8 (u.toNat : Int)) := by simpa [Addr.add] using g3
  have n0 : 0 < n := by omega
  have n1 : 1 < n := by omega
  have n2 : 2 < n := by omega
  have n3 : 3 < n := by omega
  have hp := UInt8.toNat_lt p
  have hq := UInt8.toNat_lt q
  have hr := UInt8.toNat_lt r
  have hu := UInt8.toNat_lt u
  obtain ⟨o1, o2, o3⟩ := or4 _ _ _ _ hp hq hr hu
  generalize p.toNat = A at *
  generalize q.toNat = B at *
  generalize r.toNat = C at *
  generalize u.toNat = D at *
  have s1 : IntKind.i64.wrap ((A : Int) * 16777216) = (A : Int) * 16777216 := by go_unwrap
  have s2 : IntKind.i64.wrap ((B : Int) * 65536) = (B : Int) * 65536 := by go_unwrap
  have s3 : IntKind.i64.wrap ((C : Int) * 256) = (C : Int) * 256 := by go_unwrap
  go_enter Try.func57, Try.ntmps57
  go_wp2_with fail
  go_quiet (fail)
  go_wp2_with fail
  go_ret
  exact ⟨rfl, Lib.hid (below_drewN (Below.refl _ _) _)⟩
end Go.Proofs.Ytbjdbphnccdpbaa
