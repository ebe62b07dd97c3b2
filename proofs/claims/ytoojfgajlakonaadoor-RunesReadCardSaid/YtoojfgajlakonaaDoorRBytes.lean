/-
  The reference's Bytes: a rune as UTF-8.
-/
import Derived.Test.YtoojfgajlakonaaDoorPl5
import Derived.Test.YtoojfgajlakonaaDoorBld
import Derived.Laws.IdiomStrings
set_option linter.unusedVariables false
namespace Go.Proofs.YtoojfgajlakonaaDoor
open Go.RowKit Go.Shelf

theorem conv_block (w : World) (l : List UInt8) (n : Nat) (C : Array Value) (hn : l.length = n) (hC : (Lib.byteCells l).toArray = C) :
    (convert 38 9 (.slice (some ⟨w.heap.size, 0, none⟩) n n)).run Tryd.prog (w.alloc (.cells C 5)) = .ok (.string ⟨l.toArray⟩) (w.alloc (.cells C 5)) := by
  subst hn
  refine run_convert_bytes_back (P := Tryd.prog) _ 38 9 5 ⟨w.heap.size, 0, none⟩ l.length l Tryd.underlying38 Tryd.underlying5 Tryd.underlying9 (fun j hj => ?_)
  subst hC
  have e : ((⟨w.heap.size, 0, none⟩ : Addr).add j) = ⟨w.heap.size, j, none⟩ := by simp [Addr.add]; try omega
  rw [e, World.cell?_alloc_new]
  simp [Lib.byteCells, hj]

set_option maxRecDepth 100000 in
set_option maxHeartbeats 2000000 in
theorem rbytes_two (r : Nat) (h : 128 ≤ r) (h2 : r < 2048) (hv : r < 55296 ∨ 57343 < r) (w : World) :
    Calls Tryd.prog 44 #[.int .i64 r] w fun e w' => e = .returned (.string ⟨(Lib.encodeRune r).toArray⟩) ∧ Below w.heap.size w w' := by
  obtain ⟨a, ha⟩ : ∃ a : Nat, r / 64 = a := ⟨_, rfl⟩
  obtain ⟨c, hc⟩ : ∃ c : Nat, r % 64 = c := ⟨_, rfl⟩
  have he : Lib.encodeRune (r : Int) = [(192 + a).toUInt8, (128 + c).toUInt8] := by
    unfold Lib.encodeRune
    rw [Lib.encodeRuneZ_two (by omega) (by omega)]
    simp only [List.map_cons, List.map_nil]
    rw [show (192 + (r : Int) / 64 : Int).toNat = 192 + a by omega, show (128 + (r : Int) % 64 : Int).toNat = 128 + c by omega]
  have ia : ((r : Int) / 64) = (a : Int) := by omega
  have ba : a < 32 := by omega
  have ic : ((r : Int) % 64) = (c : Int) := by omega
  have bc : c < 64 := by omega
  have hcv := conv_block w [(192 + a).toUInt8, (128 + c).toUInt8] 2 #[.int .u8 (192 + (a : Int)), .int .u8 (128 + (c : Int))] rfl (by
    simp only [Lib.byteCells, List.map_cons, List.map_nil]
    rw [u8n (192 + a) (by omega), u8n (128 + c) (by omega)]
    rfl)
  rw [he]
  obtain ⟨L, hL⟩ : ∃ L : ByteArray, L = ⟨[(192 + a).toUInt8, (128 + c).toUInt8].toArray⟩ := ⟨_, rfl⟩
  rw [← hL] at hcv ⊢
  have n1 : ¬ (r : Int) < 128 := by omega
  have l2 : (r : Int) < 2048 := by omega
  clear he hL ha hc hv h h2
  go_enter Tryd.func44, Tryd.ntmps44
  go_wp2_with fail
  go_ret
  exact ⟨rfl, by go_grown⟩

set_option maxRecDepth 100000 in
set_option maxHeartbeats 2000000 in
theorem rbytes_three (r : Nat) (h : 2048 ≤ r) (h2 : r < 65536) (hv : r < 55296 ∨ 57343 < r) (w : World) :
    Calls Tryd.prog 44 #[.int .i64 r] w fun e w' => e = .returned (.string ⟨(Lib.encodeRune r).toArray⟩) ∧ Below w.heap.size w w' := by
  obtain ⟨b, hb⟩ : ∃ b : Nat, r / 4096 = b := ⟨_, rfl⟩
  obtain ⟨a, ha⟩ : ∃ a : Nat, r / 64 = a := ⟨_, rfl⟩
  obtain ⟨d, hd⟩ : ∃ d : Nat, a % 64 = d := ⟨_, rfl⟩
  obtain ⟨c, hc⟩ : ∃ c : Nat, r % 64 = c := ⟨_, rfl⟩
  have he : Lib.encodeRune (r : Int) = [(224 + b).toUInt8, (128 + d).toUInt8, (128 + c).toUInt8] := by
    unfold Lib.encodeRune
    rw [Lib.encodeRuneZ_three (by omega)]
    simp only [List.map_cons, List.map_nil]
    rw [show (224 + (r : Int) / 4096 : Int).toNat = 224 + b by omega, show (128 + (r : Int) / 64 % 64 : Int).toNat = 128 + d by omega, show (128 + (r : Int) % 64 : Int).toNat = 128 + c by omega]
  have ib : ((r : Int) / 4096) = (b : Int) := by omega
  have bb : b < 16 := by omega
  have ia : ((r : Int) / 64) = (a : Int) := by omega
  have ba : a < 1024 := by omega
  have id : ((a : Int) % 64) = (d : Int) := by omega
  have bd : d < 64 := by omega
  have ic : ((r : Int) % 64) = (c : Int) := by omega
  have bc : c < 64 := by omega
  have hcv := conv_block w [(224 + b).toUInt8, (128 + d).toUInt8, (128 + c).toUInt8] 3 #[.int .u8 (224 + (b : Int)), .int .u8 (128 + (d : Int)), .int .u8 (128 + (c : Int))] rfl (by
    simp only [Lib.byteCells, List.map_cons, List.map_nil]
    rw [u8n (224 + b) (by omega), u8n (128 + d) (by omega), u8n (128 + c) (by omega)]
    rfl)
  rw [he]
  obtain ⟨L, hL⟩ : ∃ L : ByteArray, L = ⟨[(224 + b).toUInt8, (128 + d).toUInt8, (128 + c).toUInt8].toArray⟩ := ⟨_, rfl⟩
  rw [← hL] at hcv ⊢
  have n1 : ¬ (r : Int) < 128 := by omega
  have n2048 : ¬ (r : Int) < 2048 := by omega
  have l2 : (r : Int) < 65536 := by omega
  clear he hL hb ha hd hc hv h h2
  go_enter Tryd.func44, Tryd.ntmps44
  go_wp2_with fail
  go_ret
  exact ⟨rfl, by go_grown⟩

set_option maxRecDepth 100000 in
set_option maxHeartbeats 2000000 in
theorem rbytes_four (r : Nat) (h : 65536 ≤ r) (h2 : r < 1114112) (hv : r < 55296 ∨ 57343 < r) (w : World) :
    Calls Tryd.prog 44 #[.int .i64 r] w fun e w' => e = .returned (.string ⟨(Lib.encodeRune r).toArray⟩) ∧ Below w.heap.size w w' := by
  obtain ⟨g, hg⟩ : ∃ g : Nat, r / 262144 = g := ⟨_, rfl⟩
  obtain ⟨b, hb⟩ : ∃ b : Nat, r / 4096 = b := ⟨_, rfl⟩
  obtain ⟨k, hk⟩ : ∃ k : Nat, b % 64 = k := ⟨_, rfl⟩
  obtain ⟨a, ha⟩ : ∃ a : Nat, r / 64 = a := ⟨_, rfl⟩
  obtain ⟨d, hd⟩ : ∃ d : Nat, a % 64 = d := ⟨_, rfl⟩
  obtain ⟨c, hc⟩ : ∃ c : Nat, r % 64 = c := ⟨_, rfl⟩
  have he : Lib.encodeRune (r : Int) = [(240 + g).toUInt8, (128 + k).toUInt8, (128 + d).toUInt8, (128 + c).toUInt8] := by
    unfold Lib.encodeRune
    rw [Lib.encodeRuneZ_four (by omega) (by omega)]
    simp only [List.map_cons, List.map_nil]
    rw [show (240 + (r : Int) / 262144 : Int).toNat = 240 + g by omega, show (128 + (r : Int) / 4096 % 64 : Int).toNat = 128 + k by omega, show (128 + (r : Int) / 64 % 64 : Int).toNat = 128 + d by omega, show (128 + (r : Int) % 64 : Int).toNat = 128 + c by omega]
  have ig : ((r : Int) / 262144) = (g : Int) := by omega
  have bg : g < 8 := by omega
  have ib : ((r : Int) / 4096) = (b : Int) := by omega
  have bb : b < 272 := by omega
  have ik : ((b : Int) % 64) = (k : Int) := by omega
  have bk : k < 64 := by omega
  have ia : ((r : Int) / 64) = (a : Int) := by omega
  have ba : a < 17408 := by omega
  have id : ((a : Int) % 64) = (d : Int) := by omega
  have bd : d < 64 := by omega
  have ic : ((r : Int) % 64) = (c : Int) := by omega
  have bc : c < 64 := by omega
  have hcv := conv_block w [(240 + g).toUInt8, (128 + k).toUInt8, (128 + d).toUInt8, (128 + c).toUInt8] 4 #[.int .u8 (240 + (g : Int)), .int .u8 (128 + (k : Int)), .int .u8 (128 + (d : Int)), .int .u8 (128 + (c : Int))] rfl (by
    simp only [Lib.byteCells, List.map_cons, List.map_nil]
    rw [u8n (240 + g) (by omega), u8n (128 + k) (by omega), u8n (128 + d) (by omega), u8n (128 + c) (by omega)]
    rfl)
  rw [he]
  obtain ⟨L, hL⟩ : ∃ L : ByteArray, L = ⟨[(240 + g).toUInt8, (128 + k).toUInt8, (128 + d).toUInt8, (128 + c).toUInt8].toArray⟩ := ⟨_, rfl⟩
  rw [← hL] at hcv ⊢
  have n1 : ¬ (r : Int) < 128 := by omega
  have n2048 : ¬ (r : Int) < 2048 := by omega
  have n65536 : ¬ (r : Int) < 65536 := by omega
  have l2 : (r : Int) < 1114112 := by omega
  clear he hL hg hb hk ha hd hc hv h h2
  go_enter Tryd.func44, Tryd.ntmps44
  go_wp2_with fail
  go_ret
  exact ⟨rfl, by go_grown⟩

set_option maxRecDepth 100000 in
set_option maxHeartbeats 2000000 in
theorem rbytes_one (r : Nat) (h : r < 128) (w : World) :
    Calls Tryd.prog 44 #[.int .i64 r] w fun e w' => e = .returned (.string ⟨(Lib.encodeRune r).toArray⟩) ∧ Below w.heap.size w w' := by
  have he : Lib.encodeRune (r : Int) = [r.toUInt8] := by
    unfold Lib.encodeRune
    rw [Lib.encodeRuneZ_one (by omega) (by omega)]
    simp
  have hcv := conv_block w [r.toUInt8] 1 #[.int .u8 r] rfl (by
    simp only [Lib.byteCells, List.map_cons, List.map_nil]
    rw [u8n r (by omega)])
  rw [he]
  obtain ⟨L, hL⟩ : ∃ L : ByteArray, L = ⟨[r.toUInt8].toArray⟩ := ⟨_, rfl⟩
  rw [← hL] at hcv ⊢
  clear he hL
  go_enter Tryd.func44, Tryd.ntmps44
  go_wp2_with fail
  go_ret
  exact ⟨rfl, by go_grown⟩

theorem rbytes_any (r : Nat) (h : r ≤ 1114111) (hv : r < 55296 ∨ 57343 < r) (w : World) :
    Calls Tryd.prog 44 #[.int .i64 r] w fun e w' => e = .returned (.string ⟨(Lib.encodeRune r).toArray⟩) ∧ Below w.heap.size w w' := by
  by_cases h1 : r < 128
  · exact rbytes_one r h1 w
  by_cases h2 : r < 2048
  · exact rbytes_two r (by omega) h2 hv w
  by_cases h3 : r < 65536
  · exact rbytes_three r (by omega) h3 hv w
  · exact rbytes_four r (by omega) (by omega) hv w
end Go.Proofs.YtoojfgajlakonaaDoor
