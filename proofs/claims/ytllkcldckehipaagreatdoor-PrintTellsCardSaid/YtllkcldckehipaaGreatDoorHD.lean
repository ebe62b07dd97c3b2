/-
  A page's put: whatever value.
-/
import Derived.Test.YtllkcldckehipaaGreatDoorHC
set_option linter.unusedVariables false
set_option linter.unusedSimpArgs false
namespace Go.Proofs.YtllkcldckehipaaGreatDoor
open Go.RowKit Go.Shelf

theorem size_alloc1 (w : World) (o : Obj) : (w.alloc o).heap.size = w.heap.size + 1 := by simp
set_option maxRecDepth 100000 in
set_option maxHeartbeats 8000000 in
theorem pobject_any {H b D gl : Nat} {C : ByteArray} {lb : Array Value} {I : Nat → List UInt8} {St : Nat → World → Prop} {d : Nat} {cs : List UInt8} {ov : Bool} (hctx : Pctx H b D C gl lb I St) (hd : d ≤ 60) (B : Bool) (n : Int) (s : ByteArray) (l : List V) (ks : List ByteArray) (v : Value) (w : World)
    (hv : isVa w (bq H b D) (.mk 5 B n s l ks) v) (hN : l.length ≤ 1000000) (hkl : ks.length = l.length) (hkv : ∀ k ∈ ks, validS k = true ∧ k.size ≤ 1000000) (hput : ∀ x ∈ l, PutC H b D C (.func (.func gl) #[] lb) I St (d + 1) x) (hE : Env w) (h : PG H b C (.func (.func gl) #[] lb) cs ov w) (hst : St d w)
    (hlen : cs.length + (ft C.data.toList I d (.mk 5 B n s l ks)).length ≤ 70368744177664) :
    Calls Tryz.prog 66 #[.pointer (some ⟨b, 0, none⟩), v] w (PutQ H b D C (.func (.func gl) #[] lb) St d w (ft C.data.toList I d (.mk 5 B n s l ks)) cs ov) := by
  obtain ⟨hb2, hD2, hDH, egl, hline, hSt⟩ := hctx
  have hft : ft C.data.toList I d (.mk 5 B n s l ks) = rowT (I d) (I (d + 1)) 123 125 l.length (fun i => keyT C.data.toList (ks.getD i ⟨#[]⟩) ((fts C.data.toList I (d + 1) l).getD i [])) := by
    rw [ft, if_neg (by decide), if_neg (by decide), if_neg (by decide), if_neg (by decide), if_neg (by decide)]
  rw [hft] at hlen ⊢
  unfold isVa at hv
  obtain ⟨lv, kv, rfl, hk1, hn1, hs1, ⟨a, cap, ⟨o, rfl, hc1, hc2, ho⟩, hB, hl⟩, ⟨a2, cap2, ⟨o2, rfl, hc3, hc4, ho2⟩, hB2, hks⟩⟩ := hv
  obtain ⟨hb, hbp, hbx⟩ := two_box w 40 26 (.pointer (some ⟨b, 0, none⟩)) #[.int .i8 5, .bool B, .int .i64 n, .string s, .slice o l.length cap, .slice o2 ks.length cap2]
  have hbH := h.lt
  have HROW : Hid (∀ W1, W1 = ((w.alloc (.cells #[.pointer (some ⟨b, 0, none⟩)] 40)).alloc (.cells #[.int .i8 5, .bool B, .int .i64 n, .string s, .slice o l.length cap, .slice o2 ks.length cap2] 26)) → Calls Tryz.prog 87 #[.pointer (some ⟨b, 0, none⟩), .int .u8 123, .int .i64 l.length, .func (.func 89) #[] #[.pointer (some ⟨w.heap.size, 0, none⟩), .pointer (some ⟨w.heap.size + 1, 0, none⟩)], .int .u8 125] W1 fun e w' =>
      e = .returned (.tuple #[]) ∧ ∃ cs' ov', PG H b C (.func (.func gl) #[] lb) cs' ov' w' ∧ St d w' ∧ FK H b D W1 w' ∧ Wr (rowT (I d) (I (d + 1)) 123 125 l.length (fun i => keyT C.data.toList (ks.getD i ⟨#[]⟩) ((fts C.data.toList I (d + 1) l).getD i []))) cs ov cs' ov') := Lib.hid (by
    rintro W1 rfl
    refine row_any I St d (fun i => keyT C.data.toList (ks.getD i ⟨#[]⟩) ((fts C.data.toList I (d + 1) l).getD i [])) l.length 123 125 cs ov _ egl (enters_of Tryz.func89 (by kernel_rfl) rfl) (hline d hd) hSt ?_ hN hlen (h.below hb) (hSt _ _ _ hst (FK.of_below hb))
    intro i hi cs1 ov1 W hl1 hp1 hs1 hk1
    simp only [fts_get C.data.toList I (d + 1) l i hi] at hl1 ⊢
    obtain rfl := ho (by omega)
    have hik : i < ks.length := by omega
    obtain rfl := ho2 (by omega)
    have hWE : Env W := env_fk hk1 hb2 hD2 (by omega) (hE.kb hb)
    have hkd : ks.getD i ⟨#[]⟩ = ks[i] := getD_lt _ _ _ hik
    have hkc : W.cell? (a2.add i) = some (.string (ks.getD i ⟨#[]⟩)) := by
      rw [hkd]
      have hbb := hB2 (by omega)
      exact ((FK.of_below hb).trans hk1).cellB _ _ (by rw [add_block]; exact hbb.2.1) (by rw [add_block]; exact hbb.2.2) (by rw [add_block]; exact hbb.1) (hks i hik).1
    have hkm := hkv _ (List.getElem_mem hik)
    rw [← hkd] at hkm
    exact pobj1_any l ks a a2 cap cap2 i hi hN hkl W (hk1.boxed hbp (by omega) (by omega) (by decide)) (hk1.six hbx (by omega) (by omega) (by decide)) (isVas_fk ((FK.of_below hb).trans hk1) hB hl) (hB (by omega)) hkc hkm.1 hkm.2 hb2 hD2 hDH hbH.2 hSt (hput _ (List.getElem_mem hi)) hWE hp1 hs1 hl1)
  have HFB := Lib.hid (FK.of_below (H := H) (b := b) (D := D) hb)
  have hllen : (l.length : Int) ≤ 1000000 := by omega
  clear hput hE h hst hlen hSt hl hbx hbp hB hB2 hks ho ho2 hft hline egl hb hk1 hn1 hs1 hkl hkv
  go_enter Tryz.func66, Tryz.ntmps66
  go_wp2_with fail
  refine (HROW.out _ rfl).mono ?_
  rintro e w2 ⟨rfl, cs2, ov2, h2, hs2, hk2, hw2⟩
  have HQ := Lib.hid (show PutQ H b D C (.func (.func gl) #[] lb) St d w (rowT (I d) (I (d + 1)) 123 125 l.length (fun i => keyT C.data.toList (ks.getD i ⟨#[]⟩) ((fts C.data.toList I (d + 1) l).getD i []))) cs ov (.returned (.tuple #[])) w2 from ⟨rfl, cs2, ov2, h2, hs2, HFB.out.trans hk2, hw2⟩)
  clear h2 hs2 hk2 hw2
  go_wp2_with fail
  go_end0
  exact HQ.out

def kindsA : Value := .agg #[.func (.func 61) #[] #[], .func (.func 62) #[] #[], .func (.func 63) #[] #[], .func (.func 64) #[] #[], .func (.func 65) #[] #[], .func (.func 66) #[] #[]]
set_option maxRecDepth 100000 in
set_option maxHeartbeats 2000000 in
theorem kinds_any (w : World) : Calls Tryz.prog 47 #[] w fun e w' => e = .returned kindsA ∧ Below w.heap.size w w' := by
  go_enter Tryz.func47, Tryz.ntmps47
  go_wp2_with fail
  refine bodyPost_ret (v := kindsA) (by simp [results, Tryz.results47, go_sem, kindsA]) rfl ⟨rfl, by go_grown⟩

theorem putq_trans {H b D d : Nat} {C : ByteArray} {L : Value} {St : Nat → World → Prop} {w w1 : World} {t cs : List UInt8} {ov : Bool} {e : Ending} {w' : World} (hb : Below w.heap.size w w1) (h : PutQ H b D C L St d w1 t cs ov e w') : PutQ H b D C L St d w t cs ov e w' := by
  obtain ⟨h1, cs', ov', h2, h3, h4, h5⟩ := h
  exact ⟨h1, cs', ov', h2, h3, (FK.of_below hb).trans h4, h5⟩


set_option maxRecDepth 100000 in
set_option maxHeartbeats 4000000 in
theorem put_null {Q : Ending → World → Prop} {p c1 c2 c3 : Value} {o o2 : Option Addr} {m c m2 c2' : Nat} (w : World)
    (hQ : ∀ W, Below w.heap.size w W → Calls Tryz.prog 61 #[p, .agg #[.int .i8 0, c1, c2, c3, .slice o m c, .slice o2 m2 c2']] W fun e w' => e = .returned (.tuple #[]) ∧ Q e w') :
    Calls Tryz.prog 32 #[p, .agg #[.int .i8 0, c1, c2, c3, .slice o m c, .slice o2 m2 c2']] w Q := by
  have hb : Below w.heap.size w (w.alloc (.cells #[.int .i8 0, c1, c2, c3, .slice o m c, .slice o2 m2 c2'] 26)) := kbA
  have hn := World.alloc_heap_new w (.cells #[.int .i8 0, c1, c2, c3, .slice o m c, .slice o2 m2 c2'] 26)
  have HQ := Lib.hid hQ
  have ef : ∀ args w, (callFunc 61 args).run Tryz.prog w = .ok (.enter 61 args) w := enters_of Tryz.func61 (by kernel_rfl) rfl
  have hix : ∀ W, (Instr.index 63 (.agg #[.func (.func 61) #[] #[], .func (.func 62) #[] #[], .func (.func 63) #[] #[], .func (.func 64) #[] #[], .func (.func 65) #[] #[], .func (.func 66) #[] #[]]) (.int .i8 0)).run Tryz.prog W = .ok (.func (.func 61) #[] #[]) W := fun W => by kernel_rfl
  clear hQ
  go_enter Tryz.func32, Tryz.ntmps32
  go_wp2_with fail
  generalize w.alloc (.cells #[.int .i8 0, c1, c2, c3, .slice o m c, .slice o2 m2 c2'] 26) = w1 at *
  obtain ⟨r0, r1, r2, r3, r4, r5⟩ := six_cells hn
  have HN := Lib.hid hn
  have HB := Lib.hid hb
  clear hn hb
  go_region_with (first
    | (go_at_call 47; refine (kinds_any _).mono ?_; rintro e w3 ⟨rfl, hb3⟩; have hb3 := below_drew_of hb3; obtain ⟨r0, r1, r2, r3, r4, r5⟩ := six_cells ((hb3.block _ (Array.getElem?_eq_some_iff.1 HN.out).1).trans HN.out); unfold kindsA)
    | (go_at_fn 61; refine (HQ.out _ (HB.out.trans (hb3.mono HB.out.size))).mono ?_; rintro e w4 ⟨rfl, hq4⟩))
  all_goals
    have HQ4 := Lib.hid hq4
    clear hq4
    go_wp2_with fail
    go_end0
    exact HQ4.out

set_option maxRecDepth 100000 in
set_option maxHeartbeats 4000000 in
theorem put_truth {Q : Ending → World → Prop} {p c1 c2 c3 : Value} {o o2 : Option Addr} {m c m2 c2' : Nat} (w : World)
    (hQ : ∀ W, Below w.heap.size w W → Calls Tryz.prog 62 #[p, .agg #[.int .i8 1, c1, c2, c3, .slice o m c, .slice o2 m2 c2']] W fun e w' => e = .returned (.tuple #[]) ∧ Q e w') :
    Calls Tryz.prog 32 #[p, .agg #[.int .i8 1, c1, c2, c3, .slice o m c, .slice o2 m2 c2']] w Q := by
  have hb : Below w.heap.size w (w.alloc (.cells #[.int .i8 1, c1, c2, c3, .slice o m c, .slice o2 m2 c2'] 26)) := kbA
  have hn := World.alloc_heap_new w (.cells #[.int .i8 1, c1, c2, c3, .slice o m c, .slice o2 m2 c2'] 26)
  have HQ := Lib.hid hQ
  have ef : ∀ args w, (callFunc 62 args).run Tryz.prog w = .ok (.enter 62 args) w := enters_of Tryz.func62 (by kernel_rfl) rfl
  have hix : ∀ W, (Instr.index 63 (.agg #[.func (.func 61) #[] #[], .func (.func 62) #[] #[], .func (.func 63) #[] #[], .func (.func 64) #[] #[], .func (.func 65) #[] #[], .func (.func 66) #[] #[]]) (.int .i8 1)).run Tryz.prog W = .ok (.func (.func 62) #[] #[]) W := fun W => by kernel_rfl
  clear hQ
  go_enter Tryz.func32, Tryz.ntmps32
  go_wp2_with fail
  generalize w.alloc (.cells #[.int .i8 1, c1, c2, c3, .slice o m c, .slice o2 m2 c2'] 26) = w1 at *
  obtain ⟨r0, r1, r2, r3, r4, r5⟩ := six_cells hn
  have HN := Lib.hid hn
  have HB := Lib.hid hb
  clear hn hb
  go_region_with (first
    | (go_at_call 47; refine (kinds_any _).mono ?_; rintro e w3 ⟨rfl, hb3⟩; have hb3 := below_drew_of hb3; obtain ⟨r0, r1, r2, r3, r4, r5⟩ := six_cells ((hb3.block _ (Array.getElem?_eq_some_iff.1 HN.out).1).trans HN.out); unfold kindsA)
    | (go_at_fn 62; refine (HQ.out _ (HB.out.trans (hb3.mono HB.out.size))).mono ?_; rintro e w4 ⟨rfl, hq4⟩))
  all_goals
    have HQ4 := Lib.hid hq4
    clear hq4
    go_wp2_with fail
    go_end0
    exact HQ4.out

set_option maxRecDepth 100000 in
set_option maxHeartbeats 4000000 in
theorem put_number {Q : Ending → World → Prop} {p c1 c2 c3 : Value} {o o2 : Option Addr} {m c m2 c2' : Nat} (w : World)
    (hQ : ∀ W, Below w.heap.size w W → Calls Tryz.prog 63 #[p, .agg #[.int .i8 2, c1, c2, c3, .slice o m c, .slice o2 m2 c2']] W fun e w' => e = .returned (.tuple #[]) ∧ Q e w') :
    Calls Tryz.prog 32 #[p, .agg #[.int .i8 2, c1, c2, c3, .slice o m c, .slice o2 m2 c2']] w Q := by
  have hb : Below w.heap.size w (w.alloc (.cells #[.int .i8 2, c1, c2, c3, .slice o m c, .slice o2 m2 c2'] 26)) := kbA
  have hn := World.alloc_heap_new w (.cells #[.int .i8 2, c1, c2, c3, .slice o m c, .slice o2 m2 c2'] 26)
  have HQ := Lib.hid hQ
  have ef : ∀ args w, (callFunc 63 args).run Tryz.prog w = .ok (.enter 63 args) w := enters_of Tryz.func63 (by kernel_rfl) rfl
  have hix : ∀ W, (Instr.index 63 (.agg #[.func (.func 61) #[] #[], .func (.func 62) #[] #[], .func (.func 63) #[] #[], .func (.func 64) #[] #[], .func (.func 65) #[] #[], .func (.func 66) #[] #[]]) (.int .i8 2)).run Tryz.prog W = .ok (.func (.func 63) #[] #[]) W := fun W => by kernel_rfl
  clear hQ
  go_enter Tryz.func32, Tryz.ntmps32
  go_wp2_with fail
  generalize w.alloc (.cells #[.int .i8 2, c1, c2, c3, .slice o m c, .slice o2 m2 c2'] 26) = w1 at *
  obtain ⟨r0, r1, r2, r3, r4, r5⟩ := six_cells hn
  have HN := Lib.hid hn
  have HB := Lib.hid hb
  clear hn hb
  go_region_with (first
    | (go_at_call 47; refine (kinds_any _).mono ?_; rintro e w3 ⟨rfl, hb3⟩; have hb3 := below_drew_of hb3; obtain ⟨r0, r1, r2, r3, r4, r5⟩ := six_cells ((hb3.block _ (Array.getElem?_eq_some_iff.1 HN.out).1).trans HN.out); unfold kindsA)
    | (go_at_fn 63; refine (HQ.out _ (HB.out.trans (hb3.mono HB.out.size))).mono ?_; rintro e w4 ⟨rfl, hq4⟩))
  all_goals
    have HQ4 := Lib.hid hq4
    clear hq4
    go_wp2_with fail
    go_end0
    exact HQ4.out

set_option maxRecDepth 100000 in
set_option maxHeartbeats 4000000 in
theorem put_text {Q : Ending → World → Prop} {p c1 c2 c3 : Value} {o o2 : Option Addr} {m c m2 c2' : Nat} (w : World)
    (hQ : ∀ W, Below w.heap.size w W → Calls Tryz.prog 64 #[p, .agg #[.int .i8 3, c1, c2, c3, .slice o m c, .slice o2 m2 c2']] W fun e w' => e = .returned (.tuple #[]) ∧ Q e w') :
    Calls Tryz.prog 32 #[p, .agg #[.int .i8 3, c1, c2, c3, .slice o m c, .slice o2 m2 c2']] w Q := by
  have hb : Below w.heap.size w (w.alloc (.cells #[.int .i8 3, c1, c2, c3, .slice o m c, .slice o2 m2 c2'] 26)) := kbA
  have hn := World.alloc_heap_new w (.cells #[.int .i8 3, c1, c2, c3, .slice o m c, .slice o2 m2 c2'] 26)
  have HQ := Lib.hid hQ
  have ef : ∀ args w, (callFunc 64 args).run Tryz.prog w = .ok (.enter 64 args) w := enters_of Tryz.func64 (by kernel_rfl) rfl
  have hix : ∀ W, (Instr.index 63 (.agg #[.func (.func 61) #[] #[], .func (.func 62) #[] #[], .func (.func 63) #[] #[], .func (.func 64) #[] #[], .func (.func 65) #[] #[], .func (.func 66) #[] #[]]) (.int .i8 3)).run Tryz.prog W = .ok (.func (.func 64) #[] #[]) W := fun W => by kernel_rfl
  clear hQ
  go_enter Tryz.func32, Tryz.ntmps32
  go_wp2_with fail
  generalize w.alloc (.cells #[.int .i8 3, c1, c2, c3, .slice o m c, .slice o2 m2 c2'] 26) = w1 at *
  obtain ⟨r0, r1, r2, r3, r4, r5⟩ := six_cells hn
  have HN := Lib.hid hn
  have HB := Lib.hid hb
  clear hn hb
  go_region_with (first
    | (go_at_call 47; refine (kinds_any _).mono ?_; rintro e w3 ⟨rfl, hb3⟩; have hb3 := below_drew_of hb3; obtain ⟨r0, r1, r2, r3, r4, r5⟩ := six_cells ((hb3.block _ (Array.getElem?_eq_some_iff.1 HN.out).1).trans HN.out); unfold kindsA)
    | (go_at_fn 64; refine (HQ.out _ (HB.out.trans (hb3.mono HB.out.size))).mono ?_; rintro e w4 ⟨rfl, hq4⟩))
  all_goals
    have HQ4 := Lib.hid hq4
    clear hq4
    go_wp2_with fail
    go_end0
    exact HQ4.out

set_option maxRecDepth 100000 in
set_option maxHeartbeats 4000000 in
theorem put_list {Q : Ending → World → Prop} {p c1 c2 c3 : Value} {o o2 : Option Addr} {m c m2 c2' : Nat} (w : World)
    (hQ : ∀ W, Below w.heap.size w W → Calls Tryz.prog 65 #[p, .agg #[.int .i8 4, c1, c2, c3, .slice o m c, .slice o2 m2 c2']] W fun e w' => e = .returned (.tuple #[]) ∧ Q e w') :
    Calls Tryz.prog 32 #[p, .agg #[.int .i8 4, c1, c2, c3, .slice o m c, .slice o2 m2 c2']] w Q := by
  have hb : Below w.heap.size w (w.alloc (.cells #[.int .i8 4, c1, c2, c3, .slice o m c, .slice o2 m2 c2'] 26)) := kbA
  have hn := World.alloc_heap_new w (.cells #[.int .i8 4, c1, c2, c3, .slice o m c, .slice o2 m2 c2'] 26)
  have HQ := Lib.hid hQ
  have ef : ∀ args w, (callFunc 65 args).run Tryz.prog w = .ok (.enter 65 args) w := enters_of Tryz.func65 (by kernel_rfl) rfl
  have hix : ∀ W, (Instr.index 63 (.agg #[.func (.func 61) #[] #[], .func (.func 62) #[] #[], .func (.func 63) #[] #[], .func (.func 64) #[] #[], .func (.func 65) #[] #[], .func (.func 66) #[] #[]]) (.int .i8 4)).run Tryz.prog W = .ok (.func (.func 65) #[] #[]) W := fun W => by kernel_rfl
  clear hQ
  go_enter Tryz.func32, Tryz.ntmps32
  go_wp2_with fail
  generalize w.alloc (.cells #[.int .i8 4, c1, c2, c3, .slice o m c, .slice o2 m2 c2'] 26) = w1 at *
  obtain ⟨r0, r1, r2, r3, r4, r5⟩ := six_cells hn
  have HN := Lib.hid hn
  have HB := Lib.hid hb
  clear hn hb
  go_region_with (first
    | (go_at_call 47; refine (kinds_any _).mono ?_; rintro e w3 ⟨rfl, hb3⟩; have hb3 := below_drew_of hb3; obtain ⟨r0, r1, r2, r3, r4, r5⟩ := six_cells ((hb3.block _ (Array.getElem?_eq_some_iff.1 HN.out).1).trans HN.out); unfold kindsA)
    | (go_at_fn 65; refine (HQ.out _ (HB.out.trans (hb3.mono HB.out.size))).mono ?_; rintro e w4 ⟨rfl, hq4⟩))
  all_goals
    have HQ4 := Lib.hid hq4
    clear hq4
    go_wp2_with fail
    go_end0
    exact HQ4.out

set_option maxRecDepth 100000 in
set_option maxHeartbeats 4000000 in
theorem put_object {Q : Ending → World → Prop} {p c1 c2 c3 : Value} {o o2 : Option Addr} {m c m2 c2' : Nat} (w : World)
    (hQ : ∀ W, Below w.heap.size w W → Calls Tryz.prog 66 #[p, .agg #[.int .i8 5, c1, c2, c3, .slice o m c, .slice o2 m2 c2']] W fun e w' => e = .returned (.tuple #[]) ∧ Q e w') :
    Calls Tryz.prog 32 #[p, .agg #[.int .i8 5, c1, c2, c3, .slice o m c, .slice o2 m2 c2']] w Q := by
  have hb : Below w.heap.size w (w.alloc (.cells #[.int .i8 5, c1, c2, c3, .slice o m c, .slice o2 m2 c2'] 26)) := kbA
  have hn := World.alloc_heap_new w (.cells #[.int .i8 5, c1, c2, c3, .slice o m c, .slice o2 m2 c2'] 26)
  have HQ := Lib.hid hQ
  have ef : ∀ args w, (callFunc 66 args).run Tryz.prog w = .ok (.enter 66 args) w := enters_of Tryz.func66 (by kernel_rfl) rfl
  have hix : ∀ W, (Instr.index 63 (.agg #[.func (.func 61) #[] #[], .func (.func 62) #[] #[], .func (.func 63) #[] #[], .func (.func 64) #[] #[], .func (.func 65) #[] #[], .func (.func 66) #[] #[]]) (.int .i8 5)).run Tryz.prog W = .ok (.func (.func 66) #[] #[]) W := fun W => by kernel_rfl
  clear hQ
  go_enter Tryz.func32, Tryz.ntmps32
  go_wp2_with fail
  generalize w.alloc (.cells #[.int .i8 5, c1, c2, c3, .slice o m c, .slice o2 m2 c2'] 26) = w1 at *
  obtain ⟨r0, r1, r2, r3, r4, r5⟩ := six_cells hn
  have HN := Lib.hid hn
  have HB := Lib.hid hb
  clear hn hb
  go_region_with (first
    | (go_at_call 47; refine (kinds_any _).mono ?_; rintro e w3 ⟨rfl, hb3⟩; have hb3 := below_drew_of hb3; obtain ⟨r0, r1, r2, r3, r4, r5⟩ := six_cells ((hb3.block _ (Array.getElem?_eq_some_iff.1 HN.out).1).trans HN.out); unfold kindsA)
    | (go_at_fn 66; refine (HQ.out _ (HB.out.trans (hb3.mono HB.out.size))).mono ?_; rintro e w4 ⟨rfl, hq4⟩))
  all_goals
    have HQ4 := Lib.hid hq4
    clear hq4
    go_wp2_with fail
    go_end0
    exact HQ4.out

theorem depth_part {x : V} {l : List V} : x ∈ l → depthV x ≤ depthVs l := by
  intro h
  induction l with
  | nil => cases h
  | cons y t ih =>
    rw [depthVs]
    rcases List.mem_cons.1 h with rfl | h
    · omega
    · have := ih h; omega
theorem putq_and {H b D d : Nat} {C : ByteArray} {L : Value} {St : Nat → World → Prop} {w w1 : World} {t cs : List UInt8} {ov : Bool} (hb : Below w.heap.size w w1) {e : Ending} {w' : World} (h : PutQ H b D C L St d w1 t cs ov e w') : e = .returned (.tuple #[]) ∧ PutQ H b D C L St d w t cs ov e w' := ⟨h.1, putq_trans hb h⟩
/-- The contract of put. -/
theorem put_any {H b D gl : Nat} {C : ByteArray} {lb : Array Value} {I : Nat → List UInt8} {St : Nat → World → Prop} (hctx : Pctx H b D C gl lb I St) : ∀ (N : Nat) (x : V) (d : Nat), depthV x ≤ N → d + N ≤ 60 → okP x → PutC H b D C (.func (.func gl) #[] lb) I St d x
  | 0, x, d, hN, _, _ => by obtain ⟨_, _, _, _, _, _⟩ := x; unfold depthV at hN; omega
  | N + 1, x, d, hN, hd, hok => by
    intro v cs ov w hv hE h hst hlen
    have hq := okP_self hok
    have hpart : ∀ y ∈ x.list, PutC H b D C (.func (.func gl) #[] lb) I St (d + 1) y := fun y hy => put_any hctx N y (d + 1) (by
      obtain ⟨k, B, n, s, l, ks⟩ := x
      have := depth_part (l := l) hy
      unfold depthV at hN
      omega) (by omega) (okP_part hok hy)
    obtain ⟨k, B, n, s, l, ks⟩ := x
    obtain ⟨⟨hk0, hk5⟩, q1, q2, q3, q4, q5⟩ := hq
    simp only [V.kind, V.text, V.list, V.keys] at hk0 hk5 q1 q2 q3 q4 q5
    have hv0 := hv
    unfold isVa at hv0
    obtain ⟨lv, kv, rfl, -, -, -, ⟨a, cap, ⟨o, rfl, -⟩, -⟩, ⟨a2, cap2, ⟨o2, rfl, -⟩, -⟩⟩ := hv0
    have hSt := hctx.2.2.2.2.2
    have hb2 := hctx.1
    rcases (show k = 0 ∨ k = 1 ∨ k = 2 ∨ k = 3 ∨ k = 4 ∨ k = 5 by omega) with rfl | rfl | rfl | rfl | rfl | rfl
    · refine put_null w fun W hW => ?_
      have e : ft C.data.toList I d (.mk 0 B n s l ks) = [110, 117, 108, 108] := by rw [ft, if_pos rfl]
      rw [e] at hlen ⊢
      exact (pnull_any St d hSt W (h.below hW) (hSt _ _ _ hst (FK.of_below hW)) hlen).mono fun e w' hq => putq_and hW hq
    · refine put_truth w fun W hW => ?_
      have e : ft C.data.toList I d (.mk 1 B n s l ks) = boolL B := by rw [ft, if_neg (by decide), if_pos rfl]
      rw [e] at hlen ⊢
      exact (ptruth_any B St d hSt W (h.below hW) (hSt _ _ _ hst (FK.of_below hW)) hlen).mono fun e w' hq => putq_and hW hq
    · refine put_number w fun W hW => ?_
      have e : ft C.data.toList I d (.mk 2 B n s l ks) = Nu.txt n := by rw [ft, if_neg (by decide), if_neg (by decide), if_pos rfl]
      rw [e] at hlen ⊢
      exact (pnumber_any n St d hSt W (h.below hW) (hSt _ _ _ hst (FK.of_below hW)) hlen).mono fun e w' hq => putq_and hW hq
    · refine put_text w fun W hW => ?_
      have e : ft C.data.toList I d (.mk 3 B n s l ks) = Ru.quoteL s.data.toList := by rw [ft, if_neg (by decide), if_neg (by decide), if_neg (by decide), if_pos rfl]
      rw [e] at hlen ⊢
      exact (ptextv_any s St d hSt W (hE.kb hW) q1 q2 hb2 (h.below hW) (hSt _ _ _ hst (FK.of_below hW)) hlen).mono fun e w' hq => putq_and hW hq
    · refine put_list w fun W hW => ?_
      exact (plist_any hctx (by omega) B n s l ks _ W (isVa_fk (FK.of_below hW) hv) q3 hpart (hE.kb hW) (h.below hW) (hSt _ _ _ hst (FK.of_below hW)) hlen).mono fun e w' hq => putq_and hW hq
    · refine put_object w fun W hW => ?_
      exact (pobject_any hctx (by omega) B n s l ks _ W (isVa_fk (FK.of_below hW) hv) q3 (q4 rfl) q5 hpart (hE.kb hW) (h.below hW) (hSt _ _ _ hst (FK.of_below hW)) hlen).mono fun e w' hq => putq_and hW hq
end Go.Proofs.YtllkcldckehipaaGreatDoor
