/-
  The reference of package print: texts, words; the program's Word. · The reference's digits. · The reference's digits, of any number that may be.
-/
import Derived.Test.YtllkcldckehipaaGreatDoorIA
import Derived.Test.YtllkcldckehipaaGreatDoorHC
import Derived.Test.YtllkcldckehipaaGreatDoorHE
import Derived.Test.YtllkcldckehipaaGreatDoorGA
import Derived.Test.YtllkcldckehipaaGreatDoorGI
import Derived.Test.YtllkcldckehipaaGreatDoorHK
set_option linter.unusedVariables false
set_option linter.unusedSimpArgs false
namespace Go.Proofs.YtllkcldckehipaaGreatDoor
open Go.RowKit Go.Shelf

theorem ba_app (a b : List UInt8) : ((⟨a.toArray⟩ : ByteArray) ++ (⟨b.toArray⟩ : ByteArray)) = ⟨(a ++ b).toArray⟩ := by
  apply ByteArray.ext
  rw [ByteArray.data_append]
  simp
def tx (l : List UInt8) : ByteArray := ⟨l.toArray⟩
theorem tx_app (a b : List UInt8) : tx a ++ tx b = tx (a ++ b) := ba_app a b
set_option maxRecDepth 100000 in
set_option maxHeartbeats 1000000 in
theorem rquoted_any (s : ByteArray) (w : World) (hv : validS s = true) (hs : s.size ≤ 20000) :
    Calls Tryz.prog 40 #[.string s] w fun e w' => e = .returned (.string (tx (Ru.quoteL s.data.toList))) ∧ Below w.heap.size w w' := by
  have HQ := Ru.rquote_any s w hs
  unfold Ru.quoteR at HQ
  rw [if_pos (show Lib.validD s.data.toList = true from hv)] at HQ
  have HQ := Lib.hid HQ
  unfold tx
  obtain ⟨S, hS⟩ : ∃ S : ByteArray, S = ⟨(Ru.quoteL s.data.toList).toArray⟩ := ⟨_, rfl⟩
  rw [← hS] at HQ ⊢
  clear hS hv hs
  go_enter Tryz.func40, Tryz.ntmps40
  go_wp2_with (go_at_call 52; refine HQ.out.mono ?_; rintro e w2 ⟨rfl, hb⟩)
  go_ret
  exact ⟨rfl, hb⟩
set_option maxRecDepth 100000 in
set_option maxHeartbeats 1000000 in
theorem rlimited_any (s : ByteArray) (w : World) :
    Calls Tryz.prog 22 #[.string s] w fun e w' => e = .returned (.tuple #[.string (if 32768 < s.size then ⟨#[]⟩ else s), .int .i64 (if 32768 < s.size then 3 else 0)]) ∧ w' = w := by
  by_cases h : 32768 < s.size
  · rw [if_pos h, if_pos h]
    have h1 : decide ((32768 : Int) < (s.size : Int)) = true := decide_eq_true (by omega)
    clear h
    go_enter Tryz.func22, Tryz.ntmps22
    go_wp2_with fail
    go_ret2
    exact ⟨rfl, rfl⟩
  · rw [if_neg h, if_neg h]
    have h1 : decide ((32768 : Int) < (s.size : Int)) = false := decide_eq_false (by omega)
    clear h
    go_enter Tryz.func22, Tryz.ntmps22
    go_wp2_with fail
    go_ret2
    exact ⟨rfl, rfl⟩
def wordB (s : ByteArray) : Bool := decide (s.size ≤ 64) && validS s
set_option maxRecDepth 100000 in
set_option maxHeartbeats 1000000 in
theorem pword_any (s : ByteArray) (w : World) (hE : Env w) (hs : s.size ≤ 20000) :
    Calls Tryz.prog 14 #[.string s] w fun e w' => e = .returned (.bool (wordB s)) ∧ Below w.heap.size w w' := by
  have HV := Lib.hid (valid_any s (by unfold maxLen; omega) w hE)
  obtain ⟨r, hr⟩ : ∃ r, wordB s = r := ⟨_, rfl⟩
  rw [hr]
  unfold wordB at hr
  by_cases h : s.size ≤ 64
  · have h1 : decide ((s.size : Int) ≤ 64) = true := decide_eq_true (by omega)
    rw [decide_eq_true h, Bool.true_and] at hr
    rw [hr] at HV
    clear h hr hE hs
    go_enter Tryz.func14, Tryz.ntmps14
    go_wp2_with (go_at_call 27; refine HV.out.mono ?_; rintro e w2 ⟨rfl, hb⟩)
    go_ret
    exact ⟨rfl, hb⟩
  · have h1 : decide ((s.size : Int) ≤ 64) = false := decide_eq_false (by omega)
    rw [decide_eq_false h, Bool.false_and] at hr
    subst hr
    clear h hE hs HV
    go_enter Tryz.func14, Tryz.ntmps14
    go_wp2_with fail
    go_ret
    exact ⟨rfl, Below.refl _ _⟩
set_option maxRecDepth 100000 in
set_option maxHeartbeats 1000000 in
theorem rword_any (s : ByteArray) (w : World) (hs : s.size ≤ 20000) :
    Calls Tryz.prog 15 #[.string s] w fun e w' => e = .returned (.bool (wordB s)) ∧ Below w.heap.size w w' := by
  have HV := Lib.hid (Ru.rvalid_any s w (by omega))
  obtain ⟨r, hr⟩ : ∃ r, wordB s = r := ⟨_, rfl⟩
  rw [hr]
  unfold wordB at hr
  have hvv : validS s = Lib.validD s.data.toList := rfl
  by_cases h : s.size ≤ 64
  · have h1 : decide ((s.size : Int) ≤ 64) = true := decide_eq_true (by omega)
    rw [decide_eq_true h, Bool.true_and, hvv] at hr
    rw [hr] at HV
    clear h hr hs hvv
    go_enter Tryz.func15, Tryz.ntmps15
    go_wp2_with (go_at_call 28; refine HV.out.mono ?_; rintro e w2 ⟨rfl, hb⟩)
    go_ret
    exact ⟨rfl, by first | exact hb | (subst hb; exact Below.refl _ _)⟩
  · have h1 : decide ((s.size : Int) ≤ 64) = false := decide_eq_false (by omega)
    rw [decide_eq_false h, Bool.false_and] at hr
    subst hr
    clear h hs HV hvv
    go_enter Tryz.func15, Tryz.ntmps15
    go_wp2_with fail
    go_ret
    exact ⟨rfl, Below.refl _ _⟩
/-- A leaf's text. -/
def leafT (k : Int) (b : Bool) (n : Int) (s : ByteArray) : List UInt8 := if k = 1 then boolL b else if k = 2 then Nu.txt n else if k = 3 then Ru.quoteL s.data.toList else [110, 117, 108, 108]
set_option maxRecDepth 100000 in
set_option maxHeartbeats 1000000 in
theorem rleaf_any (k : Int) (b : Bool) (n : Int) (s : ByteArray) (o : Option Addr) (m c : Nat) (o2 : Option Addr) (m2 c2 : Nat) (w : World)
    (HD : k = 2 → ∀ W, Calls Tryz.prog 51 #[.int .i64 n] W fun e w' => e = .returned (.string (tx (Nu.txt n))) ∧ Below W.heap.size W w')
    (hv : k = 3 → validS s = true ∧ s.size ≤ 20000) :
    Calls Tryz.prog 39 #[.agg #[.int .i8 k, .bool b, .int .i64 n, .string s, .slice o m c, .slice o2 m2 c2]] w fun e w' => e = .returned (.string (tx (leafT k b n s))) ∧ Below w.heap.size w w' := by
  have HB := Lib.hid (kbA (w := w) (o := .cells #[.int .i8 k, .bool b, .int .i64 n, .string s, .slice o m c, .slice o2 m2 c2] 26))
  by_cases h1 : k = 1
  · subst h1
    unfold leafT
    rw [if_pos rfl]
    clear HD hv
    cases b with
    | true =>
      go_enter Tryz.func39, Tryz.ntmps39
      go_wp2_with fail
      go_ret
      exact ⟨rfl, HB.out⟩
    | false =>
      go_enter Tryz.func39, Tryz.ntmps39
      go_wp2_with fail
      go_ret
      exact ⟨rfl, HB.out⟩
  · have z1 : (k == 1) = false := beqI h1
    by_cases h2 : k = 2
    · have HN := Lib.hid (HD h2)
      clear HD
      subst h2
      unfold leafT
      rw [if_neg (by decide), if_pos rfl]
      obtain ⟨S, hS⟩ : ∃ S : ByteArray, S = tx (Nu.txt n) := ⟨_, rfl⟩
      rw [← hS] at HN ⊢
      clear hv hS h1
      go_enter Tryz.func39, Tryz.ntmps39
      go_wp2_with (go_at_call 51; refine (HN.out _).mono ?_; rintro e w2 ⟨rfl, hb⟩)
      go_ret
      exact ⟨rfl, HB.out.trans (hb.mono HB.out.size)⟩
    · have z2 : (k == 2) = false := beqI h2
      by_cases h3 : k = 3
      · obtain ⟨v1, v2⟩ := hv h3
        subst h3
        have HQ := Lib.hid (fun W => rquoted_any s W v1 v2)
        unfold leafT
        rw [if_neg (by decide), if_neg (by decide), if_pos rfl]
        obtain ⟨S, hS⟩ : ∃ S : ByteArray, S = tx (Ru.quoteL s.data.toList) := ⟨_, rfl⟩
        rw [← hS] at HQ ⊢
        clear HD hv v1 v2 hS h1 h2
        go_enter Tryz.func39, Tryz.ntmps39
        go_wp2_with (go_at_call 40; refine (HQ.out _).mono ?_; rintro e w2 ⟨rfl, hb⟩)
        go_ret
        exact ⟨rfl, HB.out.trans (hb.mono HB.out.size)⟩
      · have z3 : (k == 3) = false := beqI h3
        unfold leafT
        rw [if_neg h1, if_neg h2, if_neg h3]
        clear HD hv h1 h2 h3
        go_enter Tryz.func39, Tryz.ntmps39
        go_wp2_with fail
        go_ret
        exact ⟨rfl, HB.out⟩
end Go.Proofs.YtllkcldckehipaaGreatDoor

namespace Go.Proofs.YtllkcldckehipaaGreatDoor
open Go.RowKit Go.Shelf

theorem ofD5 {n : Nat} (h : n < 10) : ((UInt8.ofNat (48 + n)).toNat : Int) = 48 + (n : Int) := by
  have : (UInt8.ofNat (48 + n)).toNat = 48 + n := by rw [UInt8.toNat_ofNat']; omega
  rw [this]; omega
theorem conv_at (W : World) (B d : Nat) (h : d < 10) (hc : W.cell? ⟨B, 0, none⟩ = some (.int .u8 (48 + (d : Int)))) :
    (convert 37 9 (.slice (some ⟨B, 0, none⟩) 1 1)).run Tryz.prog W = .ok (.string (tx [UInt8.ofNat (48 + d)])) W := by
  refine run_convert_bytes_back (P := Tryz.prog) _ 37 9 5 ⟨B, 0, none⟩ 1 [UInt8.ofNat (48 + d)] Tryz.underlying37 Tryz.underlying5 Tryz.underlying9 (fun j hj => ?_)
  match j, hj with
  | 0, _ =>
    simp only [List.getElem_cons_zero]
    rw [ofD5 h]
    simpa [Addr.add] using hc
set_option maxRecDepth 100000 in
set_option maxHeartbeats 1000000 in
theorem rdig5_one (n : Nat) (h : n < 10) (w : World) :
    Calls Tryz.prog 51 #[.int .i64 n] w fun e w' => e = .returned (.string (tx (Nu.digs n))) ∧ Below w.heap.size w w' := by
  have HD := Lib.hid (Nu.digs_lt h)
  have hcv := conv_at (w.alloc (.cells #[.int .u8 (48 + (n : Int))] 5)) w.heap.size n h (by simp)
  obtain ⟨S, hS⟩ : ∃ S : ByteArray, S = tx [UInt8.ofNat (48 + n)] := ⟨_, rfl⟩
  rw [← hS] at hcv
  have HS := Lib.hid hS
  clear hS
  go_enter Tryz.func51, Tryz.ntmps51
  go_wp2_with fail
  go_ret
  exact ⟨by rw [HD.out, HS.out]; rfl, (Below.refl _ _).alloc (Nat.le_refl _) _⟩
/-- What is done: so many of the one chain, of the other. -/
def lstD (i j : Nat) : Array Bool := #[decide (1 ≤ i), decide (2 ≤ i), decide (3 ≤ i), decide (1 ≤ j), decide (2 ≤ j), decide (3 ≤ j), decide (4 ≤ j), decide (5 ≤ j), decide (6 ≤ j), decide (7 ≤ j), decide (8 ≤ j)]
def actD (n q d : Nat) (Q D : ByteArray) (B i j : Nat) : Act := { tmps := #[.int .i64 (n : Int), undef, if 8 ≤ j then .string (Q ++ D) else .string ⟨#[]⟩, .int .i64 (n : Int), .bool (decide ((n : Int) < 0)), undef, undef, undef, undef, .int .i64 (n : Int), .bool false, undef, undef, undef, undef, undef, if 1 ≤ i then .int .i64 (n : Int) else undef, if 2 ≤ i then .int .i64 (q : Int) else undef, if 3 ≤ i then .string Q else undef, if 1 ≤ j then .int .i64 (n : Int) else undef, if 2 ≤ j then .int .i64 (d : Int) else undef, if 3 ≤ j then .int .i64 (48 + (d : Int)) else undef, if 4 ≤ j then .int .u8 (48 + (d : Int)) else undef, if 5 ≤ j then .slice (some ⟨B, 0, none⟩) 1 1 else undef, if 6 ≤ j then .string D else undef, if 7 ≤ j then .string (Q ++ D) else undef], defers := [] }
theorem anyL_key {P : Program} {md : Region.Mode} {ops : Array Oper} {R : Exit → Act → World → Prop} (F : Nat → Nat → Nat → Nat → World → Prop) (n q d : Nat) (Q D : ByteArray) (h : ∀ m i j B W, F m i j B W → AnyL P md ops R m (lstD i j) (actD n q d Q D B i j) W) (m i j B : Nat) (W : World) (hF : F m i j B W) : AnyL P md ops R m (lstD i j) (actD n q d Q D B i j) W := h m i j B W hF
theorem anyL_cast {P : Program} {md : Region.Mode} {ops : Array Oper} {R : Exit → Act → World → Prop} {g : Nat} {l l' : Array Bool} {a a' : Act} {W : World} (hl : l = l') (ha : a = a') (h : AnyL P md ops R g l' a' W) : AnyL P md ops R g l a W := by subst hl; subst ha; exact h
set_option maxRecDepth 100000 in
set_option maxHeartbeats 8000000 in
theorem rdig5_any (k : Nat) : ∀ (n : Nat) (w : World), n ≤ k → n ≤ 9007199254740992 →
    Calls Tryz.prog 51 #[.int .i64 n] w fun e w' => e = .returned (.string (tx (Nu.digs n))) ∧ Below w.heap.size w w' := by
  induction k with
  | zero => intro n w hk hn; exact rdig5_one n (by omega) w
  | succ k ih =>
    intro n w hk hn
    by_cases h10 : n < 10
    · exact rdig5_one n h10 w
    have HD := Lib.hid (Nu.digs_ge h10)
    obtain ⟨q, hqq⟩ : ∃ q, q = n / 10 := ⟨_, rfl⟩
    have hq : (n : Int) / 10 = (q : Int) := by omega
    obtain ⟨d, hd⟩ : ∃ d, d = n % 10 := ⟨_, rfl⟩
    have hm : (n : Int) % 10 = (d : Int) := by omega
    have hd10 : d < 10 := by omega
    have h9 : ¬ (n : Int) < 10 := by omega
    have hn0 : 0 ≤ (n : Int) := by omega
    have hn1 : (n : Int) ≤ 9007199254740992 := by omega
    have HI : Hid (∀ W, Calls Tryz.prog 51 #[.int .i64 q] W fun e w' => e = .returned (.string (tx (Nu.digs q))) ∧ Below W.heap.size W w') := Lib.hid fun W => ih q W (by omega) (by omega)
    rw [← hqq, ← hd] at HD
    have l1 := Nu.digs_len q 16 (by decide) (by omega)
    have s1 : (tx (Nu.digs q)).size = (Nu.digs q).length := Nu.size_arr _
    obtain ⟨Q, hQ⟩ : ∃ S : ByteArray, S = tx (Nu.digs q) := ⟨_, rfl⟩
    obtain ⟨D, hD⟩ : ∃ S : ByteArray, S = tx [UInt8.ofNat (48 + d)] := ⟨_, rfl⟩
    rw [← hQ] at HI s1
    have b1 : Q.size ≤ 16 := by omega
    have b2 : D.size ≤ 16 := by rw [hD]; show (1 : Nat) ≤ 16; decide
    have hcv : ∀ W B, W.cell? ⟨B, 0, none⟩ = some (.int .u8 (48 + (d : Int))) → (convert 37 9 (.slice (some ⟨B, 0, none⟩) 1 1)).run Tryz.prog W = .ok (.string D) W := fun W B hc => by rw [hD]; exact conv_at W B d hd10 hc
    have HCV := Lib.hid hcv
    have HE : Hid (tx (Nu.digs n) = Q ++ D) := Lib.hid (by rw [HD.out, hQ, hD, tx_app])
    obtain ⟨R, hR⟩ : ∃ R, tx (Nu.digs n) = R := ⟨_, rfl⟩
    rw [hR] at HE ⊢
    clear ih HD hqq hd l1 s1 h10 hk hn hQ hD hR hcv
    go_enter Tryz.func51, Tryz.ntmps51
    go_upto_region 5 with fail
    have g1 : IntKind.i64.wrap (q : Int) = (q : Int) := IntWalk.i64_in _ (by omega)
    have g2 : (n : Int).tmod 10 = (d : Int) := by rw [Int.tmod_eq_emod_of_nonneg hn0]; exact hm
    have g3 : IntKind.i64.wrap (48 + (d : Int)) = 48 + (d : Int) := IntWalk.i64_in _ (by omega)
    have g4 : IntKind.u8.wrap (48 + (d : Int)) = 48 + (d : Int) := IntWalk.u8_in _ (by omega)
    have g5 : (n : Int).tdiv 10 = (q : Int) := by rw [Int.tdiv_eq_ediv_of_nonneg hn0]; exact hq
    clear hq hm h9
    go_cut [2] (fun s2 wx => s2 = .string R ∧ Hid (Below w.heap.size w wx))
    case first =>
      refine Rn.region_any (by kernel_rfl) ?_
      refine AnyL.of (g := 11) rfl ?_
      refine anyL_cast (l' := lstD 0 0) (a' := actD n q d Q D 0 0 0) (by kernel_rfl) rfl ?_
      refine anyL_key (fun m i j B W => i + j + m = 11 ∧ i ≤ 3 ∧ j ≤ 8 ∧ (7 ≤ j → i = 3) ∧ Hid (5 ≤ j → W.cell? ⟨B, 0, none⟩ = some (.int .u8 (48 + (d : Int)))) ∧ Hid (Below w.heap.size w W)) n q d Q D ?key 11 0 0 0 w.drew ⟨rfl, by decide, by decide, fun h => absurd h (by decide), Lib.hid fun h => absurd h (by decide), Lib.hid (by go_grown)⟩
      intro m
      induction m with
      | zero =>
        rintro i j B W ⟨h1, h2, h3, h4, HCC, HKW⟩
        obtain rfl : i = 3 := by omega
        obtain rfl : j = 8 := by omega
        refine anyL_done (by kernel_rfl) ?_
        dsimp only [actD]
        simp only [Nat.reduceLeDiff, ↓reduceIte]
        go_wp2_with fail
        go_meet
        exact ⟨by rw [HE.out], HKW⟩
      | succ m ih =>
        rintro i j B W ⟨h1, h2, h3, h4, HCC, HKW⟩
        have hi : i = 0 ∨ i = 1 ∨ i = 2 ∨ i = 3 := by omega
        have hj : j = 0 ∨ j = 1 ∨ j = 2 ∨ j = 3 ∨ j = 4 ∨ j = 5 ∨ j = 6 ∨ j = 7 ∨ j = 8 := by omega
        rcases hi with rfl | rfl | rfl | rfl
        · rcases hj with rfl | rfl | rfl | rfl | rfl | rfl | rfl | rfl | rfl
          · dsimp only [actD]
            simp only [Nat.reduceLeDiff, ↓reduceIte]
            refine anyL_two (g := m) 0 3 (by kernel_rfl) rfl rfl (fun K hK => ?_) (fun K hK => ?_)
            · go_simp
              first
                | (refine .inl ?_; try go_simp; refine hK _ _ ?_; clear hK)
                | (refine hK _ _ ?_; clear hK)
              exact anyL_cast (by kernel_rfl) rfl (ih 1 0 B W ⟨by omega, by decide, by decide, fun h => absurd h (by decide), Lib.hid fun h => absurd h (by decide), HKW⟩)
            · go_simp
              first
                | (refine .inl ?_; try go_simp; refine hK _ _ ?_; clear hK)
                | (refine hK _ _ ?_; clear hK)
              exact anyL_cast (by kernel_rfl) rfl (ih 0 1 B W ⟨by omega, by decide, by decide, fun h => absurd h (by decide), Lib.hid fun h => absurd h (by decide), HKW⟩)
          · dsimp only [actD]
            simp only [Nat.reduceLeDiff, ↓reduceIte]
            refine anyL_two (g := m) 0 4 (by kernel_rfl) rfl rfl (fun K hK => ?_) (fun K hK => ?_)
            · go_simp
              first
                | (refine .inl ?_; try go_simp; refine hK _ _ ?_; clear hK)
                | (refine hK _ _ ?_; clear hK)
              exact anyL_cast (by kernel_rfl) rfl (ih 1 1 B W ⟨by omega, by decide, by decide, fun h => absurd h (by decide), Lib.hid fun h => absurd h (by decide), HKW⟩)
            · go_simp
              first
                | (refine .inl ?_; try go_simp; refine hK _ _ ?_; clear hK)
                | (refine hK _ _ ?_; clear hK)
              exact anyL_cast (by kernel_rfl) rfl (ih 0 2 B W ⟨by omega, by decide, by decide, fun h => absurd h (by decide), Lib.hid fun h => absurd h (by decide), HKW⟩)
          · dsimp only [actD]
            simp only [Nat.reduceLeDiff, ↓reduceIte]
            refine anyL_two (g := m) 0 5 (by kernel_rfl) rfl rfl (fun K hK => ?_) (fun K hK => ?_)
            · go_simp
              first
                | (refine .inl ?_; try go_simp; refine hK _ _ ?_; clear hK)
                | (refine hK _ _ ?_; clear hK)
              exact anyL_cast (by kernel_rfl) rfl (ih 1 2 B W ⟨by omega, by decide, by decide, fun h => absurd h (by decide), Lib.hid fun h => absurd h (by decide), HKW⟩)
            · go_simp
              first
                | (refine .inl ?_; try go_simp; refine hK _ _ ?_; clear hK)
                | (refine hK _ _ ?_; clear hK)
              exact anyL_cast (by kernel_rfl) rfl (ih 0 3 B W ⟨by omega, by decide, by decide, fun h => absurd h (by decide), Lib.hid fun h => absurd h (by decide), HKW⟩)
          · dsimp only [actD]
            simp only [Nat.reduceLeDiff, ↓reduceIte]
            refine anyL_two (g := m) 0 6 (by kernel_rfl) rfl rfl (fun K hK => ?_) (fun K hK => ?_)
            · go_simp
              first
                | (refine .inl ?_; try go_simp; refine hK _ _ ?_; clear hK)
                | (refine hK _ _ ?_; clear hK)
              exact anyL_cast (by kernel_rfl) rfl (ih 1 3 B W ⟨by omega, by decide, by decide, fun h => absurd h (by decide), Lib.hid fun h => absurd h (by decide), HKW⟩)
            · go_simp
              first
                | (refine .inl ?_; try go_simp; refine hK _ _ ?_; clear hK)
                | (refine hK _ _ ?_; clear hK)
              exact anyL_cast (by kernel_rfl) rfl (ih 0 4 B W ⟨by omega, by decide, by decide, fun h => absurd h (by decide), Lib.hid fun h => absurd h (by decide), HKW⟩)
          · dsimp only [actD]
            simp only [Nat.reduceLeDiff, ↓reduceIte]
            refine anyL_two (g := m) 0 7 (by kernel_rfl) rfl rfl (fun K hK => ?_) (fun K hK => ?_)
            · go_simp
              first
                | (refine .inl ?_; try go_simp; refine hK _ _ ?_; clear hK)
                | (refine hK _ _ ?_; clear hK)
              exact anyL_cast (by kernel_rfl) rfl (ih 1 4 B W ⟨by omega, by decide, by decide, fun h => absurd h (by decide), Lib.hid fun h => absurd h (by decide), HKW⟩)
            · go_simp
              first
                | (refine .inl ?_; try go_simp; refine hK _ _ ?_; clear hK)
                | (refine hK _ _ ?_; clear hK)
              exact anyL_cast (by kernel_rfl) rfl (ih 0 5 W.heap.size _ ⟨by omega, by decide, by decide, fun h => absurd h (by decide), Lib.hid fun h => by simp, Lib.hid (HKW.out.alloc HKW.out.size _)⟩)
          · dsimp only [actD]
            simp only [Nat.reduceLeDiff, ↓reduceIte]
            refine anyL_two (g := m) 0 8 (by kernel_rfl) rfl rfl (fun K hK => ?_) (fun K hK => ?_)
            · go_simp
              first
                | (refine .inl ?_; try go_simp; refine hK _ _ ?_; clear hK)
                | (refine hK _ _ ?_; clear hK)
              exact anyL_cast (by kernel_rfl) rfl (ih 1 5 B W ⟨by omega, by decide, by decide, fun h => absurd h (by decide), Lib.hid fun h => HCC.out (by omega), HKW⟩)
            · have hcw := HCV.out _ _ (HCC.out (by decide))
              go_simp
              first
                | (refine .inl ?_; try go_simp; refine hK _ _ ?_; clear hK)
                | (refine hK _ _ ?_; clear hK)
              exact anyL_cast (by kernel_rfl) rfl (ih 0 6 B W ⟨by omega, by decide, by decide, fun h => absurd h (by decide), Lib.hid fun h => HCC.out (by omega), HKW⟩)
          · dsimp only [actD]
            simp only [Nat.reduceLeDiff, ↓reduceIte]
            refine anyL_one (g := m) 0 (by kernel_rfl) rfl (fun K hK => ?_)
            go_simp
            first
              | (refine .inl ?_; try go_simp; refine hK _ _ ?_; clear hK)
              | (refine hK _ _ ?_; clear hK)
            exact anyL_cast (by kernel_rfl) rfl (ih 1 6 B W ⟨by omega, by decide, by decide, fun h => absurd h (by decide), Lib.hid fun h => HCC.out (by omega), HKW⟩)
          · exact absurd (h4 (by decide)) (by decide)
          · exact absurd (h4 (by decide)) (by decide)
        · rcases hj with rfl | rfl | rfl | rfl | rfl | rfl | rfl | rfl | rfl
          · dsimp only [actD]
            simp only [Nat.reduceLeDiff, ↓reduceIte]
            refine anyL_two (g := m) 1 3 (by kernel_rfl) rfl rfl (fun K hK => ?_) (fun K hK => ?_)
            · go_simp
              first
                | (refine .inl ?_; try go_simp; refine hK _ _ ?_; clear hK)
                | (refine hK _ _ ?_; clear hK)
              exact anyL_cast (by kernel_rfl) rfl (ih 2 0 B W ⟨by omega, by decide, by decide, fun h => absurd h (by decide), Lib.hid fun h => absurd h (by decide), HKW⟩)
            · go_simp
              first
                | (refine .inl ?_; try go_simp; refine hK _ _ ?_; clear hK)
                | (refine hK _ _ ?_; clear hK)
              exact anyL_cast (by kernel_rfl) rfl (ih 1 1 B W ⟨by omega, by decide, by decide, fun h => absurd h (by decide), Lib.hid fun h => absurd h (by decide), HKW⟩)
          · dsimp only [actD]
            simp only [Nat.reduceLeDiff, ↓reduceIte]
            refine anyL_two (g := m) 1 4 (by kernel_rfl) rfl rfl (fun K hK => ?_) (fun K hK => ?_)
            · go_simp
              first
                | (refine .inl ?_; try go_simp; refine hK _ _ ?_; clear hK)
                | (refine hK _ _ ?_; clear hK)
              exact anyL_cast (by kernel_rfl) rfl (ih 2 1 B W ⟨by omega, by decide, by decide, fun h => absurd h (by decide), Lib.hid fun h => absurd h (by decide), HKW⟩)
            · go_simp
              first
                | (refine .inl ?_; try go_simp; refine hK _ _ ?_; clear hK)
                | (refine hK _ _ ?_; clear hK)
              exact anyL_cast (by kernel_rfl) rfl (ih 1 2 B W ⟨by omega, by decide, by decide, fun h => absurd h (by decide), Lib.hid fun h => absurd h (by decide), HKW⟩)
          · dsimp only [actD]
            simp only [Nat.reduceLeDiff, ↓reduceIte]
            refine anyL_two (g := m) 1 5 (by kernel_rfl) rfl rfl (fun K hK => ?_) (fun K hK => ?_)
            · go_simp
              first
                | (refine .inl ?_; try go_simp; refine hK _ _ ?_; clear hK)
                | (refine hK _ _ ?_; clear hK)
              exact anyL_cast (by kernel_rfl) rfl (ih 2 2 B W ⟨by omega, by decide, by decide, fun h => absurd h (by decide), Lib.hid fun h => absurd h (by decide), HKW⟩)
            · go_simp
              first
                | (refine .inl ?_; try go_simp; refine hK _ _ ?_; clear hK)
                | (refine hK _ _ ?_; clear hK)
              exact anyL_cast (by kernel_rfl) rfl (ih 1 3 B W ⟨by omega, by decide, by decide, fun h => absurd h (by decide), Lib.hid fun h => absurd h (by decide), HKW⟩)
          · dsimp only [actD]
            simp only [Nat.reduceLeDiff, ↓reduceIte]
            refine anyL_two (g := m) 1 6 (by kernel_rfl) rfl rfl (fun K hK => ?_) (fun K hK => ?_)
            · go_simp
              first
                | (refine .inl ?_; try go_simp; refine hK _ _ ?_; clear hK)
                | (refine hK _ _ ?_; clear hK)
              exact anyL_cast (by kernel_rfl) rfl (ih 2 3 B W ⟨by omega, by decide, by decide, fun h => absurd h (by decide), Lib.hid fun h => absurd h (by decide), HKW⟩)
            · go_simp
              first
                | (refine .inl ?_; try go_simp; refine hK _ _ ?_; clear hK)
                | (refine hK _ _ ?_; clear hK)
              exact anyL_cast (by kernel_rfl) rfl (ih 1 4 B W ⟨by omega, by decide, by decide, fun h => absurd h (by decide), Lib.hid fun h => absurd h (by decide), HKW⟩)
          · dsimp only [actD]
            simp only [Nat.reduceLeDiff, ↓reduceIte]
            refine anyL_two (g := m) 1 7 (by kernel_rfl) rfl rfl (fun K hK => ?_) (fun K hK => ?_)
            · go_simp
              first
                | (refine .inl ?_; try go_simp; refine hK _ _ ?_; clear hK)
                | (refine hK _ _ ?_; clear hK)
              exact anyL_cast (by kernel_rfl) rfl (ih 2 4 B W ⟨by omega, by decide, by decide, fun h => absurd h (by decide), Lib.hid fun h => absurd h (by decide), HKW⟩)
            · go_simp
              first
                | (refine .inl ?_; try go_simp; refine hK _ _ ?_; clear hK)
                | (refine hK _ _ ?_; clear hK)
              exact anyL_cast (by kernel_rfl) rfl (ih 1 5 W.heap.size _ ⟨by omega, by decide, by decide, fun h => absurd h (by decide), Lib.hid fun h => by simp, Lib.hid (HKW.out.alloc HKW.out.size _)⟩)
          · dsimp only [actD]
            simp only [Nat.reduceLeDiff, ↓reduceIte]
            refine anyL_two (g := m) 1 8 (by kernel_rfl) rfl rfl (fun K hK => ?_) (fun K hK => ?_)
            · go_simp
              first
                | (refine .inl ?_; try go_simp; refine hK _ _ ?_; clear hK)
                | (refine hK _ _ ?_; clear hK)
              exact anyL_cast (by kernel_rfl) rfl (ih 2 5 B W ⟨by omega, by decide, by decide, fun h => absurd h (by decide), Lib.hid fun h => HCC.out (by omega), HKW⟩)
            · have hcw := HCV.out _ _ (HCC.out (by decide))
              go_simp
              first
                | (refine .inl ?_; try go_simp; refine hK _ _ ?_; clear hK)
                | (refine hK _ _ ?_; clear hK)
              exact anyL_cast (by kernel_rfl) rfl (ih 1 6 B W ⟨by omega, by decide, by decide, fun h => absurd h (by decide), Lib.hid fun h => HCC.out (by omega), HKW⟩)
          · dsimp only [actD]
            simp only [Nat.reduceLeDiff, ↓reduceIte]
            refine anyL_one (g := m) 1 (by kernel_rfl) rfl (fun K hK => ?_)
            go_simp
            first
              | (refine .inl ?_; try go_simp; refine hK _ _ ?_; clear hK)
              | (refine hK _ _ ?_; clear hK)
            exact anyL_cast (by kernel_rfl) rfl (ih 2 6 B W ⟨by omega, by decide, by decide, fun h => absurd h (by decide), Lib.hid fun h => HCC.out (by omega), HKW⟩)
          · exact absurd (h4 (by decide)) (by decide)
          · exact absurd (h4 (by decide)) (by decide)
        · rcases hj with rfl | rfl | rfl | rfl | rfl | rfl | rfl | rfl | rfl
          · dsimp only [actD]
            simp only [Nat.reduceLeDiff, ↓reduceIte]
            refine anyL_two (g := m) 2 3 (by kernel_rfl) rfl rfl (fun K hK => ?_) (fun K hK => ?_)
            · go_simp
              refine .inl ((HI.out _).mono ?_)
              rintro e w5 ⟨rfl, hb5⟩
              try go_simp
              refine hK _ _ ?_
              exact anyL_cast (by kernel_rfl) rfl (ih 3 0 B w5 ⟨by omega, by decide, by decide, fun _ => rfl, Lib.hid fun h => cell_below hb5 _ _ (HCC.out h), Lib.hid (HKW.out.trans (hb5.mono HKW.out.size))⟩)
            · go_simp
              first
                | (refine .inl ?_; try go_simp; refine hK _ _ ?_; clear hK)
                | (refine hK _ _ ?_; clear hK)
              exact anyL_cast (by kernel_rfl) rfl (ih 2 1 B W ⟨by omega, by decide, by decide, fun h => absurd h (by decide), Lib.hid fun h => absurd h (by decide), HKW⟩)
          · dsimp only [actD]
            simp only [Nat.reduceLeDiff, ↓reduceIte]
            refine anyL_two (g := m) 2 4 (by kernel_rfl) rfl rfl (fun K hK => ?_) (fun K hK => ?_)
            · go_simp
              refine .inl ((HI.out _).mono ?_)
              rintro e w5 ⟨rfl, hb5⟩
              try go_simp
              refine hK _ _ ?_
              exact anyL_cast (by kernel_rfl) rfl (ih 3 1 B w5 ⟨by omega, by decide, by decide, fun _ => rfl, Lib.hid fun h => cell_below hb5 _ _ (HCC.out h), Lib.hid (HKW.out.trans (hb5.mono HKW.out.size))⟩)
            · go_simp
              first
                | (refine .inl ?_; try go_simp; refine hK _ _ ?_; clear hK)
                | (refine hK _ _ ?_; clear hK)
              exact anyL_cast (by kernel_rfl) rfl (ih 2 2 B W ⟨by omega, by decide, by decide, fun h => absurd h (by decide), Lib.hid fun h => absurd h (by decide), HKW⟩)
          · dsimp only [actD]
            simp only [Nat.reduceLeDiff, ↓reduceIte]
            refine anyL_two (g := m) 2 5 (by kernel_rfl) rfl rfl (fun K hK => ?_) (fun K hK => ?_)
            · go_simp
              refine .inl ((HI.out _).mono ?_)
              rintro e w5 ⟨rfl, hb5⟩
              try go_simp
              refine hK _ _ ?_
              exact anyL_cast (by kernel_rfl) rfl (ih 3 2 B w5 ⟨by omega, by decide, by decide, fun _ => rfl, Lib.hid fun h => cell_below hb5 _ _ (HCC.out h), Lib.hid (HKW.out.trans (hb5.mono HKW.out.size))⟩)
            · go_simp
              first
                | (refine .inl ?_; try go_simp; refine hK _ _ ?_; clear hK)
                | (refine hK _ _ ?_; clear hK)
              exact anyL_cast (by kernel_rfl) rfl (ih 2 3 B W ⟨by omega, by decide, by decide, fun h => absurd h (by decide), Lib.hid fun h => absurd h (by decide), HKW⟩)
          · dsimp only [actD]
            simp only [Nat.reduceLeDiff, ↓reduceIte]
            refine anyL_two (g := m) 2 6 (by kernel_rfl) rfl rfl (fun K hK => ?_) (fun K hK => ?_)
            · go_simp
              refine .inl ((HI.out _).mono ?_)
              rintro e w5 ⟨rfl, hb5⟩
              try go_simp
              refine hK _ _ ?_
              exact anyL_cast (by kernel_rfl) rfl (ih 3 3 B w5 ⟨by omega, by decide, by decide, fun _ => rfl, Lib.hid fun h => cell_below hb5 _ _ (HCC.out h), Lib.hid (HKW.out.trans (hb5.mono HKW.out.size))⟩)
            · go_simp
              first
                | (refine .inl ?_; try go_simp; refine hK _ _ ?_; clear hK)
                | (refine hK _ _ ?_; clear hK)
              exact anyL_cast (by kernel_rfl) rfl (ih 2 4 B W ⟨by omega, by decide, by decide, fun h => absurd h (by decide), Lib.hid fun h => absurd h (by decide), HKW⟩)
          · dsimp only [actD]
            simp only [Nat.reduceLeDiff, ↓reduceIte]
            refine anyL_two (g := m) 2 7 (by kernel_rfl) rfl rfl (fun K hK => ?_) (fun K hK => ?_)
            · go_simp
              refine .inl ((HI.out _).mono ?_)
              rintro e w5 ⟨rfl, hb5⟩
              try go_simp
              refine hK _ _ ?_
              exact anyL_cast (by kernel_rfl) rfl (ih 3 4 B w5 ⟨by omega, by decide, by decide, fun _ => rfl, Lib.hid fun h => cell_below hb5 _ _ (HCC.out h), Lib.hid (HKW.out.trans (hb5.mono HKW.out.size))⟩)
            · go_simp
              first
                | (refine .inl ?_; try go_simp; refine hK _ _ ?_; clear hK)
                | (refine hK _ _ ?_; clear hK)
              exact anyL_cast (by kernel_rfl) rfl (ih 2 5 W.heap.size _ ⟨by omega, by decide, by decide, fun h => absurd h (by decide), Lib.hid fun h => by simp, Lib.hid (HKW.out.alloc HKW.out.size _)⟩)
          · dsimp only [actD]
            simp only [Nat.reduceLeDiff, ↓reduceIte]
            refine anyL_two (g := m) 2 8 (by kernel_rfl) rfl rfl (fun K hK => ?_) (fun K hK => ?_)
            · go_simp
              refine .inl ((HI.out _).mono ?_)
              rintro e w5 ⟨rfl, hb5⟩
              try go_simp
              refine hK _ _ ?_
              exact anyL_cast (by kernel_rfl) rfl (ih 3 5 B w5 ⟨by omega, by decide, by decide, fun _ => rfl, Lib.hid fun h => cell_below hb5 _ _ (HCC.out h), Lib.hid (HKW.out.trans (hb5.mono HKW.out.size))⟩)
            · have hcw := HCV.out _ _ (HCC.out (by decide))
              go_simp
              first
                | (refine .inl ?_; try go_simp; refine hK _ _ ?_; clear hK)
                | (refine hK _ _ ?_; clear hK)
              exact anyL_cast (by kernel_rfl) rfl (ih 2 6 B W ⟨by omega, by decide, by decide, fun h => absurd h (by decide), Lib.hid fun h => HCC.out (by omega), HKW⟩)
          · dsimp only [actD]
            simp only [Nat.reduceLeDiff, ↓reduceIte]
            refine anyL_one (g := m) 2 (by kernel_rfl) rfl (fun K hK => ?_)
            go_simp
            refine .inl ((HI.out _).mono ?_)
            rintro e w5 ⟨rfl, hb5⟩
            try go_simp
            refine hK _ _ ?_
            exact anyL_cast (by kernel_rfl) rfl (ih 3 6 B w5 ⟨by omega, by decide, by decide, fun _ => rfl, Lib.hid fun h => cell_below hb5 _ _ (HCC.out h), Lib.hid (HKW.out.trans (hb5.mono HKW.out.size))⟩)
          · exact absurd (h4 (by decide)) (by decide)
          · exact absurd (h4 (by decide)) (by decide)
        · rcases hj with rfl | rfl | rfl | rfl | rfl | rfl | rfl | rfl | rfl
          · dsimp only [actD]
            simp only [Nat.reduceLeDiff, ↓reduceIte]
            refine anyL_one (g := m) 3 (by kernel_rfl) rfl (fun K hK => ?_)
            go_simp
            first
              | (refine .inl ?_; try go_simp; refine hK _ _ ?_; clear hK)
              | (refine hK _ _ ?_; clear hK)
            exact anyL_cast (by kernel_rfl) rfl (ih 3 1 B W ⟨by omega, by decide, by decide, fun h => rfl, Lib.hid fun h => absurd h (by decide), HKW⟩)
          · dsimp only [actD]
            simp only [Nat.reduceLeDiff, ↓reduceIte]
            refine anyL_one (g := m) 4 (by kernel_rfl) rfl (fun K hK => ?_)
            go_simp
            first
              | (refine .inl ?_; try go_simp; refine hK _ _ ?_; clear hK)
              | (refine hK _ _ ?_; clear hK)
            exact anyL_cast (by kernel_rfl) rfl (ih 3 2 B W ⟨by omega, by decide, by decide, fun h => rfl, Lib.hid fun h => absurd h (by decide), HKW⟩)
          · dsimp only [actD]
            simp only [Nat.reduceLeDiff, ↓reduceIte]
            refine anyL_one (g := m) 5 (by kernel_rfl) rfl (fun K hK => ?_)
            go_simp
            first
              | (refine .inl ?_; try go_simp; refine hK _ _ ?_; clear hK)
              | (refine hK _ _ ?_; clear hK)
            exact anyL_cast (by kernel_rfl) rfl (ih 3 3 B W ⟨by omega, by decide, by decide, fun h => rfl, Lib.hid fun h => absurd h (by decide), HKW⟩)
          · dsimp only [actD]
            simp only [Nat.reduceLeDiff, ↓reduceIte]
            refine anyL_one (g := m) 6 (by kernel_rfl) rfl (fun K hK => ?_)
            go_simp
            first
              | (refine .inl ?_; try go_simp; refine hK _ _ ?_; clear hK)
              | (refine hK _ _ ?_; clear hK)
            exact anyL_cast (by kernel_rfl) rfl (ih 3 4 B W ⟨by omega, by decide, by decide, fun h => rfl, Lib.hid fun h => absurd h (by decide), HKW⟩)
          · dsimp only [actD]
            simp only [Nat.reduceLeDiff, ↓reduceIte]
            refine anyL_one (g := m) 7 (by kernel_rfl) rfl (fun K hK => ?_)
            go_simp
            first
              | (refine .inl ?_; try go_simp; refine hK _ _ ?_; clear hK)
              | (refine hK _ _ ?_; clear hK)
            exact anyL_cast (by kernel_rfl) rfl (ih 3 5 W.heap.size _ ⟨by omega, by decide, by decide, fun h => absurd h (by decide), Lib.hid fun h => by simp, Lib.hid (HKW.out.alloc HKW.out.size _)⟩)
          · dsimp only [actD]
            simp only [Nat.reduceLeDiff, ↓reduceIte]
            refine anyL_one (g := m) 8 (by kernel_rfl) rfl (fun K hK => ?_)
            have hcw := HCV.out _ _ (HCC.out (by decide))
            go_simp
            first
              | (refine .inl ?_; try go_simp; refine hK _ _ ?_; clear hK)
              | (refine hK _ _ ?_; clear hK)
            exact anyL_cast (by kernel_rfl) rfl (ih 3 6 B W ⟨by omega, by decide, by decide, fun h => rfl, Lib.hid fun h => HCC.out (by omega), HKW⟩)
          · dsimp only [actD]
            simp only [Nat.reduceLeDiff, ↓reduceIte]
            refine anyL_one (g := m) 9 (by kernel_rfl) rfl (fun K hK => ?_)
            have hlt : ¬ 9223372036854775807 < Q.size + D.size := by omega
            go_simp
            first
              | (refine .inl ?_; try go_simp; refine hK _ _ ?_; clear hK)
              | (refine hK _ _ ?_; clear hK)
            exact anyL_cast (by kernel_rfl) rfl (ih 3 7 B W ⟨by omega, by decide, by decide, fun h => rfl, Lib.hid fun h => HCC.out (by omega), HKW⟩)
          · dsimp only [actD]
            simp only [Nat.reduceLeDiff, ↓reduceIte]
            refine anyL_one (g := m) 10 (by kernel_rfl) rfl (fun K hK => ?_)
            go_simp
            first
              | (refine .inl ?_; try go_simp; refine hK _ _ ?_; clear hK)
              | (refine hK _ _ ?_; clear hK)
            exact anyL_cast (by kernel_rfl) rfl (ih 3 8 B W ⟨by omega, by decide, by decide, fun h => rfl, Lib.hid fun h => HCC.out (by omega), HKW⟩)
          · omega
    case rest =>
      obtain ⟨rfl, hk⟩ := hcut
      go_wp2_with fail
      go_ret
      exact ⟨rfl, hk.out⟩
end Go.Proofs.YtllkcldckehipaaGreatDoor

namespace Go.Proofs.YtllkcldckehipaaGreatDoor
open Go.RowKit Go.Shelf

set_option maxRecDepth 100000 in
set_option maxHeartbeats 2000000 in
theorem rdigits_any (n : Int) (h1 : -9007199254740992 ≤ n) (h2 : n ≤ 9007199254740992) (w : World) :
    Calls Tryz.prog 51 #[.int .i64 n] w fun e w' => e = .returned (.string (tx (Nu.txt n))) ∧ Below w.heap.size w w' := by
  have hf : Nu.fitB n = true := Nu.fitB_iff.2 ⟨h1, h2⟩
  by_cases h0 : n < 0
  · obtain ⟨k, hk⟩ : ∃ k : Nat, n = -(k : Int) := ⟨(-n).toNat, by omega⟩
    have HT : Hid (tx (Nu.txt n) = ⟨#[45]⟩ ++ tx (Nu.digs k)) := Lib.hid (by
      rw [Nu.txt_neg hf h0, show (⟨#[45]⟩ : ByteArray) = tx [45] from rfl, tx_app, show n.natAbs = k by omega]
      rfl)
    have HR := Lib.hid (fun W => rdig5_any k k W (Nat.le_refl _) (by omega))
    obtain ⟨R, hR⟩ : ∃ R, tx (Nu.txt n) = R := ⟨_, rfl⟩
    rw [hR] at HT ⊢
    have l1 := Nu.digs_len k 16 (by decide) (by omega)
    have s1 : (tx (Nu.digs k)).size = (Nu.digs k).length := Nu.size_arr _
    obtain ⟨D, hD⟩ : ∃ D, tx (Nu.digs k) = D := ⟨_, rfl⟩
    rw [hD] at HT HR s1
    have b1 : D.size ≤ 16 := by omega
    subst hk
    have g1 : IntKind.i64.wrap (-(-(k : Int))) = (k : Int) := by rw [Int.neg_neg]; exact IntWalk.i64_in _ (by omega)
    have g2 : wrap64 (-(-(k : Int))) = (k : Int) := by rw [Int.neg_neg]; unfold wrap64; omega
    have g3 : IntKind.i64.wrap (k : Int) = (k : Int) := IntWalk.i64_in _ (by omega)
    clear hf hR l1 s1 hD
    go_enter Tryz.func51, Tryz.ntmps51
    go_wp2_with (go_at_call 51; refine (HR.out _).mono ?_; rintro e w2 ⟨rfl, hb⟩)
    go_ret
    exact ⟨by rw [HT.out]; rfl, hb⟩
  · obtain ⟨k, rfl⟩ : ∃ k : Nat, n = (k : Int) := ⟨n.toNat, by omega⟩
    rw [Nu.txt_pos hf h0, show (k : Int).natAbs = k by omega]
    exact rdig5_any k k w (Nat.le_refl _) (by omega)
end Go.Proofs.YtllkcldckehipaaGreatDoor
