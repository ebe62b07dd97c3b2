/-
  put of package sub; parts as they read.
-/
import Derived.Test.YtjnoomefppncoaaDoorMk
import Derived.Test.YtjnoomefppncoaaDoorMg
set_option linter.unusedVariables false
namespace Go.Proofs.YtjnoomefppncoaaDoor
open Go.RowKit Go.Shelf

/-- The part that an expression is. -/
def toX : E → X
  | .mk k t n m a l => if k = 0 then .text t.data.toList else if k = 3 then .ref m.data.toList else .att m.data.toList a.data.toList
structure PartE (x : E) : Prop where
  num : x.num = 0
  list : x.list = []
  kind : x.kind = (toX x).k
  text : x.text = bs (toX x).t
  name : x.name = bs (toX x).m
  attr : x.attr = bs (toX x).a
  ok : okX (toX x)
  full : (toX x).isT = true → (toX x).t ≠ []
theorem part_of {x : E} (h : partB x = true) : PartE x := by
  obtain ⟨k, t, n, m, a, l⟩ := x
  rw [partB] at h
  simp only [Bool.and_eq_true, decide_eq_true_eq, List.isEmpty_iff] at h
  obtain ⟨⟨hn, hl⟩, h⟩ := h
  have hz : ∀ b : ByteArray, emB b = true → b = ⟨#[]⟩ := fun b hb => (emp_iff b).1 (by simpa [emB] using hb)
  by_cases h0 : k = 0
  · rw [if_pos h0] at h
    simp only [Bool.and_eq_true, Bool.not_eq_true'] at h
    obtain ⟨⟨⟨h1, h2⟩, h3⟩, h4⟩ := h
    have e : toX (.mk k t n m a l) = .text t.data.toList := by rw [toX, if_pos h0]
    refine ⟨hn, hl, by rw [e]; exact h0, by rw [e]; exact (bs_self t).symm, by rw [e]; exact hz m h1, by rw [e]; exact hz a h2, by rw [e]; exact h4, fun _ => ?_⟩
    rw [e]
    show t.data.toList ≠ []
    intro e2
    have : t = ⟨#[]⟩ := by rw [← bs_self t, e2]
    have h5 : emB t = true := by simp [emB, (emp_iff t).2 this]
    rw [h5] at h3; cases h3
  rw [if_neg h0] at h
  by_cases h3 : k = 3
  · rw [if_pos h3] at h
    simp only [Bool.and_eq_true] at h
    obtain ⟨⟨h1, h2⟩, h4⟩ := h
    have e : toX (.mk k t n m a l) = .ref m.data.toList := by rw [toX, if_neg h0, if_pos h3]
    exact ⟨hn, hl, by rw [e]; exact h3, by rw [e]; exact hz t h1, by rw [e]; exact (bs_self m).symm, by rw [e]; exact hz a h2, by rw [e]; exact h4, fun hT => by rw [e] at hT; cases hT⟩
  rw [if_neg h3] at h
  by_cases h4 : k = 4
  · rw [if_pos h4] at h
    simp only [Bool.and_eq_true] at h
    obtain ⟨⟨h1, h2⟩, h5⟩ := h
    have e : toX (.mk k t n m a l) = .att m.data.toList a.data.toList := by rw [toX, if_neg h0, if_neg h3]
    exact ⟨hn, hl, by rw [e]; exact h4, by rw [e]; exact hz t h1, by rw [e]; exact (bs_self m).symm, by rw [e]; exact (bs_self a).symm, by rw [e]; exact ⟨h2, h5⟩, fun hT => by rw [e] at hT; cases hT⟩
  · rw [if_neg h4] at h; cases h
theorem wrT_len : ∀ (n : Nat) (t w : List UInt8), t.length ≤ n → wrT t = some w → w.length ≤ 2 * t.length
  | n, t, w, hn, hw => by
    cases hc : cutO t with
    | none => rw [wrT_none hc] at hw; cases hw; omega
    | some q =>
      obtain ⟨a, y⟩ := q
      have hlen := cutO_len hc
      rw [wrT_some hc] at hw
      cases hb : cutB 125 y with
      | none => rw [hb] at hw; cases hw
      | some q2 =>
        obtain ⟨i, b⟩ := q2
        have hlen2 := cutB_len hb
        rw [hb] at hw
        simp only at hw
        cases hz : wrT b with
        | none => rw [hz] at hw; cases hw
        | some z =>
          rw [hz] at hw
          simp only [Option.some.injEq] at hw
          subst hw
          match n, hn with
          | 0, hn => omega
          | n + 1, hn =>
            have := wrT_len n b z (by omega) hz
            simp only [List.length_append, List.length_cons]
            omega
theorem wr1_len {x : X} {w : List UInt8} (h : wr1 x = some w) : w.length ≤ 2 * x.t.length + x.m.length + x.a.length + 4 := by
  cases x with
  | text t => have := wrT_len t.length t w (Nat.le_refl _) h; show w.length ≤ 2 * t.length + 0 + 0 + 4; omega
  | ref m => cases h; simp [X.t, X.m, X.a] <;> omega
  | att m a => cases h; simp [X.t, X.m, X.a] <;> omega

set_option maxRecDepth 100000 in
set_option maxHeartbeats 4000000 in
theorem put_any (b : Nat) (x : X) (o : Option Addr) (c : Nat) (acc : List UInt8) (w : World) (hE : Env w) (hb3 : 3 ≤ b) (h : BQ b acc w) (hs : x.t.length + x.m.length + x.a.length ≤ 3000) (ha : acc.length ≤ 20000000) :
    Calls Tryd.prog 32 #[.pointer (some ⟨b, 0, none⟩), .agg #[.int .i8 x.k, .string (bs x.t), .int .i64 0, .string (bs x.m), .string (bs x.a), .slice o 0 c]] w (PutR b acc (wr1 x) w) := by
  have hbw : b ≤ w.heap.size := Nat.le_of_lt h.lt
  have hkb : ∀ ob : Obj, Below b w (w.alloc ob) := fun ob => ((Below.refl w.heap.size w).alloc (Nat.le_refl _) ob).mono hbw
  have HQ : Hid (∀ ob, BQ b acc (w.alloc ob)) := Lib.hid fun ob => h.below ((Below.refl _ _).alloc (Nat.le_refl _) ob)
  have HKB := Lib.hid hkb
  cases x with
  | text t =>
    have HP := Lib.hid fun (ob : Obj) => putText_any b t acc (w.alloc ob) (hE.below (hkb ob) hb3) hb3 (HQ.out ob) (by have : t.length + 0 + 0 ≤ 3000 := hs; omega) (by omega)
    have hw1 : wr1 (.text t) = wrT t := rfl
    rw [hw1]
    simp only [X.k, X.t, X.m, X.a]
    generalize wrT t = z at *
    clear hE h hkb hs hw1
    cases z with
    | none =>
      go_enter Tryd.func32, Tryd.ntmps32
      go_wp2_with (go_at_call 48; refine (HP.out _).mono ?_; rintro e w5 ⟨rfl, hb5⟩)
      go_ret
      exact ⟨rfl, (HKB.out _).trans hb5⟩
    | some z =>
      go_enter Tryd.func32, Tryd.ntmps32
      go_wp2_with (go_at_call 48; refine (HP.out _).mono ?_; rintro e w5 ⟨rfl, hq5, hb5⟩)
      go_ret
      exact ⟨rfl, hq5, (HKB.out _).trans hb5⟩
  | ref m =>
    have hm : m.length ≤ 3000 := by have : 0 + m.length + 0 ≤ 3000 := hs; omega
    have hsz : ((⟨#[36, 123]⟩ : ByteArray) ++ bs m ++ (⟨#[125]⟩ : ByteArray)).size = 2 + m.length + 1 := by rw [ByteArray.size_append, ByteArray.size_append, bs_size]; rfl
    have HW := Lib.hid fun (ob : Obj) => write_any b acc ((⟨#[36, 123]⟩ : ByteArray) ++ bs m ++ (⟨#[125]⟩ : ByteArray)) (w.alloc ob) (HQ.out ob) (by rw [hsz]; omega)
    have hdat : ((⟨#[36, 123]⟩ : ByteArray) ++ bs m ++ (⟨#[125]⟩ : ByteArray)).data.toList = 36 :: 123 :: (m ++ [125]) := by simp
    have HD := Lib.hid hdat
    have hbm : (bs m).size ≤ 3000 := by rw [bs_size]; exact hm
    have hfin : ∀ w', BQ b (acc ++ (36 :: 123 :: (m ++ [125]))) w' → Below b w w' → PutR b acc (wr1 (.ref m)) w (.returned (.bool true)) w' := fun w' h1 h2 => ⟨rfl, h1, h2⟩
    have HF := Lib.hid hfin
    simp only [X.k, X.t, X.m, X.a]
    clear hE h hkb hs hdat hsz hfin
    generalize wr1 (.ref m) = R at *
    go_enter Tryd.func32, Tryd.ntmps32
    go_wp2_with (go_at_call 49; refine (HW.out _).mono ?_; rintro e w5 ⟨rfl, hq5, hb5⟩)
    go_ret
    rw [HD.out] at hq5
    exact HF.out _ hq5 ((HKB.out _).trans hb5)
  | att m a =>
    have hm : m.length + a.length ≤ 3000 := by have : 0 + m.length + a.length ≤ 3000 := hs; omega
    have hsz : ((⟨#[36, 123]⟩ : ByteArray) ++ bs m ++ (⟨#[46]⟩ : ByteArray) ++ bs a ++ (⟨#[125]⟩ : ByteArray)).size = 2 + m.length + 1 + a.length + 1 := by rw [ByteArray.size_append, ByteArray.size_append, ByteArray.size_append, ByteArray.size_append, bs_size, bs_size]; rfl
    have HW := Lib.hid fun (ob : Obj) => write_any b acc ((⟨#[36, 123]⟩ : ByteArray) ++ bs m ++ (⟨#[46]⟩ : ByteArray) ++ bs a ++ (⟨#[125]⟩ : ByteArray)) (w.alloc ob) (HQ.out ob) (by rw [hsz]; omega)
    have hdat : ((⟨#[36, 123]⟩ : ByteArray) ++ bs m ++ (⟨#[46]⟩ : ByteArray) ++ bs a ++ (⟨#[125]⟩ : ByteArray)).data.toList = 36 :: 123 :: (m ++ 46 :: a ++ [125]) := by simp
    have HD := Lib.hid hdat
    have hbm : (bs m).size ≤ 3000 := by rw [bs_size]; omega
    have hba : (bs a).size ≤ 3000 := by rw [bs_size]; omega
    have hfin : ∀ w', BQ b (acc ++ (36 :: 123 :: (m ++ 46 :: a ++ [125]))) w' → Below b w w' → PutR b acc (wr1 (.att m a)) w (.returned (.bool true)) w' := fun w' h1 h2 => ⟨rfl, h1, h2⟩
    have HF := Lib.hid hfin
    simp only [X.k, X.t, X.m, X.a]
    clear hE h hkb hs hdat hsz hfin
    generalize wr1 (.att m a) = R at *
    go_enter Tryd.func32, Tryd.ntmps32
    go_wp2_with (go_at_call 49; refine (HW.out _).mono ?_; rintro e w5 ⟨rfl, hq5, hb5⟩)
    go_ret
    rw [HD.out] at hq5
    exact HF.out _ hq5 ((HKB.out _).trans hb5)
end Go.Proofs.YtjnoomefppncoaaDoor
