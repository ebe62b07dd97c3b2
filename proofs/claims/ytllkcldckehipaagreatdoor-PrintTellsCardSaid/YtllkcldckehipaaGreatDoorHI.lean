/-
  The order of trees, in plain mathematics: it is one; what is sorted may be, is sorted already, is as great and as deep. · The reference's sorted: an object's two rows, as a key and a part are put between the others. · The reference's sorted: an object's list, as a part is put between the others; keys that rise.
-/
import Derived.Test.YtllkcldckehipaaGreatDoorGD
import Derived.Test.YtllkcldckehipaaGreatDoorHH
set_option linter.unusedVariables false
set_option linter.unusedSimpArgs false
namespace Go.Proofs.YtllkcldckehipaaGreatDoor
open Go.RowKit

theorem ltI_cases (c : Bool) : ltI c = -1 ∨ ltI c = 1 := by cases c <;> simp [ltI]
theorem ltI_ne (c : Bool) : ltI c ≠ 0 := by cases c <;> simp [ltI]
theorem ltI_not (c : Bool) : ltI (!c) = - ltI c := by cases c <;> simp [ltI]
theorem bl_eq : ∀ (x y : List UInt8), Op.bytesLess x y = decide (x < y)
  | [], [] => by simp [Op.bytesLess]
  | _ :: _, [] => by simp [Op.bytesLess]
  | [], _ :: _ => by simp [Op.bytesLess]
  | a :: x, b :: y => by
    rw [Op.bytesLess, bl_eq x y, Bool.eq_iff_iff]
    simp [List.cons_lt_cons_iff]
theorem bl_lt (s t : ByteArray) : bl s t = decide (s.data.toList < t.data.toList) := by
  unfold bl; rw [bl_eq, Lib.toList_data, Lib.toList_data]
theorem bytes_ext {s t : ByteArray} (h : s.data.toList = t.data.toList) : s = t := ByteArray.ext (by simpa using congrArg List.toArray h)
theorem lt_irr (a : List UInt8) : ¬ a < a := List.lt_irrefl a
theorem lt_tri (a b : List UInt8) (h : a ≠ b) : a < b ∨ b < a := by
  rcases List.le_total a b with h1 | h1
  · exact .inl (Classical.byContradiction fun hc => h (List.le_antisymm h1 hc))
  · exact .inr (Classical.byContradiction fun hc => h (List.le_antisymm hc h1))
theorem lt_asy {a b : List UInt8} (h : a < b) : ¬ b < a := List.lt_asymm h
theorem lt_tra {a b c : List UInt8} (h : a < b) (h' : b < c) : a < c := List.lt_trans h h'
theorem bl_not {s t : ByteArray} (h : s ≠ t) : bl t s = !bl s t := by
  rw [bl_lt, bl_lt]
  have hn : s.data.toList ≠ t.data.toList := fun e => h (bytes_ext e)
  rcases lt_tri _ _ hn with h1 | h1
  · rw [decide_eq_true h1, decide_eq_false (lt_asy h1)]; rfl
  · rw [decide_eq_true h1, decide_eq_false (lt_asy h1)]; rfl

mutual
theorem cmp_anti : ∀ (x y : V), cmpV y x = - cmpV x y
  | .mk k b n s l ks, .mk k' b' n' s' l' ks' => by
    rw [cmpV_mk, cmpV_mk]
    by_cases q1 : k = k'
    · subst q1
      simp only [ne_eq, not_true_eq_false, if_false]
      by_cases q2 : b = b'
      · subst q2
        simp only [not_true_eq_false, if_false]
        by_cases q3 : n = n'
        · subst q3
          simp only [not_true_eq_false, if_false]
          by_cases q4 : s = s'
          · subst q4
            simp only [not_true_eq_false, if_false]
            exact cmps_anti k l ks l' ks'
          · rw [if_pos q4, if_pos (Ne.symm q4), bl_not q4, ltI_not]
        · rw [if_pos q3, if_pos (Ne.symm q3)]
          rcases Int.lt_or_gt_of_ne q3 with h | h
          · rw [decide_eq_true h, decide_eq_false (by omega)]; rfl
          · rw [decide_eq_true h, decide_eq_false (by omega)]; rfl
      · rw [if_pos q2, if_pos (Ne.symm q2)]
        cases b <;> cases b' <;> simp_all [ltI]
    · rw [if_pos q1, if_pos (Ne.symm q1)]
      rcases Int.lt_or_gt_of_ne q1 with h | h
      · rw [decide_eq_true h, decide_eq_false (by omega)]; rfl
      · rw [decide_eq_true h, decide_eq_false (by omega)]; rfl
theorem cmps_anti (k : Int) : ∀ (l : List V) (ks : List ByteArray) (l' : List V) (ks' : List ByteArray), cmpVs k l' ks' l ks = - cmpVs k l ks l' ks'
  | [], ks, [], ks' => by simp [cmpVs]
  | [], ks, y :: t', ks' => by simp [cmpVs]
  | x :: t, ks, [], ks' => by simp [cmpVs]
  | x :: t, ks, y :: t', ks' => by
    rw [cmpVs, cmpVs]
    by_cases q : k = 5 ∧ ks.headD E0 ≠ ks'.headD E0
    · rw [if_pos q, if_pos ⟨q.1, Ne.symm q.2⟩, bl_not q.2, ltI_not]
    · rw [if_neg q, if_neg (fun h => q ⟨h.1, Ne.symm h.2⟩), cmp_anti x y]
      by_cases h : cmpV x y = 0
      · rw [h, if_neg (by simp), if_neg (by simp)]
        exact cmps_anti k t ks.tail t' ks'.tail
      · rw [if_pos (by omega), if_pos h]
end

/-- What compare reads of a tree is all there is: keys just in objects, one for each part. -/
def keyV : V → Prop := fun x => ∀ k b n s l ks, x = V.mk k b n s l ks → (k ≠ 5 → ks = []) ∧ (k = 5 → ks.length = l.length)
mutual
def okW : V → Prop | .mk k b n s l ks => ((k ≠ 5 → ks = []) ∧ (k = 5 → ks.length = l.length)) ∧ okWs l
def okWs : List V → Prop | [] => True | x :: t => okW x ∧ okWs t
end
mutual
theorem cmp_zero : ∀ (x y : V), okW x → okW y → cmpV x y = 0 → x = y
  | .mk k b n s l ks, .mk k' b' n' s' l' ks', hx, hy, h => by
    rw [cmpV_mk] at h
    by_cases q1 : k = k'
    · subst q1
      simp only [ne_eq, not_true_eq_false, if_false] at h
      by_cases q2 : b = b'
      · subst q2
        simp only [not_true_eq_false, if_false] at h
        by_cases q3 : n = n'
        · subst q3
          simp only [not_true_eq_false, if_false] at h
          by_cases q4 : s = s'
          · subst q4
            simp only [not_true_eq_false, if_false] at h
            unfold okW at hx hy
            by_cases h5 : k = 5
            · obtain ⟨e1, e2⟩ := cmps_zero k l ks l' ks' hx.2 hy.2 (fun _ => hx.1.2 h5) (fun _ => hy.1.2 h5) h
              rw [e1, e2 h5]
            · obtain ⟨e1, _⟩ := cmps_zero k l ks l' ks' hx.2 hy.2 (fun h => absurd h h5) (fun h => absurd h h5) h
              rw [e1, hx.1.1 h5, hy.1.1 h5]
          · rw [if_pos q4] at h; exact absurd h (ltI_ne _)
        · rw [if_pos q3] at h; exact absurd h (ltI_ne _)
      · rw [if_pos q2] at h; exact absurd h (ltI_ne _)
    · rw [if_pos q1] at h; exact absurd h (ltI_ne _)
theorem cmps_zero (k : Int) : ∀ (l : List V) (ks : List ByteArray) (l' : List V) (ks' : List ByteArray), okWs l → okWs l' → (k = 5 → ks.length = l.length) → (k = 5 → ks'.length = l'.length) → cmpVs k l ks l' ks' = 0 → l = l' ∧ (k = 5 → ks = ks')
  | [], ks, [], ks', _, _, h1, h2, _ => ⟨rfl, fun h => by
      have a := h1 h; have b := h2 h
      rw [List.eq_nil_of_length_eq_zero a, List.eq_nil_of_length_eq_zero b]⟩
  | [], ks, y :: t', ks', _, _, _, _, h => by simp [cmpVs] at h
  | x :: t, ks, [], ks', _, _, _, _, h => by simp [cmpVs] at h
  | x :: t, ks, y :: t', ks', hx, hy, h1, h2, h => by
    rw [cmpVs] at h
    unfold okWs at hx hy
    by_cases q : k = 5 ∧ ks.headD E0 ≠ ks'.headD E0
    · rw [if_pos q] at h; exact absurd h (ltI_ne _)
    · rw [if_neg q] at h
      by_cases hz : cmpV x y = 0
      · rw [if_neg (fun c => c hz)] at h
        have e0 := cmp_zero x y hx.1 hy.1 hz
        obtain ⟨e1, e2⟩ := cmps_zero k t ks.tail t' ks'.tail hx.2 hy.2 (fun h5 => by have := h1 h5; simp at this ⊢; omega) (fun h5 => by have := h2 h5; simp at this ⊢; omega) h
        refine ⟨by rw [e0, e1], fun h5 => ?_⟩
        have hk : ks.headD E0 = ks'.headD E0 := Classical.byContradiction fun c => q ⟨h5, c⟩
        have l1 := h1 h5
        have l2 := h2 h5
        match ks, ks', l1, l2 with
        | a :: p, b :: r, _, _ =>
          have := e2 h5
          simp only [List.headD_cons, List.tail_cons] at hk this
          rw [hk, this]
      · rw [if_pos hz] at h; exact absurd h hz
end
theorem cmp_self (x : V) : cmpV x x = 0 := by have := cmp_anti x x; omega
mutual
theorem cmp_range : ∀ (x y : V), cmpV x y = -1 ∨ cmpV x y = 0 ∨ cmpV x y = 1
  | .mk k b n s l ks, .mk k' b' n' s' l' ks' => by
    rw [cmpV_mk]
    have h := fun c => ltI_cases c
    split
    · rcases h (decide (k < k')) with e | e <;> rw [e] <;> simp
    · split
      · rcases h b' with e | e <;> rw [e] <;> simp
      · split
        · rcases h (decide (n < n')) with e | e <;> rw [e] <;> simp
        · split
          · rcases h (bl s s') with e | e <;> rw [e] <;> simp
          · exact cmps_range k l ks l' ks'
theorem cmps_range (k : Int) : ∀ (l : List V) (ks : List ByteArray) (l' : List V) (ks' : List ByteArray), cmpVs k l ks l' ks' = -1 ∨ cmpVs k l ks l' ks' = 0 ∨ cmpVs k l ks l' ks' = 1
  | [], ks, [], ks' => by simp [cmpVs]
  | [], ks, y :: t', ks' => by simp [cmpVs]
  | x :: t, ks, [], ks' => by simp [cmpVs]
  | x :: t, ks, y :: t', ks' => by
    rw [cmpVs]
    split
    · rcases ltI_cases (bl (ks.headD E0) (ks'.headD E0)) with e | e <;> rw [e] <;> simp
    · split
      · exact cmp_range x y
      · exact cmps_range k t ks.tail t' ks'.tail
end
theorem bl_tra {s t u : ByteArray} (h : bl s t = true) (h' : bl t u = true) : bl s u = true := by
  rw [bl_lt] at h h' ⊢
  exact decide_eq_true (lt_tra (of_decide_eq_true h) (of_decide_eq_true h'))
theorem bl_ne {s t : ByteArray} (h : bl s t = true) : s ≠ t := by
  rintro rfl
  rw [bl_lt] at h
  exact lt_irr _ (of_decide_eq_true h)
theorem ltI_m1 {c : Bool} (h : ltI c = -1) : c = true := by cases c <;> simp_all [ltI]
/-- Below the head: the same branch of the order of rows of parts. -/
theorem cmps_cons (k : Int) (x y : V) (t t' : List V) (ks ks' : List ByteArray) : cmpVs k (x :: t) ks (y :: t') ks' = -1 ↔ (k = 5 ∧ bl (ks.headD E0) (ks'.headD E0) = true) ∨ (¬ (k = 5 ∧ ks.headD E0 ≠ ks'.headD E0) ∧ (cmpV x y = -1 ∨ cmpV x y = 0 ∧ cmpVs k t ks.tail t' ks'.tail = -1)) := by
  rw [cmpVs]
  by_cases q : k = 5 ∧ ks.headD E0 ≠ ks'.headD E0
  · rw [if_pos q]
    constructor
    · exact fun h => .inl ⟨q.1, ltI_m1 h⟩
    · rintro (⟨_, h⟩ | ⟨h, _⟩)
      · rw [h]; rfl
      · exact absurd q h
  · rw [if_neg q]
    by_cases hz : cmpV x y = 0
    · rw [if_neg (fun c => c hz)]
      constructor
      · exact fun h => .inr ⟨q, .inr ⟨hz, h⟩⟩
      · rintro (⟨h5, h⟩ | ⟨_, h | ⟨_, h⟩⟩)
        · exact absurd ⟨h5, bl_ne h⟩ q
        · omega
        · exact h
    · rw [if_pos hz]
      constructor
      · exact fun h => .inr ⟨q, .inl h⟩
      · rintro (⟨h5, h⟩ | ⟨_, h | ⟨h, _⟩⟩)
        · exact absurd ⟨h5, bl_ne h⟩ q
        · exact h
        · exact absurd h hz
mutual
theorem cmp_tra : ∀ (x y z : V), okW x → okW y → okW z → cmpV x y = -1 → cmpV y z = -1 → cmpV x z = -1
  | .mk k b n s l ks, .mk k' b' n' s' l' ks', .mk k2 b2 n2 s2 l2 ks2, hx, hy, hz, h, h' => by
    rw [cmpV_mk] at h h' ⊢
    by_cases q1 : k = k'
    · subst q1
      by_cases r1 : k = k2
      · subst r1
        simp only [ne_eq, not_true_eq_false, if_false] at h h' ⊢
        by_cases q2 : b = b'
        · subst q2
          by_cases r2 : b = b2
          · subst r2
            simp only [not_true_eq_false, if_false] at h h' ⊢
            by_cases q3 : n = n'
            · subst q3
              by_cases r3 : n = n2
              · subst r3
                simp only [not_true_eq_false, if_false] at h h' ⊢
                by_cases q4 : s = s'
                · subst q4
                  by_cases r4 : s = s2
                  · subst r4
                    simp only [not_true_eq_false, if_false] at h h' ⊢
                    unfold okW at hx hy hz
                    exact cmps_tra k l ks l' ks' l2 ks2 hx.2 hy.2 hz.2 h h'
                  · rw [if_pos r4] at h' ⊢
                    exact h'
                · rw [if_pos q4] at h
                  by_cases r4 : s' = s2
                  · subst r4
                    rw [if_pos q4]; exact h
                  · rw [if_pos r4] at h'
                    have := bl_tra (ltI_m1 h) (ltI_m1 h')
                    rw [if_pos (bl_ne this), this]; rfl
              · rw [if_pos r3] at h' ⊢; exact h'
            · rw [if_pos q3] at h
              have a := of_decide_eq_true (ltI_m1 h)
              by_cases r3 : n' = n2
              · subst r3
                rw [if_pos q3]; exact h
              · rw [if_pos r3] at h'
                have c := of_decide_eq_true (ltI_m1 h')
                rw [if_pos (by omega), decide_eq_true (by omega)]; rfl
          · rw [if_pos r2] at h' ⊢; exact h'
        · rw [if_pos q2] at h
          have a := ltI_m1 h
          subst a
          by_cases r2 : (true : Bool) = b2
          · subst r2
            rw [if_pos q2]; exact h
          · rw [if_pos r2] at h'
            have c := ltI_m1 h'
            exact absurd c.symm r2
      · rw [if_pos r1] at h' ⊢; exact h'
    · rw [if_pos q1] at h
      have a := of_decide_eq_true (ltI_m1 h)
      by_cases r1 : k' = k2
      · subst r1
        rw [if_pos q1]; exact h
      · rw [if_pos r1] at h'
        have c := of_decide_eq_true (ltI_m1 h')
        rw [if_pos (by omega), decide_eq_true (by omega)]; rfl
theorem cmps_tra (k : Int) : ∀ (l : List V) (ks : List ByteArray) (l' : List V) (ks' : List ByteArray) (l2 : List V) (ks2 : List ByteArray), okWs l → okWs l' → okWs l2 → cmpVs k l ks l' ks' = -1 → cmpVs k l' ks' l2 ks2 = -1 → cmpVs k l ks l2 ks2 = -1
  | [], ks, [], ks', l2, ks2, _, _, _, h, _ => by simp [cmpVs] at h
  | [], ks, y :: t', ks', [], ks2, _, _, _, _, h' => by simp [cmpVs] at h'
  | [], ks, y :: t', ks', z :: t2, ks2, _, _, _, _, _ => by simp [cmpVs]
  | x :: t, ks, [], ks', l2, ks2, _, _, _, h, _ => by simp [cmpVs] at h
  | x :: t, ks, y :: t', ks', [], ks2, _, _, _, _, h' => by simp [cmpVs] at h'
  | x :: t, ks, y :: t', ks', z :: t2, ks2, hx, hy, hz, h, h' => by
    rw [cmps_cons] at h h' ⊢
    unfold okWs at hx hy hz
    rcases h with ⟨h5, h⟩ | ⟨hq, h⟩
    · rcases h' with ⟨_, h'⟩ | ⟨hq', _⟩
      · exact .inl ⟨h5, bl_tra h h'⟩
      · have e : ks'.headD E0 = ks2.headD E0 := Classical.byContradiction fun c => hq' ⟨h5, c⟩
        exact .inl ⟨h5, e ▸ h⟩
    · rcases h' with ⟨h5, h'⟩ | ⟨hq', h'⟩
      · have e : ks.headD E0 = ks'.headD E0 := Classical.byContradiction fun c => hq ⟨h5, c⟩
        exact .inl ⟨h5, e.symm ▸ h'⟩
      · refine .inr ⟨fun c => ?_, ?_⟩
        · have e1 : ks.headD E0 = ks'.headD E0 := Classical.byContradiction fun d => hq ⟨c.1, d⟩
          have e2 : ks'.headD E0 = ks2.headD E0 := Classical.byContradiction fun d => hq' ⟨c.1, d⟩
          exact c.2 (e1.trans e2)
        · rcases h with h | ⟨h0, h⟩
          · rcases h' with h' | ⟨h0', _⟩
            · exact .inl (cmp_tra x y z hx.1 hy.1 hz.1 h h')
            · have e := cmp_zero y z hy.1 hz.1 h0'
              exact .inl (e ▸ h)
          · have e := cmp_zero x y hx.1 hy.1 h0
            subst e
            rcases h' with h' | ⟨h0', h'⟩
            · exact .inl h'
            · exact .inr ⟨h0', cmps_tra k t ks.tail t' ks'.tail t2 ks2.tail hx.2 hy.2 hz.2 h h'⟩
end
mutual
theorem okw_of_wrong : ∀ x : V, wrongV x = 0 → okW x
  | .mk k b n s l ks, h => by
    have ho : ownW (.mk k b n s l ks) = 0 := by
      refine Classical.byContradiction fun hc => ?_
      rw [wrongV, if_neg hc] at h
      exact hc h
    rw [wrongV, if_pos ho] at h
    have hp : plainB (.mk k b n s l ks) = true := by
      cases e : plainB (.mk k b n s l ks) with
      | true => rfl
      | false => rw [ownW_mk, e, if_pos rfl] at ho; omega
    have hq := plain_eq hp
    unfold okW
    exact ⟨⟨fun h5 => List.eq_nil_of_length_eq_zero (hq.2.2.2.2.2.2 h5), hq.2.2.2.2.2.1⟩, okws_of_wrong l h⟩
theorem okws_of_wrong : ∀ l : List V, wrongVs l = 0 → okWs l
  | [], _ => by unfold okWs; trivial
  | x :: t, h => by
    have h1 : wrongV x = 0 := by
      refine Classical.byContradiction fun hc => ?_
      rw [wrongVs, if_neg hc] at h
      exact hc h
    rw [wrongVs, if_pos h1] at h
    unfold okWs
    exact ⟨okw_of_wrong x h1, okws_of_wrong t h⟩
end

/-- A pair put among pairs whose keys rise. -/
def ins (key : ByteArray) (x : V) : List (ByteArray × V) → List (ByteArray × V)
  | [] => [(key, x)]
  | p :: r => if bl p.1 key then p :: ins key x r else (key, x) :: p :: r
/-- Pairs put one after another among those that are there. -/
def insAll : List (ByteArray × V) → List (ByteArray × V) → List (ByteArray × V)
  | acc, [] => acc
  | acc, p :: r => insAll (ins p.1 p.2 acc) r
mutual
/-- Sorted: objects' keys rising, at every depth. -/
def sortV : V → V
  | .mk k b n s l ks => if k = 4 then .mk k b n s (sortVs l) [] else .mk k b n s ((insAll [] (ks.zip (sortVs l))).map (·.2)) ((insAll [] (ks.zip (sortVs l))).map (·.1))
def sortVs : List V → List V | [] => [] | x :: t => sortV x :: sortVs t
end
def rises : List (ByteArray × V) → Prop
  | [] => True
  | p :: r => (∀ q ∈ r, bl p.1 q.1 = true) ∧ rises r
theorem ins_mem (key : ByteArray) (x : V) : ∀ (l : List (ByteArray × V)) (q : ByteArray × V), q ∈ ins key x l ↔ q = (key, x) ∨ q ∈ l
  | [], q => by simp [ins]
  | p :: r, q => by
    rw [ins]
    split
    · rw [List.mem_cons, ins_mem key x r q, List.mem_cons]
      constructor
      · rintro (h | h | h)
        · exact .inr (.inl h)
        · exact .inl h
        · exact .inr (.inr h)
      · rintro (h | h | h)
        · exact .inr (.inl h)
        · exact .inl h
        · exact .inr (.inr h)
    · rw [List.mem_cons]
theorem ins_rises (key : ByteArray) (x : V) : ∀ (l : List (ByteArray × V)), rises l → (∀ q ∈ l, q.1 ≠ key) → rises (ins key x l)
  | [], _, _ => by simp [ins, rises]
  | p :: r, h, hn => by
    rw [ins]
    unfold rises at h
    by_cases hb : bl p.1 key = true
    · rw [if_pos hb]
      unfold rises
      refine ⟨fun q hq => ?_, ins_rises key x r h.2 (fun q hq => hn q (List.mem_cons_of_mem _ hq))⟩
      rcases (ins_mem key x r q).1 hq with rfl | hq
      · exact hb
      · exact h.1 q hq
    · rw [if_neg hb]
      have hpk := hn p List.mem_cons_self
      have hk : bl key p.1 = true := by
        rw [bl_not hpk]
        cases e : bl p.1 key with
        | true => exact absurd e hb
        | false => rfl
      unfold rises
      refine ⟨fun q hq => ?_, ?_⟩
      · rcases List.mem_cons.1 hq with rfl | hq
        · exact hk
        · exact bl_tra hk (h.1 q hq)
      · unfold rises; exact h
/-- Rising pairs put one after another stay as they are. -/
theorem ins_last (key : ByteArray) (x : V) : ∀ (l : List (ByteArray × V)), (∀ q ∈ l, bl q.1 key = true) → ins key x l = l ++ [(key, x)]
  | [], _ => rfl
  | p :: r, h => by
    rw [ins, if_pos (h p List.mem_cons_self), ins_last key x r (fun q hq => h q (List.mem_cons_of_mem _ hq))]; rfl
theorem insAll_rises : ∀ (l acc : List (ByteArray × V)), rises l → (∀ p ∈ acc, ∀ q ∈ l, bl p.1 q.1 = true) → insAll acc l = acc ++ l
  | [], acc, _, _ => by simp [insAll]
  | p :: r, acc, h, ha => by
    unfold rises at h
    rw [insAll, ins_last p.1 p.2 acc (fun q hq => ha q hq p List.mem_cons_self)]
    rw [insAll_rises r _ h.2 (fun a hm q hq => ?_)]
    · simp
    · rcases List.mem_append.1 hm with hm | hm
      · exact ha a hm q (List.mem_cons_of_mem _ hq)
      · simp only [List.mem_singleton] at hm
        subst hm
        exact h.1 q hq
theorem insAll_mem : ∀ (l acc : List (ByteArray × V)) (q : ByteArray × V), q ∈ insAll acc l ↔ q ∈ acc ∨ q ∈ l
  | [], acc, q => by simp [insAll]
  | p :: r, acc, q => by
    rw [insAll, insAll_mem r _ q, ins_mem, List.mem_cons]
    constructor
    · rintro ((h | h) | h)
      · exact .inr (.inl h)
      · exact .inl h
      · exact .inr (.inr h)
    · rintro (h | h | h)
      · exact .inl (.inr h)
      · exact .inl (.inl h)
      · exact .inr h
theorem insAll_all : ∀ (l acc : List (ByteArray × V)), rises acc → (l.map (·.1)).Nodup → (∀ p ∈ acc, ∀ q ∈ l, p.1 ≠ q.1) → rises (insAll acc l)
  | [], acc, h, _, _ => by simpa [insAll] using h
  | p :: r, acc, h, hn, ha => by
    rw [List.map_cons, List.nodup_cons] at hn
    rw [insAll]
    refine insAll_all r _ (ins_rises p.1 p.2 acc h (fun q hq => ha q hq p List.mem_cons_self)) hn.2 (fun a hm q hq => ?_)
    rcases (ins_mem p.1 p.2 acc a).1 hm with rfl | hm
    · exact fun e => hn.1 (List.mem_map.2 ⟨q, hq, e.symm⟩)
    · exact ha a hm q (List.mem_cons_of_mem _ hq)
theorem ins_len (key : ByteArray) (x : V) : ∀ (l : List (ByteArray × V)), (ins key x l).length = l.length + 1
  | [] => rfl
  | p :: r => by
    rw [ins]
    split
    · rw [List.length_cons, ins_len key x r, List.length_cons]
    · simp
theorem insAll_len : ∀ (l acc : List (ByteArray × V)), (insAll acc l).length = acc.length + l.length
  | [], acc => by simp [insAll]
  | p :: r, acc => by rw [insAll, insAll_len r, ins_len, List.length_cons]; omega
theorem sortVs_map : ∀ l : List V, sortVs l = l.map sortV
  | [] => by rw [sortVs]; rfl
  | x :: t => by rw [sortVs, sortVs_map t]; rfl
theorem zip_unzip : ∀ (P : List (ByteArray × V)), (P.map (·.1)).zip (P.map (·.2)) = P
  | [] => rfl
  | p :: r => by simp only [List.map_cons, List.zip_cons_cons, zip_unzip r]
/-- What is not wrong: the whole's own part. -/
theorem own_of_wrong {k : Int} {b : Bool} {n : Int} {s : ByteArray} {l : List V} {ks : List ByteArray} (h : wrongV (.mk k b n s l ks) = 0) : plainP (.mk k b n s l ks) ∧ (-9007199254740992 ≤ n ∧ n ≤ 9007199254740992) ∧ validS s = true ∧ ks.all validS = true ∧ ks.Nodup ∧ wrongVs l = 0 := by
  have ho : ownW (.mk k b n s l ks) = 0 := by
    refine Classical.byContradiction fun hc => ?_
    rw [wrongV, if_neg hc] at h
    exact hc h
  rw [wrongV, if_pos ho] at h
  rw [ownW_mk] at ho
  cases hp : plainB (.mk k b n s l ks) with
  | false => rw [hp, if_pos rfl] at ho; omega
  | true =>
    rw [hp, if_neg (by simp)] at ho
    by_cases hn : n < -9007199254740992 ∨ 9007199254740992 < n
    · rw [if_pos hn] at ho; omega
    rw [if_neg hn] at ho
    cases hv : validS s with
    | false => rw [hv, if_pos rfl] at ho; omega
    | true =>
      rw [hv, if_neg (by simp)] at ho
      cases ha : ks.all validS with
      | false => rw [ha, if_pos rfl] at ho; omega
      | true =>
        rw [ha, if_neg (by simp)] at ho
        cases hd : onceB ks with
        | false => rw [hd, if_pos rfl] at ho; omega
        | true => exact ⟨plain_eq hp, by omega, rfl, rfl, @of_decide_eq_true _ (Classical.propDecidable _) hd, h⟩
theorem wrongVs_mem : ∀ (l : List V), wrongVs l = 0 → ∀ y ∈ l, wrongV y = 0
  | x :: t, h, y, hy => by
    have h1 : wrongV x = 0 := by
      refine Classical.byContradiction fun hc => ?_
      rw [wrongVs, if_neg hc] at h
      exact hc h
    rw [wrongVs, if_pos h1] at h
    rcases List.mem_cons.1 hy with rfl | hy
    · exact h1
    · exact wrongVs_mem t h y hy
theorem zip_keys {ks : List ByteArray} {l : List V} (h : ks.length = l.length) : (ks.zip l).map (·.1) = ks := by
  rw [List.map_fst_zip]; omega
theorem zip_vals {ks : List ByteArray} {l : List V} (h : ks.length = l.length) : (ks.zip l).map (·.2) = l := by
  rw [List.map_snd_zip]; omega
/-- The sorted pairs of an object that may be: rising. -/
theorem sort_rises {ks : List ByteArray} {l : List V} (h : ks.length = l.length) (hd : ks.Nodup) : rises (insAll [] (ks.zip l)) :=
  insAll_all _ _ (by unfold rises; trivial) (by rw [zip_keys h]; exact hd) (fun p hp => by cases hp)
theorem insAll_nil : insAll [] [] = [] := rfl
/-- Sorting again leaves it as it is. -/
theorem sort_again_aux : ∀ (N : Nat) (x : V), sizeV x ≤ N → wrongV x = 0 → sortV (sortV x) = sortV x
  | 0, x, h, _ => absurd (sizeV_pos x) (by omega)
  | N + 1, .mk k b n s l ks, hN, h => by
    obtain ⟨hp, _, _, _, hd, hl⟩ := own_of_wrong h
    have hsz : sizeV (.mk k b n s l ks) = 1 + s.size + keysS ks + sizeVs l := by rw [sizeV]
    have hfix : ∀ y ∈ sortVs l, sortV y = y := fun y hy => by
      rw [sortVs_map] at hy
      obtain ⟨z, hz, rfl⟩ := List.mem_map.1 hy
      obtain ⟨q, hq, rfl⟩ := List.getElem_of_mem hz
      exact sort_again_aux N _ (by have := sizeVs_get l q hq; omega) (wrongVs_mem l hl _ (List.getElem_mem hq))
    by_cases h4 : k = 4
    · rw [sortV, if_pos h4, sortV, if_pos h4, sortVs_map (sortVs l)]
      congr 1
      rw [List.map_congr_left hfix, List.map_id']
    · have hlen : ks.length = l.length := by
        by_cases h5 : k = 5
        · exact hp.2.2.2.2.2.1 h5
        · have h0 : l = [] := Classical.byContradiction fun hc => by
            rcases hp.2.2.2.2.1 hc with h | h
            · exact h4 h
            · exact h5 h
          rw [hp.2.2.2.2.2.2 h5, h0]; rfl
      have hlen2 : ks.length = (sortVs l).length := by rw [sortVs_map, List.length_map]; exact hlen
      have hr := sort_rises hlen2 hd
      rw [sortV, if_neg h4]
      obtain ⟨P, hP⟩ : ∃ P, insAll [] (ks.zip (sortVs l)) = P := ⟨_, rfl⟩
      have hmem : ∀ p ∈ P, sortV p.2 = p.2 := fun p hp' => by
        rw [← hP, insAll_mem] at hp'
        rcases hp' with hp' | hp'
        · cases hp'
        · exact hfix _ (List.of_mem_zip hp').2
      rw [hP] at hr ⊢
      rw [sortV, if_neg h4, sortVs_map, List.map_map]
      have hm : P.map (sortV ∘ fun p => p.2) = P.map (·.2) := List.map_congr_left hmem
      rw [hm, zip_unzip, insAll_rises P [] hr (fun p hp => by cases hp), List.nil_append]
theorem sort_again {x : V} (h : wrongV x = 0) : sortV (sortV x) = sortV x := sort_again_aux _ x (Nat.le_refl _) h
theorem wrong_of_own {k : Int} {b : Bool} {n : Int} {s : ByteArray} {l : List V} {ks : List ByteArray} (h1 : plainP (.mk k b n s l ks)) (h2 : -9007199254740992 ≤ n ∧ n ≤ 9007199254740992) (h3 : validS s = true) (h4 : ks.all validS = true) (h5 : ks.Nodup) (h6 : wrongVs l = 0) : wrongV (.mk k b n s l ks) = 0 := by
  have hn : ¬ (n < -9007199254740992 ∨ 9007199254740992 < n) := by omega
  have ho : ownW (.mk k b n s l ks) = 0 := by
    rw [ownW_mk, plain_yes h1, h3, h4, once_yes h5]
    simp only [Bool.true_eq_false, if_false, hn]
  rw [wrongV, if_pos ho]
  exact h6
theorem wrongVs_of_mem (l : List V) (h : ∀ y ∈ l, wrongV y = 0) : wrongVs l = 0 := wrongVs_none l (fun q hq => h _ (List.getElem_mem hq))
theorem rises_nodup : ∀ (P : List (ByteArray × V)), rises P → (P.map (·.1)).Nodup
  | [], _ => by simp
  | p :: r, h => by
    unfold rises at h
    rw [List.map_cons, List.nodup_cons]
    refine ⟨fun hm => ?_, rises_nodup r h.2⟩
    obtain ⟨q, hq, e⟩ := List.mem_map.1 hm
    exact bl_ne (h.1 q hq) e.symm
/-- Of what may be there are as many keys as parts, but for a list. -/
theorem keys_as_parts {k : Int} {b : Bool} {n : Int} {s : ByteArray} {l : List V} {ks : List ByteArray} (hp : plainP (.mk k b n s l ks)) (h4 : k ≠ 4) : ks.length = l.length := by
  by_cases h5 : k = 5
  · exact hp.2.2.2.2.2.1 h5
  · have h0 : l = [] := Classical.byContradiction fun hc => by
      rcases hp.2.2.2.2.1 hc with h | h
      · exact h4 h
      · exact h5 h
    rw [hp.2.2.2.2.2.2 h5, h0]; rfl
theorem sort_ok_aux : ∀ (N : Nat) (x : V), sizeV x ≤ N → wrongV x = 0 → wrongV (sortV x) = 0
  | 0, x, h, _ => absurd (sizeV_pos x) (by omega)
  | N + 1, .mk k b n s l ks, hN, h => by
    obtain ⟨hp, hn, hv, ha, hd, hl⟩ := own_of_wrong h
    have hsz : sizeV (.mk k b n s l ks) = 1 + s.size + keysS ks + sizeVs l := by rw [sizeV]
    have hin : ∀ y ∈ sortVs l, wrongV y = 0 := fun y hy => by
      rw [sortVs_map] at hy
      obtain ⟨z, hz, rfl⟩ := List.mem_map.1 hy
      obtain ⟨q, hq, rfl⟩ := List.getElem_of_mem hz
      exact sort_ok_aux N _ (by have := sizeVs_get l q hq; omega) (wrongVs_mem l hl _ (List.getElem_mem hq))
    obtain ⟨p1, p2, p3, p4, p5, p6, p7⟩ := hp
    have hp0 : plainP (.mk k b n s l ks) := ⟨p1, p2, p3, p4, p5, p6, p7⟩
    by_cases h4 : k = 4
    · rw [sortV, if_pos h4]
      refine wrong_of_own ⟨p1, p2, p3, p4, fun _ => .inl h4, fun h5 => by omega, fun _ => rfl⟩ hn hv (by simp) (by simp) (wrongVs_of_mem _ hin)
    · have hlen := keys_as_parts hp0 h4
      have hlen2 : ks.length = (sortVs l).length := by rw [sortVs_map, List.length_map]; exact hlen
      have hr := sort_rises hlen2 hd
      have hPl : (insAll [] (ks.zip (sortVs l))).length = l.length := by
        rw [insAll_len, List.length_zip, ← hlen2, hlen]; simp
      have hmem : ∀ p ∈ insAll [] (ks.zip (sortVs l)), p.1 ∈ ks ∧ p.2 ∈ sortVs l := fun p hp' => by
        rw [insAll_mem] at hp'
        rcases hp' with hp' | hp'
        · cases hp'
        · exact List.of_mem_zip hp'
      rw [sortV, if_neg h4]
      generalize insAll [] (ks.zip (sortVs l)) = P at *
      have hk0 : k ≠ 5 → P.length = 0 := fun h5 => by
        have := p7 h5; omega
      refine wrong_of_own ⟨p1, p2, p3, p4, fun hc => ?_, fun _ => by simp, fun h5 => by rw [List.length_map]; exact hk0 h5⟩ hn hv ?_ (rises_nodup P hr) (wrongVs_of_mem _ (fun y hy => ?_))
      · by_cases h5 : k = 5
        · exact .inr h5
        · have := List.eq_nil_of_length_eq_zero (hk0 h5)
          subst this
          exact absurd rfl hc
      · rw [List.all_eq_true]
        intro K hK
        obtain ⟨p, hp', rfl⟩ := List.mem_map.1 hK
        exact List.all_eq_true.1 ha _ (hmem p hp').1
      · obtain ⟨p, hp', rfl⟩ := List.mem_map.1 hy
        exact hin _ (hmem p hp').2
/-- What is sorted may be. -/
theorem sort_ok {x : V} (h : wrongV x = 0) : wrongV (sortV x) = 0 := sort_ok_aux _ x (Nat.le_refl _) h

def totP (l : List (ByteArray × V)) : Nat := (l.map fun p => countV p.2).sum
theorem ins_tot (key : ByteArray) (x : V) : ∀ (l : List (ByteArray × V)), totP (ins key x l) = countV x + totP l
  | [] => by simp [ins, totP]
  | p :: r => by
    rw [ins]
    split
    · have := ins_tot key x r
      simp only [totP, List.map_cons, List.sum_cons] at this ⊢
      omega
    · simp [totP]
theorem insAll_tot : ∀ (l acc : List (ByteArray × V)), totP (insAll acc l) = totP acc + totP l
  | [], acc => by simp [insAll, totP]
  | p :: r, acc => by
    rw [insAll, insAll_tot r, ins_tot]
    simp only [totP, List.map_cons, List.sum_cons]; omega
theorem countVs_sumO : ∀ l : List V, countVs l = (l.map countV).sum
  | [] => by rw [countVs]; rfl
  | x :: t => by rw [countVs, countVs_sumO t]; simp
theorem totP_vals (P : List (ByteArray × V)) : totP P = countVs (P.map (·.2)) := by rw [countVs_sumO, List.map_map]; rfl
theorem sort_count_aux : ∀ (N : Nat) (x : V), sizeV x ≤ N → wrongV x = 0 → countV (sortV x) = countV x
  | 0, x, h, _ => absurd (sizeV_pos x) (by omega)
  | N + 1, .mk k b n s l ks, hN, h => by
    obtain ⟨hp, _, _, _, _, hl⟩ := own_of_wrong h
    have hsz : sizeV (.mk k b n s l ks) = 1 + s.size + keysS ks + sizeVs l := by rw [sizeV]
    have hin : countVs (sortVs l) = countVs l := by
      rw [sortVs_map, countVs_sumO, countVs_sumO, List.map_map]
      congr 1
      refine List.map_congr_left (fun y hy => ?_)
      obtain ⟨q, hq, rfl⟩ := List.getElem_of_mem hy
      exact sort_count_aux N _ (by have := sizeVs_get l q hq; omega) (wrongVs_mem l hl _ (List.getElem_mem hq))
    by_cases h4 : k = 4
    · rw [sortV, if_pos h4, countV, countV, hin]
    · have hlen2 : ks.length = (sortVs l).length := by rw [sortVs_map, List.length_map]; exact keys_as_parts hp h4
      rw [sortV, if_neg h4, countV, countV, ← totP_vals, insAll_tot, totP_vals (ks.zip (sortVs l)), zip_vals hlen2, hin]
      simp [totP]
theorem sort_count {x : V} (h : wrongV x = 0) : countV (sortV x) = countV x := sort_count_aux _ x (Nat.le_refl _) h
def depO : List (ByteArray × V) → Nat | [] => 0 | p :: r => max (depthV p.2) (depO r)
theorem ins_dep (key : ByteArray) (x : V) : ∀ (l : List (ByteArray × V)), depO (ins key x l) = max (depthV x) (depO l)
  | [] => by simp [ins, depO]
  | p :: r => by
    rw [ins]
    split
    · have := ins_dep key x r
      simp only [depO] at this ⊢
      omega
    · simp only [depO]
theorem insAll_dep : ∀ (l acc : List (ByteArray × V)), depO (insAll acc l) = max (depO acc) (depO l)
  | [], acc => by simp [insAll, depO]
  | p :: r, acc => by
    rw [insAll, insAll_dep r, ins_dep]
    simp only [depO]; omega
theorem depP_vals : ∀ (P : List (ByteArray × V)), depO P = depthVs (P.map (·.2))
  | [] => by simp [depO, depthVs]
  | p :: r => by simp only [depO, List.map_cons, depthVs, depP_vals r]
theorem depthVs_map_eq (f : V → V) : ∀ (l : List V), (∀ y ∈ l, depthV (f y) = depthV y) → depthVs (l.map f) = depthVs l
  | [], _ => rfl
  | x :: t, h => by
    simp only [List.map_cons, depthVs]
    rw [h x List.mem_cons_self, depthVs_map_eq f t (fun y hy => h y (List.mem_cons_of_mem _ hy))]
theorem sort_depth_aux : ∀ (N : Nat) (x : V), sizeV x ≤ N → wrongV x = 0 → depthV (sortV x) = depthV x
  | 0, x, h, _ => absurd (sizeV_pos x) (by omega)
  | N + 1, .mk k b n s l ks, hN, h => by
    obtain ⟨hp, _, _, _, _, hl⟩ := own_of_wrong h
    have hsz : sizeV (.mk k b n s l ks) = 1 + s.size + keysS ks + sizeVs l := by rw [sizeV]
    have hin : depthVs (sortVs l) = depthVs l := by
      rw [sortVs_map]
      refine depthVs_map_eq sortV l (fun y hy => ?_)
      obtain ⟨q, hq, rfl⟩ := List.getElem_of_mem hy
      exact sort_depth_aux N _ (by have := sizeVs_get l q hq; omega) (wrongVs_mem l hl _ (List.getElem_mem hq))
    by_cases h4 : k = 4
    · rw [sortV, if_pos h4, depthV, depthV, hin]
    · have hlen2 : ks.length = (sortVs l).length := by rw [sortVs_map, List.length_map]; exact keys_as_parts hp h4
      rw [sortV, if_neg h4, depthV, depthV, ← depP_vals, insAll_dep, depP_vals (ks.zip (sortVs l)), zip_vals hlen2, hin]
      simp [depO]
theorem sort_depth {x : V} (h : wrongV x = 0) : depthV (sortV x) = depthV x := sort_depth_aux _ x (Nat.le_refl _) h
theorem check_zero {x : V} (h : checkV x = 0) : depthV x ≤ 24 ∧ wrongV x = 0 ∧ countV x ≤ 4096 := by
  unfold checkV at h
  by_cases h1 : 24 < depthV x
  · rw [if_pos h1] at h; omega
  rw [if_neg h1] at h
  by_cases h2 : wrongV x ≠ 0
  · rw [if_pos h2] at h; exact absurd h h2
  rw [if_neg h2] at h
  by_cases h3 : 4096 < countV x
  · rw [if_pos h3] at h; omega
  exact ⟨by omega, Decidable.not_not.1 h2, by omega⟩
theorem check_of {x : V} (h1 : depthV x ≤ 24) (h2 : wrongV x = 0) (h3 : countV x ≤ 4096) : checkV x = 0 := by
  unfold checkV
  rw [if_neg (by omega), if_neg (fun c => c h2), if_neg (by omega)]
/-- What is sorted may be, whole. -/
theorem check_sort {x : V} (h : checkV x = 0) : checkV (sortV x) = 0 := by
  obtain ⟨h1, h2, h3⟩ := check_zero h
  exact check_of (by rw [sort_depth h2]; exact h1) (sort_ok h2) (by rw [sort_count h2]; exact h3)
/-- Two values that may be are equal just if they are the same, sorted. -/
theorem equal_iff {x y : V} (hx : wrongV x = 0) (hy : wrongV y = 0) : cmpV (sortV x) (sortV y) = 0 ↔ sortV x = sortV y :=
  ⟨cmp_zero _ _ (okw_of_wrong _ (sort_ok hx)) (okw_of_wrong _ (sort_ok hy)), fun e => by rw [e]; exact cmp_self _⟩
end Go.Proofs.YtllkcldckehipaaGreatDoor

namespace Go.Proofs.YtllkcldckehipaaGreatDoor
open Go.RowKit Go.Shelf

/-- Between two rounds: the first parts, in the order of their keys. -/
def R5 (w : World) (cs zs : Array Value) (c0 c1 c2 c3 : Value) (l : List V) (ks : List ByteArray) (j : Nat) (wr : World) : Prop := ∃ ps : List Nat, ps.Perm (List.range j) ∧ ps.Pairwise (fun p q => bl (ks.getD p ⟨#[]⟩) (ks.getD q ⟨#[]⟩) = true) ∧
  ∃ ol cl ok ck xs, SGx w cs zs c0 c1 c2 c3 (ps.map (fun p => psortV (l.getD p default))) (ps.map (fun p => ks.getD p ⟨#[]⟩)) ol cl ok ck xs wr ∧ ((ps.map (fun p => ks.getD p ⟨#[]⟩) = [] ∧ ol = none ∧ cl = 0 ∧ ok = none ∧ ck = 0) ∨ ∃ al ak, ol = some al ∧ ok = some ak)

/-- A key is put between the others. -/
theorem SGx.keys {w w14 W W1 W2 y : World} {cs zs : Array Value} {c0 c1 c2 c3 : Value} {L : List V} {K K' : List ByteArray} {ol o1 o2 : Option Addr} {ak : Addr} {cl ck q n1 e1 e2 : Nat} {xs : List Value}
    (h : SGx w cs zs c0 c1 c2 c3 L K ol cl (some ak) ck xs w14) (hW : Below w14.heap.size w14 W)
    (g1 : W.grownBy W1 (Value.slice (some ak) q ck).ownBlock) (at1 : (Value.slice o1 n1 e1).ownBlock = (Value.slice (some ak) q ck).ownBlock ∨ (Value.slice o1 n1 e1).ownBlock = some W.heap.size)
    (own2 : W2.ownsRow (w.heap.size + 3) 9 1 (.slice o2 K'.length e2) K'.length (K'.map Value.string)) (g2 : W1.grownBy W2 (Value.slice o1 n1 e1).ownBlock)
    (at2 : (Value.slice o2 K'.length e2).ownBlock = (Value.slice o1 n1 e1).ownBlock ∨ (Value.slice o2 K'.length e2).ownBlock = some W1.heap.size)
    (hy : y.heap[w.heap.size + 1 + 1]? = some (.cells #[c0, c1, c2, c3, .slice ol L.length cl, .slice o2 K'.length e2] 26 (0, 0))) (gy : W2.grownBy y (some (w.heap.size + 1 + 1))) :
    SGx w cs zs c0 c1 c2 c3 L K' ol cl o2 e2 xs y ∧ (∀ p, p < w14.heap.size → p ≠ ak.block → p ≠ w.heap.size + 1 + 1 → y.heap[p]? = w14.heap[p]?) ∧ w14.heap.size ≤ y.heap.size := by
  obtain ⟨h1, h2, h3, h4, h5, h6, h7⟩ := h
  have hz : w.heap.size + 1 + 1 < w14.heap.size := (Array.getElem?_eq_some_iff.1 h4).1
  have hak : w.heap.size + 3 ≤ ak.block ∧ ak.block < w14.heap.size := h6.lt _ rfl
  have z1 := hW.size
  have z2 := g1.size
  have z3 := g2.size
  have z4 := gy.size
  have r1 : ∀ p, p < w14.heap.size → p ≠ ak.block → some p ≠ (Value.slice o1 n1 e1).ownBlock := fun p hp hne e => by
    rcases at1 with e' | e'
    · exact hne (Option.some.inj (e.trans e'))
    · have := Option.some.inj (e.trans e'); omega
  have r2 : ∀ p, p < w14.heap.size → p ≠ ak.block → some p ≠ (Value.slice o2 K'.length e2).ownBlock := fun p hp hne e => by
    rcases at2 with e' | e'
    · exact r1 p hp hne (e.trans e')
    · have := Option.some.inj (e.trans e'); omega
  have keep : ∀ p, p < w14.heap.size → p ≠ ak.block → p ≠ w.heap.size + 1 + 1 → y.heap[p]? = w14.heap[p]? := fun p hp hne h0 =>
    (gy.block p (by omega) (fun e => h0 (Option.some.inj e))).trans ((g2.block p (by omega) (r1 p hp hne)).trans ((g1.block p (by omega) (fun e => hne (Option.some.inj e))).trans (hW.block p hp)))
  have cellk : ∀ a c, (Apt w ol L.length cl (some ak) K.length ck a.block ∧ a.block < w14.heap.size) → w14.cell? a = some c → y.cell? a = some c := fun a c hq hc => by
    have hne : a.block ≠ ak.block := fun e => hq.1.2.2 (congrArg some e)
    have := keep a.block hq.2 hne (by have := hq.1.1; omega)
    unfold World.cell? at hc ⊢
    rw [this]
    exact hc
  have hbel : Below w.heap.size w y := (((h1.trans (hW.mono h1.size)).grown g1 (by have := h1.size; omega) (fun r e => by cases e; omega)).grown g2 (by have := h1.size; omega) (fun r e => by
    rcases at1 with e' | e'
    · have := Option.some.inj (e.symm.trans e'); omega
    · have := Option.some.inj (e.symm.trans e'); have := h1.size; omega)).grown gy (by have := h1.size; omega) (fun r e => by cases e; omega)
  have hrow : ∀ r, (Value.slice ol L.length cl).ownBlock = some r → r < w14.heap.size ∧ r ≠ ak.block ∧ r ≠ w.heap.size + 1 + 1 := fun r e => by
    have := h5.lt r e
    refine ⟨this.2, fun e' => ?_, by omega⟩
    rcases own_apart h5 h6 (by decide) with e'' | e''
    · rw [e''] at e; cases e
    · exact e'' (e.trans (congrArg some e'))
  refine ⟨⟨hbel, ?_, ?_, hy, ?_, own2.kept gy (.inr fun e => by have := own2.lt _ e; omega), ?_⟩, keep, by omega⟩
  · exact (keep _ (by omega) (by omega) (by omega)).trans h2
  · exact (keep _ (by omega) (by omega) (by omega)).trans h3
  · refine ⟨h5.1, ?_⟩
    rcases h5.2 with e | ⟨g, cap, cur, e, a1, a2, a3⟩
    · exact .inl e
    · have := hrow g (by rw [e]; rfl)
      exact .inr ⟨g, cap, cur, e, a1, (keep g this.1 this.2.1 this.2.2).trans a2, a3⟩
  · exact la_mono (fun p hp => ⟨hp.1.1, hp.1.2.1, r2 p hp.2 (fun e => hp.1.2.2 (congrArg some e))⟩) _ _ (la_keep cellk _ _ (la_lt _ _ h7))

end Go.Proofs.YtllkcldckehipaaGreatDoor

namespace Go.Proofs.YtllkcldckehipaaGreatDoor
open Go.RowKit Go.Shelf

/-- A key is put between the others. -/
theorem SGx.keysO {w w14 W W1 W2 y : World} {cs zs : Array Value} {c0 c1 c2 c3 : Value} {L : List V} {K K' : List ByteArray} {ol o1 o2 ok : Option Addr} {cl ck q n1 e1 e2 : Nat} {xs : List Value}
    (h : SGx w cs zs c0 c1 c2 c3 L K ol cl ok ck xs w14) (hW : Below w14.heap.size w14 W)
    (g1 : W.grownBy W1 (Value.slice ok q ck).ownBlock) (at1 : (Value.slice o1 n1 e1).ownBlock = (Value.slice ok q ck).ownBlock ∨ (Value.slice o1 n1 e1).ownBlock = some W.heap.size)
    (own2 : W2.ownsRow (w.heap.size + 3) 9 1 (.slice o2 K'.length e2) K'.length (K'.map Value.string)) (g2 : W1.grownBy W2 (Value.slice o1 n1 e1).ownBlock)
    (at2 : (Value.slice o2 K'.length e2).ownBlock = (Value.slice o1 n1 e1).ownBlock ∨ (Value.slice o2 K'.length e2).ownBlock = some W1.heap.size)
    (hy : y.heap[w.heap.size + 1 + 1]? = some (.cells #[c0, c1, c2, c3, .slice ol L.length cl, .slice o2 K'.length e2] 26 (0, 0))) (gy : W2.grownBy y (some (w.heap.size + 1 + 1))) :
    SGx w cs zs c0 c1 c2 c3 L K' ol cl o2 e2 xs y ∧ (∀ p, p < w14.heap.size → some p ≠ (Value.slice ok q ck).ownBlock → p ≠ w.heap.size + 1 + 1 → y.heap[p]? = w14.heap[p]?) ∧ w14.heap.size ≤ y.heap.size ∧ (∀ p, p < w14.heap.size → some p ≠ (Value.slice ok q ck).ownBlock → some p ≠ (Value.slice o2 K'.length e2).ownBlock) := by
  obtain ⟨h1, h2, h3, h4, h5, h6, h7⟩ := h
  have hz : w.heap.size + 1 + 1 < w14.heap.size := (Array.getElem?_eq_some_iff.1 h4).1
  have hof : (Value.slice ok q ck).ownBlock = (Value.slice ok K.length ck).ownBlock := by cases ok <;> rfl
  have hak : ∀ r, (Value.slice ok q ck).ownBlock = some r → w.heap.size + 3 ≤ r ∧ r < w14.heap.size := fun r e => h6.lt r (hof ▸ e)
  have z1 := hW.size
  have z2 := g1.size
  have z3 := g2.size
  have z4 := gy.size
  have r1 : ∀ p, p < w14.heap.size → some p ≠ (Value.slice ok q ck).ownBlock → some p ≠ (Value.slice o1 n1 e1).ownBlock := fun p hp hne e => by
    rcases at1 with e' | e'
    · exact hne (e.trans e')
    · have := Option.some.inj (e.trans e'); omega
  have r2 : ∀ p, p < w14.heap.size → some p ≠ (Value.slice ok q ck).ownBlock → some p ≠ (Value.slice o2 K'.length e2).ownBlock := fun p hp hne e => by
    rcases at2 with e' | e'
    · exact r1 p hp hne (e.trans e')
    · have := Option.some.inj (e.trans e'); omega
  have keep : ∀ p, p < w14.heap.size → some p ≠ (Value.slice ok q ck).ownBlock → p ≠ w.heap.size + 1 + 1 → y.heap[p]? = w14.heap[p]? := fun p hp hne h0 =>
    (gy.block p (by omega) (fun e => h0 (Option.some.inj e))).trans ((g2.block p (by omega) (r1 p hp hne)).trans ((g1.block p (by omega) hne).trans (hW.block p hp)))
  have cellk : ∀ a c, (Apt w ol L.length cl ok K.length ck a.block ∧ a.block < w14.heap.size) → w14.cell? a = some c → y.cell? a = some c := fun a c hq hc => by
    have hne : some a.block ≠ (Value.slice ok q ck).ownBlock := fun e => hq.1.2.2 (e.trans hof)
    have := keep a.block hq.2 hne (by have := hq.1.1; omega)
    unfold World.cell? at hc ⊢
    rw [this]
    exact hc
  have hbel : Below w.heap.size w y := (((h1.trans (hW.mono h1.size)).grown g1 (by have := h1.size; omega) (fun r e => by have := hak r e; omega)).grown g2 (by have := h1.size; omega) (fun r e => by
    rcases at1 with e' | e'
    · have := hak r (e'.symm.trans e); omega
    · have := Option.some.inj (e.symm.trans e'); have := h1.size; omega)).grown gy (by have := h1.size; omega) (fun r e => by cases e; omega)
  have hrow : ∀ r, (Value.slice ol L.length cl).ownBlock = some r → r < w14.heap.size ∧ some r ≠ (Value.slice ok q ck).ownBlock ∧ r ≠ w.heap.size + 1 + 1 := fun r e => by
    have := h5.lt r e
    refine ⟨this.2, fun e' => ?_, by omega⟩
    rcases own_apart h5 h6 (by decide) with e'' | e''
    · rw [e''] at e; cases e
    · exact e'' (e.trans (e'.trans hof))
  refine ⟨⟨hbel, ?_, ?_, hy, ?_, own2.kept gy (.inr fun e => by have := own2.lt _ e; omega), ?_⟩, keep, by omega, r2⟩
  · exact (keep _ (by omega) (fun e => by have := hak _ e.symm; omega) (by omega)).trans h2
  · exact (keep _ (by omega) (fun e => by have := hak _ e.symm; omega) (by omega)).trans h3
  · refine ⟨h5.1, ?_⟩
    rcases h5.2 with e | ⟨g, cap, cur, e, a1, a2, a3⟩
    · exact .inl e
    · have := hrow g (by rw [e]; rfl)
      exact .inr ⟨g, cap, cur, e, a1, (keep g this.1 this.2.1 this.2.2).trans a2, a3⟩
  · exact la_mono (fun p hp => ⟨hp.1.1, hp.1.2.1, r2 p hp.2 (fun e => hp.1.2.2 (e.trans hof))⟩) _ _ (la_keep cellk _ _ (la_lt _ _ h7))

/-- A part is put between the others. -/
theorem SGx.listsO {w w14 W W1 W2 y : World} {cs zs : Array Value} {c0 c1 c2 c3 : Value} {L L' : List V} {K : List ByteArray} {ok o1 o2 ol : Option Addr} {cl ck q n1 e1 e2 : Nat} {xs xs' : List Value}
    (h : SGx w cs zs c0 c1 c2 c3 L K ol cl ok ck xs w14) (hW : Below w14.heap.size w14 W)
    (g1 : W.grownBy W1 (Value.slice ol q cl).ownBlock) (at1 : (Value.slice o1 n1 e1).ownBlock = (Value.slice ol q cl).ownBlock ∨ (Value.slice o1 n1 e1).ownBlock = some W.heap.size)
    (own2 : W2.ownsRow (w.heap.size + 3) 26 6 (.slice o2 L'.length e2) L'.length xs') (g2 : W1.grownBy W2 (Value.slice o1 n1 e1).ownBlock)
    (at2 : (Value.slice o2 L'.length e2).ownBlock = (Value.slice o1 n1 e1).ownBlock ∨ (Value.slice o2 L'.length e2).ownBlock = some W1.heap.size)
    (hy : y.heap[w.heap.size + 1 + 1]? = some (.cells #[c0, c1, c2, c3, .slice o2 L'.length e2, .slice ok K.length ck] 26 (0, 0))) (gy : W2.grownBy y (some (w.heap.size + 1 + 1)))
    (hla : isVsLa w14 (Apt w ol L.length cl ok K.length ck) L' xs') :
    SGx w cs zs c0 c1 c2 c3 L' K o2 e2 ok ck xs' y := by
  obtain ⟨h1, h2, h3, h4, h5, h6, h7⟩ := h
  have hz : w.heap.size + 1 + 1 < w14.heap.size := (Array.getElem?_eq_some_iff.1 h4).1
  have hof : (Value.slice ol q cl).ownBlock = (Value.slice ol L.length cl).ownBlock := by cases ol <;> rfl
  have hal : ∀ r, (Value.slice ol q cl).ownBlock = some r → w.heap.size + 3 ≤ r ∧ r < w14.heap.size := fun r e => h5.lt r (hof ▸ e)
  have z1 := hW.size
  have z2 := g1.size
  have z3 := g2.size
  have z4 := gy.size
  have r1 : ∀ p, p < w14.heap.size → some p ≠ (Value.slice ol q cl).ownBlock → some p ≠ (Value.slice o1 n1 e1).ownBlock := fun p hp hne e => by
    rcases at1 with e' | e'
    · exact hne (e.trans e')
    · have := Option.some.inj (e.trans e'); omega
  have r2 : ∀ p, p < w14.heap.size → some p ≠ (Value.slice ol q cl).ownBlock → some p ≠ (Value.slice o2 L'.length e2).ownBlock := fun p hp hne e => by
    rcases at2 with e' | e'
    · exact r1 p hp hne (e.trans e')
    · have := Option.some.inj (e.trans e'); omega
  have keep : ∀ p, p < w14.heap.size → some p ≠ (Value.slice ol q cl).ownBlock → p ≠ w.heap.size + 1 + 1 → y.heap[p]? = w14.heap[p]? := fun p hp hne h0 =>
    (gy.block p (by omega) (fun e => h0 (Option.some.inj e))).trans ((g2.block p (by omega) (r1 p hp hne)).trans ((g1.block p (by omega) hne).trans (hW.block p hp)))
  have cellk : ∀ a c, (Apt w ol L.length cl ok K.length ck a.block ∧ a.block < w14.heap.size) → w14.cell? a = some c → y.cell? a = some c := fun a c hq hc => by
    have hne : some a.block ≠ (Value.slice ol q cl).ownBlock := fun e => hq.1.2.1 (e.trans hof)
    have := keep a.block hq.2 hne (by have := hq.1.1; omega)
    unfold World.cell? at hc ⊢
    rw [this]
    exact hc
  have hbel : Below w.heap.size w y := (((h1.trans (hW.mono h1.size)).grown g1 (by have := h1.size; omega) (fun r e => by have := hal r e; omega)).grown g2 (by have := h1.size; omega) (fun r e => by
    rcases at1 with e' | e'
    · have := hal r (e'.symm.trans e); omega
    · have := Option.some.inj (e.symm.trans e'); have := h1.size; omega)).grown gy (by have := h1.size; omega) (fun r e => by cases e; omega)
  have hrow : ∀ r, (Value.slice ok K.length ck).ownBlock = some r → r < w14.heap.size ∧ some r ≠ (Value.slice ol q cl).ownBlock ∧ r ≠ w.heap.size + 1 + 1 := fun r e => by
    have := h6.lt r e
    refine ⟨this.2, fun e' => ?_, by omega⟩
    rcases own_apart h6 h5 (by decide) with e'' | e''
    · rw [e''] at e; cases e
    · exact e'' (e.trans (e'.trans hof))
  refine ⟨hbel, ?_, ?_, hy, own2.kept gy (.inr fun e => by have := own2.lt _ e; omega), ?_, ?_⟩
  · exact (keep _ (by omega) (fun e => by have := hal _ e.symm; omega) (by omega)).trans h2
  · exact (keep _ (by omega) (fun e => by have := hal _ e.symm; omega) (by omega)).trans h3
  · refine ⟨h6.1, ?_⟩
    rcases h6.2 with e | ⟨g, cap, cur, e, a1, a2, a3⟩
    · exact .inl e
    · have := hrow g (by rw [e]; rfl)
      exact .inr ⟨g, cap, cur, e, a1, (keep g this.1 this.2.1 this.2.2).trans a2, a3⟩
  · exact la_mono (fun p hp => ⟨hp.1.1, r2 p hp.2 (fun e => hp.1.2.1 (e.trans hof)), hp.1.2.2⟩) _ _ (la_keep cellk _ _ (la_lt _ _ hla))

/-- A number is put where its key belongs. -/
theorem rise_put (g : Nat → ByteArray) {ps : List Nat} {j q : Nat} {K : List ByteArray} (hK : ps.map g = K) (hp : ps.Perm (List.range j)) (hu : ps.Pairwise (fun p r => bl (g p) (g r) = true)) (hinj : ∀ p, p < j → g p ≠ g j) (hq : q ≤ K.length)
    (h1 : ∀ r, r < q → ∀ (h : r < K.length), bl K[r] (g j) = true) (h2 : ∀ h : q < K.length, bl K[q] (g j) = false) :
    (ps.take q ++ [j] ++ ps.drop q).Perm (List.range (j + 1)) ∧ (ps.take q ++ [j] ++ ps.drop q).Pairwise (fun p r => bl (g p) (g r) = true) := by
  subst hK
  simp only [List.length_map, List.getElem_map] at hq h1 h2
  have hlt : ∀ p ∈ ps, p < j := fun p hm => List.mem_range.1 (hp.mem_iff.1 hm)
  constructor
  · have e1 : (ps.take q ++ [j] ++ ps.drop q).Perm (j :: (ps.take q ++ ps.drop q)) := by
      rw [List.append_assoc]
      exact List.perm_middle
    rw [List.take_append_drop] at e1
    rw [List.range_succ]
    exact e1.trans ((hp.cons j).trans (List.perm_append_singleton j (List.range j)).symm)
  · have hlow : ∀ p ∈ ps.take q, bl (g p) (g j) = true := fun p hm => by
      obtain ⟨i, hi, rfl⟩ := List.mem_iff_getElem.1 hm
      rw [List.length_take] at hi
      rw [List.getElem_take]
      exact h1 i (by omega) (by omega)
    have hpw := hu
    rw [← List.take_append_drop q ps, List.pairwise_append] at hpw
    have hhigh : ∀ p ∈ ps.drop q, bl (g j) (g p) = true := fun p hm => by
      obtain ⟨i, hi, rfl⟩ := List.mem_iff_getElem.1 hm
      rw [List.length_drop] at hi
      have hql : q < ps.length := by omega
      have h3 := h2 hql
      have h4 : bl (g j) (g ps[q]) = true := by
        rw [bl_not (hinj _ (hlt _ (List.getElem_mem hql))), h3]; rfl
      rw [List.getElem_drop]
      rcases Nat.eq_zero_or_pos i with rfl | hi0
      · exact h4
      · exact bl_tra h4 (List.pairwise_iff_getElem.1 hu q (q + i) hql (by omega) (by omega))
    rw [List.append_assoc, List.pairwise_append]
    refine ⟨hpw.1, ?_, fun p hm r hr => ?_⟩
    · rw [List.singleton_append, List.pairwise_cons]
      exact ⟨hhigh, hpw.2.1⟩
    · rw [List.singleton_append, List.mem_cons] at hr
      rcases hr with rfl | hr
      · exact hlow p hm
      · exact hpw.2.2 p hm r hr

/-- A part and its key put where the key belongs. -/
theorem R5.put {w y : World} {cs zs : Array Value} {c0 c1 c2 c3 : Value} {l : List V} {ks : List ByteArray} {j : Nat} {ps : List Nat} {L : List V} {K : List ByteArray} {q : Nat} {xe : V} {ke : ByteArray} {ol ok : Option Addr} {cl ck : Nat} {xs : List Value}
    (h : SGx w cs zs c0 c1 c2 c3 (L.take q ++ [psortV xe] ++ L.drop q) (K.take q ++ [ke] ++ K.drop q) ol cl ok ck xs y)
    (hLK : ps.map (fun p => psortV (l.getD p default)) = L ∧ ps.map (fun p => ks.getD p ⟨#[]⟩) = K) (hp : ps.Perm (List.range j)) (hu : ps.Pairwise (fun p q => bl (ks.getD p ⟨#[]⟩) (ks.getD q ⟨#[]⟩) = true))
    (hnd : ks.Nodup) (hlt : j < ks.length) (hxe : l.getD j default = xe) (hke : ks.getD j ⟨#[]⟩ = ke) (hq : q ≤ K.length)
    (h1 : ∀ r, r < q → ∀ (h : r < K.length), bl K[r] ke = true) (h2 : ∀ h : q < K.length, bl K[q] ke = false) : R5 w cs zs c0 c1 c2 c3 l ks (j + 1) y := by
  obtain ⟨hL, hK⟩ := hLK
  subst hxe hke
  have hinj : ∀ p, p < j → ks.getD p ⟨#[]⟩ ≠ ks.getD j ⟨#[]⟩ := fun p hpj e => by
    rw [getD_lt ks p _ (by omega), getD_lt ks j _ hlt] at e
    have := (List.pairwise_iff_getElem.1 hnd) p j (by omega) hlt hpj
    exact this e
  obtain ⟨r1, r2⟩ := rise_put (fun p => ks.getD p ⟨#[]⟩) hK hp hu hinj hq h1 h2
  have eL : (ps.take q ++ [j] ++ ps.drop q).map (fun p => psortV (l.getD p default)) = L.take q ++ [psortV (l.getD j default)] ++ L.drop q := by
    rw [List.map_append, List.map_append, List.map_take, List.map_drop, hL]; rfl
  have eK : (ps.take q ++ [j] ++ ps.drop q).map (fun p => ks.getD p ⟨#[]⟩) = K.take q ++ [ks.getD j ⟨#[]⟩] ++ K.drop q := by
    rw [List.map_append, List.map_append, List.map_take, List.map_drop, hK]; rfl
  refine ⟨ps.take q ++ [j] ++ ps.drop q, r1, r2, ol, cl, ok, ck, xs, by rw [eL, eK]; exact h, .inr ?_⟩
  obtain ⟨-, -, -, -, h5, h6, -⟩ := h
  have n5 : ∃ al, ol = some al := by
    rcases h5.2 with ⟨e, -⟩ | ⟨g, cap, cur, e, -⟩
    · injection e with e1 e2 e3
      simp at e2
    · injection e with e1 e2 e3
      exact ⟨_, e1⟩
  have n6 : ∃ ak, ok = some ak := by
    rcases h6.2 with ⟨e, -⟩ | ⟨g, cap, cur, e, -⟩
    · injection e with e1 e2 e3
      simp at e2
    · injection e with e1 e2 e3
      exact ⟨_, e1⟩
  obtain ⟨al, e1⟩ := n5
  obtain ⟨ak, e2⟩ := n6
  exact ⟨al, ak, e1, e2⟩
/-- The sorted object. -/
theorem psort_obj {b : Bool} {n : Int} {s : ByteArray} {l : List V} {ks : List ByteArray} {ps : List Nat} (hp : ps.Perm (List.range l.length)) (hu : ps.Pairwise (fun p q => bl (ks.getD p ⟨#[]⟩) (ks.getD q ⟨#[]⟩) = true)) (ho : onceV (.mk 5 b n s l ks)) :
    psortV (.mk 5 b n s l ks) = .mk 5 b n s (ps.map (fun p => psortV (l.getD p default))) (ps.map (fun p => ks.getD p ⟨#[]⟩)) := by
  refine (psort_eq (SortR.mk 5 b n s l ks _ _ ps ⟨hp, fun h => absurd rfl h, fun _ i j hi hj hc => ?_⟩ (by simp) (fun i hi => ?_) (by rw [if_pos rfl])) ho).symm
  · have h1 := (List.pairwise_iff_getElem.1 hu) i j (by omega) hj hi
    have h2 : bl (ks.getD ps[j] ⟨#[]⟩) (ks.getD (ps[i]'(by omega)) ⟨#[]⟩) = true := by
      rw [bl_lt]
      exact decide_eq_true ((cmpK_neg _ _).1 hc)
    exact bl_ne (bl_tra h1 h2) rfl
  · have hi' : i < ps.length := by simpa using hi
    rw [List.getElem_map, getD_lt ps i 0 hi']
    exact sort_p _
end Go.Proofs.YtllkcldckehipaaGreatDoor
