/-
  The order of trees, in plain mathematics: it is one; what is sorted may be, is sorted already, is as great and as deep.
-/
import Derived.Test.YtlamkadllbgamaaGreatDoorGD
set_option linter.unusedVariables false
set_option linter.unusedSimpArgs false
namespace Go.Proofs.YtlamkadllbgamaaGreatDoor
open Go.RowKit

theorem ltI_cases (c : Bool) : ltI c = -1 ∨ ltI c = 1 := by cases c <;> simp [ltI]
theorem ltI_ne (c : Bool) : ltI c ≠ 0 := by cases c <;> simp [ltI]
theorem ltI_not (c : Bool) : ltI (!c) = - ltI c := by cases c <;> simp [ltI]
theorem bl_eq : ∀ (x y : List UInt8), Op.bytesLess x y = decide (x < y)
  | [], [] => by simp [Op.bytesLess]
  | _ :: _, [] => by simp [Op.bytesLess]
  | [], _ :: _ => by simp [Op.bytesLess]
  | a :: x, b :: y => by
    rw [Op.bytesLess, bl_eq x y, Bool.eq_iff_iff]
    simp [List.cons_lt_cons_iff]
theorem bl_lt (s t : ByteArray) : bl s t = decide (s.data.toList < t.data.toList) := by
  unfold bl; rw [bl_eq, Lib.toList_data, Lib.toList_data]
theorem bytes_ext {s t : ByteArray} (h : s.data.toList = t.data.toList) : s = t := ByteArray.ext (by simpa using congrArg List.toArray h)
theorem lt_irr (a : List UInt8) : ¬ a < a := List.lt_irrefl a
theorem lt_tri (a b : List UInt8) (h : a ≠ b) : a < b ∨ b < a := by
  rcases List.le_total a b with h1 | h1
  · exact .inl (Classical.byContradiction fun hc => h (List.le_antisymm h1 hc))
  · exact .inr (Classical.byContradiction fun hc => h (List.le_antisymm hc h1))
theorem lt_asy {a b : List UInt8} (h : a < b) : ¬ b < a := List.lt_asymm h
theorem lt_tra {a b c : List UInt8} (h : a < b) (h' : b < c) : a < c := List.lt_trans h h'
theorem bl_not {s t : ByteArray} (h : s ≠ t) : bl t s = !bl s t := by
  rw [bl_lt, bl_lt]
  have hn : s.data.toList ≠ t.data.toList := fun e => h (bytes_ext e)
  rcases lt_tri _ _ hn with h1 | h1
  · rw [decide_eq_true h1, decide_eq_false (lt_asy h1)]; rfl
  · rw [decide_eq_true h1, decide_eq_false (lt_asy h1)]; rfl

mutual
theorem cmp_anti : ∀ (x y : V), cmpV y x = - cmpV x y
  | .mk k b n s l ks, .mk k' b' n' s' l' ks' => by
    rw [cmpV_mk, cmpV_mk]
    by_cases q1 : k = k'
    · subst q1
      simp only [ne_eq, not_true_eq_false, if_false]
      by_cases q2 : b = b'
      · subst q2
        simp only [not_true_eq_false, if_false]
        by_cases q3 : n = n'
        · subst q3
          simp only [not_true_eq_false, if_false]
          by_cases q4 : s = s'
          · subst q4
            simp only [not_true_eq_false, if_false]
            exact cmps_anti k l ks l' ks'
          · rw [if_pos q4, if_pos (Ne.symm q4), bl_not q4, ltI_not]
        · rw [if_pos q3, if_pos (Ne.symm q3)]
          rcases Int.lt_or_gt_of_ne q3 with h | h
          · rw [decide_eq_true h, decide_eq_false (by omega)]; rfl
          · rw [decide_eq_true h, decide_eq_false (by omega)]; rfl
      · rw [if_pos q2, if_pos (Ne.symm q2)]
        cases b <;> cases b' <;> simp_all [ltI]
    · rw [if_pos q1, if_pos (Ne.symm q1)]
      rcases Int.lt_or_gt_of_ne q1 with h | h
      · rw [decide_eq_true h, decide_eq_false (by omega)]; rfl
      · rw [decide_eq_true h, decide_eq_false (by omega)]; rfl
theorem cmps_anti (k : Int) : ∀ (l : List V) (ks : List ByteArray) (l' : List V) (ks' : List ByteArray), cmpVs k l' ks' l ks = - cmpVs k l ks l' ks'
  | [], ks, [], ks' => by simp [cmpVs]
  | [], ks, y :: t', ks' => by simp [cmpVs]
  | x :: t, ks, [], ks' => by simp [cmpVs]
  | x :: t, ks, y :: t', ks' => by
    rw [cmpVs, cmpVs]
    by_cases q : k = 5 ∧ ks.headD E0 ≠ ks'.headD E0
    · rw [if_pos q, if_pos ⟨q.1, Ne.symm q.2⟩, bl_not q.2, ltI_not]
    · rw [if_neg q, if_neg (fun h => q ⟨h.1, Ne.symm h.2⟩), cmp_anti x y]
      by_cases h : cmpV x y = 0
      · rw [h, if_neg (by simp), if_neg (by simp)]
        exact cmps_anti k t ks.tail t' ks'.tail
      · rw [if_pos (by omega), if_pos h]
end

/-- What compare reads of a tree is all there is: keys just in objects, one for each part. -/
def keyV : V → Prop := fun x => ∀ k b n s l ks, x = V.mk k b n s l ks → (k ≠ 5 → ks = []) ∧ (k = 5 → ks.length = l.length)
mutual
def okW : V → Prop | .mk k b n s l ks => ((k ≠ 5 → ks = []) ∧ (k = 5 → ks.length = l.length)) ∧ okWs l
def okWs : List V → Prop | [] => True | x :: t => okW x ∧ okWs t
end
mutual
theorem cmp_zero : ∀ (x y : V), okW x → okW y → cmpV x y = 0 → x = y
  | .mk k b n s l ks, .mk k' b' n' s' l' ks', hx, hy, h => by
    rw [cmpV_mk] at h
    by_cases q1 : k = k'
    · subst q1
      simp only [ne_eq, not_true_eq_false, if_false] at h
      by_cases q2 : b = b'
      · subst q2
        simp only [not_true_eq_false, if_false] at h
        by_cases q3 : n = n'
        · subst q3
          simp only [not_true_eq_false, if_false] at h
          by_cases q4 : s = s'
          · subst q4
            simp only [not_true_eq_false, if_false] at h
            unfold okW at hx hy
            by_cases h5 : k = 5
            · obtain ⟨e1, e2⟩ := cmps_zero k l ks l' ks' hx.2 hy.2 (fun _ => hx.1.2 h5) (fun _ => hy.1.2 h5) h
              rw [e1, e2 h5]
            · obtain ⟨e1, _⟩ := cmps_zero k l ks l' ks' hx.2 hy.2 (fun h => absurd h h5) (fun h => absurd h h5) h
              rw [e1, hx.1.1 h5, hy.1.1 h5]
          · rw [if_pos q4] at h; exact absurd h (ltI_ne _)
        · rw [if_pos q3] at h; exact absurd h (ltI_ne _)
      · rw [if_pos q2] at h; exact absurd h (ltI_ne _)
    · rw [if_pos q1] at h; exact absurd h (ltI_ne _)
theorem cmps_zero (k : Int) : ∀ (l : List V) (ks : List ByteArray) (l' : List V) (ks' : List ByteArray), okWs l → okWs l' → (k = 5 → ks.length = l.length) → (k = 5 → ks'.length = l'.length) → cmpVs k l ks l' ks' = 0 → l = l' ∧ (k = 5 → ks = ks')
  | [], ks, [], ks', _, _, h1, h2, _ => ⟨rfl, fun h => by
      have a := h1 h; have b := h2 h
      rw [List.eq_nil_of_length_eq_zero a, List.eq_nil_of_length_eq_zero b]⟩
  | [], ks, y :: t', ks', _, _, _, _, h => by simp [cmpVs] at h
  | x :: t, ks, [], ks', _, _, _, _, h => by simp [cmpVs] at h
  | x :: t, ks, y :: t', ks', hx, hy, h1, h2, h => by
    rw [cmpVs] at h
    unfold okWs at hx hy
    by_cases q : k = 5 ∧ ks.headD E0 ≠ ks'.headD E0
    · rw [if_pos q] at h; exact absurd h (ltI_ne _)
    · rw [if_neg q] at h
      by_cases hz : cmpV x y = 0
      · rw [if_neg (fun c => c hz)] at h
        have e0 := cmp_zero x y hx.1 hy.1 hz
        obtain ⟨e1, e2⟩ := cmps_zero k t ks.tail t' ks'.tail hx.2 hy.2 (fun h5 => by have := h1 h5; simp at this ⊢; omega) (fun h5 => by have := h2 h5; simp at this ⊢; omega) h
        refine ⟨by rw [e0, e1], fun h5 => ?_⟩
        have hk : ks.headD E0 = ks'.headD E0 := Classical.byContradiction fun c => q ⟨h5, c⟩
        have l1 := h1 h5
        have l2 := h2 h5
        match ks, ks', l1, l2 with
        | a :: p, b :: r, _, _ =>
          have := e2 h5
          simp only [List.headD_cons, List.tail_cons] at hk this
          rw [hk, this]
      · rw [if_pos hz] at h; exact absurd h hz
end
theorem cmp_self (x : V) : cmpV x x = 0 := by have := cmp_anti x x; omega
mutual
theorem cmp_range : ∀ (x y : V), cmpV x y = -1 ∨ cmpV x y = 0 ∨ cmpV x y = 1
  | .mk k b n s l ks, .mk k' b' n' s' l' ks' => by
    rw [cmpV_mk]
    have h := fun c => ltI_cases c
    split
    · rcases h (decide (k < k')) with e | e <;> rw [e] <;> simp
    · split
      · rcases h b' with e | e <;> rw [e] <;> simp
      · split
        · rcases h (decide (n < n')) with e | e <;> rw [e] <;> simp
        · split
          · rcases h (bl s s') with e | e <;> rw [e] <;> simp
          · exact cmps_range k l ks l' ks'
theorem cmps_range (k : Int) : ∀ (l : List V) (ks : List ByteArray) (l' : List V) (ks' : List ByteArray), cmpVs k l ks l' ks' = -1 ∨ cmpVs k l ks l' ks' = 0 ∨ cmpVs k l ks l' ks' = 1
  | [], ks, [], ks' => by simp [cmpVs]
  | [], ks, y :: t', ks' => by simp [cmpVs]
  | x :: t, ks, [], ks' => by simp [cmpVs]
  | x :: t, ks, y :: t', ks' => by
    rw [cmpVs]
    split
    · rcases ltI_cases (bl (ks.headD E0) (ks'.headD E0)) with e | e <;> rw [e] <;> simp
    · split
      · exact cmp_range x y
      · exact cmps_range k t ks.tail t' ks'.tail
end
theorem bl_tra {s t u : ByteArray} (h : bl s t = true) (h' : bl t u = true) : bl s u = true := by
  rw [bl_lt] at h h' ⊢
  exact decide_eq_true (lt_tra (of_decide_eq_true h) (of_decide_eq_true h'))
theorem bl_ne {s t : ByteArray} (h : bl s t = true) : s ≠ t := by
  rintro rfl
  rw [bl_lt] at h
  exact lt_irr _ (of_decide_eq_true h)
theorem ltI_m1 {c : Bool} (h : ltI c = -1) : c = true := by cases c <;> simp_all [ltI]
/-- Below the head: the same branch of the order of rows of parts. -/
theorem cmps_cons (k : Int) (x y : V) (t t' : List V) (ks ks' : List ByteArray) : cmpVs k (x :: t) ks (y :: t') ks' = -1 ↔ (k = 5 ∧ bl (ks.headD E0) (ks'.headD E0) = true) ∨ (¬ (k = 5 ∧ ks.headD E0 ≠ ks'.headD E0) ∧ (cmpV x y = -1 ∨ cmpV x y = 0 ∧ cmpVs k t ks.tail t' ks'.tail = -1)) := by
  rw [cmpVs]
  by_cases q : k = 5 ∧ ks.headD E0 ≠ ks'.headD E0
  · rw [if_pos q]
    constructor
    · exact fun h => .inl ⟨q.1, ltI_m1 h⟩
    · rintro (⟨_, h⟩ | ⟨h, _⟩)
      · rw [h]; rfl
      · exact absurd q h
  · rw [if_neg q]
    by_cases hz : cmpV x y = 0
    · rw [if_neg (fun c => c hz)]
      constructor
      · exact fun h => .inr ⟨q, .inr ⟨hz, h⟩⟩
      · rintro (⟨h5, h⟩ | ⟨_, h | ⟨_, h⟩⟩)
        · exact absurd ⟨h5, bl_ne h⟩ q
        · omega
        · exact h
    · rw [if_pos hz]
      constructor
      · exact fun h => .inr ⟨q, .inl h⟩
      · rintro (⟨h5, h⟩ | ⟨_, h | ⟨h, _⟩⟩)
        · exact absurd ⟨h5, bl_ne h⟩ q
        · exact h
        · exact absurd h hz
mutual
theorem cmp_tra : ∀ (x y z : V), okW x → okW y → okW z → cmpV x y = -1 → cmpV y z = -1 → cmpV x z = -1
  | .mk k b n s l ks, .mk k' b' n' s' l' ks', .mk k2 b2 n2 s2 l2 ks2, hx, hy, hz, h, h' => by
    rw [cmpV_mk] at h h' ⊢
    by_cases q1 : k = k'
    · subst q1
      by_cases r1 : k = k2
      · subst r1
        simp only [ne_eq, not_true_eq_false, if_false] at h h' ⊢
        by_cases q2 : b = b'
        · subst q2
          by_cases r2 : b = b2
          · subst r2
            simp only [not_true_eq_false, if_false] at h h' ⊢
            by_cases q3 : n = n'
            · subst q3
              by_cases r3 : n = n2
              · subst r3
                simp only [not_true_eq_false, if_false] at h h' ⊢
                by_cases q4 : s = s'
                · subst q4
                  by_cases r4 : s = s2
                  · subst r4
                    simp only [not_true_eq_false, if_false] at h h' ⊢
                    unfold okW at hx hy hz
                    exact cmps_tra k l ks l' ks' l2 ks2 hx.2 hy.2 hz.2 h h'
                  · rw [if_pos r4] at h' ⊢
                    exact h'
                · rw [if_pos q4] at h
                  by_cases r4 : s' = s2
                  · subst r4
                    rw [if_pos q4]; exact h
                  · rw [if_pos r4] at h'
                    have := bl_tra (ltI_m1 h) (ltI_m1 h')
                    rw [if_pos (bl_ne this), this]; rfl
              · rw [if_pos r3] at h' ⊢; exact h'
            · rw [if_pos q3] at h
              have a := of_decide_eq_true (ltI_m1 h)
              by_cases r3 : n' = n2
              · subst r3
                rw [if_pos q3]; exact h
              · rw [if_pos r3] at h'
                have c := of_decide_eq_true (ltI_m1 h')
                rw [if_pos (by omega), decide_eq_true (by omega)]; rfl
          · rw [if_pos r2] at h' ⊢; exact h'
        · rw [if_pos q2] at h
          have a := ltI_m1 h
          subst a
          by_cases r2 : (true : Bool) = b2
          · subst r2
            rw [if_pos q2]; exact h
          · rw [if_pos r2] at h'
            have c := ltI_m1 h'
            exact absurd c.symm r2
      · rw [if_pos r1] at h' ⊢; exact h'
    · rw [if_pos q1] at h
      have a := of_decide_eq_true (ltI_m1 h)
      by_cases r1 : k' = k2
      · subst r1
        rw [if_pos q1]; exact h
      · rw [if_pos r1] at h'
        have c := of_decide_eq_true (ltI_m1 h')
        rw [if_pos (by omega), decide_eq_true (by omega)]; rfl
theorem cmps_tra (k : Int) : ∀ (l : List V) (ks : List ByteArray) (l' : List V) (ks' : List ByteArray) (l2 : List V) (ks2 : List ByteArray), okWs l → okWs l' → okWs l2 → cmpVs k l ks l' ks' = -1 → cmpVs k l' ks' l2 ks2 = -1 → cmpVs k l ks l2 ks2 = -1
  | [], ks, [], ks', l2, ks2, _, _, _, h, _ => by simp [cmpVs] at h
  | [], ks, y :: t', ks', [], ks2, _, _, _, _, h' => by simp [cmpVs] at h'
  | [], ks, y :: t', ks', z :: t2, ks2, _, _, _, _, _ => by simp [cmpVs]
  | x :: t, ks, [], ks', l2, ks2, _, _, _, h, _ => by simp [cmpVs] at h
  | x :: t, ks, y :: t', ks', [], ks2, _, _, _, _, h' => by simp [cmpVs] at h'
  | x :: t, ks, y :: t', ks', z :: t2, ks2, hx, hy, hz, h, h' => by
    rw [cmps_cons] at h h' ⊢
    unfold okWs at hx hy hz
    rcases h with ⟨h5, h⟩ | ⟨hq, h⟩
    · rcases h' with ⟨_, h'⟩ | ⟨hq', _⟩
      · exact .inl ⟨h5, bl_tra h h'⟩
      · have e : ks'.headD E0 = ks2.headD E0 := Classical.byContradiction fun c => hq' ⟨h5, c⟩
        exact .inl ⟨h5, e ▸ h⟩
    · rcases h' with ⟨h5, h'⟩ | ⟨hq', h'⟩
      · have e : ks.headD E0 = ks'.headD E0 := Classical.byContradiction fun c => hq ⟨h5, c⟩
        exact .inl ⟨h5, e.symm ▸ h'⟩
      · refine .inr ⟨fun c => ?_, ?_⟩
        · have e1 : ks.headD E0 = ks'.headD E0 := Classical.byContradiction fun d => hq ⟨c.1, d⟩
          have e2 : ks'.headD E0 = ks2.headD E0 := Classical.byContradiction fun d => hq' ⟨c.1, d⟩
          exact c.2 (e1.trans e2)
        · rcases h with h | ⟨h0, h⟩
          · rcases h' with h' | ⟨h0', _⟩
            · exact .inl (cmp_tra x y z hx.1 hy.1 hz.1 h h')
            · have e := cmp_zero y z hy.1 hz.1 h0'
              exact .inl (e ▸ h)
          · have e := cmp_zero x y hx.1 hy.1 h0
            subst e
            rcases h' with h' | ⟨h0', h'⟩
            · exact .inl h'
            · exact .inr ⟨h0', cmps_tra k t ks.tail t' ks'.tail t2 ks2.tail hx.2 hy.2 hz.2 h h'⟩
end
mutual
theorem okw_of_wrong : ∀ x : V, wrongV x = 0 → okW x
  | .mk k b n s l ks, h => by
    have ho : ownW (.mk k b n s l ks) = 0 := by
      refine Classical.byContradiction fun hc => ?_
      rw [wrongV, if_neg hc] at h
      exact hc h
    rw [wrongV, if_pos ho] at h
    have hp : plainB (.mk k b n s l ks) = true := by
      cases e : plainB (.mk k b n s l ks) with
      | true => rfl
      | false => rw [ownW_mk, e, if_pos rfl] at ho; omega
    have hq := plain_eq hp
    unfold okW
    exact ⟨⟨fun h5 => List.eq_nil_of_length_eq_zero (hq.2.2.2.2.2.2 h5), hq.2.2.2.2.2.1⟩, okws_of_wrong l h⟩
theorem okws_of_wrong : ∀ l : List V, wrongVs l = 0 → okWs l
  | [], _ => by unfold okWs; trivial
  | x :: t, h => by
    have h1 : wrongV x = 0 := by
      refine Classical.byContradiction fun hc => ?_
      rw [wrongVs, if_neg hc] at h
      exact hc h
    rw [wrongVs, if_pos h1] at h
    unfold okWs
    exact ⟨okw_of_wrong x h1, okws_of_wrong t h⟩
end

/-- A pair put among pairs whose keys rise. -/
def ins (key : ByteArray) (x : V) : List (ByteArray × V) → List (ByteArray × V)
  | [] => [(key, x)]
  | p :: r => if bl p.1 key then p :: ins key x r else (key, x) :: p :: r
/-- Pairs put one after another among those that are there. -/
def insAll : List (ByteArray × V) → List (ByteArray × V) → List (ByteArray × V)
  | acc, [] => acc
  | acc, p :: r => insAll (ins p.1 p.2 acc) r
mutual
/-- Sorted: objects' keys rising, at every depth. -/
def sortV : V → V
  | .mk k b n s l ks => if k = 4 then .mk k b n s (sortVs l) [] else .mk k b n s ((insAll [] (ks.zip (sortVs l))).map (·.2)) ((insAll [] (ks.zip (sortVs l))).map (·.1))
def sortVs : List V → List V | [] => [] | x :: t => sortV x :: sortVs t
end
def rises : List (ByteArray × V) → Prop
  | [] => True
  | p :: r => (∀ q ∈ r, bl p.1 q.1 = true) ∧ rises r
theorem ins_mem (key : ByteArray) (x : V) : ∀ (l : List (ByteArray × V)) (q : ByteArray × V), q ∈ ins key x l ↔ q = (key, x) ∨ q ∈ l
  | [], q => by simp [ins]
  | p :: r, q => by
    rw [ins]
    split
    · rw [List.mem_cons, ins_mem key x r q, List.mem_cons]
      constructor
      · rintro (h | h | h)
        · exact .inr (.inl h)
        · exact .inl h
        · exact .inr (.inr h)
      · rintro (h | h | h)
        · exact .inr (.inl h)
        · exact .inl h
        · exact .inr (.inr h)
    · rw [List.mem_cons]
theorem ins_rises (key : ByteArray) (x : V) : ∀ (l : List (ByteArray × V)), rises l → (∀ q ∈ l, q.1 ≠ key) → rises (ins key x l)
  | [], _, _ => by simp [ins, rises]
  | p :: r, h, hn => by
    rw [ins]
    unfold rises at h
    by_cases hb : bl p.1 key = true
    · rw [if_pos hb]
      unfold rises
      refine ⟨fun q hq => ?_, ins_rises key x r h.2 (fun q hq => hn q (List.mem_cons_of_mem _ hq))⟩
      rcases (ins_mem key x r q).1 hq with rfl | hq
      · exact hb
      · exact h.1 q hq
    · rw [if_neg hb]
      have hpk := hn p List.mem_cons_self
      have hk : bl key p.1 = true := by
        rw [bl_not hpk]
        cases e : bl p.1 key with
        | true => exact absurd e hb
        | false => rfl
      unfold rises
      refine ⟨fun q hq => ?_, ?_⟩
      · rcases List.mem_cons.1 hq with rfl | hq
        · exact hk
        · exact bl_tra hk (h.1 q hq)
      · unfold rises; exact h
/-- Rising pairs put one after another stay as they are. -/
theorem ins_last (key : ByteArray) (x : V) : ∀ (l : List (ByteArray × V)), (∀ q ∈ l, bl q.1 key = true) → ins key x l = l ++ [(key, x)]
  | [], _ => rfl
  | p :: r, h => by
    rw [ins, if_pos (h p List.mem_cons_self), ins_last key x r (fun q hq => h q (List.mem_cons_of_mem _ hq))]; rfl
theorem insAll_rises : ∀ (l acc : List (ByteArray × V)), rises l → (∀ p ∈ acc, ∀ q ∈ l, bl p.1 q.1 = true) → insAll acc l = acc ++ l
  | [], acc, _, _ => by simp [insAll]
  | p :: r, acc, h, ha => by
    unfold rises at h
    rw [insAll, ins_last p.1 p.2 acc (fun q hq => ha q hq p List.mem_cons_self)]
    rw [insAll_rises r _ h.2 (fun a hm q hq => ?_)]
    · simp
    · rcases List.mem_append.1 hm with hm | hm
      · exact ha a hm q (List.mem_cons_of_mem _ hq)
      · simp only [List.mem_singleton] at hm
        subst hm
        exact h.1 q hq
theorem insAll_mem : ∀ (l acc : List (ByteArray × V)) (q : ByteArray × V), q ∈ insAll acc l ↔ q ∈ acc ∨ q ∈ l
  | [], acc, q => by simp [insAll]
  | p :: r, acc, q => by
    rw [insAll, insAll_mem r _ q, ins_mem, List.mem_cons]
    constructor
    · rintro ((h | h) | h)
      · exact .inr (.inl h)
      · exact .inl h
      · exact .inr (.inr h)
    · rintro (h | h | h)
      · exact .inl (.inr h)
      · exact .inl (.inl h)
      · exact .inr h
theorem insAll_all : ∀ (l acc : List (ByteArray × V)), rises acc → (l.map (·.1)).Nodup → (∀ p ∈ acc, ∀ q ∈ l, p.1 ≠ q.1) → rises (insAll acc l)
  | [], acc, h, _, _ => by simpa [insAll] using h
  | p :: r, acc, h, hn, ha => by
    rw [List.map_cons, List.nodup_cons] at hn
    rw [insAll]
    refine insAll_all r _ (ins_rises p.1 p.2 acc h (fun q hq => ha q hq p List.mem_cons_self)) hn.2 (fun a hm q hq => ?_)
    rcases (ins_mem p.1 p.2 acc a).1 hm with rfl | hm
    · exact fun e => hn.1 (List.mem_map.2 ⟨q, hq, e.symm⟩)
    · exact ha a hm q (List.mem_cons_of_mem _ hq)
theorem ins_len (key : ByteArray) (x : V) : ∀ (l : List (ByteArray × V)), (ins key x l).length = l.length + 1
  | [] => rfl
  | p :: r => by
    rw [ins]
    split
    · rw [List.length_cons, ins_len key x r, List.length_cons]
    · simp
theorem insAll_len : ∀ (l acc : List (ByteArray × V)), (insAll acc l).length = acc.length + l.length
  | [], acc => by simp [insAll]
  | p :: r, acc => by rw [insAll, insAll_len r, ins_len, List.length_cons]; omega
theorem sortVs_map : ∀ l : List V, sortVs l = l.map sortV
  | [] => by rw [sortVs]; rfl
  | x :: t => by rw [sortVs, sortVs_map t]; rfl
theorem zip_unzip : ∀ (P : List (ByteArray × V)), (P.map (·.1)).zip (P.map (·.2)) = P
  | [] => rfl
  | p :: r => by simp only [List.map_cons, List.zip_cons_cons, zip_unzip r]
/-- What is not wrong: the whole's own part. -/
theorem own_of_wrong {k : Int} {b : Bool} {n : Int} {s : ByteArray} {l : List V} {ks : List ByteArray} (h : wrongV (.mk k b n s l ks) = 0) : plainP (.mk k b n s l ks) ∧ (-9007199254740992 ≤ n ∧ n ≤ 9007199254740992) ∧ validS s = true ∧ ks.all validS = true ∧ ks.Nodup ∧ wrongVs l = 0 := by
  have ho : ownW (.mk k b n s l ks) = 0 := by
    refine Classical.byContradiction fun hc => ?_
    rw [wrongV, if_neg hc] at h
    exact hc h
  rw [wrongV, if_pos ho] at h
  rw [ownW_mk] at ho
  cases hp : plainB (.mk k b n s l ks) with
  | false => rw [hp, if_pos rfl] at ho; omega
  | true =>
    rw [hp, if_neg (by simp)] at ho
    by_cases hn : n < -9007199254740992 ∨ 9007199254740992 < n
    · rw [if_pos hn] at ho; omega
    rw [if_neg hn] at ho
    cases hv : validS s with
    | false => rw [hv, if_pos rfl] at ho; omega
    | true =>
      rw [hv, if_neg (by simp)] at ho
      cases ha : ks.all validS with
      | false => rw [ha, if_pos rfl] at ho; omega
      | true =>
        rw [ha, if_neg (by simp)] at ho
        cases hd : onceB ks with
        | false => rw [hd, if_pos rfl] at ho; omega
        | true => exact ⟨plain_eq hp, by omega, rfl, rfl, @of_decide_eq_true _ (Classical.propDecidable _) hd, h⟩
theorem wrongVs_mem : ∀ (l : List V), wrongVs l = 0 → ∀ y ∈ l, wrongV y = 0
  | x :: t, h, y, hy => by
    have h1 : wrongV x = 0 := by
      refine Classical.byContradiction fun hc => ?_
      rw [wrongVs, if_neg hc] at h
      exact hc h
    rw [wrongVs, if_pos h1] at h
    rcases List.mem_cons.1 hy with rfl | hy
    · exact h1
    · exact wrongVs_mem t h y hy
theorem zip_keys {ks : List ByteArray} {l : List V} (h : ks.length = l.length) : (ks.zip l).map (·.1) = ks := by
  rw [List.map_fst_zip]; omega
theorem zip_vals {ks : List ByteArray} {l : List V} (h : ks.length = l.length) : (ks.zip l).map (·.2) = l := by
  rw [List.map_snd_zip]; omega
/-- The sorted pairs of an object that may be: rising. -/
theorem sort_rises {ks : List ByteArray} {l : List V} (h : ks.length = l.length) (hd : ks.Nodup) : rises (insAll [] (ks.zip l)) :=
  insAll_all _ _ (by unfold rises; trivial) (by rw [zip_keys h]; exact hd) (fun p hp => by cases hp)
theorem insAll_nil : insAll [] [] = [] := rfl
/-- Sorting again leaves it as it is. -/
theorem sort_again_aux : ∀ (N : Nat) (x : V), sizeV x ≤ N → wrongV x = 0 → sortV (sortV x) = sortV x
  | 0, x, h, _ => absurd (sizeV_pos x) (by omega)
  | N + 1, .mk k b n s l ks, hN, h => by
    obtain ⟨hp, _, _, _, hd, hl⟩ := own_of_wrong h
    have hsz : sizeV (.mk k b n s l ks) = 1 + s.size + keysS ks + sizeVs l := by rw [sizeV]
    have hfix : ∀ y ∈ sortVs l, sortV y = y := fun y hy => by
      rw [sortVs_map] at hy
      obtain ⟨z, hz, rfl⟩ := List.mem_map.1 hy
      obtain ⟨q, hq, rfl⟩ := List.getElem_of_mem hz
      exact sort_again_aux N _ (by have := sizeVs_get l q hq; omega) (wrongVs_mem l hl _ (List.getElem_mem hq))
    by_cases h4 : k = 4
    · rw [sortV, if_pos h4, sortV, if_pos h4, sortVs_map (sortVs l)]
      congr 1
      rw [List.map_congr_left hfix, List.map_id']
    · have hlen : ks.length = l.length := by
        by_cases h5 : k = 5
        · exact hp.2.2.2.2.2.1 h5
        · have h0 : l = [] := Classical.byContradiction fun hc => by
            rcases hp.2.2.2.2.1 hc with h | h
            · exact h4 h
            · exact h5 h
          rw [hp.2.2.2.2.2.2 h5, h0]; rfl
      have hlen2 : ks.length = (sortVs l).length := by rw [sortVs_map, List.length_map]; exact hlen
      have hr := sort_rises hlen2 hd
      rw [sortV, if_neg h4]
      obtain ⟨P, hP⟩ : ∃ P, insAll [] (ks.zip (sortVs l)) = P := ⟨_, rfl⟩
      have hmem : ∀ p ∈ P, sortV p.2 = p.2 := fun p hp' => by
        rw [← hP, insAll_mem] at hp'
        rcases hp' with hp' | hp'
        · cases hp'
        · exact hfix _ (List.of_mem_zip hp').2
      rw [hP] at hr ⊢
      rw [sortV, if_neg h4, sortVs_map, List.map_map]
      have hm : P.map (sortV ∘ fun p => p.2) = P.map (·.2) := List.map_congr_left hmem
      rw [hm, zip_unzip, insAll_rises P [] hr (fun p hp => by cases hp), List.nil_append]
theorem sort_again {x : V} (h : wrongV x = 0) : sortV (sortV x) = sortV x := sort_again_aux _ x (Nat.le_refl _) h
theorem wrong_of_own {k : Int} {b : Bool} {n : Int} {s : ByteArray} {l : List V} {ks : List ByteArray} (h1 : plainP (.mk k b n s l ks)) (h2 : -9007199254740992 ≤ n ∧ n ≤ 9007199254740992) (h3 : validS s = true) (h4 : ks.all validS = true) (h5 : ks.Nodup) (h6 : wrongVs l = 0) : wrongV (.mk k b n s l ks) = 0 := by
  have hn : ¬ (n < -9007199254740992 ∨ 9007199254740992 < n) := by omega
  have ho : ownW (.mk k b n s l ks) = 0 := by
    rw [ownW_mk, plain_yes h1, h3, h4, once_yes h5]
    simp only [Bool.true_eq_false, if_false, hn]
  rw [wrongV, if_pos ho]
  exact h6
theorem wrongVs_of_mem (l : List V) (h : ∀ y ∈ l, wrongV y = 0) : wrongVs l = 0 := wrongVs_none l (fun q hq => h _ (List.getElem_mem hq))
theorem rises_nodup : ∀ (P : List (ByteArray × V)), rises P → (P.map (·.1)).Nodup
  | [], _ => by simp
  | p :: r, h => by
    unfold rises at h
    rw [List.map_cons, List.nodup_cons]
    refine ⟨fun hm => ?_, rises_nodup r h.2⟩
    obtain ⟨q, hq, e⟩ := List.mem_map.1 hm
    exact bl_ne (h.1 q hq) e.symm
/-- Of what may be there are as many keys as parts, but for a list. -/
theorem keys_as_parts {k : Int} {b : Bool} {n : Int} {s : ByteArray} {l : List V} {ks : List ByteArray} (hp : plainP (.mk k b n s l ks)) (h4 : k ≠ 4) : ks.length = l.length := by
  by_cases h5 : k = 5
  · exact hp.2.2.2.2.2.1 h5
  · have h0 : l = [] := Classical.byContradiction fun hc => by
      rcases hp.2.2.2.2.1 hc with h | h
      · exact h4 h
      · exact h5 h
    rw [hp.2.2.2.2.2.2 h5, h0]; rfl
theorem sort_ok_aux : ∀ (N : Nat) (x : V), sizeV x ≤ N → wrongV x = 0 → wrongV (sortV x) = 0
  | 0, x, h, _ => absurd (sizeV_pos x) (by omega)
  | N + 1, .mk k b n s l ks, hN, h => by
    obtain ⟨hp, hn, hv, ha, hd, hl⟩ := own_of_wrong h
    have hsz : sizeV (.mk k b n s l ks) = 1 + s.size + keysS ks + sizeVs l := by rw [sizeV]
    have hin : ∀ y ∈ sortVs l, wrongV y = 0 := fun y hy => by
      rw [sortVs_map] at hy
      obtain ⟨z, hz, rfl⟩ := List.mem_map.1 hy
      obtain ⟨q, hq, rfl⟩ := List.getElem_of_mem hz
      exact sort_ok_aux N _ (by have := sizeVs_get l q hq; omega) (wrongVs_mem l hl _ (List.getElem_mem hq))
    obtain ⟨p1, p2, p3, p4, p5, p6, p7⟩ := hp
    have hp0 : plainP (.mk k b n s l ks) := ⟨p1, p2, p3, p4, p5, p6, p7⟩
    by_cases h4 : k = 4
    · rw [sortV, if_pos h4]
      refine wrong_of_own ⟨p1, p2, p3, p4, fun _ => .inl h4, fun h5 => by omega, fun _ => rfl⟩ hn hv (by simp) (by simp) (wrongVs_of_mem _ hin)
    · have hlen := keys_as_parts hp0 h4
      have hlen2 : ks.length = (sortVs l).length := by rw [sortVs_map, List.length_map]; exact hlen
      have hr := sort_rises hlen2 hd
      have hPl : (insAll [] (ks.zip (sortVs l))).length = l.length := by
        rw [insAll_len, List.length_zip, ← hlen2, hlen]; simp
      have hmem : ∀ p ∈ insAll [] (ks.zip (sortVs l)), p.1 ∈ ks ∧ p.2 ∈ sortVs l := fun p hp' => by
        rw [insAll_mem] at hp'
        rcases hp' with hp' | hp'
        · cases hp'
        · exact List.of_mem_zip hp'
      rw [sortV, if_neg h4]
      generalize insAll [] (ks.zip (sortVs l)) = P at *
      have hk0 : k ≠ 5 → P.length = 0 := fun h5 => by
        have := p7 h5; omega
      refine wrong_of_own ⟨p1, p2, p3, p4, fun hc => ?_, fun _ => by simp, fun h5 => by rw [List.length_map]; exact hk0 h5⟩ hn hv ?_ (rises_nodup P hr) (wrongVs_of_mem _ (fun y hy => ?_))
      · by_cases h5 : k = 5
        · exact .inr h5
        · have := List.eq_nil_of_length_eq_zero (hk0 h5)
          subst this
          exact absurd rfl hc
      · rw [List.all_eq_true]
        intro K hK
        obtain ⟨p, hp', rfl⟩ := List.mem_map.1 hK
        exact List.all_eq_true.1 ha _ (hmem p hp').1
      · obtain ⟨p, hp', rfl⟩ := List.mem_map.1 hy
        exact hin _ (hmem p hp').2
/-- What is sorted may be. -/
theorem sort_ok {x : V} (h : wrongV x = 0) : wrongV (sortV x) = 0 := sort_ok_aux _ x (Nat.le_refl _) h

def totP (l : List (ByteArray × V)) : Nat := (l.map fun p => countV p.2).sum
theorem ins_tot (key : ByteArray) (x : V) : ∀ (l : List (ByteArray × V)), totP (ins key x l) = countV x + totP l
  | [] => by simp [ins, totP]
  | p :: r => by
    rw [ins]
    split
    · have := ins_tot key x r
      simp only [totP, List.map_cons, List.sum_cons] at this ⊢
      omega
    · simp [totP]
theorem insAll_tot : ∀ (l acc : List (ByteArray × V)), totP (insAll acc l) = totP acc + totP l
  | [], acc => by simp [insAll, totP]
  | p :: r, acc => by
    rw [insAll, insAll_tot r, ins_tot]
    simp only [totP, List.map_cons, List.sum_cons]; omega
theorem countVs_sumO : ∀ l : List V, countVs l = (l.map countV).sum
  | [] => by rw [countVs]; rfl
  | x :: t => by rw [countVs, countVs_sumO t]; simp
theorem totP_vals (P : List (ByteArray × V)) : totP P = countVs (P.map (·.2)) := by rw [countVs_sumO, List.map_map]; rfl
theorem sort_count_aux : ∀ (N : Nat) (x : V), sizeV x ≤ N → wrongV x = 0 → countV (sortV x) = countV x
  | 0, x, h, _ => absurd (sizeV_pos x) (by omega)
  | N + 1, .mk k b n s l ks, hN, h => by
    obtain ⟨hp, _, _, _, _, hl⟩ := own_of_wrong h
    have hsz : sizeV (.mk k b n s l ks) = 1 + s.size + keysS ks + sizeVs l := by rw [sizeV]
    have hin : countVs (sortVs l) = countVs l := by
      rw [sortVs_map, countVs_sumO, countVs_sumO, List.map_map]
      congr 1
      refine List.map_congr_left (fun y hy => ?_)
      obtain ⟨q, hq, rfl⟩ := List.getElem_of_mem hy
      exact sort_count_aux N _ (by have := sizeVs_get l q hq; omega) (wrongVs_mem l hl _ (List.getElem_mem hq))
    by_cases h4 : k = 4
    · rw [sortV, if_pos h4, countV, countV, hin]
    · have hlen2 : ks.length = (sortVs l).length := by rw [sortVs_map, List.length_map]; exact keys_as_parts hp h4
      rw [sortV, if_neg h4, countV, countV, ← totP_vals, insAll_tot, totP_vals (ks.zip (sortVs l)), zip_vals hlen2, hin]
      simp [totP]
theorem sort_count {x : V} (h : wrongV x = 0) : countV (sortV x) = countV x := sort_count_aux _ x (Nat.le_refl _) h
def depO : List (ByteArray × V) → Nat | [] => 0 | p :: r => max (depthV p.2) (depO r)
theorem ins_dep (key : ByteArray) (x : V) : ∀ (l : List (ByteArray × V)), depO (ins key x l) = max (depthV x) (depO l)
  | [] => by simp [ins, depO]
  | p :: r => by
    rw [ins]
    split
    · have := ins_dep key x r
      simp only [depO] at this ⊢
      omega
    · simp only [depO]
theorem insAll_dep : ∀ (l acc : List (ByteArray × V)), depO (insAll acc l) = max (depO acc) (depO l)
  | [], acc => by simp [insAll, depO]
  | p :: r, acc => by
    rw [insAll, insAll_dep r, ins_dep]
    simp only [depO]; omega
theorem depP_vals : ∀ (P : List (ByteArray × V)), depO P = depthVs (P.map (·.2))
  | [] => by simp [depO, depthVs]
  | p :: r => by simp only [depO, List.map_cons, depthVs, depP_vals r]
theorem depthVs_map_eq (f : V → V) : ∀ (l : List V), (∀ y ∈ l, depthV (f y) = depthV y) → depthVs (l.map f) = depthVs l
  | [], _ => rfl
  | x :: t, h => by
    simp only [List.map_cons, depthVs]
    rw [h x List.mem_cons_self, depthVs_map_eq f t (fun y hy => h y (List.mem_cons_of_mem _ hy))]
theorem sort_depth_aux : ∀ (N : Nat) (x : V), sizeV x ≤ N → wrongV x = 0 → depthV (sortV x) = depthV x
  | 0, x, h, _ => absurd (sizeV_pos x) (by omega)
  | N + 1, .mk k b n s l ks, hN, h => by
    obtain ⟨hp, _, _, _, _, hl⟩ := own_of_wrong h
    have hsz : sizeV (.mk k b n s l ks) = 1 + s.size + keysS ks + sizeVs l := by rw [sizeV]
    have hin : depthVs (sortVs l) = depthVs l := by
      rw [sortVs_map]
      refine depthVs_map_eq sortV l (fun y hy => ?_)
      obtain ⟨q, hq, rfl⟩ := List.getElem_of_mem hy
      exact sort_depth_aux N _ (by have := sizeVs_get l q hq; omega) (wrongVs_mem l hl _ (List.getElem_mem hq))
    by_cases h4 : k = 4
    · rw [sortV, if_pos h4, depthV, depthV, hin]
    · have hlen2 : ks.length = (sortVs l).length := by rw [sortVs_map, List.length_map]; exact keys_as_parts hp h4
      rw [sortV, if_neg h4, depthV, depthV, ← depP_vals, insAll_dep, depP_vals (ks.zip (sortVs l)), zip_vals hlen2, hin]
      simp [depO]
theorem sort_depth {x : V} (h : wrongV x = 0) : depthV (sortV x) = depthV x := sort_depth_aux _ x (Nat.le_refl _) h
theorem check_zero {x : V} (h : checkV x = 0) : depthV x ≤ 24 ∧ wrongV x = 0 ∧ countV x ≤ 4096 := by
  unfold checkV at h
  by_cases h1 : 24 < depthV x
  · rw [if_pos h1] at h; omega
  rw [if_neg h1] at h
  by_cases h2 : wrongV x ≠ 0
  · rw [if_pos h2] at h; exact absurd h h2
  rw [if_neg h2] at h
  by_cases h3 : 4096 < countV x
  · rw [if_pos h3] at h; omega
  exact ⟨by omega, Decidable.not_not.1 h2, by omega⟩
theorem check_of {x : V} (h1 : depthV x ≤ 24) (h2 : wrongV x = 0) (h3 : countV x ≤ 4096) : checkV x = 0 := by
  unfold checkV
  rw [if_neg (by omega), if_neg (fun c => c h2), if_neg (by omega)]
/-- What is sorted may be, whole. -/
theorem check_sort {x : V} (h : checkV x = 0) : checkV (sortV x) = 0 := by
  obtain ⟨h1, h2, h3⟩ := check_zero h
  exact check_of (by rw [sort_depth h2]; exact h1) (sort_ok h2) (by rw [sort_count h2]; exact h3)
/-- Two values that may be are equal just if they are the same, sorted. -/
theorem equal_iff {x y : V} (hx : wrongV x = 0) (hy : wrongV y = 0) : cmpV (sortV x) (sortV y) = 0 ↔ sortV x = sortV y :=
  ⟨cmp_zero _ _ (okw_of_wrong _ (sort_ok hx)) (okw_of_wrong _ (sort_ok hy)), fun e => by rw [e]; exact cmp_self _⟩
end Go.Proofs.YtlamkadllbgamaaGreatDoor
