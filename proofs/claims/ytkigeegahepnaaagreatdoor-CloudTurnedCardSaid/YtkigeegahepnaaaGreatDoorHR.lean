/-
  CloudTurned, plain: updates of unlike things come to the same, whatever their order. · CloudTurned, plain: what both clouds keep to on their way.
-/
import Derived.Test.YtkigeegahepnaaaGreatDoorHL
set_option linter.unusedVariables false
set_option linter.unusedSimpArgs false
namespace Go.Proofs.YtkigeegahepnaaaGreatDoor
open Go.RowKit

open Classical in
/-- A thing as an update leaves it. -/
noncomputable def upT (t : Th) (ps : List G) : Th := if wrongL t.ty ps = 0 ∧ (differL t.ty t.ps ps).2 = 0 ∧ (differL t.ty t.ps ps).1 ≠ 3 then ⟨t.ph, t.ty, ps⟩ else t
theorem upT_ph (t : Th) (ps : List G) : (upT t ps).ph = t.ph := by unfold upT; split <;> rfl
/-- One update of a thing that is there. -/
theorem take_upd {s : St} (hs : okS s) {x : Cl} (hk : x.kd = 1) {i : Nat} (hi : i < s.l.length) (hp : x.ph = s.l[i].ph) : (takeL s x).1 = ⟨s.l.set i (upT s.l[i] x.ps), s.made⟩ := by
  have hC : checkS s = 0 := (okS_iff s).2 hs
  have hI : idxT s.l x.ph = some i := by rw [hp]; exact idx_at hs hi
  have hset : s.l.set i s.l[i] = s.l := List.set_getElem_self hi
  have he : effectL s x = ((updateL s x.ph x.ps).1, ⟨#[]⟩, (updateL s x.ph x.ps).2) := by
    unfold effectL
    rw [if_neg (by rw [hk]; decide), if_pos hk]
  unfold takeL
  rw [he]
  dsimp only
  by_cases hok : wrongL s.l[i].ty x.ps = 0 ∧ (differL s.l[i].ty s.l[i].ps x.ps).2 = 0 ∧ (differL s.l[i].ty s.l[i].ps x.ps).1 ≠ 3
  · have hu : updateL s x.ph x.ps = (⟨s.l.set i ⟨s.l[i].ph, s.l[i].ty, x.ps⟩, s.made⟩, 0) := by
      unfold updateL
      rw [if_pos hC, hI]
      dsimp only
      rw [getD_t hi, if_pos hok.1, if_pos hok.2.1, if_neg hok.2.2]
    rw [hu]
    unfold upT
    rw [if_pos hok]
    rfl
  · have hu : (updateL s x.ph x.ps).2 ≠ 0 := fun h => by
      obtain ⟨-, j, h2, hj, -, h4, h5, h6, -, -⟩ := update_ok h
      rw [hI] at h2
      cases h2
      exact hok ⟨h4, h5, h6⟩
    rw [if_neg hu]
    unfold upT
    rw [if_neg hok, hset]
/-- Updates, one behind the other. -/
noncomputable def appU : List Th → List (Nat × List G) → List Th
  | l, [] => l
  | l, (i, ps) :: r => appU (l.modify i (fun t => upT t ps)) r
theorem appU_len (l : List Th) (r : List (Nat × List G)) : (appU l r).length = l.length := by
  induction r generalizing l with
  | nil => rfl
  | cons p t ih => unfold appU; rw [ih]; simp
theorem appU_append (l : List Th) (r r' : List (Nat × List G)) : appU l (r ++ r') = appU (appU l r) r' := by
  induction r generalizing l with
  | nil => rfl
  | cons p t ih =>
    obtain ⟨i, ps⟩ := p
    show appU (l.modify i (fun t => upT t ps)) (t ++ r') = appU (appU (l.modify i (fun t => upT t ps)) t) r'
    exact ih _
/-- At a place that no update names all stays; at one that is named once it is that update's. -/
theorem appU_get (l : List Th) (r : List (Nat × List G)) (hn : r.Pairwise (fun p q => p.1 ≠ q.1)) (k : Nat) :
    (appU l r)[k]? = match r.find? (fun p => decide (p.1 = k)) with | some p => l[k]?.map (fun t => upT t p.2) | none => l[k]? := by
  induction r generalizing l with
  | nil => rfl
  | cons p t ih =>
    obtain ⟨h1, h2⟩ := List.pairwise_cons.1 hn
    obtain ⟨i, ps⟩ := p
    unfold appU
    rw [ih _ h2, List.find?_cons]
    by_cases e : i = k
    · subst e
      have hno : t.find? (fun p => decide (p.1 = i)) = none := by
        rw [List.find?_eq_none]
        intro q hq h
        exact h1 q hq (by simpa using (of_decide_eq_true h).symm)
      rw [hno]
      simp
    · have hd : decide ((i, ps).1 = k) = false := decide_eq_false e
      rw [hd]
      have hm : (l.modify i (fun t => upT t ps))[k]? = l[k]? := by
        rw [List.getElem?_modify]
        simp [e]
      rw [hm]
theorem key_uniq {r : List (Nat × List G)} (hn : r.Pairwise (fun p q => p.1 ≠ q.1)) {p q : Nat × List G} (hp : p ∈ r) (hq : q ∈ r) (e : p.1 = q.1) : p = q := by
  induction r with
  | nil => cases hp
  | cons a t ih =>
    obtain ⟨h1, h2⟩ := List.pairwise_cons.1 hn
    rcases List.mem_cons.1 hp with ep | hp'
    · rcases List.mem_cons.1 hq with eq | hq'
      · rw [ep, eq]
      · rw [ep] at e
        exact absurd e (h1 q hq')
    · rcases List.mem_cons.1 hq with eq | hq'
      · rw [eq] at e
        exact absurd e.symm (h1 p hp')
      · exact ih h2 hp' hq'
/-- The order counts for nothing. -/
theorem appU_rev (l : List Th) (r : List (Nat × List G)) (hn : r.Pairwise (fun p q => p.1 ≠ q.1)) : appU l r.reverse = appU l r := by
  refine List.ext_getElem? fun k => ?_
  have hn' : r.reverse.Pairwise (fun p q => p.1 ≠ q.1) := List.pairwise_reverse.2 (hn.imp fun h e => h e.symm)
  rw [appU_get l r hn, appU_get l _ hn']
  have key : r.reverse.find? (fun p => decide (p.1 = k)) = r.find? (fun p => decide (p.1 = k)) := by
    cases h : r.find? (fun p => decide (p.1 = k)) with
    | none =>
      rw [List.find?_eq_none] at h ⊢
      exact fun q hq => h q (List.mem_reverse.1 hq)
    | some p =>
      have hp := List.find?_some h
      have hm := List.mem_of_find?_eq_some h
      cases h' : r.reverse.find? (fun p => decide (p.1 = k)) with
      | none =>
        rw [List.find?_eq_none] at h'
        exact absurd hp (h' p (List.mem_reverse.2 hm))
      | some q =>
        have hq := List.find?_some h'
        have hmq := List.mem_reverse.1 (List.mem_of_find?_eq_some h')
        have e : p.1 = q.1 := (of_decide_eq_true hp).trans (of_decide_eq_true hq).symm
        rw [key_uniq hn hm hmq e]
  rw [key]
/-- A create whose call may be goes well. -/
theorem take_create {s : St} (hs : okS s) (hm : s.made < 1099511627776) {x : Cl} (hk : x.kd = 0) (hw : wrongC x = 0) : (takeL s x).1 = ⟨s.l ++ [⟨physS (s.made + 1), x.ty, x.ps⟩], s.made + 1⟩ := by
  have hC : checkS s = 0 := (okS_iff s).2 hs
  have hun : x.ps.any (·.unk) = false := by
    unfold wrongC at hw
    split at hw
    · exact absurd hw (by decide)
    · rename_i hmn
      have hmn' : mayNotB x = false := by simpa using hmn
      unfold mayNotB at hmn'
      simp only [Bool.or_eq_false_iff] at hmn'
      exact hmn'.2
  have hck : checkL x.ty x.ps = 0 := by
    unfold wrongC at hw
    split at hw
    · exact absurd hw (by decide)
    · rw [if_neg (by rw [hk]; decide)] at hw
      exact hw
  have hW : wrongL x.ty x.ps = 0 := by
    unfold wrongL
    rw [if_pos hck, hun]
    rfl
  have he : effectL s x = createL s x.ty x.ps := by
    unfold effectL
    rw [if_pos hk]
  have hc : createL s x.ty x.ps = (⟨s.l ++ [⟨physS (s.made + 1), x.ty, x.ps⟩], s.made + 1⟩, physS (s.made + 1), 0) := by
    unfold createL
    rw [if_pos hC, if_pos hW, if_neg (by omega)]
  unfold takeL
  rw [he, hc]
  rfl
end Go.Proofs.YtkigeegahepnaaaGreatDoor

namespace Go.Proofs.YtkigeegahepnaaaGreatDoor
open Go.RowKit Go.Maps Go.Deep

def callT (j : Nat) (ps : List G) : Cl := ⟨(j : Int) + 1, 0, ⟨#[]⟩, ⟨#[68, 105, 115, 107]⟩, ps⟩
def updT (i : Nat) (ph : ByteArray) (ps : List G) : Cl := ⟨100 + (i : Int), 1, ph, ⟨#[68, 105, 115, 107]⟩, ps⟩
theorem fine_callT {j : Nat} (hj : j ≤ 1000) {ps : List G} (h : greatG ps = false) : fineX (callT j ps) := ⟨h, by show (4 : Nat) ≤ 200; decide, by show (0 : Nat) ≤ 200; decide, ⟨by show (-9223372036854775808 : Int) ≤ (j : Int) + 1; omega, by show (j : Int) + 1 ≤ 9223372036854775807; omega⟩, by show (-128 : Int) ≤ 0 ∧ (0 : Int) ≤ 127; omega⟩
theorem fine_updT {i : Nat} (hi : i ≤ 1000) {ph : ByteArray} (hp : ph.size ≤ 200) {ps : List G} (h : greatG ps = false) : fineX (updT i ph ps) := ⟨h, by show (4 : Nat) ≤ 200; decide, hp, ⟨by show (-9223372036854775808 : Int) ≤ 100 + (i : Int); omega, by show 100 + (i : Int) ≤ 9223372036854775807; omega⟩, by show (-128 : Int) ≤ 1 ∧ (1 : Int) ≤ 127; omega⟩
/-- While things are made. -/
structure TI (c : CSt) (j n : Nat) : Prop where
  g : goodC c j
  f : c.fl = []
  t : ∀ p ∈ c.L, p.1.tok ≤ j
  len : c.s.l.length = n
  made : c.s.made = n
  le : n ≤ j
theorem TI.zero : TI zC 0 0 := ⟨good_zC 0, rfl, fun p hp => absurd (show p ∈ ([] : List (Cl × An)) from hp) List.not_mem_nil, rfl, rfl, Nat.le_refl _⟩
theorem TI.mono {c : CSt} {j n : Nat} (h : TI c j n) : TI c (j + 1) n := ⟨h.g.mono (Nat.le_succ j), h.f, fun p hp => by have := h.t p hp; omega, h.len, h.made, by have := h.le; omega⟩
theorem submit_wrong {c : CSt} {x : Cl} (hw : wrongC x ≠ 0) : submitC c x = (c, wrongC x) := by
  unfold submitC
  rw [if_neg hw]
theorem TI.good {c : CSt} {j n : Nat} (h : TI c j n) (hj : j ≤ 12) {ps : List G} (hx : fineX (callT j ps)) (hw : wrongC (callT j ps) = 0) :
    (submitC c (callT j ps)).2 = 0 ∧ TI (endC (submitC c (callT j ps)).1 0 true).1 (j + 1) (n + 1) := by
  obtain ⟨a1, a2, a3, a4⟩ := alone h.g h.f hx hw (fun p hp e => by have := h.t p hp; rw [e] at this; change (j : Int) + 1 ≤ j at this; omega) true
  have hm := h.made
  have hle := h.le
  have e1 : (endA c.s (callT j ps) true).1 = ⟨c.s.l ++ [⟨physS (c.s.made + 1), (callT j ps).ty, (callT j ps).ps⟩], c.s.made + 1⟩ := by
    unfold endA
    rw [if_pos rfl]
    exact take_create h.g.okS (by omega) rfl hw
  rw [e1] at a3
  refine ⟨a1, good_end (by omega) (good_submit h.g hx) _ _, a2, fun p hp => ?_, ?_, ?_, by omega⟩
  · rcases a4 p hp with h1 | h1
    · have := h.t p h1; omega
    · rw [h1]; show (j : Int) + 1 ≤ _; omega
  · rw [a3]; simp [h.len]
  · rw [a3]; show c.s.made + 1 = _; omega

/-- While updates are sent. -/
structure UI (T : List Th) (c : CSt) (i j : Nat) (r : List (Nat × List G)) : Prop where
  g : goodC c (j + i)
  sl : c.s.l = T
  fl : c.fl = r.map (fun p => 100 + (p.1 : Int))
  t : ∀ p ∈ c.L, p.1.tok ≤ j ∨ (100 ≤ p.1.tok ∧ p.1.tok < 100 + i)
  calls : ∀ p ∈ r, ∃ h : p.1 < T.length, (updT p.1 T[p.1].ph p.2, zAn) ∈ c.L
  lt : ∀ p ∈ r, p.1 < i
  nd : r.Pairwise (fun p q => p.1 ≠ q.1)
theorem TI.start {c : CSt} {j n : Nat} (h : TI c j n) : UI c.s.l c 0 j [] :=
  ⟨h.g, rfl, h.f, fun p hp => .inl (h.t p hp), fun p hp => absurd hp List.not_mem_nil, fun p hp => absurd hp List.not_mem_nil, List.Pairwise.nil⟩
theorem UI.step {T : List Th} {c : CSt} {i j : Nat} {r : List (Nat × List G)} (h : UI T c i j r) (hi : i < T.length) (hj : j ≤ 12) {ps : List G} (hx : fineX (updT i T[i].ph ps)) :
    ∃ r', UI T (submitC c (updT i T[i].ph ps)).1 (i + 1) j r' := by
  have hgs := good_submit h.g hx
  by_cases hw : wrongC (updT i T[i].ph ps) = 0
  · have hno : ∀ p ∈ c.L, p.1.tok ≠ (updT i T[i].ph ps).tok := fun p hp e => by
      have h1 := h.t p hp
      rw [e] at h1
      change (100 + (i : Int) ≤ j ∨ (100 ≤ 100 + (i : Int) ∧ 100 + (i : Int) < 100 + i)) at h1
      omega
    have hf0 := findC_none.2 hno
    have hs : submitC c (updT i T[i].ph ps) = (⟨c.s, c.L ++ [(updT i T[i].ph ps, zAn)], c.fl ++ [100 + (i : Int)]⟩, 0) := by
      rcases submit_new (c := c) (x := updT i T[i].ph ps) (by rw [hf0]; rfl) with ⟨-, h⟩ | ⟨h, -⟩
      · rw [h]; rfl
      · exact absurd hw h
    rw [hs] at hgs ⊢
    refine ⟨r ++ [(i, ps)], hgs, h.sl, ?_, fun p hp => ?_, fun p hp => ?_, fun p hp => ?_, ?_⟩
    · show c.fl ++ _ = _
      rw [h.fl]; simp
    · have hp : p ∈ c.L ++ [(updT i T[i].ph ps, zAn)] := hp
      rcases List.mem_append.1 hp with h1 | h1
      · have := h.t p h1; omega
      · rw [List.mem_singleton.1 h1]
        right
        show 100 ≤ 100 + (i : Int) ∧ 100 + (i : Int) < 100 + ((i + 1 : Nat) : Int)
        omega
    · rcases List.mem_append.1 hp with h1 | h1
      · obtain ⟨q, h2⟩ := h.calls p h1
        exact ⟨q, List.mem_append.2 (.inl h2)⟩
      · rw [List.mem_singleton.1 h1]
        exact ⟨hi, List.mem_append.2 (.inr (List.mem_singleton.2 rfl))⟩
    · rcases List.mem_append.1 hp with h1 | h1
      · have := h.lt p h1; omega
      · rw [List.mem_singleton.1 h1]; exact Nat.lt_succ_self i
    · rw [List.pairwise_append]
      refine ⟨h.nd, List.pairwise_singleton _ _, fun p hp q hq e => ?_⟩
      rw [List.mem_singleton.1 hq] at e
      have := h.lt p hp
      omega
  · rw [submit_wrong hw]
    exact ⟨r, h.g.mono (by omega), h.sl, h.fl, fun p hp => by have := h.t p hp; omega, h.calls, fun p hp => by have := h.lt p hp; omega, h.nd⟩

theorem appU_ph (l : List Th) (r : List (Nat × List G)) (k : Nat) (h : k < l.length) : ∃ h' : k < (appU l r).length, (appU l r)[k].ph = l[k].ph := by
  induction r generalizing l with
  | nil => exact ⟨h, rfl⟩
  | cons p t ih =>
    obtain ⟨i, ps⟩ := p
    have h2 : k < (l.modify i (fun t => upT t ps)).length := by simpa using h
    obtain ⟨h', e⟩ := ih _ h2
    refine ⟨h', e.trans ?_⟩
    rw [List.getElem_modify]
    split
    · exact upT_ph _ _
    · rfl
/-- While updates end: those that still fly, those that are done. -/
structure EI (T : List Th) (c : CSt) (q done : List (Nat × List G)) : Prop where
  g : goodC c 24
  fl : c.fl = q.map (fun p => 100 + (p.1 : Int))
  sl : c.s.l = appU T done
  calls : ∀ p ∈ q, ∃ h : p.1 < T.length, (updT p.1 T[p.1].ph p.2, zAn) ∈ c.L
  nd : q.Pairwise (fun p q => p.1 ≠ q.1)
theorem UI.fin {T : List Th} {c : CSt} {i j : Nat} {r : List (Nat × List G)} (h : UI T c i j r) (hij : j + i ≤ 24) : EI T c r [] :=
  ⟨h.g.mono hij, h.fl, h.sl, h.calls, h.nd⟩
theorem cut_at : ∀ (A : List Int) (x : Int) (B : List Int), (A ++ x :: B).take A.length ++ (A ++ x :: B).drop (A.length + 1) = A ++ B
  | [], x, B => rfl
  | a :: t, x, B => by
    simp only [List.cons_append, List.length_cons, List.take_succ_cons, List.drop_succ_cons]
    rw [cut_at t x B]
theorem EI.at {T : List Th} {c : CSt} {q1 q2 done : List (Nat × List G)} {p : Nat × List G} (h : EI T c (q1 ++ p :: q2) done) :
    EI T (endC c q1.length true).1 (q1 ++ q2) (done ++ [p]) := by
  obtain ⟨hlt, hmem⟩ := h.calls p (by simp)
  have hfl : q1.length < c.fl.length := by rw [h.fl]; simp
  have hfe : c.fl[q1.length] = 100 + (p.1 : Int) := by simp [h.fl]
  have hfind := h.g.find hmem
  have hfind2 : findC c.L c.fl[q1.length] = some (updT p.1 T[p.1].ph p.2, zAn) := by rw [hfe]; exact hfind
  have he := endC_good h.g hfl true hfind2
  have hgood := good_end (by decide) h.g (q1.length : Int) true
  obtain ⟨hlt2, hph⟩ := appU_ph T done p.1 hlt
  have hl3 : p.1 < c.s.l.length := by rw [h.sl]; exact hlt2
  have htk : (endA c.s (updT p.1 T[p.1].ph p.2) true).1 = ⟨c.s.l.set p.1 (upT c.s.l[p.1] p.2), c.s.made⟩ := by
    unfold endA
    rw [if_pos rfl]
    refine take_upd h.g.okS rfl hl3 ?_
    show T[p.1].ph = _
    simp only [h.sl]
    exact hph.symm
  rw [he] at hgood ⊢
  refine ⟨hgood, ?_, ?_, fun x hx => ?_, ?_⟩
  · show c.fl.take q1.length ++ c.fl.drop (q1.length + 1) = _
    have hc := cut_at (q1.map (fun p => 100 + (p.1 : Int))) (100 + (p.1 : Int)) (q2.map (fun p => 100 + (p.1 : Int)))
    rw [List.length_map] at hc
    rw [h.fl, List.map_append, List.map_cons, hc, List.map_append]
  · show (endA c.s (updT p.1 T[p.1].ph p.2) true).1.l = _
    rw [htk, appU_append]
    show c.s.l.set p.1 (upT c.s.l[p.1] p.2) = appU (appU T done) [p]
    obtain ⟨i, ps⟩ := p
    show _ = (appU T done).modify i (fun t => upT t ps)
    simp only [h.sl]
    apply List.ext_getElem
    · simp
    · intro k h1 h2
      rw [List.getElem_set, List.getElem_modify]
      by_cases e : i = k
      · subst e
        simp
      · rw [if_neg e, if_neg e]
  · obtain ⟨hx1, hx2⟩ := h.calls x (by
      rcases List.mem_append.1 hx with h1 | h1
      · simp [h1]
      · simp [h1])
    refine ⟨hx1, ?_⟩
    show _ ∈ setA c.L c.fl[q1.length] _
    rw [hfe]
    have hne : x.1 ≠ p.1 := by
      have hnd := h.nd
      rw [List.pairwise_append] at hnd
      obtain ⟨-, n2, n3⟩ := hnd
      rcases List.mem_append.1 hx with h1 | h1
      · exact n3 x h1 p (by simp)
      · exact fun e => (List.pairwise_cons.1 n2).1 x h1 e.symm
    refine (mem_setA h.g.uniq).2 (.inl ⟨hx2, ?_⟩)
    show (100 + (x.1 : Int)) ≠ 100 + (p.1 : Int)
    omega
  · have hnd := h.nd
    rw [List.pairwise_append] at hnd ⊢
    obtain ⟨n1, n2, n3⟩ := hnd
    exact ⟨n1, (List.pairwise_cons.1 n2).2, fun a ha b hb => n3 a ha b (by simp [hb])⟩
theorem EI.fwd {T : List Th} {c : CSt} {r : List (Nat × List G)} {t : Nat} (ht : t < r.length) (h : EI T c (r.drop t) (r.take t)) : EI T (endC c 0 true).1 (r.drop (t + 1)) (r.take (t + 1)) := by
  rw [List.drop_eq_getElem_cons ht] at h
  have := EI.at (q1 := []) h
  rw [List.take_succ_eq_append_getElem ht]
  exact this
theorem EI.bwd {T : List Th} {c : CSt} {r : List (Nat × List G)} {m : Nat} (hm : m < r.length) (h : EI T c (r.take (m + 1)) (r.drop (m + 1)).reverse) : EI T (endC c m true).1 (r.take m) (r.drop m).reverse := by
  rw [List.take_succ_eq_append_getElem hm] at h
  have := EI.at (q1 := r.take m) (q2 := []) h
  rw [List.append_nil, List.length_take, Nat.min_eq_left (by omega)] at this
  rw [List.drop_eq_getElem_cons hm, List.reverse_cons]
  exact this
/-- At the end. -/
theorem EI.same {T : List Th} {c d : CSt} {r : List (Nat × List G)} (hn : r.Pairwise (fun p q => p.1 ≠ q.1)) (h : EI T c [] r) (h' : EI T d [] r.reverse) : c.s.l = d.s.l ∧ c.s.l.length = T.length ∧ c.fl = [] ∧ d.fl = [] := by
  refine ⟨by rw [h.sl, h'.sl, appU_rev _ _ hn], by rw [h.sl, appU_len], h.fl, h'.fl⟩
end Go.Proofs.YtkigeegahepnaaaGreatDoor
