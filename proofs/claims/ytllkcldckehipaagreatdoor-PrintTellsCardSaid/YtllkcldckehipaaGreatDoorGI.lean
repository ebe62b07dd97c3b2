/-
  How the program compares: numbers, texts, rows of keys. · The program's compareSorted. · The program's compare, Equal, Less. · The statements' helper 'wakes': what the document says of values, plain. · The statements' helper 'wakes'. · The program's Check; sorting exists; a value in a list, in an object of one key.
-/
import Derived.Test.YtllkcldckehipaaGreatDoorGQ
import Derived.Test.YtllkcldckehipaaGreatDoorGD
import Derived.Test.YtllkcldckehipaaGreatDoorGH
import Derived.Deep.RegionWith
set_option linter.unusedVariables false
set_option linter.unusedSimpArgs false
namespace Go.Proofs.YtllkcldckehipaaGreatDoor
open Go.RowKit

def cmpI (x y : Int) : Int := if x < y then -1 else if y < x then 1 else 0
theorem blq_eq : ∀ (x y : List UInt8), Op.bytesLess x y = decide (x < y)
  | [], [] => by simp [Op.bytesLess]
  | _ :: _, [] => by simp [Op.bytesLess]
  | [], _ :: _ => by simp [Op.bytesLess]
  | a :: x, b :: y => by
    rw [Op.bytesLess, blq_eq x y, Bool.eq_iff_iff]
    simp [List.cons_lt_cons_iff]
theorem cmpB_m1 : ∀ a b : List UInt8, Lib.compareBytes a b < 0 → Lib.compareBytes a b = -1
  | [], [], h => by simp [Lib.compareBytes] at h
  | [], b :: tb, _ => rfl
  | a :: ta, [], h => by simp [Lib.compareBytes] at h
  | a :: ta, b :: tb, h => by
    rw [Lib.compareBytes] at h ⊢
    by_cases h1 : a < b
    · rw [if_pos h1]
    · rw [if_neg h1] at h ⊢
      by_cases h2 : b < a
      · rw [if_pos h2] at h; omega
      · rw [if_neg h2] at h ⊢; exact cmpB_m1 ta tb h
theorem cmpB_p1 : ∀ a b : List UInt8, b < a → Lib.compareBytes a b = 1
  | [], [], h => absurd h (List.lt_irrefl _)
  | [], b :: tb, h => absurd h (List.not_lt_nil _)
  | a :: ta, [], h => rfl
  | a :: ta, b :: tb, h => by
    rw [List.cons_lt_cons_iff] at h
    rw [Lib.compareBytes]
    rcases h with h | ⟨rfl, h⟩
    · rw [if_neg (UInt8.lt_asymm h), if_pos h]
    · rw [if_neg (UInt8.lt_irrefl _), if_neg (UInt8.lt_irrefl _)]; exact cmpB_p1 ta tb h
def cmpBo (a b : Bool) : Int := if a = b then 0 else if b then -1 else 1
end Go.Proofs.YtllkcldckehipaaGreatDoor

namespace Go.Proofs.YtllkcldckehipaaGreatDoor
open Go.RowKit

def cmpKs : List ByteArray → List ByteArray → Int
  | [], [] => 0
  | [], _ :: _ => -1
  | _ :: _, [] => 1
  | s :: ks, t :: ts => if cmpK s t = 0 then cmpKs ks ts else cmpK s t
mutual
/-- The program's order: of objects all keys go ahead of all values. -/
def pcmpV : V → V → Int
  | .mk k b n s l ks, .mk k' b' n' s' l' ks' => if k ≠ k' then cmpI k k' else if k = 1 then cmpBo b b' else if k = 2 then cmpI n n' else if k = 3 then cmpK s s' else if k = 5 then (if cmpKs ks ks' = 0 then pcmpVs l l' else cmpKs ks ks') else pcmpVs l l'
def pcmpVs : List V → List V → Int
  | [], [] => 0
  | [], _ :: _ => -1
  | _ :: _, [] => 1
  | x :: t, y :: t' => if pcmpV x y = 0 then pcmpVs t t' else pcmpV x y
end
theorem cmpKs_at (ks ts : List ByteArray) (j : Nat) (h : j < ks.length) (h' : j < ts.length) : cmpKs (ks.drop j) (ts.drop j) = if cmpK ks[j] ts[j] = 0 then cmpKs (ks.drop (j + 1)) (ts.drop (j + 1)) else cmpK ks[j] ts[j] := by
  rw [List.drop_eq_getElem_cons h, List.drop_eq_getElem_cons h', cmpKs]
theorem cmpKs_end1 (ks ts : List ByteArray) (j : Nat) (h : j < ks.length) (h' : ¬ j < ts.length) : cmpKs (ks.drop j) (ts.drop j) = 1 := by
  rw [List.drop_eq_getElem_cons h, List.drop_eq_nil_of_le (show ts.length ≤ j by omega), cmpKs]
theorem cmpKs_end2 (ks ts : List ByteArray) (h : ks.length < ts.length) : cmpKs (ks.drop ks.length) (ts.drop ks.length) = -1 := by
  rw [List.drop_length, List.drop_eq_getElem_cons h, cmpKs]
theorem cmpKs_end3 (ks ts : List ByteArray) (h : ¬ ks.length < ts.length) : cmpKs (ks.drop ks.length) (ts.drop ks.length) = 0 := by
  rw [List.drop_length, List.drop_eq_nil_of_le (by omega), cmpKs]
theorem pcmpVs_at (ks ts : List V) (j : Nat) (h : j < ks.length) (h' : j < ts.length) : pcmpVs (ks.drop j) (ts.drop j) = if pcmpV ks[j] ts[j] = 0 then pcmpVs (ks.drop (j + 1)) (ts.drop (j + 1)) else pcmpV ks[j] ts[j] := by
  rw [List.drop_eq_getElem_cons h, List.drop_eq_getElem_cons h', pcmpVs]
theorem pcmpVs_end1 (ks ts : List V) (j : Nat) (h : j < ks.length) (h' : ¬ j < ts.length) : pcmpVs (ks.drop j) (ts.drop j) = 1 := by
  rw [List.drop_eq_getElem_cons h, List.drop_eq_nil_of_le (show ts.length ≤ j by omega), pcmpVs]
theorem pcmpVs_end2 (ks ts : List V) (h : ks.length < ts.length) : pcmpVs (ks.drop ks.length) (ts.drop ks.length) = -1 := by
  rw [List.drop_length, List.drop_eq_getElem_cons h, pcmpVs]
theorem pcmpVs_end3 (ks ts : List V) (h : ¬ ks.length < ts.length) : pcmpVs (ks.drop ks.length) (ts.drop ks.length) = 0 := by
  rw [List.drop_length, List.drop_eq_nil_of_le (by omega), pcmpVs]

/-- No row is too long. -/
def wideV (x : V) : Prop := ∀ z ∈ walkV x, z.list.length ≤ 1000000 ∧ z.keys.length ≤ 3000
theorem pcmpV_mk (k k' : Int) (b b' : Bool) (n n' : Int) (s s' : ByteArray) (l l' : List V) (ks ks' : List ByteArray) : pcmpV (.mk k b n s l ks) (.mk k' b' n' s' l' ks') = if k ≠ k' then cmpI k k' else if k = 1 then cmpBo b b' else if k = 2 then cmpI n n' else if k = 3 then cmpK s s' else if k = 5 then (if cmpKs ks ks' = 0 then pcmpVs l l' else cmpKs ks ks') else pcmpVs l l' := by rw [pcmpV]
theorem two_boxes (w : World) (cs cs' : Array Value) (t : TypeId) : Below w.heap.size w ((w.alloc (.cells cs t)).alloc (.cells cs' t)) ∧ ((w.alloc (.cells cs t)).alloc (.cells cs' t)).heap[w.heap.size]? = some (.cells cs t (0, 0)) ∧ ((w.alloc (.cells cs t)).alloc (.cells cs' t)).heap[w.heap.size + 1]? = some (.cells cs' t (0, 0)) := by
  have h := World.alloc_heap_new (w.alloc (.cells cs t)) (.cells cs' t)
  rw [World.size_alloc] at h
  exact ⟨by go_grown, (Below.heap_alloc _ _ _ (by simp)).trans (World.alloc_heap_new w _), h⟩

end Go.Proofs.YtllkcldckehipaaGreatDoor

namespace Go.Proofs.YtllkcldckehipaaGreatDoor
open Go.RowKit Go.Shelf

/-- No key twice, and as many as the parts. -/
def onceV (x : V) : Prop := ∀ z ∈ walkV x, z.keys.Nodup ∧ (z.kind = 5 → z.keys.length = z.list.length)
theorem once_of_wrong {x : V} (h : wrongV x = 0) : onceV x := by
  rw [← firstNZ_walk] at h
  have hall : ∀ (l : List V), firstNZ (l.map ownW) = 0 → ∀ z ∈ l, ownW z = 0 := by
    intro l
    induction l with
    | nil => intro _ z hz; cases hz
    | cons a t ih =>
      intro h z hz
      rw [List.map_cons, firstNZ] at h
      by_cases ha : ownW a = 0
      · rw [if_pos ha] at h
        rcases List.mem_cons.1 hz with rfl | hz
        · exact ha
        · exact ih h z hz
      · rw [if_neg ha] at h; exact absurd h ha
  intro z hz
  have h0 := hall _ h z hz
  unfold ownW at h0
  by_cases h1 : plainB z = false
  · rw [if_pos h1] at h0; omega
  · rw [if_neg h1] at h0
    have hp : plainP z := plain_eq (by simpa using h1)
    split at h0
    · omega
    · split at h0
      · omega
      · split at h0
        · omega
        · split at h0
          · omega
          · rename_i ho
            refine ⟨?_, ?_⟩
            · apply Classical.byContradiction
              intro hn
              exact ho (once_no hn)
            · obtain ⟨k, b, n, s, l, ks⟩ := z
              exact hp.2.2.2.2.2.1

theorem part_in {x y : V} (h : y ∈ x.list) : ∀ z ∈ walkV y, z ∈ walkV x := walk_part h rfl
theorem self_in (x : V) : x ∈ walkV x := by obtain ⟨_, _, _, _, _, _⟩ := x; rw [walkV]; exact List.mem_cons_self
theorem getD_in {l : List V} {i : Nat} (h : i < l.length) : l.getD i default ∈ l := by rw [getD_lt _ _ _ h]; exact List.getElem_mem h
theorem ord_lt {x : V} {ps : List Nat} (h : isOrd x ps) {i : Nat} (hi : i < ps.length) : ps.getD i 0 < x.list.length := by
  rw [getD_lt _ _ _ hi]
  have := h.1.mem_iff.1 (List.getElem_mem hi)
  simpa using this
/-- The places are one way, where no key stands twice. -/
theorem ord_uniq {x : V} {ps qs : List Nat} (h : isOrd x ps) (h' : isOrd x qs) (ho : x.keys.Nodup) (hl : x.kind = 5 → x.keys.length = x.list.length) : ps = qs := by
  by_cases hk : x.kind = 5
  · obtain ⟨h1, _, h3⟩ := h
    obtain ⟨h1', _, h3'⟩ := h'
    have hlen := hl hk
    refine List.Perm.eq_of_pairwise (le := fun p q => ¬ cmpK (x.keys.getD q ⟨#[]⟩) (x.keys.getD p ⟨#[]⟩) < 0) ?_ ?_ ?_ (h1.trans h1'.symm)
    · intro a b ha hb hab hba
      have ha' : a < x.keys.length := by rw [hlen]; simpa using h1.mem_iff.1 ha
      have hb' : b < x.keys.length := by rw [hlen]; simpa using h1'.mem_iff.1 hb
      rw [getD_lt _ _ _ ha', getD_lt _ _ _ hb', cmpK_neg] at hab hba
      have e : x.keys[a] = x.keys[b] := by
        have := List.le_antisymm (List.not_lt.1 hab) (List.not_lt.1 hba)
        exact ByteArray.ext (by simpa using congrArg List.toArray this)
      rcases Nat.lt_trichotomy a b with hlt | rfl | hlt
      · exact absurd ho (not_nodup x.keys a b hlt hb' e)
      · rfl
      · exact absurd ho (not_nodup x.keys b a hlt ha' e.symm)
    · rw [List.pairwise_iff_getElem]
      intro i j hi hj hij
      exact h3 hk i j hij hj
    · rw [List.pairwise_iff_getElem]
      intro i j hi hj hij
      exact h3' hk i j hij hj
  · rw [h.2.1 hk, h'.2.1 hk]

theorem sort_uniq {x y : V} (h : SortR x y) : ∀ {y' : V}, onceV x → SortR x y' → y = y' := by
  induction h with
  | mk k b n s l ks l' ks' ps ho hl hs hk ih =>
    intro y' hx h'
    cases h' with
    | mk _ _ _ _ _ _ l2 ks2 qs ho2 hl2 hs2 hk2 =>
      obtain ⟨hx1, hx2⟩ := hx _ (self_in _)
      obtain rfl := ord_uniq ho ho2 hx1 hx2
      have e1 : l' = l2 := by
        apply List.ext_getElem (by omega)
        intro i h1 h2
        have hp : ps.getD i 0 < l.length := ord_lt ho (by omega)
        exact ih i h1 (fun z hz => hx z (part_in (getD_in hp) z hz)) (hs2 i h2)
      rw [e1, hk, hk2]
theorem walkVs_mem {z : V} : ∀ {l : List V}, z ∈ walkVs l → ∃ y ∈ l, z ∈ walkV y
  | [], h => by rw [walkVs] at h; cases h
  | a :: t, h => by
    rw [walkVs] at h
    rcases List.mem_append.1 h with h | h
    · exact ⟨a, by simp, h⟩
    · obtain ⟨y, hy, hz⟩ := walkVs_mem h
      exact ⟨y, by simp [hy], hz⟩
theorem sort_wide {x y : V} (h : SortR x y) : (onceV x → wideV x → wideV y) ∧ depthV y ≤ depthV x := by
  induction h with
  | mk k b n s l ks l' ks' ps ho hl hs hk ih =>
    have hpl : ps.length = l.length := by have := ho.1.length_eq; simpa [V.list] using this
    constructor
    · intro hO hx z hz
      rw [walkV] at hz
      rcases List.mem_cons.1 hz with rfl | hz
      · have h1 := hx _ (self_in _)
        have h1a : l.length ≤ 1000000 := h1.1
        have h1b : ks.length ≤ 3000 := h1.2
        refine ⟨by show l'.length ≤ _; omega, ?_⟩
        show ks'.length ≤ 3000
        rw [hk]
        split
        · rename_i h5
          have h6 : ks.length = l.length := (hO _ (self_in _)).2 h5
          rw [List.length_map, hpl]
          omega
        · exact h1b
      · obtain ⟨y, hy, hz⟩ := walkVs_mem hz
        obtain ⟨i, hi, rfl⟩ := List.getElem_of_mem hy
        have hp : ps.getD i 0 < l.length := ord_lt ho (by omega)
        exact (ih i hi).1 (fun q hq => hO q (part_in (getD_in hp) q hq)) (fun q hq => hx q (part_in (getD_in hp) q hq)) z hz
    · rw [depthV, depthV]
      have := depthVs_le (depthVs l) l' (fun y hy => by
        obtain ⟨i, hi, rfl⟩ := List.getElem_of_mem hy
        have hp : ps.getD i 0 < l.length := ord_lt ho (by omega)
        have h1 := (ih i hi).2
        have h2 := depthVs_get l _ hp
        rw [getD_lt _ _ _ hp] at h1
        omega)
      omega
/-- The sorted value, where there is just one. -/
noncomputable def psortV (x : V) : V := @Classical.epsilon V ⟨x⟩ (fun y => SortR x y)
theorem psort_eq {x y : V} (h : SortR x y) (ho : onceV x) : y = psortV x :=
  sort_uniq h ho (@Classical.epsilon_spec_aux V ⟨x⟩ (fun y => SortR x y) ⟨y, h⟩)

theorem pwrong_zero {x : V} (h : pwrongV x = 0) : wrongV x = 0 ∧ depthV x ≤ 24 := by
  unfold pwrongV at h
  split at h
  · omega
  · exact ⟨h, by omega⟩
/-- What compare answers. -/
noncomputable def cmpA (x y : V) : Int × Bool := if pwrongV x ≠ 0 ∨ pwrongV y ≠ 0 then (0, false) else (pcmpV (psortV x) (psortV y), true)

theorem wide_of {x : V} (h : sizeV x ≤ 1000000) (hF : fineV x) : wideV x := fun z hz => by
  refine ⟨?_, hF z hz⟩
  have hsz : ∀ (x : V), z ∈ walkV x → sizeV z ≤ sizeV x := by
    have aux : ∀ (N : Nat) (x : V), sizeV x ≤ N → z ∈ walkV x → sizeV z ≤ sizeV x := by
      intro N
      induction N with
      | zero => intro x hx; exact absurd (sizeV_pos x) (by omega)
      | succ N ih =>
        intro x hx hz
        obtain ⟨k, b, n, s, l, ks⟩ := x
        rw [walkV] at hz
        rcases List.mem_cons.1 hz with rfl | hz
        · exact Nat.le_refl _
        · obtain ⟨y, hy, hz⟩ := walkVs_mem hz
          obtain ⟨i, hi, rfl⟩ := List.getElem_of_mem hy
          have h1 := sizeVs_get l i hi
          rw [sizeV] at hx ⊢
          have := ih l[i] (by omega) hz
          omega
    exact fun x => aux _ x (Nat.le_refl _)
  have h1 := hsz x hz
  have h2 := sizeVs_len z.list
  obtain ⟨k, b, n, s, l, ks⟩ := z
  rw [sizeV] at h1
  show l.length ≤ _
  have : l.length ≤ sizeVs l := h2
  omega

noncomputable def eqA (x y : V) : Bool := (cmpA x y).2 && ((cmpA x y).1 == 0)
noncomputable def lessA (x y : V) : Bool := (cmpA x y).2 && decide ((cmpA x y).1 < 0)
end Go.Proofs.YtllkcldckehipaaGreatDoor

namespace Go.Proofs.YtllkcldckehipaaGreatDoor
open Go.RowKit Go.Shelf

def E0' : ByteArray := ⟨#[]⟩
def nV (n : Int) : V := .mk 2 false n ⟨#[]⟩ [] []
def tV (s : ByteArray) : V := .mk 3 false 0 s [] []
def wA : V := .mk 5 false 0 ⟨#[]⟩ [nV 1, nV 2] [⟨#[97]⟩, ⟨#[98]⟩]
def wB : V := .mk 5 false 0 ⟨#[]⟩ [nV 2, nV 1] [⟨#[98]⟩, ⟨#[97]⟩]
theorem own_zero {x : V} (h1 : plainP x) (h2 : -9007199254740992 ≤ x.num ∧ x.num ≤ 9007199254740992) (h3 : validS x.text = true) (h4 : x.keys.all validS = true) (h5 : x.keys.Nodup) : ownW x = 0 := by
  unfold ownW
  rw [plain_yes h1, if_neg (by simp), if_neg (by omega), h3, if_neg (by simp), h4, if_neg (by simp), once_yes h5, if_neg (by simp)]
theorem wrong_n (n : Int) (h : -9007199254740992 ≤ n ∧ n ≤ 9007199254740992) : wrongV (nV n) = 0 := by
  unfold nV
  rw [wrongV, own_zero (x := .mk 2 false n ⟨#[]⟩ [] []) ⟨by omega, (by intro h; cases h), (fun _ => rfl), (fun h => absurd rfl h), (fun h => absurd rfl h), (by intro h; cases h), (fun _ => rfl)⟩ h rfl rfl List.nodup_nil, if_pos rfl, wrongVs]
theorem wrong_t (s : ByteArray) (h : validS s = true) : wrongV (tV s) = 0 := by
  unfold tV
  rw [wrongV, own_zero (x := .mk 3 false 0 s [] []) ⟨by omega, (by intro h; cases h), (fun h => absurd rfl h), (fun _ => rfl), (fun h => absurd rfl h), (by intro h; cases h), (fun _ => rfl)⟩ (by show (-9007199254740992 : Int) ≤ 0 ∧ (0 : Int) ≤ 9007199254740992; omega) h rfl List.nodup_nil, if_pos rfl, wrongVs]
theorem wrong_obj (x y : V) (s t : ByteArray) (hs : validS s = true) (ht : validS t = true) (hne : s ≠ t) (hx : wrongV x = 0) (hy : wrongV y = 0) : wrongV (.mk 5 false 0 ⟨#[]⟩ [x, y] [s, t]) = 0 := by
  rw [wrongV, own_zero (x := .mk 5 false 0 ⟨#[]⟩ [x, y] [s, t]) ⟨by omega, (by intro h; cases h), (fun h => absurd rfl h), (fun h => absurd rfl h), (fun _ => .inr rfl), (fun _ => rfl), (fun h => absurd rfl h)⟩ (by show (-9007199254740992 : Int) ≤ 0 ∧ (0 : Int) ≤ 9007199254740992; omega) rfl (by simp [V.keys, hs, ht]) (by simp [V.keys, hne]), if_pos rfl, wrongVs, hx, if_pos rfl, wrongVs, hy, if_pos rfl, wrongVs]
theorem sort_leaf (k : Int) (b : Bool) (n : Int) (s : ByteArray) : SortR (.mk k b n s [] []) (.mk k b n s [] []) :=
  SortR.mk k b n s [] [] [] [] [] ⟨List.Perm.refl _, fun _ => rfl, fun _ i j _ hj => absurd hj (by simp)⟩ rfl (fun i h => absurd h (by simp)) (by simp)
theorem sort_wA : SortR wA wA :=
  SortR.mk 5 false 0 ⟨#[]⟩ [nV 1, nV 2] [⟨#[97]⟩, ⟨#[98]⟩] [nV 1, nV 2] [⟨#[97]⟩, ⟨#[98]⟩] [0, 1] ⟨List.Perm.refl _, fun h => absurd rfl h, fun _ i j hi hj => by
      obtain rfl : i = 0 := by simp at hj; omega
      obtain rfl : j = 1 := by simp at hj; omega
      show ¬ cmpK ⟨#[98]⟩ ⟨#[97]⟩ < 0
      decide⟩ rfl (fun i h => by
      match i, h with
      | 0, _ => exact sort_leaf _ _ _ _
      | 1, _ => exact sort_leaf _ _ _ _) rfl
theorem sort_wB : SortR wB wA :=
  SortR.mk 5 false 0 ⟨#[]⟩ [nV 2, nV 1] [⟨#[98]⟩, ⟨#[97]⟩] [nV 1, nV 2] [⟨#[97]⟩, ⟨#[98]⟩] [1, 0] ⟨List.Perm.swap _ _ _, fun h => absurd rfl h, fun _ i j hi hj => by
      obtain rfl : i = 0 := by simp at hj; omega
      obtain rfl : j = 1 := by simp at hj; omega
      show ¬ cmpK ⟨#[98]⟩ ⟨#[97]⟩ < 0
      decide⟩ rfl (fun i h => by
      match i, h with
      | 0, _ => exact sort_leaf _ _ _ _
      | 1, _ => exact sort_leaf _ _ _ _) rfl
theorem wrong_wA : wrongV wA = 0 := wrong_obj _ _ _ _ rfl rfl (by decide) (wrong_n 1 (by omega)) (wrong_n 2 (by omega))
theorem wrong_wB : wrongV wB = 0 := wrong_obj _ _ _ _ rfl rfl (by decide) (wrong_n 2 (by omega)) (wrong_n 1 (by omega))
theorem depth_wA : depthV wA = 2 := rfl
theorem depth_wB : depthV wB = 2 := rfl
theorem pw_of {x : V} (h : wrongV x = 0) (hd : depthV x ≤ 24) : pwrongV x = 0 := by unfold pwrongV; rw [if_neg (by omega), h]
theorem cmpA_of {x y sx sy : V} (hx : wrongV x = 0) (hy : wrongV y = 0) (dx : depthV x ≤ 24) (dy : depthV y ≤ 24) (sx' : SortR x sx) (sy' : SortR y sy) : cmpA x y = (pcmpV sx sy, true) := by
  unfold cmpA
  rw [if_neg (by rw [pw_of hx dx, pw_of hy dy]; simp), psort_eq sx' (once_of_wrong hx), psort_eq sy' (once_of_wrong hy)]
theorem wake_eq : eqA wA wB = true := by
  unfold eqA
  rw [cmpA_of wrong_wA wrong_wB (by decide) (by decide) sort_wA sort_wB]
  rfl
theorem wake_less : lessA (nV 2) (tV ⟨#[97]⟩) = true := by
  unfold lessA
  rw [cmpA_of (wrong_n 2 (by omega)) (wrong_t ⟨#[97]⟩ rfl) (by decide) (by decide) (sort_leaf _ _ _ _) (sort_leaf _ _ _ _)]
  rfl
theorem fine_wA : fineV wA := by unfold fineV; decide
theorem fine_wB : fineV wB := by unfold fineV; decide
end Go.Proofs.YtllkcldckehipaaGreatDoor

namespace Go.Proofs.YtllkcldckehipaaGreatDoor
open Go.RowKit Go.Shelf

theorem obj_isV {W : World} {gL gK : Nat} {t t' : TypeId} (n1 n2 : Int) (h1 : -9223372036854775808 ≤ n1 ∧ n1 ≤ 9223372036854775807) (h2 : -9223372036854775808 ≤ n2 ∧ n2 ≤ 9223372036854775807) (s1 s2 : ByteArray) (hs1 : s1.size ≤ maxLen) (hs2 : s2.size ≤ maxLen)
    (hL : W.heap[gL]? = some (.cells #[.int .i8 2, .bool false, .int .i64 n1, .string ⟨#[]⟩, .slice none 0 0, .slice none 0 0, .int .i8 2, .bool false, .int .i64 n2, .string ⟨#[]⟩, .slice none 0 0, .slice none 0 0] t (0, 0))) (hK : W.heap[gK]? = some (.cells #[.string s1, .string s2] t' (0, 0))) :
    isV W (.mk 5 false 0 ⟨#[]⟩ [nV n1, nV n2] [s1, s2]) (.agg #[.int .i8 5, .bool false, .int .i64 0, .string ⟨#[]⟩, .slice (some ⟨gL, 0, none⟩) 2 2, .slice (some ⟨gK, 0, none⟩) 2 2]) := by
  have cl : ∀ i, i < 12 → W.cell? ⟨gL, i, none⟩ = (#[.int .i8 2, .bool false, .int .i64 n1, .string ⟨#[]⟩, .slice none 0 0, .slice none 0 0, .int .i8 2, .bool false, .int .i64 n2, .string ⟨#[]⟩, .slice none 0 0, .slice none 0 0] : Array Value)[i]? := fun i _ => by unfold World.cell?; simp [hL]
  have ck : ∀ i, i < 2 → W.cell? ⟨gK, i, none⟩ = (#[.string s1, .string s2] : Array Value)[i]? := fun i _ => by unfold World.cell?; simp [hK]
  unfold isV
  refine ⟨_, _, rfl, by omega, by omega, by decide, ⟨⟨gL, 0, none⟩, 2, ⟨_, rfl, Nat.le_refl _, by unfold maxLen; decide, fun _ => rfl⟩, ?_⟩, ⟨⟨gK, 0, none⟩, 2, ⟨_, rfl, Nat.le_refl _, by unfold maxLen; decide, fun _ => rfl⟩, ?_⟩⟩
  · unfold isVs
    refine ⟨⟨_, _, _, _, _, _, cl 0 (by decide), cl 1 (by decide), cl 2 (by decide), cl 3 (by decide), cl 4 (by decide), cl 5 (by decide), isV_leaf _ 2 false n1 ⟨#[]⟩ (by omega) h1 (by decide)⟩, ?_⟩
    unfold isVs
    refine ⟨⟨_, _, _, _, _, _, cl 6 (by decide), cl 7 (by decide), cl 8 (by decide), cl 9 (by decide), cl 10 (by decide), cl 11 (by decide), isV_leaf _ 2 false n2 ⟨#[]⟩ (by omega) h2 (by decide)⟩, ?_⟩
    unfold isVs
    trivial
  · intro i hi
    match i, hi with
    | 0, _ => exact ⟨ck 0 (by decide), hs1⟩
    | 1, _ => exact ⟨ck 1 (by decide), hs2⟩

end Go.Proofs.YtllkcldckehipaaGreatDoor

namespace Go.Proofs.YtllkcldckehipaaGreatDoor
open Go.RowKit Go.Shelf

theorem wt_fine : ∀ (left : Nat) (x : V), wtV left x ≤ 5000 → fineV x
  | 0, x, h => by unfold wtV at h; omega
  | left + 1, x, h => by
    obtain ⟨k, b, n, s, l, ks⟩ := x
    unfold wtV at h
    split at h
    · omega
    · rename_i hc
      simp only [V.list, V.text, V.keys] at h hc
      have hf := fold_small (wtV left) l _ h
      rw [hf] at h
      intro z hz
      rw [walkV] at hz
      rcases List.mem_cons.1 hz with rfl | hz
      · simp only [V.keys]; omega
      · obtain ⟨y, hy, hzy⟩ := walkVs_mem hz
        exact wt_fine left y (by have := mem_sum_le (wtV left) l y hy; omega) z hzy
theorem great_fine {x : V} (h : greatB x = false) : fineV x := wt_fine 30 x (by
  have h1 : ¬ 5000 < wtV 30 x := of_decide_eq_false h
  omega)

noncomputable def pcheckV (x : V) : Int := if pwrongV x ≠ 0 then pwrongV x else if 4096 < countV x then 3 else 0

set_option maxRecDepth 100000 in
set_option maxHeartbeats 4000000 in
theorem pcheck_any (x : V) (v : Value) (w : World) (hE : Env w) (hM : sizeV x ≤ 1000000) (hF : fineV x) (h : isV w x v) :
    Calls Tryz.prog 31 #[v] w fun e w' => e = .returned (.int .i64 (pcheckV x)) ∧ Below w.heap.size w w' := by
  have hcle : countV x ≤ 1000000 := Nat.le_trans (count_le_size x) hM
  have hC : pcheckV x = if pwrongV x ≠ 0 then pwrongV x else if 4096 < countV x then 3 else 0 := rfl
  obtain ⟨k, b, n, s, o, m, c, o2, m2, c2, rfl⟩ := isV_six h
  have HB0 : Hid (KB w (w.alloc (.cells #[.int .i8 k, .bool b, .int .i64 n, .string s, .slice o m c, .slice o2 m2 c2] 26))) := Lib.hid kbA
  have P2 : Hid (∀ w1, KB (w.alloc (.cells #[.int .i8 k, .bool b, .int .i64 n, .string s, .slice o m c, .slice o2 m2 c2] 26)) w1 → Calls Tryz.prog 45 #[.agg #[.int .i8 k, .bool b, .int .i64 n, .string s, .slice o m c, .slice o2 m2 c2]] w1 fun e w' => e = .returned (.int .i64 (pwrongV x)) ∧ KB (w.alloc (.cells #[.int .i8 k, .bool b, .int .i64 n, .string s, .slice o m c, .slice o2 m2 c2] 26)) w') := Lib.hid fun w1 hK => Calls.kb hK (pwrong_any x _ w1 ((hE.kb kbA).kb hK) hM hF (isV_below hK (isV_below kbA h)))
  have P3 : Hid (∀ w1, KB (w.alloc (.cells #[.int .i8 k, .bool b, .int .i64 n, .string s, .slice o m c, .slice o2 m2 c2] 26)) w1 → Calls Tryz.prog 46 #[.agg #[.int .i8 k, .bool b, .int .i64 n, .string s, .slice o m c, .slice o2 m2 c2]] w1 fun e w' => e = .returned (.int .i64 (countV x)) ∧ KB (w.alloc (.cells #[.int .i8 k, .bool b, .int .i64 n, .string s, .slice o m c, .slice o2 m2 c2] 26)) w') := Lib.hid fun w1 hK => Calls.kb hK (pcount_any x _ w1 hM (isV_below hK (isV_below kbA h)))
  have HC : Hid (∀ w1, KB (w.alloc (.cells #[.int .i8 k, .bool b, .int .i64 n, .string s, .slice o m c, .slice o2 m2 c2] 26)) w1 → w1.cell? ⟨w.heap.size, 0, none⟩ = some (.int .i8 k) ∧ w1.cell? ⟨w.heap.size, 1, none⟩ = some (.bool b) ∧ w1.cell? ⟨w.heap.size, 2, none⟩ = some (.int .i64 n) ∧ w1.cell? ⟨w.heap.size, 3, none⟩ = some (.string s) ∧ w1.cell? ⟨w.heap.size, 4, none⟩ = some (.slice o m c) ∧ w1.cell? ⟨w.heap.size, 5, none⟩ = some (.slice o2 m2 c2)) := Lib.hid fun w1 hK =>
    ⟨cell_below hK _ _ (by simp), cell_below hK _ _ (by simp), cell_below hK _ _ (by simp), cell_below hK _ _ (by simp), cell_below hK _ _ (by simp), cell_below hK _ _ (by simp)⟩
  obtain ⟨y, hy⟩ : ∃ y, pcheckV x = y := ⟨_, rfl⟩
  rw [hy] at hC ⊢
  obtain ⟨E, hEE⟩ : ∃ E, pwrongV x = E := ⟨_, rfl⟩
  obtain ⟨C, hCC⟩ : ∃ C, countV x = C := ⟨_, rfl⟩
  rw [hEE, hCC] at hC
  rw [hEE] at P2
  rw [hCC] at P3 hcle
  clear h hE hM hF hy hEE hCC
  by_cases hE0 : E ≠ 0
  · have HY : Hid (y = E) := Lib.hid (hC.trans (if_pos hE0))
    have z1 : (E == 0) = false := beqI hE0
    have z2 : (E != 0) = true := bne_iff_ne.2 hE0
    clear hC hE0
    go_enter Tryz.func31, Tryz.ntmps31
    go_wp2_with fail
    refine (P2.out _ (Below.refl _ _)).mono ?_
    rintro e w5 ⟨rfl, hb5⟩
    go_wp2_with fail
    go_ret
    exact ⟨ret_int (by rw [HY.out]), HB0.out.trans (hb5.mono HB0.out.size)⟩
  · obtain rfl : E = 0 := Decidable.not_not.1 hE0
    rw [if_neg hE0] at hC
    have HY : Hid (y = if 4096 < C then 3 else 0) := Lib.hid hC
    clear hC hE0
    by_cases hc : 4096 < C
    · have c1 : decide ((4096 : Int) < (C : Int)) = true := decide_eq_true (by omega)
      have HZ : Hid (y = 3) := Lib.hid (HY.out.trans (if_pos hc))
      clear hc
      go_enter Tryz.func31, Tryz.ntmps31
      go_wp2_with fail
      refine (P2.out _ (Below.refl _ _)).mono ?_
      rintro e w5 ⟨rfl, hb5⟩
      obtain ⟨m0, m1, m2, m3, m4, m5⟩ := HC.out w5 hb5
      go_wp2_with (go_at_call 46; (refine (P3.out _ hb5).mono ?_); rintro e w6 ⟨rfl, hb6⟩)
      go_ret
      exact ⟨ret_int (by rw [HZ.out]), HB0.out.trans (hb6.mono HB0.out.size)⟩
    · have c1 : decide ((4096 : Int) < (C : Int)) = false := decide_eq_false (by omega)
      have HZ : Hid (y = 0) := Lib.hid (HY.out.trans (if_neg hc))
      clear hc
      go_enter Tryz.func31, Tryz.ntmps31
      go_wp2_with fail
      refine (P2.out _ (Below.refl _ _)).mono ?_
      rintro e w5 ⟨rfl, hb5⟩
      obtain ⟨m0, m1, m2, m3, m4, m5⟩ := HC.out w5 hb5
      go_wp2_with (go_at_call 46; (refine (P3.out _ hb5).mono ?_); rintro e w6 ⟨rfl, hb6⟩)
      go_ret
      exact ⟨ret_int (by rw [HZ.out]), HB0.out.trans (hb6.mono HB0.out.size)⟩

/-- There are places. -/
theorem ord_some (x : V) : ∃ ps, isOrd x ps := by
  by_cases hk : x.kind = 5
  · refine ⟨(List.range x.list.length).mergeSort (fun i j => !decide (cmpK (x.keys.getD j ⟨#[]⟩) (x.keys.getD i ⟨#[]⟩) < 0)), List.mergeSort_perm _ _, fun h => absurd hk h, fun _ i j hi hj => ?_⟩
    have hs := List.pairwise_mergeSort (le := fun i j => !decide (cmpK (x.keys.getD j ⟨#[]⟩) (x.keys.getD i ⟨#[]⟩) < 0)) (by
      intro a b c h1 h2
      simp only [Bool.not_eq_true', decide_eq_false_iff_not, cmpK_neg] at h1 h2 ⊢
      exact fun h3 => absurd (List.le_trans h1 h2) (by simpa using h3)) (by
      intro a b
      simp only [Bool.or_eq_true, Bool.not_eq_true', decide_eq_false_iff_not, cmpK_neg]
      rcases List.le_total (x.keys.getD a ⟨#[]⟩).data.toList (x.keys.getD b ⟨#[]⟩).data.toList with h | h
      · exact .inl h
      · exact .inr h) (List.range x.list.length)
    have := (List.pairwise_iff_getElem.1 hs) i j (by omega) hj hi
    simpa using this
  · exact ⟨List.range x.list.length, List.Perm.refl _, fun _ => rfl, fun h => absurd h hk⟩
theorem sort_some : ∀ (N : Nat) (x : V), sizeV x ≤ N → SortR x (psortV x)
  | 0, x, h => absurd (sizeV_pos x) (by omega)
  | N + 1, x, h => by
    obtain ⟨ps, hps⟩ := ord_some x
    have hlt : ∀ i, i < ps.length → ps.getD i 0 < x.list.length := fun i hi => ord_lt hps hi
    obtain ⟨k, b, n, s, l, ks⟩ := x
    simp only [V.list] at hlt
    refine Classical.epsilon_spec (p := fun y => SortR (.mk k b n s l ks) y) ⟨_, SortR.mk k b n s l ks (ps.map fun p => psortV (l.getD p default)) (if k = 5 then ps.map (fun p => ks.getD p ⟨#[]⟩) else ks) ps hps (by simp) (fun i hi => ?_) rfl⟩
    have hi' : i < ps.length := by simpa using hi
    rw [List.getElem_map, getD_lt ps i 0 hi']
    refine sort_some N _ ?_
    have hp := hlt i hi'
    rw [getD_lt ps i 0 hi'] at hp
    rw [getD_lt l _ _ hp]
    have := sizeVs_get l _ hp
    unfold sizeV at h
    omega
theorem sort_p (x : V) : SortR x (psortV x) := sort_some _ x (Nat.le_refl _)

def wrapL (x : V) : V := .mk 4 false 0 ⟨#[]⟩ [x] []
def wrapO (s : ByteArray) (x : V) : V := .mk 5 false 0 ⟨#[]⟩ [x] [s]
theorem sort_wrapL {x y : V} (h : SortR x y) : SortR (wrapL x) (wrapL y) :=
  SortR.mk 4 false 0 ⟨#[]⟩ [x] [] [y] [] [0] ⟨List.Perm.refl _, fun _ => rfl, fun h => absurd h (by show ¬ (4 : Int) = 5; decide)⟩ rfl (fun i hi => by
    obtain rfl : i = 0 := by simp at hi; exact hi
    exact h) rfl
theorem sort_wrapO (s : ByteArray) {x y : V} (h : SortR x y) : SortR (wrapO s x) (wrapO s y) :=
  SortR.mk 5 false 0 ⟨#[]⟩ [x] [s] [y] [s] [0] ⟨List.Perm.refl _, fun h => absurd rfl h, fun _ i j hi hj => absurd hj (by simp; omega)⟩ rfl (fun i hi => by
    obtain rfl : i = 0 := by simp at hi; exact hi
    exact h) rfl
theorem pcmp_wrapL (x y : V) : pcmpV (wrapL x) (wrapL y) = pcmpV x y := by
  unfold wrapL
  rw [pcmpV_mk, if_neg (by simp), if_neg (by decide), if_neg (by decide), if_neg (by decide), if_neg (by decide), pcmpVs]
  split
  · rename_i h; rw [pcmpVs, h]
  · rfl
theorem pcmp_wrapO (s : ByteArray) (x y : V) : pcmpV (wrapO s x) (wrapO s y) = pcmpV x y := by
  unfold wrapO
  rw [pcmpV_mk, if_neg (by simp), if_neg (by decide), if_neg (by decide), if_neg (by decide), if_pos rfl, if_pos (by rw [cmpKs, if_pos ((cmpK_zero s s).2 rfl), cmpKs]), pcmpVs]
  split
  · rename_i h; rw [pcmpVs, h]
  · rfl
theorem pcheck_zero {x : V} (h : pcheckV x = 0) : wrongV x = 0 ∧ depthV x ≤ 24 ∧ countV x ≤ 4096 := by
  unfold pcheckV at h
  by_cases h1 : pwrongV x ≠ 0
  · rw [if_pos h1] at h; exact absurd h h1
  · rw [if_neg h1] at h
    obtain ⟨h2, h3⟩ := pwrong_zero (Decidable.not_not.1 h1)
    refine ⟨h2, h3, ?_⟩
    by_cases hc : 4096 < countV x
    · rw [if_pos hc] at h; omega
    · omega
theorem pcheck_part {k n : Int} {b : Bool} {s : ByteArray} {x : V} {ks : List ByteArray} (h : pcheckV (.mk k b n s [x] ks) = 0) : pcheckV x = 0 := by
  obtain ⟨h1, h2, h3⟩ := pcheck_zero h
  have hw : wrongV x = 0 := by
    rw [wrongV] at h1
    by_cases h0 : ownW (.mk k b n s [x] ks) = 0
    · rw [if_pos h0, wrongVs] at h1
      by_cases h4 : wrongV x = 0
      · exact h4
      · rw [if_neg h4] at h1; exact h1
    · rw [if_neg h0] at h1; exact absurd h1 h0
  have hd : depthV x ≤ 24 := by simp only [depthV, depthVs] at h2; omega
  have hc : countV x ≤ 4096 := by simp only [countV, countVs] at h3; omega
  unfold pcheckV
  rw [if_neg (by rw [pw_of hw hd]; simp), if_neg (by omega)]
theorem cmpA_wrapL {x y : V} (hx : pcheckV (wrapL x) = 0) (hy : pcheckV (wrapL y) = 0) : cmpA (wrapL x) (wrapL y) = cmpA x y := by
  obtain ⟨a1, a2, _⟩ := pcheck_zero hx
  obtain ⟨b1, b2, _⟩ := pcheck_zero hy
  obtain ⟨c1, c2, _⟩ := pcheck_zero (pcheck_part hx)
  obtain ⟨d1, d2, _⟩ := pcheck_zero (pcheck_part hy)
  rw [cmpA_of a1 b1 a2 b2 (sort_wrapL (sort_p x)) (sort_wrapL (sort_p y)), cmpA_of c1 d1 c2 d2 (sort_p x) (sort_p y), pcmp_wrapL]
theorem cmpA_wrapO (s : ByteArray) {x y : V} (hx : pcheckV (wrapO s x) = 0) (hy : pcheckV (wrapO s y) = 0) : cmpA (wrapO s x) (wrapO s y) = cmpA x y := by
  obtain ⟨a1, a2, _⟩ := pcheck_zero hx
  obtain ⟨b1, b2, _⟩ := pcheck_zero hy
  obtain ⟨c1, c2, _⟩ := pcheck_zero (pcheck_part hx)
  obtain ⟨d1, d2, _⟩ := pcheck_zero (pcheck_part hy)
  rw [cmpA_of a1 b1 a2 b2 (sort_wrapO s (sort_p x)) (sort_wrapO s (sort_p y)), cmpA_of c1 d1 c2 d2 (sort_p x) (sort_p y), pcmp_wrapO]
theorem size_E : (⟨#[]⟩ : ByteArray).size = 0 := rfl
theorem size_wrapL (x : V) : sizeV (wrapL x) = sizeV x + 1 := by unfold wrapL; simp only [sizeV, sizeVs, keysS, size_E]; simp; omega
theorem size_wrapO (s : ByteArray) (x : V) : sizeV (wrapO s x) = sizeV x + s.size + 1 := by unfold wrapO; simp only [sizeV, sizeVs, keysS, size_E]; simp; omega
theorem count_wrapL (x : V) : countV (wrapL x) = countV x + 1 := by unfold wrapL; simp only [countV, countVs]; omega
theorem count_wrapO (s : ByteArray) (x : V) : countV (wrapO s x) = countV x + 1 := by unfold wrapO; simp only [countV, countVs]; omega
theorem depth_wrapL (x : V) : depthV (wrapL x) = depthV x + 1 := by unfold wrapL; simp only [depthV, depthVs]; omega
theorem depth_wrapO (s : ByteArray) (x : V) : depthV (wrapO s x) = depthV x + 1 := by unfold wrapO; simp only [depthV, depthVs]; omega
theorem fine_wrap {k n : Int} {b : Bool} {s : ByteArray} {x : V} {ks : List ByteArray} (hk : ks.length ≤ 1) (h : fineV x) : fineV (.mk k b n s [x] ks) := by
  intro z hz
  rw [walkV] at hz
  rcases List.mem_cons.1 hz with rfl | hz
  · simp only [V.keys]; omega
  · obtain ⟨y, hy, hzy⟩ := walkVs_mem hz
    obtain rfl : y = x := by simpa using hy
    exact h z hzy
end Go.Proofs.YtllkcldckehipaaGreatDoor
