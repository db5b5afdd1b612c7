/-
  The first occurrence of a permutation in another one, in plain words.
-/
import Derived.Test.YtcklgdcjedikoaaKnuM
namespace Go.Proofs.Ytcklgdcjedikoaa

/-- Position i may come next: its value is to those of at as q's next is to its first ones. -/
def fits (p q : List Nat) (at' : List Nat) (i : Nat) : Bool :=
  (List.range at'.length).all fun j => decide (p.getD (at'.getD j 0) 0 < p.getD i 0) == decide (q.getD j 0 < q.getD at'.length 0)

/-- The search: to so many levels, behind at', from the position s on. -/
def ext (p q : List Nat) : Nat → List Nat → Nat → Option (List Nat)
  | 0, _, _ => none
  | f + 1, at', s => if at'.length = q.length then some at' else
      (List.range' s (p.length - s)).findSome? fun i => if fits p q at' i then ext p q f (at' ++ [i]) (i + 1) else none
/-- The first occurrence. -/
def occ (p q : List Nat) : Option (List Nat) := ext p q (q.length + 1) [] 0

/-- What is tried at one position. -/
def tryAt (p q : List Nat) (f : Nat) (at' : List Nat) (i : Nat) : Option (List Nat) := if fits p q at' i then ext p q f (at' ++ [i]) (i + 1) else none
theorem ext_full {p q : List Nat} {f : Nat} {at' : List Nat} {s : Nat} (h : at'.length = q.length) : ext p q (f + 1) at' s = some at' := if_pos h
theorem ext_go {p q : List Nat} {f : Nat} {at' : List Nat} {s : Nat} (h : at'.length ≠ q.length) : ext p q (f + 1) at' s = (List.range' s (p.length - s)).findSome? (tryAt p q f at') := if_neg h

/-- Nothing was found at the positions from s on, k of them. -/
def Nope (p q : List Nat) (f : Nat) (at' : List Nat) (s k : Nat) : Prop := ∀ i, s ≤ i → i < s + k → tryAt p q f at' i = none
theorem Nope.zero (p q : List Nat) (f : Nat) (at' : List Nat) (s : Nat) : Nope p q f at' s 0 := fun i h1 h2 => absurd h2 (by omega)
theorem Nope.snoc {p q : List Nat} {f : Nat} {at' : List Nat} {s k : Nat} (h : Nope p q f at' s k) (h1 : tryAt p q f at' (s + k) = none) : Nope p q f at' s (k + 1) := fun i h2 h3 => by
  by_cases e : i = s + k
  · rw [e]; exact h1
  · exact h i h2 (by omega)
theorem ext_none {p q : List Nat} {f : Nat} {at' : List Nat} {s : Nat} (h : at'.length ≠ q.length) (hn : Nope p q f at' s (p.length - s)) : ext p q (f + 1) at' s = none := by
  rw [ext_go h, List.findSome?_eq_none_iff]
  intro i hi
  rw [List.mem_range'_1] at hi
  exact hn i hi.1 hi.2
theorem ext_some {p q : List Nat} {f : Nat} {at' : List Nat} {s k : Nat} {r : List Nat} (h : at'.length ≠ q.length) (hk : s + k < p.length) (hn : Nope p q f at' s k) (hr : tryAt p q f at' (s + k) = some r) : ext p q (f + 1) at' s = some r := by
  rw [ext_go h, show p.length - s = k + (p.length - s - k) by omega, ← List.range'_append_1, List.findSome?_append]
  have h1 : (List.range' s k).findSome? (tryAt p q f at') = none := by
    rw [List.findSome?_eq_none_iff]
    intro i hi
    rw [List.mem_range'_1] at hi
    exact hn i hi.1 hi.2
  rw [h1, show p.length - s - k = (p.length - s - k - 1) + 1 by omega, List.range'_succ, List.findSome?_cons, hr]
  rfl

/-- The same relation of size at some positions, of the first k. -/
def Like (p q at' : List Nat) : Prop :=
  (∀ i, i < at'.length → at'.getD i 0 < p.length) ∧ (∀ i j, i < j → j < at'.length → at'.getD i 0 < at'.getD j 0) ∧
    ∀ i j, i < j → j < at'.length → (p.getD (at'.getD i 0) 0 < p.getD (at'.getD j 0) 0 ↔ q.getD i 0 < q.getD j 0)

theorem fits_iff {p q at' : List Nat} {i : Nat} : fits p q at' i = true ↔ ∀ j, j < at'.length → (p.getD (at'.getD j 0) 0 < p.getD i 0 ↔ q.getD j 0 < q.getD at'.length 0) := by
  unfold fits
  rw [List.all_eq_true]
  constructor
  · intro h j hj
    have := h j (List.mem_range.2 hj)
    simpa using this
  · intro h j hj
    have := h j (List.mem_range.1 hj)
    simpa using this

theorem app_old {l : List Nat} {x k : Nat} (h : k < l.length) : (l ++ [x]).getD k 0 = l.getD k 0 := by
  simp [List.getD_eq_getElem?_getD, List.getElem?_append_left h]
theorem app_new {l : List Nat} {x : Nat} : (l ++ [x]).getD l.length 0 = x := by
  simp [List.getD_eq_getElem?_getD]

theorem Like.snoc {p q at' : List Nat} {i : Nat} (h : Like p q at') (hi : i < p.length) (hl : ∀ k, k < at'.length → at'.getD k 0 < i) (hf : fits p q at' i = true) : Like p q (at' ++ [i]) := by
  obtain ⟨h1, h2, h3⟩ := h
  rw [fits_iff] at hf
  refine ⟨fun k hk => ?_, fun a b hab hb => ?_, fun a b hab hb => ?_⟩
  · rw [List.length_append, List.length_singleton] at hk
    by_cases e : k = at'.length
    · rw [e, app_new]; exact hi
    · rw [app_old (by omega)]; exact h1 k (by omega)
  · rw [List.length_append, List.length_singleton] at hb
    rw [app_old (show a < at'.length by omega)]
    by_cases e : b = at'.length
    · rw [e, app_new]; exact hl a (by omega)
    · rw [app_old (by omega)]; exact h2 a b hab (by omega)
  · rw [List.length_append, List.length_singleton] at hb
    rw [app_old (show a < at'.length by omega)]
    by_cases e : b = at'.length
    · rw [e, app_new]; exact hf a (by omega)
    · rw [app_old (by omega)]; exact h3 a b hab (by omega)

/-- What the search returns is an occurrence. -/
theorem ext_like {p q : List Nat} : ∀ (f : Nat) (at' : List Nat) (s : Nat) (r : List Nat), Like p q at' → (∀ k, k < at'.length → at'.getD k 0 < s) → ext p q f at' s = some r → Like p q r ∧ r.length = q.length
  | 0, _, _, _, _, _, h => absurd h (by simp [ext])
  | f + 1, at', s, r, hl, hs, h => by
    by_cases e : at'.length = q.length
    · rw [ext_full e] at h
      injection h with h
      rw [← h]
      exact ⟨hl, e⟩
    · rw [ext_go e] at h
      obtain ⟨i, hi, hr⟩ := List.exists_of_findSome?_eq_some h
      rw [List.mem_range'_1] at hi
      unfold tryAt at hr
      split at hr
      · next hf =>
        refine ext_like f _ _ r (hl.snoc (by omega) (fun k hk => by have := hs k hk; omega) hf) (fun k hk => ?_) hr
        rw [List.length_append, List.length_singleton] at hk
        by_cases e2 : k = at'.length
        · rw [e2, app_new]; omega
        · rw [app_old (by omega)]; have := hs k (by omega); omega
      · cases hr

/-- If there is an occurrence that begins so, the search finds one. -/
theorem ext_finds {p q : List Nat} : ∀ (f : Nat) (at' : List Nat) (s : Nat) (r : List Nat), Like p q r → r.length = q.length → at' = r.take at'.length → at'.length ≤ q.length → q.length < f + at'.length →
    (at'.length < q.length → s ≤ r.getD at'.length 0) → ∃ o, ext p q f at' s = some o
  | 0, _, _, _, _, _, _, h1, h2, _ => absurd h2 (by omega)
  | f + 1, at', s, r, hl, hr, ht, h1, h2, hs => by
    by_cases e : at'.length = q.length
    · exact ⟨_, ext_full e⟩
    · rw [ext_go e]
      cases hc : (List.range' s (p.length - s)).findSome? (tryAt p q f at') with
      | some o => exact ⟨o, rfl⟩
      | none =>
        exfalso
        rw [List.findSome?_eq_none_iff] at hc
        have hlt : at'.length < q.length := by omega
        have hk := hs hlt
        have hpk := hl.1 at'.length (by omega)
        have hold : ∀ j, j < at'.length → at'.getD j 0 = r.getD j 0 := fun j hj => by
          rw [ht]
          simp [List.getD_eq_getElem?_getD, List.getElem?_take_of_lt hj]
        have hn := hc (r.getD at'.length 0) (by rw [List.mem_range'_1]; omega)
        unfold tryAt at hn
        rw [if_pos (fits_iff.2 fun j hj => by rw [hold j hj]; exact hl.2.2 j at'.length hj (by omega))] at hn
        have hlen : (at' ++ [r.getD at'.length 0]).length = at'.length + 1 := by simp
        obtain ⟨o, ho⟩ := ext_finds f (at' ++ [r.getD at'.length 0]) (r.getD at'.length 0 + 1) r hl hr (by
          rw [hlen, take_more r at'.length (by omega), ← ht]) (by rw [hlen]; omega) (by rw [hlen]; omega) (fun h3 => by
          rw [hlen] at h3 ⊢
          exact hl.2.1 at'.length (at'.length + 1) (by omega) (by omega))
        rw [hn] at ho
        cases ho

theorem occ_like {p q r : List Nat} (h : occ p q = some r) : Like p q r ∧ r.length = q.length :=
  ext_like _ _ _ _ ⟨fun i hi => by simp at hi, fun i j hij hj => by simp at hj, fun i j hij hj => by simp at hj⟩ (fun k hk => by simp at hk) h
theorem occ_finds {p q r : List Nat} (hl : Like p q r) (hr : r.length = q.length) : ∃ o, occ p q = some o :=
  ext_finds _ _ _ r hl hr rfl (by simp) (by simp) fun _ => Nat.zero_le _
theorem occ_isSome {p q : List Nat} : (occ p q).isSome = true ↔ ∃ r, Like p q r ∧ r.length = q.length := by
  constructor
  · intro h
    obtain ⟨r, hr⟩ := Option.isSome_iff_exists.1 h
    exact ⟨r, occ_like hr⟩
  · rintro ⟨r, h1, h2⟩
    obtain ⟨o, ho⟩ := occ_finds h1 h2
    rw [ho]; rfl

end Go.Proofs.Ytcklgdcjedikoaa
