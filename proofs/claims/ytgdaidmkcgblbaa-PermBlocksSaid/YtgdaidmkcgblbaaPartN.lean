/-
  Lists of different numbers without a gap: how many of them are less than a number.
  Where the parts of a cut list, and of the longest blocks, begin and end.
  The parts of a list without a gap have none, and are apart.
  The parts of the three kinds are in the order that is said of them.
  The pattern of the longest blocks of a list that cannot be cut is simple.
-/
import Derived.Test.YtgdaidmkcgblbaaTreeT
namespace Go.Proofs.Ytgdaidmkcgblbaa


theorem getD_mem (l : List Nat) (i : Nat) (h : i < l.length) : l.getD i 0 ∈ l := by
  rw [List.getD_eq_getElem?_getD, List.getElem?_eq_getElem h]; exact List.getElem_mem h
theorem mem_getD {l : List Nat} {x : Nat} (h : x ∈ l) : ∃ i, i < l.length ∧ l.getD i 0 = x := by
  obtain ⟨i, hi, e⟩ := List.getElem_of_mem h
  exact ⟨i, hi, by rw [List.getD_eq_getElem?_getD, List.getElem?_eq_getElem hi]; exact e⟩

theorem minTo_mem (l : List Nat) (h : 0 < l.length) : ∀ k, k ≤ l.length → minTo l k ∈ l
  | 0, _ => getD_mem l 0 h
  | k + 1, hk => by
    have := minTo_mem l h k (by omega)
    have := getD_mem l k (by omega)
    unfold minTo
    rcases Nat.le_total (minTo l k) (l.getD k 0) with e | e
    · rw [Nat.min_eq_left e]; assumption
    · rw [Nat.min_eq_right e]; assumption
theorem minTo_low (l : List Nat) : ∀ k j, j < k → minTo l k ≤ l.getD j 0
  | 0, j, h => absurd h (by omega)
  | k + 1, j, h => by
    unfold minTo
    by_cases e : j = k
    · subst e; omega
    · have := minTo_low l k j (by omega); omega
theorem maxTo_mem (l : List Nat) (h : 0 < l.length) : ∀ k, k ≤ l.length → maxTo l k ∈ l
  | 0, _ => getD_mem l 0 h
  | k + 1, hk => by
    have := maxTo_mem l h k (by omega)
    have := getD_mem l k (by omega)
    unfold maxTo
    rcases Nat.le_total (maxTo l k) (l.getD k 0) with e | e
    · rw [Nat.max_eq_right e]; assumption
    · rw [Nat.max_eq_left e]; assumption
theorem maxTo_high (l : List Nat) : ∀ k j, j < k → l.getD j 0 ≤ maxTo l k
  | 0, j, h => absurd h (by omega)
  | k + 1, j, h => by
    unfold maxTo
    by_cases e : j = k
    · subst e; omega
    · have := maxTo_high l k j (by omega); omega
theorem minL_mem {l : List Nat} (h : 0 < l.length) : minL l ∈ l := minTo_mem l h _ (Nat.le_refl _)
theorem maxL_mem {l : List Nat} (h : 0 < l.length) : maxL l ∈ l := maxTo_mem l h _ (Nat.le_refl _)
theorem minL_low {l : List Nat} {x : Nat} (h : x ∈ l) : minL l ≤ x := by
  obtain ⟨i, hi, rfl⟩ := mem_getD h
  exact minTo_low l _ i hi
theorem maxL_high {l : List Nat} {x : Nat} (h : x ∈ l) : x ≤ maxL l := by
  obtain ⟨i, hi, rfl⟩ := mem_getD h
  exact maxTo_high l _ i hi

/-- Different numbers without a gap. -/
def Gapless (l : List Nat) : Prop := l.Nodup ∧ 0 < l.length ∧ maxL l - minL l < l.length

/-- How many are less than a number. -/
def lessN (l : List Nat) (v : Nat) : Nat := l.countP fun x => decide (x < v)
theorem lessN_step (l : List Nat) (v : Nat) : lessN l (v + 1) = lessN l v + l.count v := by
  unfold lessN
  induction l with
  | nil => rfl
  | cons a l ih =>
    rw [List.countP_cons, List.countP_cons, List.count_cons, ih]
    by_cases h1 : a < v
    · have h2 : a < v + 1 := by omega
      have h3 : (a == v) = false := by rw [beq_eq_false_iff_ne]; omega
      simp only [h1, h2, h3, decide_true, if_true, Bool.false_eq_true, if_false]
      omega
    · by_cases h2 : a = v
      · subst h2
        simp
        omega
      · have h3 : ¬ a < v + 1 := by omega
        have h4 : (a == v) = false := by rw [beq_eq_false_iff_ne]; exact h2
        simp only [h1, h3, h4, decide_false, Bool.false_eq_true, if_false, Nat.add_zero]
theorem lessN_low {l : List Nat} {v : Nat} (h : v ≤ minL l) : lessN l v = 0 := by
  unfold lessN
  rw [List.countP_eq_zero]
  intro x hx
  have := minL_low hx
  rw [decide_eq_true_eq]; omega
theorem lessN_high {l : List Nat} {v : Nat} (h : maxL l < v) : lessN l v = l.length := by
  unfold lessN
  rw [List.countP_eq_length]
  intro x hx
  have := maxL_high hx
  rw [decide_eq_true_eq]; omega
theorem lessN_up {l : List Nat} (hd : l.Nodup) (v : Nat) : ∀ d, lessN l (v + d) ≤ lessN l v + d
  | 0 => Nat.le_refl _
  | d + 1 => by
    have h1 := lessN_up hd v d
    have h2 := lessN_step l (v + d)
    have h3 := List.nodup_iff_count.1 hd (v + d)
    rw [← Nat.add_assoc, h2]; omega

/-- Of a list without a gap just so many are less than v. -/
theorem Gapless.less {l : List Nat} (h : Gapless l) {v : Nat} (h1 : minL l ≤ v) (h2 : v ≤ minL l + l.length) : lessN l v = v - minL l := by
  have a := lessN_up h.1 (minL l) (v - minL l)
  have b := lessN_up h.1 v (minL l + l.length - v)
  rw [lessN_low (Nat.le_refl _), show minL l + (v - minL l) = v by omega] at a
  have hle := minL_le l
  have hg := h.2.2
  have hh := lessN_high (l := l) (v := v + (minL l + l.length - v)) (by omega)
  omega
theorem Gapless.max {l : List Nat} (h : Gapless l) : maxL l + 1 = minL l + l.length := by
  have hle := minL_le l
  have hg := h.2.2
  have a := lessN_up h.1 (minL l) (maxL l + 1 - minL l)
  rw [lessN_low (Nat.le_refl _), lessN_high (l := l) (v := minL l + (maxL l + 1 - minL l)) (by omega)] at a
  omega
/-- Whatever lies between is in it. -/
theorem Gapless.mem {l : List Nat} (h : Gapless l) {v : Nat} (h1 : minL l ≤ v) (h2 : v ≤ maxL l) : v ∈ l := by
  have hm := h.max
  have a := h.less h1 (by omega)
  have b := h.less (v := v + 1) (by omega) (by omega)
  have c := lessN_step l v
  exact List.count_pos_iff.1 (by omega)

/-- A list's values, counted from the least. -/
def norm (l : List Nat) : List Nat := l.map fun x => x - minL l
theorem norm_length (l : List Nat) : (norm l).length = l.length := by simp [norm]

theorem nodup_of_inj {l : List Nat} (h : ∀ i j, i < l.length → j < l.length → l.getD i 0 = l.getD j 0 → i = j) : l.Nodup := by
  refine List.pairwise_iff_getElem.2 fun i j hi hj hij e => ?_
  have := h i j hi hj (by rw [List.getD_eq_getElem?_getD, List.getD_eq_getElem?_getD, List.getElem?_eq_getElem hi, List.getElem?_eq_getElem hj]; exact e)
  omega

/-- A permutation has no gap, and its least value is 0. -/
theorem gapless_perm {l : List Nat} (h : IsPerm l) (h0 : 0 < l.length) : Gapless l := by
  refine ⟨nodup_of_inj h.2, h0, ?_⟩
  obtain ⟨i, hi, e⟩ := mem_getD (maxL_mem h0)
  have := h.1 i hi
  omega
theorem minL_perm {l : List Nat} (h : IsPerm l) (h0 : 0 < l.length) : minL l = 0 := by
  have hg := gapless_perm h h0
  have hm := hg.max
  obtain ⟨i, hi, e⟩ := mem_getD (maxL_mem h0)
  have := h.1 i hi
  omega
theorem norm_perm {l : List Nat} (h : IsPerm l) (h0 : 0 < l.length) : norm l = l := by
  unfold norm
  rw [minL_perm h h0]
  simp

end Go.Proofs.Ytgdaidmkcgblbaa

namespace Go.Proofs.Ytgdaidmkcgblbaa

theorem seg_append (p : List Nat) {s e f : Nat} (h1 : s ≤ e) (h2 : e ≤ f) : seg p s e ++ seg p e f = seg p s f := by
  unfold seg
  rw [show f - s = (e - s) + (f - e) by omega, List.take_add, List.drop_drop, show s + (e - s) = e by omega]
theorem seg_all (p : List Nat) : seg p 0 p.length = p := by simp [seg]
theorem seg_none (p : List Nat) (s : Nat) : seg p s s = [] := by simp [seg]
theorem lessN_append (l r : List Nat) (v : Nat) : lessN (l ++ r) v = lessN l v + lessN r v := List.countP_append
theorem seg_sub {p : List Nat} {s e : Nat} {x : Nat} (h : x ∈ seg p s e) : x ∈ p := List.mem_of_mem_drop (List.mem_of_mem_take h)

/-- Where the parts end: the k-th from a k to a (k + 1). -/
structure Ends (p : List Nat) (m : Nat) (a : Nat → Nat) : Prop where
  first : a 0 = 0
  last : a m = p.length
  step : ∀ k, k < m → a k < a (k + 1)
theorem Ends.le {p : List Nat} {m : Nat} {a : Nat → Nat} (h : Ends p m a) : ∀ k d, k + d ≤ m → a k ≤ a (k + d)
  | _, 0, _ => Nat.le_refl _
  | k, d + 1, hk => Nat.le_trans (h.le k d (by omega)) (Nat.le_of_lt (h.step (k + d) (by omega)))
theorem Ends.top {p : List Nat} {m : Nat} {a : Nat → Nat} (h : Ends p m a) {k : Nat} (hk : k ≤ m) : a k ≤ p.length := by
  have := h.le k (m - k) (by omega)
  rwa [show k + (m - k) = m by omega, h.last] at this
/-- The k-th part. -/
def part (p : List Nat) (a : Nat → Nat) (k : Nat) : List Nat := seg p (a k) (a (k + 1))
theorem Ends.length {p : List Nat} {m : Nat} {a : Nat → Nat} (h : Ends p m a) {k : Nat} (hk : k < m) : (part p a k).length = a (k + 1) - a k ∧ 0 < (part p a k).length := by
  have h1 := h.step k hk
  have h2 := h.top (k := k + 1) (by omega)
  have h3 := seg_length p (a k) (a (k + 1)) (by omega) h2
  unfold part
  omega

/-- The parts are in the order of size that ord says. -/
def Apart (p : List Nat) (m : Nat) (a : Nat → Nat) (ord : List Nat) : Prop :=
  ∀ i j, i < m → j < m → (ord.getD j 0 < ord.getD i 0 → maxL (part p a j) < minL (part p a i)) ∧ (¬ ord.getD j 0 < ord.getD i 0 → minL (part p a i) ≤ minL (part p a j))

end Go.Proofs.Ytgdaidmkcgblbaa

namespace Go.Proofs.Ytgdaidmkcgblbaa

/-- What is known of the cuts so far. -/
structure CutSo (T : List Nat → List Nat → Bool) (p : List Nat) (k : Nat) (rows : List (Nat × Nat)) (c : Nat) (a : Nat → Nat) : Prop where
  first : a 0 = 0
  last : a rows.length = c
  row : ∀ i, i < rows.length → rows.getD i (0, 0) = (a i, a (i + 1)) ∧ a i < a (i + 1)
  yes : ∀ i, i < rows.length → T (part p a i) (seg p (a (i + 1)) p.length) = true
  no : ∀ i, i < rows.length → ∀ e, a i < e → e < a (i + 1) → T (seg p (a i) e) (seg p e p.length) = false
  rest : ∀ e, c < e → e ≤ k → T (seg p c e) (seg p e p.length) = false

theorem getD_app {α : Type} (l : List α) (x d : α) (i : Nat) : (l ++ [x]).getD i d = if i < l.length then l.getD i d else if i = l.length then x else d := by
  rw [List.getD_eq_getElem?_getD]
  by_cases h : i < l.length
  · rw [if_pos h, List.getElem?_append_left h, List.getD_eq_getElem?_getD]
  · rw [if_neg h, List.getElem?_append_right (by omega)]
    by_cases e : i = l.length
    · rw [if_pos e, e]; simp
    · rw [if_neg e, List.getElem?_eq_none (by simp; omega)]; rfl

/-- One more end. -/
def endMore (a : Nat → Nat) (m z : Nat) (i : Nat) : Nat := if i ≤ m then a i else z
theorem endMore_old {a : Nat → Nat} {m z i : Nat} (h : i ≤ m) : endMore a m z i = a i := if_pos h
theorem endMore_new {a : Nat → Nat} {m z : Nat} : endMore a m z (m + 1) = z := if_neg (by omega)

theorem CutSo.cut {T : List Nat → List Nat → Bool} {p : List Nat} {k : Nat} {rows : List (Nat × Nat)} {c : Nat} {a : Nat → Nat} (h : CutSo T p k rows c a) (hc : c ≤ k) (ht : T (seg p c (k + 1)) (seg p (k + 1) p.length) = true) :
    CutSo T p (k + 1) (rows ++ [(c, k + 1)]) (k + 1) (endMore a rows.length (k + 1)) := by
  have hl : (rows ++ [(c, k + 1)]).length = rows.length + 1 := by simp
  have h0 : ∀ i, i ≤ rows.length → endMore a rows.length (k + 1) i = a i := fun i hi => endMore_old hi
  have h1 : endMore a rows.length (k + 1) (rows.length + 1) = k + 1 := endMore_new
  refine ⟨by rw [h0 0 (Nat.zero_le _)]; exact h.first, by rw [hl]; exact h1, fun i hi => ?_, fun i hi => ?_, fun i hi e he1 he2 => ?_, fun e h1 h2 => absurd h1 (by omega)⟩
  · rw [hl] at hi
    rw [getD_app]
    by_cases e : i < rows.length
    · rw [if_pos e, h0 i (by omega), h0 (i + 1) (by omega)]; exact h.row i e
    · have e' : i = rows.length := by omega
      subst e'
      rw [if_neg (by omega), if_pos rfl, h0 _ (Nat.le_refl _), h1, h.last]
      exact ⟨rfl, by omega⟩
  · rw [hl] at hi
    unfold part
    by_cases e : i < rows.length
    · rw [h0 i (by omega), h0 (i + 1) (by omega)]; exact h.yes i e
    · have e' : i = rows.length := by omega
      subst e'
      rw [h0 _ (Nat.le_refl _), h1, h.last]; exact ht
  · rw [hl] at hi
    by_cases e' : i < rows.length
    · rw [h0 i (by omega)] at he1 ⊢
      rw [h0 (i + 1) (by omega)] at he2
      exact h.no i e' e he1 he2
    · have e' : i = rows.length := by omega
      subst e'
      rw [h0 _ (Nat.le_refl _), h.last] at he1 ⊢
      rw [h1] at he2
      exact h.rest e he1 (by omega)
theorem CutSo.go {T : List Nat → List Nat → Bool} {p : List Nat} {k : Nat} {rows : List (Nat × Nat)} {c : Nat} {a : Nat → Nat} (h : CutSo T p k rows c a) (ht : ¬ T (seg p c (k + 1)) (seg p (k + 1) p.length) = true) : CutSo T p (k + 1) rows c a := by
  refine ⟨h.first, h.last, h.row, h.yes, h.no, fun e h1 h2 => ?_⟩
  by_cases e' : e = k + 1
  · subst e'; simpa using ht
  · exact h.rest e h1 (by omega)

theorem cutTo_so (T : List Nat → List Nat → Bool) (p : List Nat) : ∀ k, ∃ a, CutSo T p k (cutTo T p k).1 (cutTo T p k).2 a
  | 0 => ⟨fun _ => 0, rfl, rfl, fun i hi => absurd hi (by simp [cutTo]), fun i hi => absurd hi (by simp [cutTo]), fun i hi => absurd hi (by simp [cutTo]), fun e h1 h2 => absurd h1 (by simp [cutTo]; omega)⟩
  | k + 1 => by
    obtain ⟨a, ih⟩ := cutTo_so T p k
    have hle := (cutTo_le T p k).1
    unfold cutTo
    by_cases ht : T (seg p (cutTo T p k).2 (k + 1)) (seg p (k + 1) p.length) = true
    · rw [if_pos ht]; exact ⟨_, ih.cut hle ht⟩
    · rw [if_neg ht]; exact ⟨a, ih.go ht⟩

/-- The parts of a cut list. -/
theorem cutL_ends (T : List Nat → List Nat → Bool) (p : List Nat) (h0 : 1 ≤ p.length) : ∃ a, Ends p (cutL T p).length a ∧ (∀ i, i < (cutL T p).length → (cutL T p).getD i (0, 0) = (a i, a (i + 1))) ∧
    (∀ i, i + 1 < (cutL T p).length → T (part p a i) (seg p (a (i + 1)) p.length) = true) ∧ (∀ i, i < (cutL T p).length → ∀ e, a i < e → e < a (i + 1) → T (seg p (a i) e) (seg p e p.length) = false) := by
  obtain ⟨a, h⟩ := cutTo_so T p (p.length - 1)
  have hle := (cutTo_le T p (p.length - 1)).1
  unfold cutL
  generalize (cutTo T p (p.length - 1)).1 = rows at *
  generalize (cutTo T p (p.length - 1)).2 = c at *
  have hl : (rows ++ [(c, p.length)]).length = rows.length + 1 := by simp
  have e0 : ∀ i, i ≤ rows.length → endMore a rows.length p.length i = a i := fun i hi => endMore_old hi
  have e1 : endMore a rows.length p.length (rows.length + 1) = p.length := endMore_new
  rw [hl]
  refine ⟨endMore a rows.length p.length, ⟨by rw [e0 0 (Nat.zero_le _)]; exact h.first, e1, fun i hi => ?_⟩, fun i hi => ?_, fun i hi => ?_, fun i hi e he1 he2 => ?_⟩
  · by_cases e : i < rows.length
    · rw [e0 i (by omega), e0 (i + 1) (by omega)]; exact (h.row i e).2
    · have e' : i = rows.length := by omega
      subst e'
      rw [e0 _ (Nat.le_refl _), e1, h.last]; omega
  · rw [getD_app]
    by_cases e : i < rows.length
    · rw [if_pos e, e0 i (by omega), e0 (i + 1) (by omega)]; exact (h.row i e).1
    · have e' : i = rows.length := by omega
      subst e'
      rw [if_neg (by omega), if_pos rfl, e0 _ (Nat.le_refl _), e1, h.last]
  · unfold part
    rw [e0 i (by omega), e0 (i + 1) (by omega)]; exact h.yes i (by omega)
  · by_cases e' : i < rows.length
    · rw [e0 i (by omega)] at he1 ⊢
      rw [e0 (i + 1) (by omega)] at he2
      exact h.no i e' e he1 he2
    · have e' : i = rows.length := by omega
      subst e'
      rw [e0 _ (Nat.le_refl _), h.last] at he1 ⊢
      rw [e1] at he2
      exact h.rest e he1 (by omega)

end Go.Proofs.Ytgdaidmkcgblbaa

namespace Go.Proofs.Ytgdaidmkcgblbaa

theorem longEnd_spec (p : List Nat) (s : Nat) : ∀ e, s < e → e ≤ p.length → gapB p s (longEnd p s e) = false ∧ ∀ e', longEnd p s e < e' → e' ≤ e → gapB p s e' = true
  | 0, h, _ => absurd h (by omega)
  | e + 1, h1, h2 => by
    unfold longEnd
    by_cases hg : gapB p s (e + 1) = true
    · rw [if_pos hg]
      by_cases es : s = e
      · subst es
        rw [gapB_one p s (by omega)] at hg; cases hg
      · have ih := longEnd_spec p s e (by omega) (by omega)
        refine ⟨ih.1, fun e' h3 h4 => ?_⟩
        by_cases e1 : e' = e + 1
        · subst e1; exact hg
        · exact ih.2 e' h3 (by omega)
    · rw [if_neg hg]
      exact ⟨by simpa using hg, fun e' h3 h4 => absurd h3 (by omega)⟩

theorem longFrom_ends (p : List Nat) (h2 : 2 ≤ p.length) : ∀ f s, p.length - s ≤ f → s ≤ p.length → ∃ a : Nat → Nat, a 0 = s ∧ a (longFrom p f s).length = p.length ∧
    ∀ i, i < (longFrom p f s).length → (longFrom p f s).getD i (0, 0) = (a i, a (i + 1)) ∧ a i < a (i + 1) ∧ a (i + 1) = longE p (a i)
  | 0, s, h, hs => ⟨fun _ => s, rfl, by show s = _; omega, fun i hi => absurd hi (by simp [longFrom])⟩
  | f + 1, s, h, hs => by
    unfold longFrom
    by_cases e : s < p.length
    · rw [if_pos e]
      have hE := longE_in p s e h2
      obtain ⟨a, h0, hm, hr⟩ := longFrom_ends p h2 f (longE p s) (by omega) hE.2
      refine ⟨fun i => match i with | 0 => s | i + 1 => a i, rfl, by rw [List.length_cons]; exact hm, fun i hi => ?_⟩
      rw [List.length_cons] at hi
      cases i with
      | zero => exact ⟨by show (s, longE p s) = (s, a 0); rw [h0], by show s < a 0; omega, by show a 0 = longE p s; exact h0⟩
      | succ i => exact hr i (by omega)
    · rw [if_neg e]
      exact ⟨fun _ => s, rfl, by show s = _; omega, fun i hi => absurd hi (by simp)⟩
theorem longL_ends (p : List Nat) (h2 : 2 ≤ p.length) : ∃ a, Ends p (longL p).length a ∧ (∀ i, i < (longL p).length → (longL p).getD i (0, 0) = (a i, a (i + 1))) ∧ ∀ i, i < (longL p).length → a (i + 1) = longE p (a i) := by
  obtain ⟨a, h0, hm, hr⟩ := longFrom_ends p h2 p.length 0 (by omega) (by omega)
  exact ⟨a, ⟨h0, hm, fun k hk => (hr k hk).2.1⟩, fun i hi => (hr i hi).1, fun i hi => (hr i hi).2.2⟩

theorem seg_nodup {p : List Nat} (h : p.Nodup) (s e : Nat) : (seg p s e).Nodup := (h.sublist (List.drop_sublist s p)).sublist (List.take_sublist _ _)

/-- Different numbers, all between the least and the greatest: no gap. -/
theorem gapless_of_all {l : List Nat} (hd : l.Nodup) (h0 : 0 < l.length) (h : ∀ v, minL l ≤ v → v ≤ maxL l → v ∈ l) : Gapless l := by
  refine ⟨hd, h0, ?_⟩
  have hle := minL_le l
  have key : ∀ d, minL l + d ≤ maxL l + 1 → lessN l (minL l + d) = d := by
    intro d
    induction d with
    | zero => intro _; exact lessN_low (Nat.le_refl _)
    | succ d ih =>
      intro hd'
      have h1 := ih (by omega)
      have h2 := lessN_step l (minL l + d)
      have h3 := List.nodup_iff_count.1 hd (minL l + d)
      have h4 := List.count_pos_iff.2 (h (minL l + d) (by omega) (by omega))
      rw [← Nat.add_assoc, h2]; omega
  have h5 := key (maxL l + 1 - minL l) (by omega)
  rw [lessN_high (by omega)] at h5
  omega

theorem mem_part {p : List Nat} {m : Nat} {a : Nat → Nat} (h : Ends p m a) {v : Nat} : ∀ k, k ≤ m → v ∈ seg p 0 (a k) → ∃ i, i < k ∧ v ∈ part p a i
  | 0, _, hv => by rw [h.first, seg_none] at hv; simp at hv
  | k + 1, hk, hv => by
    rw [← seg_append p (Nat.zero_le (a k)) (Nat.le_of_lt (h.step k (by omega))), List.mem_append] at hv
    rcases hv with hv | hv
    · obtain ⟨i, hi, hv⟩ := mem_part h k (by omega) hv
      exact ⟨i, by omega, hv⟩
    · exact ⟨k, by omega, hv⟩
theorem mem_parts {p : List Nat} {m : Nat} {a : Nat → Nat} (h : Ends p m a) {v : Nat} (hv : v ∈ p) : ∃ i, i < m ∧ v ∈ part p a i :=
  mem_part h m (Nat.le_refl _) (by rw [h.last, seg_all]; exact hv)

/-- A part lies behind each end that is not behind its begin. -/
theorem part_behind {p : List Nat} {m : Nat} {a : Nat → Nat} (h : Ends p m a) {i j : Nat} (hj : j < m) (hij : i ≤ j) {v : Nat} (hv : v ∈ part p a j) : v ∈ seg p (a i) p.length := by
  have h1 := h.le i (j - i) (by omega)
  rw [show i + (j - i) = j by omega] at h1
  have h2 := h.step j hj
  have h3 := h.top (k := j + 1) (by omega)
  rw [← seg_append p h1 (f := p.length) (by omega), ← seg_append p (Nat.le_of_lt h2) h3]
  exact List.mem_append_right _ (List.mem_append_left _ hv)
theorem part_before {p : List Nat} {m : Nat} {a : Nat → Nat} (h : Ends p m a) {i j : Nat} (hj : j ≤ m) (hij : i < j) {v : Nat} (hv : v ∈ part p a i) : v ∈ seg p 0 (a j) := by
  have h1 := h.le (i + 1) (j - (i + 1)) (by omega)
  rw [show i + 1 + (j - (i + 1)) = j by omega] at h1
  have h2 := h.step i (by omega)
  rw [← seg_append p (Nat.zero_le (a i)) (f := a j) (by omega), ← seg_append p (Nat.le_of_lt h2) h1]
  exact List.mem_append_right _ (List.mem_append_left _ hv)
theorem part_lt {p : List Nat} (hd : p.Nodup) {m : Nat} {a : Nat → Nat} (h : Ends p m a) {i j : Nat} (hj : j < m) (hij : i < j) {v : Nat} (hi : v ∈ part p a i) (hv : v ∈ part p a j) : False := by
  have h1 := part_before h (Nat.le_of_lt hj) hij hi
  have h2 := part_behind h hj (Nat.le_refl j) hv
  have h3 := h.top (k := j) (by omega)
  rw [← seg_all p, ← seg_append p (Nat.zero_le (a j)) h3, List.nodup_append] at hd
  exact hd.2.2 v h1 v h2 rfl
theorem part_only {p : List Nat} (hd : p.Nodup) {m : Nat} {a : Nat → Nat} (h : Ends p m a) {i j : Nat} (hi : i < m) (hj : j < m) {v : Nat} (hv : v ∈ part p a i) (hw : v ∈ part p a j) : i = j := by
  rcases Nat.lt_trichotomy i j with e | e | e
  · exact (part_lt hd h hj e hv hw).elim
  · exact e
  · exact (part_lt hd h hi e hw hv).elim

end Go.Proofs.Ytgdaidmkcgblbaa

namespace Go.Proofs.Ytgdaidmkcgblbaa

theorem part_sub {p : List Nat} {a : Nat → Nat} {i v : Nat} (h : v ∈ part p a i) : v ∈ p := seg_sub h

/-- Any two parts lie one below the other. -/
def Split (p : List Nat) (m : Nat) (a : Nat → Nat) : Prop := ∀ i j, i < m → j < m → i ≠ j → maxL (part p a i) < minL (part p a j) ∨ maxL (part p a j) < minL (part p a i)

theorem split_gapless {p : List Nat} {m : Nat} {a : Nat → Nat} (hg : Gapless p) (h : Ends p m a) (hs : Split p m a) {i : Nat} (hi : i < m) : Gapless (part p a i) := by
  have h0 := (h.length hi).2
  refine gapless_of_all (seg_nodup hg.1 _ _) h0 fun v h1 h2 => ?_
  have m1 := minL_low (part_sub (minL_mem h0))
  have m2 := maxL_high (part_sub (maxL_mem h0))
  obtain ⟨j, hj, hv⟩ := mem_parts h (hg.mem (v := v) (by omega) (by omega))
  by_cases e : i = j
  · subst e; exact hv
  · have q1 := minL_low hv
    have q2 := maxL_high hv
    have := hs i j hi hj e
    omega

theorem less_lt {p : List Nat} {m : Nat} {a : Nat → Nat} (h : Ends p m a) (hT : ∀ i, i + 1 < m → maxL (part p a i) < minL (seg p (a (i + 1)) p.length)) {i j : Nat} (hj : j < m) (hij : i < j) : maxL (part p a i) < minL (part p a j) := by
  have h1 := hT i (by omega)
  have h2 := minL_low (part_behind h hj (show i + 1 ≤ j by omega) (minL_mem (h.length hj).2))
  omega
theorem great_lt {p : List Nat} {m : Nat} {a : Nat → Nat} (h : Ends p m a) (hT : ∀ i, i + 1 < m → maxL (seg p (a (i + 1)) p.length) < minL (part p a i)) {i j : Nat} (hj : j < m) (hij : i < j) : maxL (part p a j) < minL (part p a i) := by
  have h1 := hT i (by omega)
  have h2 := maxL_high (part_behind h hj (show i + 1 ≤ j by omega) (maxL_mem (h.length hj).2))
  omega

theorem less_split {p : List Nat} {m : Nat} {a : Nat → Nat} (h : Ends p m a) (hT : ∀ i, i + 1 < m → maxL (part p a i) < minL (seg p (a (i + 1)) p.length)) : Split p m a := by
  intro i j hi hj e
  rcases Nat.lt_or_gt_of_ne e with e | e
  · exact .inl (less_lt h hT hj e)
  · exact .inr (less_lt h hT hi e)
theorem great_split {p : List Nat} {m : Nat} {a : Nat → Nat} (h : Ends p m a) (hT : ∀ i, i + 1 < m → maxL (seg p (a (i + 1)) p.length) < minL (part p a i)) : Split p m a := by
  intro i j hi hj e
  rcases Nat.lt_or_gt_of_ne e with e | e
  · exact .inr (great_lt h hT hj e)
  · exact .inl (great_lt h hT hi e)

theorem range_get {m j : Nat} (h : j < m) : (List.range m).getD j 0 = j := by simp [List.getD_eq_getElem?_getD, h]
theorem egnar_get {m j : Nat} (h : j < m) : (List.range m).reverse.getD j 0 = m - 1 - j := by
  rw [List.getD_eq_getElem?_getD, List.getElem?_reverse (by rw [List.length_range]; exact h), List.length_range, List.getElem?_range (by omega)]; rfl

theorem less_apart {p : List Nat} {m : Nat} {a : Nat → Nat} (h : Ends p m a) (hT : ∀ i, i + 1 < m → maxL (part p a i) < minL (seg p (a (i + 1)) p.length)) : Apart p m a (List.range m) := by
  intro i j hi hj
  rw [range_get hi, range_get hj]
  refine ⟨fun e => less_lt h hT hi e, fun e => ?_⟩
  by_cases e' : i = j
  · subst e'; exact Nat.le_refl _
  · have := less_lt h hT hj (show i < j by omega)
    have := minL_le (part p a i)
    omega
theorem great_apart {p : List Nat} {m : Nat} {a : Nat → Nat} (h : Ends p m a) (hT : ∀ i, i + 1 < m → maxL (seg p (a (i + 1)) p.length) < minL (part p a i)) : Apart p m a (List.range m).reverse := by
  intro i j hi hj
  rw [egnar_get hi, egnar_get hj]
  refine ⟨fun e => great_lt h hT hj (by omega), fun e => ?_⟩
  by_cases e' : i = j
  · subst e'; exact Nat.le_refl _
  · have := great_lt h hT hi (show j < i by omega)
    have := minL_le (part p a i)
    omega

/-- Blocks without a gap lie one below the other: by any two of their values. -/
theorem block_lt {p : List Nat} (hd : p.Nodup) {m : Nat} {a : Nat → Nat} (h : Ends p m a) {i j : Nat} (hi : i < m) (hj : j < m) (e : i ≠ j) (gi : Gapless (part p a i)) (gj : Gapless (part p a j)) {u v : Nat} (hu : u ∈ part p a i) (hv : v ∈ part p a j) (huv : u < v) : maxL (part p a i) < minL (part p a j) := by
  refine Nat.lt_of_not_le fun hle => e ?_
  have u1 := minL_low hu
  have u2 := maxL_high hu
  have v1 := minL_low hv
  have v2 := maxL_high hv
  have hx : ∃ x, minL (part p a i) ≤ x ∧ x ≤ maxL (part p a i) ∧ minL (part p a j) ≤ x ∧ x ≤ maxL (part p a j) := ⟨max (minL (part p a i)) (minL (part p a j)), by omega, by omega, by omega, by omega⟩
  obtain ⟨x, x1, x2, x3, x4⟩ := hx
  exact part_only hd h hi hj (gi.mem x1 x2) (gj.mem x3 x4)

theorem countP_lt {α : Type} {P Q : α → Bool} : ∀ {l : List α}, (∀ x ∈ l, P x = true → Q x = true) → (∃ x ∈ l, Q x = true ∧ P x = false) → l.countP P < l.countP Q
  | [], _, ⟨x, hx, _⟩ => absurd hx (by simp)
  | y :: l, h, ⟨x, hx, hq, hp⟩ => by
    rw [List.countP_cons, List.countP_cons]
    have hle : l.countP P ≤ l.countP Q := List.countP_mono_left fun z hz => h z (List.mem_cons_of_mem _ hz)
    rcases List.mem_cons.1 hx with e | hx
    · subst e
      simp only [hq, hp, if_true, Bool.false_eq_true, if_false]; omega
    · have ih := countP_lt (P := P) (Q := Q) (l := l) (fun z hz => h z (List.mem_cons_of_mem _ hz)) ⟨x, hx, hq, hp⟩
      have hy := h y (List.mem_cons_self ..)
      cases e1 : P y
      · simp only [Bool.false_eq_true, if_false]; split <;> omega
      · simp only [hy e1, if_true]; omega

theorem patL_get (p : List Nat) (rows : List (Nat × Nat)) (i : Nat) (h : i < rows.length) : (patL p rows).getD i 0 = patAt p rows (rows.getD i (0, 0)) := by
  unfold patL
  simp [List.getD_eq_getElem?_getD, h]
theorem rows_mem {rows : List (Nat × Nat)} {i : Nat} (h : i < rows.length) : rows.getD i (0, 0) ∈ rows := by
  rw [List.getD_eq_getElem?_getD, List.getElem?_eq_getElem h]; exact List.getElem_mem h

/-- The pattern's values are in the order of the parts' first ones. -/
theorem patAt_lt {p : List Nat} {rows : List (Nat × Nat)} {x y : Nat × Nat} (hx : x ∈ rows) (h : p.getD x.1 0 < p.getD y.1 0) : patAt p rows x < patAt p rows y := by
  unfold patAt
  refine countP_lt (fun z _ hz => ?_) ⟨x, hx, by simpa using h, by simp⟩
  rw [decide_eq_true_eq] at hz ⊢
  omega
theorem patAt_iff {p : List Nat} {rows : List (Nat × Nat)} {x y : Nat × Nat} (hx : x ∈ rows) (hy : y ∈ rows) : patAt p rows x < patAt p rows y ↔ p.getD x.1 0 < p.getD y.1 0 := by
  refine ⟨fun h => ?_, patAt_lt hx⟩
  refine Nat.lt_of_not_le fun hle => ?_
  rcases Nat.lt_or_eq_of_le hle with e | e
  · have := patAt_lt hy e; omega
  · unfold patAt at h; rw [e] at h; omega

theorem part_first {p : List Nat} {m : Nat} {a : Nat → Nat} (h : Ends p m a) {i : Nat} (hi : i < m) : p.getD (a i) 0 ∈ part p a i := by
  have hs := h.step i hi
  have h1 := seg_get p (a i) (a (i + 1)) 0 (by omega)
  have h2 := getD_mem (part p a i) 0 (h.length hi).2
  have h3 : (part p a i).getD 0 0 = p.getD (a i) 0 := h1
  rw [h3] at h2
  exact h2

theorem block_apart {p : List Nat} (hd : p.Nodup) {rows : List (Nat × Nat)} {a : Nat → Nat} (h : Ends p rows.length a) (hr : ∀ i, i < rows.length → rows.getD i (0, 0) = (a i, a (i + 1))) (hg : ∀ i, i < rows.length → Gapless (part p a i)) : Apart p rows.length a (patL p rows) := by
  intro i j hi hj
  have hlt := patAt_iff (p := p) (rows_mem hj) (rows_mem hi)
  rw [patL_get p rows i hi, patL_get p rows j hj, hlt, hr i hi, hr j hj]
  have fi := part_first h hi
  have fj := part_first h hj
  by_cases e : i = j
  · subst e
    exact ⟨fun h => absurd h (Nat.lt_irrefl _), fun _ => Nat.le_refl _⟩
  · refine ⟨fun hl => block_lt hd h hj hi (Ne.symm e) (hg j hj) (hg i hi) fj fi hl, fun hl => ?_⟩
    have hl : ¬ p.getD (a j) 0 < p.getD (a i) 0 := hl
    have hne : p.getD (a i) 0 ≠ p.getD (a j) 0 := fun e' => e (part_only hd h hi hj fi (e' ▸ fj))
    have := block_lt hd h hi hj e (hg i hi) (hg j hj) fi fj (by omega)
    have := minL_le (part p a i)
    omega

end Go.Proofs.Ytgdaidmkcgblbaa

namespace Go.Proofs.Ytgdaidmkcgblbaa

/-- No cut at all. -/
theorem cut_one {T : List Nat → List Nat → Bool} {p : List Nat} (h0 : 1 ≤ p.length) : ¬ 1 < (cutL T p).length ↔ ∀ e, 0 < e → e < p.length → T (seg p 0 e) (seg p e p.length) = false := by
  obtain ⟨a, h, hr, hy, hn⟩ := cutL_ends T p h0
  have hpos : 0 < (cutL T p).length := by unfold cutL; simp
  constructor
  · intro h1 e he1 he2
    have hm : (cutL T p).length = 1 := by omega
    have := hn 0 hpos e (by rw [h.first]; exact he1) (by have := h.last; rw [hm] at this; rw [this]; exact he2)
    rw [h.first] at this
    exact this
  · intro hall h1
    have s1 := h.step 0 (by omega)
    have s2 := h.step 1 (by omega)
    have t2 := h.top (k := 1 + 1) (by omega)
    have hy0 := hy 0 (by omega)
    rw [h.first] at s1
    have := hall (a 1) (by omega) (by omega)
    unfold part at hy0
    rw [h.first] at hy0
    rw [show (0 + 1 : Nat) = 1 from rfl] at hy0
    rw [this] at hy0
    cases hy0

theorem mem_behind {p : List Nat} (hd : p.Nodup) {m : Nat} {a : Nat → Nat} (h : Ends p m a) {k : Nat} (hk : k ≤ m) {v : Nat} (hv : v ∈ seg p (a k) p.length) : ∃ j, k ≤ j ∧ j < m ∧ v ∈ part p a j := by
  obtain ⟨j, hj, hv'⟩ := mem_parts h (seg_sub hv)
  refine ⟨j, Nat.le_of_not_lt fun hjk => ?_, hj, hv'⟩
  have h1 := part_before h hk hjk hv'
  rw [← seg_all p, ← seg_append p (Nat.zero_le (a k)) (h.top hk), List.nodup_append] at hd
  exact hd.2.2 v h1 v hv rfl

/-- What is known of the longest blocks. -/
structure Blocky (p : List Nat) (rows : List (Nat × Nat)) (a : Nat → Nat) : Prop where
  gap : Gapless p
  ends : Ends p rows.length a
  row : ∀ i, i < rows.length → rows.getD i (0, 0) = (a i, a (i + 1))
  long : ∀ i, i < rows.length → a (i + 1) = longE p (a i)
  two : 2 ≤ p.length

theorem gapless_of_gapB {p : List Nat} (hd : p.Nodup) {s e : Nat} (h1 : s < e) (h2 : e ≤ p.length) (h : gapB p s e = false) : Gapless (seg p s e) := by
  have hl := seg_length p s e (Nat.le_of_lt h1) h2
  unfold gapB at h
  rw [decide_eq_false_iff_not] at h
  exact ⟨seg_nodup hd s e, by omega, by omega⟩
theorem gapB_of_gapless {p : List Nat} {s e : Nat} (h1 : s < e) (h2 : e ≤ p.length) (h : Gapless (seg p s e)) : gapB p s e = false := by
  have hl := seg_length p s e (Nat.le_of_lt h1) h2
  have := h.2.2
  unfold gapB
  rw [decide_eq_false_iff_not]
  omega
theorem longE_spec (p : List Nat) (s : Nat) (h : s < p.length) (h2 : 2 ≤ p.length) : gapB p s (longE p s) = false ∧ ∀ e, longE p s < e → e ≤ (if s = 0 then p.length - 1 else p.length) → gapB p s e = true := by
  unfold longE
  exact longEnd_spec p s _ (by split <;> omega) (by split <;> omega)
theorem longE_first (p : List Nat) (h2 : 2 ≤ p.length) : longE p 0 ≤ p.length - 1 := by
  unfold longE
  rw [if_pos rfl]
  exact (longEnd_in p 0 (p.length - 1) (by omega) (by omega)).2

theorem Blocky.part {p : List Nat} {rows : List (Nat × Nat)} {a : Nat → Nat} (h : Blocky p rows a) : ∀ i, i < rows.length → Gapless (part p a i) := by
  intro i hi
  have hs := h.ends.step i hi
  have ht := h.ends.top (k := i + 1) (by omega)
  have := (longE_spec p (a i) (by omega) h.two).1
  rw [← h.long i hi] at this
  exact gapless_of_gapB h.gap.1 hs ht this
theorem Blocky.lt {p : List Nat} {rows : List (Nat × Nat)} {a : Nat → Nat} (h : Blocky p rows a) {i j : Nat} (hi : i < rows.length) (hj : j < rows.length) : (patL p rows).getD i 0 < (patL p rows).getD j 0 ↔ p.getD (a i) 0 < p.getD (a j) 0 := by
  rw [patL_get p rows i hi, patL_get p rows j hj, patAt_iff (rows_mem hi) (rows_mem hj), h.row i hi, h.row j hj]
theorem patL_length (p : List Nat) (rows : List (Nat × Nat)) : (patL p rows).length = rows.length := by simp [patL]

theorem Blocky.perm {p : List Nat} {rows : List (Nat × Nat)} {a : Nat → Nat} (h : Blocky p rows a) : IsPerm (patL p rows) := by
  refine ⟨fun i hi => ?_, fun i j hi hj e => ?_⟩
  · rw [patL_length] at hi ⊢
    rw [patL_get p rows i hi]
    have : patAt p rows (rows.getD i (0, 0)) < rows.countP fun _ => true := countP_lt (fun _ _ _ => rfl) ⟨_, rows_mem hi, rfl, by simp⟩
    simpa using this
  · rw [patL_length] at hi hj
    have h1 := h.lt hi hj
    have h2 := h.lt hj hi
    have fi := part_first h.ends hi
    have fj := part_first h.ends hj
    have : p.getD (a i) 0 = p.getD (a j) 0 := by omega
    exact part_only h.gap.1 h.ends hi hj fi (this ▸ fj)

/-- Two values of different parts are in the order of the pattern. -/
theorem Blocky.val {p : List Nat} {rows : List (Nat × Nat)} {a : Nat → Nat} (h : Blocky p rows a) {i j : Nat} (hi : i < rows.length) (hj : j < rows.length) (hq : (patL p rows).getD i 0 < (patL p rows).getD j 0) : maxL (Go.Proofs.Ytgdaidmkcgblbaa.part p a i) < minL (Go.Proofs.Ytgdaidmkcgblbaa.part p a j) := by
  have hl := (h.lt hi hj).1 hq
  refine block_lt h.gap.1 h.ends hi hj (fun e => by subst e; omega) (h.part i hi) (h.part j hj) (part_first h.ends hi) (part_first h.ends hj) hl
theorem Blocky.ord {p : List Nat} {rows : List (Nat × Nat)} {a : Nat → Nat} (h : Blocky p rows a) {i j : Nat} (hi : i < rows.length) (hj : j < rows.length) (e : i ≠ j) {u v : Nat} (hu : u ∈ Go.Proofs.Ytgdaidmkcgblbaa.part p a i) (hv : v ∈ Go.Proofs.Ytgdaidmkcgblbaa.part p a j) (huv : u < v) : (patL p rows).getD i 0 < (patL p rows).getD j 0 := by
  have h1 := block_lt h.gap.1 h.ends hi hj e (h.part i hi) (h.part j hj) hu hv huv
  have h2 := maxL_high (part_first h.ends hi)
  have h3 := minL_low (part_first h.ends hj)
  exact (h.lt hi hj).2 (by omega)

end Go.Proofs.Ytgdaidmkcgblbaa

namespace Go.Proofs.Ytgdaidmkcgblbaa

theorem seg_mem {p : List Nat} {s e x : Nat} (hse : s ≤ e) (he : e ≤ p.length) (h : x ∈ seg p s e) : ∃ i, s ≤ i ∧ i < e ∧ p.getD i 0 = x := by
  obtain ⟨i, hi, rfl⟩ := mem_getD h
  rw [seg_length p s e hse he] at hi
  exact ⟨s + i, by omega, by omega, (seg_get p s e i hi).symm⟩
theorem mem_seg {p : List Nat} {s e i : Nat} (h1 : s ≤ i) (h2 : i < e) (he : e ≤ p.length) : p.getD i 0 ∈ seg p s e := by
  have h := getD_mem (seg p s e) (i - s) (by rw [seg_length p s e (by omega) he]; omega)
  rw [seg_get p s e (i - s) (by omega), show s + (i - s) = i by omega] at h
  exact h

theorem Ends.lt {p : List Nat} {m : Nat} {a : Nat → Nat} (h : Ends p m a) {i j : Nat} (hj : j ≤ m) (hij : i < j) : a i < a j := by
  have h1 := h.step i (by omega)
  have h2 := h.le (i + 1) (j - (i + 1)) (by omega)
  rw [show i + 1 + (j - (i + 1)) = j by omega] at h2
  omega

/-- A block of the pattern is a block of the list. -/
theorem Blocky.up {p : List Nat} {rows : List (Nat × Nat)} {a : Nat → Nat} (h : Blocky p rows a) {s e : Nat} (hse : s < e) (he : e ≤ rows.length) (hg : Gapless (seg (patL p rows) s e)) : Gapless (seg p (a s) (a e)) := by
  have hql := patL_length p rows
  have hse' := h.ends.lt he hse
  have hte := h.ends.top he
  have hmem : ∀ {v j : Nat}, j < rows.length → v ∈ Go.Proofs.Ytgdaidmkcgblbaa.part p a j → (v ∈ seg p (a s) (a e) ↔ s ≤ j ∧ j < e) := by
    intro v j hj hv
    constructor
    · intro hu
      have h1 : v ∈ seg p (a s) p.length := by rw [← seg_append p (Nat.le_of_lt hse') hte]; exact List.mem_append_left _ hu
      have h2 : v ∈ seg p 0 (a e) := by rw [← seg_append p (Nat.zero_le (a s)) (Nat.le_of_lt hse')]; exact List.mem_append_right _ hu
      obtain ⟨j1, k1, k2, k3⟩ := mem_behind h.gap.1 h.ends (by omega) h1
      obtain ⟨j2, k4, k5⟩ := mem_part h.ends e he h2
      have e1 := part_only h.gap.1 h.ends hj k2 hv k3
      have e2 := part_only h.gap.1 h.ends hj (by omega) hv k5
      omega
    · intro hj'
      have h1 := part_behind h.ends hj hj'.1 hv
      rw [← seg_append p (Nat.le_of_lt hse') hte, List.mem_append] at h1
      rcases h1 with h1 | h1
      · exact h1
      · obtain ⟨j1, k1, k2, k3⟩ := mem_behind h.gap.1 h.ends he h1
        have := part_only h.gap.1 h.ends hj k2 hv k3
        omega
  have hlen : 0 < (seg p (a s) (a e)).length := by rw [seg_length p _ _ (Nat.le_of_lt hse') hte]; omega
  refine gapless_of_all (seg_nodup h.gap.1 _ _) hlen fun v h1 h2 => ?_
  have m1 := minL_mem hlen
  have m2 := maxL_mem hlen
  have l1 := minL_low (seg_sub m1)
  have l2 := maxL_high (seg_sub m2)
  obtain ⟨i1, hi1, u1⟩ := mem_parts h.ends (seg_sub m1)
  obtain ⟨i2, hi2, u2⟩ := mem_parts h.ends (seg_sub m2)
  obtain ⟨j, hj, hv⟩ := mem_parts h.ends (h.gap.mem (v := v) (by omega) (by omega))
  have b1 := (hmem hi1 u1).1 m1
  have b2 := (hmem hi2 u2).1 m2
  rw [hmem hj hv]
  by_cases e1 : j = i1
  · subst e1; exact b1
  · by_cases e2 : j = i2
    · subst e2; exact b2
    · have n1 : minL (seg p (a s) (a e)) ≠ v := fun e' => e1 (part_only h.gap.1 h.ends hj hi1 hv (e' ▸ u1))
      have n2 : maxL (seg p (a s) (a e)) ≠ v := fun e' => e2 (part_only h.gap.1 h.ends hj hi2 hv (e' ▸ u2))
      have o1 := h.ord hi1 hj (Ne.symm e1) u1 hv (by omega)
      have o2 := h.ord hj hi2 e2 hv u2 (by omega)
      have q1 := minL_low (mem_seg (p := patL p rows) b1.1 b1.2 (by omega))
      have q2 := maxL_high (mem_seg (p := patL p rows) b2.1 b2.2 (by omega))
      obtain ⟨k, k1, k2, k3⟩ := seg_mem (Nat.le_of_lt hse) (by omega) (hg.mem (v := (patL p rows).getD j 0) (by omega) (by omega))
      have := h.perm.inj (i := k) (j := j) (by omega) (by omega) k3
      omega

/-- There are at least two, and the pattern's longest blocks are single. -/
theorem Blocky.more {p : List Nat} {rows : List (Nat × Nat)} {a : Nat → Nat} (h : Blocky p rows a) : 2 ≤ rows.length := by
  have hl := h.ends.last
  have h2 := h.two
  have h0 : 0 < rows.length := by
    refine Nat.pos_of_ne_zero fun e => ?_
    rw [e, h.ends.first] at hl; omega
  have h1 := h.long 0 h0
  rw [h.ends.first] at h1
  have := longE_first p h2
  refine Nat.lt_of_not_le fun e => ?_
  have e : rows.length = 1 := by omega
  rw [e] at hl
  have h1 : a 1 = longE p 0 := h1
  omega
theorem Blocky.single {p : List Nat} {rows : List (Nat × Nat)} {a : Nat → Nat} (h : Blocky p rows a) {s : Nat} (hs : s < rows.length) : longE (patL p rows) s = s + 1 := by
  have hql := patL_length p rows
  have hm := h.more
  have hin := longE_in (patL p rows) s (by omega) (by omega)
  have hsp := longE_spec (patL p rows) s (by omega) (by omega)
  have hb0 := fun (e : s = 0) => longE_first (patL p rows) (by omega)
  refine Nat.le_antisymm (Nat.le_of_not_lt fun hlt => ?_) hin.1
  generalize hE : longE (patL p rows) s = e at *
  have hg := gapless_of_gapB (nodup_of_inj h.perm.2) hin.1 (by omega) hsp.1
  have hup := h.up hin.1 (by omega) hg
  have hae := h.ends.lt (show e ≤ rows.length by omega) hin.1
  have hte := h.ends.top (show e ≤ rows.length by omega)
  have hno := gapB_of_gapless hae hte hup
  have hlong := h.long s hs
  have hgt := h.ends.lt (show e ≤ rows.length by omega) (show s + 1 < e by omega)
  have hst := h.ends.step s hs
  have hsp2 := (longE_spec p (a s) (by omega) h.two).2 (a e) (by omega) (by
    split
    · next e0 =>
      have hs0 : s = 0 := by
        refine Nat.eq_zero_of_not_pos fun hpos => ?_
        have := h.ends.lt (show s ≤ rows.length by omega) hpos
        rw [h.ends.first] at this; omega
      have h9 := hb0 hs0
      rw [hs0] at hE
      have h8 := h.ends.lt (i := e) (Nat.le_refl rows.length) (by rw [hE] at h9; omega)
      rw [h.ends.last] at h8; omega
    · exact hte)
  rw [hno] at hsp2
  cases hsp2

end Go.Proofs.Ytgdaidmkcgblbaa

namespace Go.Proofs.Ytgdaidmkcgblbaa

theorem Blocky.no_less {p : List Nat} {rows : List (Nat × Nat)} {a : Nat → Nat} (h : Blocky p rows a) (hc : ¬ 1 < (lessL p).length) : ¬ 1 < (lessL (patL p rows)).length := by
  have hql := patL_length p rows
  have hm := h.more
  unfold lessL at hc ⊢
  rw [cut_one (by have := h.two; omega)] at hc
  rw [cut_one (by omega)]
  intro e he1 he2
  rw [decide_eq_false_iff_not]
  intro hlt
  have h1 := h.ends.lt (show e ≤ rows.length by omega) he1
  have h2 := h.ends.lt (Nat.le_refl rows.length) (show e < rows.length by omega)
  rw [h.ends.first] at h1
  rw [h.ends.last] at h2
  have hf := hc (a e) h1 h2
  rw [decide_eq_false_iff_not] at hf
  refine hf ?_
  have l1 : 0 < (seg p 0 (a e)).length := by rw [seg_length p _ _ (Nat.zero_le _) (Nat.le_of_lt h2)]; omega
  have l2 : 0 < (seg p (a e) p.length).length := by rw [seg_length p _ _ (Nat.le_of_lt h2) (Nat.le_refl _)]; omega
  obtain ⟨i, hi, u⟩ := mem_part h.ends e (by omega) (maxL_mem l1)
  obtain ⟨j, hj, hj2, v⟩ := mem_behind h.gap.1 h.ends (show e ≤ rows.length by omega) (minL_mem l2)
  have q1 := maxL_high (mem_seg (p := patL p rows) (Nat.zero_le i) hi (by omega))
  have q2 := minL_low (mem_seg (p := patL p rows) hj (show j < (patL p rows).length by omega) (Nat.le_refl _))
  have hv := h.val (i := i) (j := j) (by omega) hj2 (by omega)
  have := maxL_high u
  have := minL_low v
  omega
theorem Blocky.no_great {p : List Nat} {rows : List (Nat × Nat)} {a : Nat → Nat} (h : Blocky p rows a) (hc : ¬ 1 < (greatL p).length) : ¬ 1 < (greatL (patL p rows)).length := by
  have hql := patL_length p rows
  have hm := h.more
  unfold greatL at hc ⊢
  rw [cut_one (by have := h.two; omega)] at hc
  rw [cut_one (by omega)]
  intro e he1 he2
  rw [decide_eq_false_iff_not]
  intro hlt
  have h1 := h.ends.lt (show e ≤ rows.length by omega) he1
  have h2 := h.ends.lt (Nat.le_refl rows.length) (show e < rows.length by omega)
  rw [h.ends.first] at h1
  rw [h.ends.last] at h2
  have hf := hc (a e) h1 h2
  rw [decide_eq_false_iff_not] at hf
  refine hf ?_
  have l1 : 0 < (seg p 0 (a e)).length := by rw [seg_length p _ _ (Nat.zero_le _) (Nat.le_of_lt h2)]; omega
  have l2 : 0 < (seg p (a e) p.length).length := by rw [seg_length p _ _ (Nat.le_of_lt h2) (Nat.le_refl _)]; omega
  obtain ⟨i, hi, u⟩ := mem_part h.ends e (by omega) (minL_mem l1)
  obtain ⟨j, hj, hj2, v⟩ := mem_behind h.gap.1 h.ends (show e ≤ rows.length by omega) (maxL_mem l2)
  have q1 := minL_low (mem_seg (p := patL p rows) (Nat.zero_le i) hi (by omega))
  have q2 := maxL_high (mem_seg (p := patL p rows) hj (show j < (patL p rows).length by omega) (Nat.le_refl _))
  have hv := h.val (i := j) (j := i) hj2 (by omega) (by omega)
  have := minL_low u
  have := maxL_high v
  omega

theorem three_all : ((List.range 3).all fun x => (List.range 3).all fun y => (List.range 3).all fun z => x == y || x == z || y == z || !((divL [x, y, z]).1 == 3)) = true := by decide +kernel
theorem two_all : ((List.range 2).all fun x => (List.range 2).all fun y => x == y || !((divL [x, y]).1 == 3)) = true := by decide +kernel
theorem three_cut (x : Nat) (hx : x < 3) (y : Nat) (hy : y < 3) (z : Nat) (hz : z < 3) (h1 : x ≠ y) (h2 : x ≠ z) (h3 : y ≠ z) : (divL [x, y, z]).1 ≠ 3 := by
  have := List.all_eq_true.1 (List.all_eq_true.1 (List.all_eq_true.1 three_all x (List.mem_range.2 hx)) y (List.mem_range.2 hy)) z (List.mem_range.2 hz)
  intro e
  simp [h1, h2, h3, e] at this
theorem two_cut (x : Nat) (hx : x < 2) (y : Nat) (hy : y < 2) (h1 : x ≠ y) : (divL [x, y]).1 ≠ 3 := by
  have := List.all_eq_true.1 (List.all_eq_true.1 two_all x (List.mem_range.2 hx)) y (List.mem_range.2 hy)
  intro e
  simp [h1, e] at this

theorem divL_three {p : List Nat} (h1 : ¬ 1 < (lessL p).length) (h2 : ¬ 1 < (greatL p).length) : divL p = (3, longL p) := by
  unfold divL; rw [if_neg h1, if_neg h2]

theorem perm_four {q : List Nat} (hq : IsPerm q) (h2 : 2 ≤ q.length) (hd : (divL q).1 = 3) : 4 ≤ q.length := by
  refine Nat.le_of_not_lt fun hlt => ?_
  match q, hq, h2, hd, hlt with
  | [x, y], hq, _, hd, _ =>
    have a := hq.1 0 (by simp)
    have b := hq.1 1 (by simp)
    have c := hq.2 0 1 (by simp) (by simp)
    exact two_cut x (by simpa using a) y (by simpa using b) (fun e => by simpa using c (by simpa using e)) hd
  | [x, y, z], hq, _, hd, _ =>
    have a := hq.1 0 (by simp)
    have b := hq.1 1 (by simp)
    have c := hq.1 2 (by simp)
    have d := hq.2 0 1 (by simp) (by simp)
    have e := hq.2 0 2 (by simp) (by simp)
    have f := hq.2 1 2 (by simp) (by simp)
    exact three_cut x (by simpa using a) y (by simpa using b) z (by simpa using c) (fun g => by simpa using d (by simpa using g)) (fun g => by simpa using e (by simpa using g)) (fun g => by simpa using f (by simpa using g)) hd

theorem single_count {q : List Nat} (h2 : 2 ≤ q.length) (hs : ∀ s, s < q.length → longE q s = s + 1) : (longL q).length = q.length := by
  obtain ⟨b, h, -, hl⟩ := longL_ends q h2
  have key : ∀ k, k ≤ (longL q).length → b k = k := by
    intro k
    induction k with
    | zero => intro _; exact h.first
    | succ k ih =>
      intro hk
      have e := ih (by omega)
      have h3 := h.step k (by omega)
      have h4 := h.top (k := k + 1) hk
      rw [hl k (by omega), e, hs k (by omega)]
  have := key _ (Nat.le_refl _)
  rw [h.last] at this
  exact this.symm

end Go.Proofs.Ytgdaidmkcgblbaa

namespace Go.Proofs.Ytgdaidmkcgblbaa

theorem seg_seg (p : List Nat) {s e u v : Nat} (h : s + v ≤ e) : seg (seg p s e) u v = seg p (s + u) (s + v) := by
  unfold seg
  rw [List.drop_take, List.take_take, List.drop_drop, show min (v - u) (e - s - u) = v - u by omega, show s + v - (s + u) = v - u by omega]

theorem treeF_kind {f : Nat} {l : List Nat} {k : Nat} (h : (treeF f l).kind = k) (h0 : k ≠ 0) : (divL l).1 = k := by
  cases f with
  | zero => exact absurd h.symm h0
  | succ f =>
    rw [treeF_succ] at h
    by_cases e : l.length = 1
    · rw [if_pos e] at h; exact absurd h.symm h0
    · rw [if_neg e] at h; exact h
theorem divL_one {l : List Nat} (h : (divL l).1 = 1) : 1 < (lessL l).length := by
  unfold divL at h
  by_cases e : 1 < (lessL l).length
  · exact e
  · rw [if_neg e] at h
    split at h <;> simp at h
theorem divL_two {l : List Nat} (h : (divL l).1 = 2) : 1 < (greatL l).length := by
  unfold divL at h
  by_cases e : 1 < (lessL l).length
  · rw [if_pos e] at h; simp at h
  · rw [if_neg e] at h
    by_cases e2 : 1 < (greatL l).length
    · exact e2
    · rw [if_neg e2] at h; simp at h

theorem part_upto {p : List Nat} {a : Nat → Nat} {i e v : Nat} (h2 : e ≤ a (i + 1)) (h1 : a i ≤ e) (hv : v ∈ seg p (a i) e) : v ∈ part p a i := by
  unfold part
  rw [← seg_append p h1 h2]
  exact List.mem_append_left _ hv

/-- A part of a cut list is not cut so itself. -/
theorem less_not {p : List Nat} {m : Nat} {a : Nat → Nat} (h : Ends p m a) (hT : ∀ i, i + 1 < m → maxL (part p a i) < minL (seg p (a (i + 1)) p.length)) (hn : ∀ i, i < m → ∀ e, a i < e → e < a (i + 1) → ¬ maxL (seg p (a i) e) < minL (seg p e p.length)) {i : Nat} (hi : i < m) : ¬ 1 < (lessL (part p a i)).length := by
  have hl := h.length hi
  have ht := h.top (k := i + 1) (by omega)
  have hst := h.step i hi
  unfold lessL
  rw [cut_one hl.2]
  intro e he1 he2
  rw [decide_eq_false_iff_not]
  intro hlt
  have s1 : seg (part p a i) 0 e = seg p (a i) (a i + e) := by unfold part; rw [seg_seg p (by omega)]; rfl
  have s2 : seg (part p a i) e (part p a i).length = seg p (a i + e) (a (i + 1)) := by rw [hl.1]; unfold part; rw [seg_seg p (by omega), show a i + (a (i + 1) - a i) = a (i + 1) by omega]
  rw [s1, s2] at hlt
  refine hn i hi (a i + e) (by omega) (by omega) ?_
  have l1 : 0 < (seg p (a i) (a i + e)).length := by rw [seg_length p _ _ (by omega) (by omega)]; omega
  have l2 : 0 < (seg p (a i + e) p.length).length := by rw [seg_length p _ _ (by omega) (Nat.le_refl _)]; omega
  have hx := maxL_mem l1
  have hy := minL_mem l2
  rw [← seg_append p (show a i + e ≤ a (i + 1) by omega) ht] at hy
  rcases List.mem_append.1 hy with hy | hy
  · rw [seg_append p (show a i + e ≤ a (i + 1) by omega) ht] at hy
    have := minL_low hy
    omega
  · rw [seg_append p (show a i + e ≤ a (i + 1) by omega) ht] at hy
    have hp := maxL_high (part_upto (show a i + e ≤ a (i + 1) by omega) (by omega) hx)
    have hq := minL_low hy
    by_cases e1 : i + 1 < m
    · have := hT i e1; omega
    · rw [show i + 1 = m by omega, h.last, seg_none] at hy; simp at hy
theorem great_not {p : List Nat} {m : Nat} {a : Nat → Nat} (h : Ends p m a) (hT : ∀ i, i + 1 < m → maxL (seg p (a (i + 1)) p.length) < minL (part p a i)) (hn : ∀ i, i < m → ∀ e, a i < e → e < a (i + 1) → ¬ maxL (seg p e p.length) < minL (seg p (a i) e)) {i : Nat} (hi : i < m) : ¬ 1 < (greatL (part p a i)).length := by
  have hl := h.length hi
  have ht := h.top (k := i + 1) (by omega)
  have hst := h.step i hi
  unfold greatL
  rw [cut_one hl.2]
  intro e he1 he2
  rw [decide_eq_false_iff_not]
  intro hlt
  have s1 : seg (part p a i) 0 e = seg p (a i) (a i + e) := by unfold part; rw [seg_seg p (by omega)]; rfl
  have s2 : seg (part p a i) e (part p a i).length = seg p (a i + e) (a (i + 1)) := by rw [hl.1]; unfold part; rw [seg_seg p (by omega), show a i + (a (i + 1) - a i) = a (i + 1) by omega]
  rw [s1, s2] at hlt
  refine hn i hi (a i + e) (by omega) (by omega) ?_
  have l1 : 0 < (seg p (a i) (a i + e)).length := by rw [seg_length p _ _ (by omega) (by omega)]; omega
  have l2 : 0 < (seg p (a i + e) p.length).length := by rw [seg_length p _ _ (by omega) (Nat.le_refl _)]; omega
  have hx := minL_mem l1
  have hy := maxL_mem l2
  rw [← seg_append p (show a i + e ≤ a (i + 1) by omega) ht] at hy
  rcases List.mem_append.1 hy with hy | hy
  · rw [seg_append p (show a i + e ≤ a (i + 1) by omega) ht] at hy
    have := maxL_high hy
    omega
  · rw [seg_append p (show a i + e ≤ a (i + 1) by omega) ht] at hy
    have hp := minL_low (part_upto (show a i + e ≤ a (i + 1) by omega) (by omega) hx)
    have hq := maxL_high hy
    by_cases e1 : i + 1 < m
    · have := hT i e1; omega
    · rw [show i + 1 = m by omega, h.last, seg_none] at hy; simp at hy

theorem tree_less {f : Nat} {p : List Nat} (h1 : p.length ≠ 1) (c1 : 1 < (lessL p).length) : treeF (f + 1) p = .node 1 [] ((lessL p).map fun x => treeF f (seg p x.1 x.2)) := by
  rw [treeF_succ, if_neg h1, show divL p = (1, lessL p) by unfold divL; rw [if_pos c1]]
  rfl
theorem tree_great {f : Nat} {p : List Nat} (h1 : p.length ≠ 1) (c1 : ¬ 1 < (lessL p).length) (c2 : 1 < (greatL p).length) : treeF (f + 1) p = .node 2 [] ((greatL p).map fun x => treeF f (seg p x.1 x.2)) := by
  rw [treeF_succ, if_neg h1, show divL p = (2, greatL p) by unfold divL; rw [if_neg c1, if_pos c2]]
  rfl
theorem tree_simple {f : Nat} {p : List Nat} (h1 : p.length ≠ 1) (c1 : ¬ 1 < (lessL p).length) (c2 : ¬ 1 < (greatL p).length) : treeF (f + 1) p = .node 3 (patL p (longL p)) ((longL p).map fun x => treeF f (seg p x.1 x.2)) := by
  rw [treeF_succ, if_neg h1, divL_three c1 c2]
  rfl


end Go.Proofs.Ytgdaidmkcgblbaa
