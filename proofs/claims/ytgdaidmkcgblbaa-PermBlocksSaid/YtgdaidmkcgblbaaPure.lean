/-
  Plain words and facts of numbers and lists, for permutations: permutations, exchanges, first positions, binomial numbers, great Schroeder numbers.
-/
namespace Go.Proofs.Ytgdaidmkcgblbaa

/-- A permutation of the numbers below its length. -/
def IsPerm (l : List Nat) : Prop := (∀ i, i < l.length → l.getD i 0 < l.length) ∧ (∀ i j, i < l.length → j < l.length → l.getD i 0 = l.getD j 0 → i = j)

theorem IsPerm.lt {l : List Nat} (h : IsPerm l) {i : Nat} (hi : i < l.length) : l.getD i 0 < l.length := h.1 i hi
theorem IsPerm.inj {l : List Nat} (h : IsPerm l) {i j : Nat} (hi : i < l.length) (hj : j < l.length) (e : l.getD i 0 = l.getD j 0) : i = j := h.2 i j hi hj e

theorem getD_range (n i : Nat) (h : i < n) : (List.range n).getD i 0 = i := by
  simp [List.getD_eq_getElem?_getD, h]

theorem isPerm_range (n : Nat) : IsPerm (List.range n) := by
  refine ⟨fun i hi => ?_, fun i j hi hj e => ?_⟩
  · rw [List.length_range] at hi ⊢
    rw [getD_range n i hi]; exact hi
  · rw [List.length_range] at hi hj
    rwa [getD_range n i hi, getD_range n j hj] at e

theorem getD_set (l : List Nat) (i j x : Nat) (hj : j < l.length) : (l.set i x).getD j 0 = if i = j then x else l.getD j 0 := by
  simp only [List.getD_eq_getElem?_getD, List.getElem?_set]
  by_cases h : i = j
  · subst h; simp [hj]
  · simp [h]

/-- Two elements exchanged. -/
def swapL (l : List Nat) (i k : Nat) : List Nat := (l.set i (l.getD k 0)).set k (l.getD i 0)

theorem swapL_length (l : List Nat) (i k : Nat) : (swapL l i k).length = l.length := by simp [swapL]

theorem getD_swapL (l : List Nat) (i k j : Nat) (hj : j < l.length) : (swapL l i k).getD j 0 = if k = j then l.getD i 0 else if i = j then l.getD k 0 else l.getD j 0 := by
  unfold swapL
  rw [getD_set _ _ _ _ (by simpa using hj), getD_set _ _ _ _ hj]

theorem IsPerm.swap {l : List Nat} (h : IsPerm l) {i k : Nat} (hi : i < l.length) (hk : k < l.length) : IsPerm (swapL l i k) := by
  refine ⟨fun j hj => ?_, fun a b ha hb e => ?_⟩
  · rw [swapL_length] at hj ⊢
    rw [getD_swapL l i k j hj]
    split
    · exact h.lt hi
    · split
      · exact h.lt hk
      · exact h.lt hj
  · rw [swapL_length] at ha hb
    rw [getD_swapL l i k a ha, getD_swapL l i k b hb] at e
    have hab := h.inj ha hb
    have hib := h.inj hi hb
    have hai := h.inj ha hi
    have hkb := h.inj hk hb
    have hak := h.inj ha hk
    have hik := h.inj hi hk
    have hki := h.inj hk hi
    split at e <;> split at e
    all_goals first
      | omega
      | (have := hki e; omega)
      | (have := hik e; omega)
      | (split at e
         all_goals first
           | omega
           | (have := hab e; omega)
           | (have := hib e; omega)
           | (have := hai e; omega)
           | (have := hkb e; omega)
           | (have := hak e; omega)
           | (have := hki e; omega)
           | (have := hik e; omega)
           | (split at e
              all_goals first
                | omega
                | (have := hab e; omega)
                | (have := hib e; omega)
                | (have := hai e; omega)
                | (have := hkb e; omega)
                | (have := hak e; omega)
                | (have := hki e; omega)
                | (have := hik e; omega)))

/-- The positions a, j, j + 1, b rule out that p is a Baxter permutation. -/
def bad (p : List Nat) (a j b : Nat) : Bool :=
  decide (p.getD (j + 1) 0 < p.getD a 0) && decide (p.getD a 0 < p.getD b 0) && decide (p.getD b 0 < p.getD j 0) || decide (p.getD j 0 < p.getD b 0) && decide (p.getD b 0 < p.getD a 0) && decide (p.getD a 0 < p.getD (j + 1) 0)

/-- No positions before a, j, b do. -/
def Clear (p : List Nat) (a j b : Nat) : Prop :=
  ∀ a' j' b', a' < j' → j' + 2 ≤ b' → b' < p.length → (a' < a ∨ a' = a ∧ (j' < j ∨ j' = j ∧ b' < b)) → bad p a' j' b' = false

theorem Clear.zero (p : List Nat) : Clear p 0 0 0 := by
  intro a' j' b' h1 h2 h3 h4
  omega

/-- The next place to look at. -/
theorem Clear.b {p : List Nat} {a j b : Nat} (h : Clear p a j b) (hb : bad p a j b = false) : Clear p a j (b + 1) := by
  intro a' j' b' h1 h2 h3 h4
  by_cases e : a' = a ∧ j' = j ∧ b' = b
  · obtain ⟨rfl, rfl, rfl⟩ := e
    exact hb
  · exact h a' j' b' h1 h2 h3 (by omega)

theorem Clear.j {p : List Nat} {a j b : Nat} (h : Clear p a j b) (hb : p.length ≤ b) (c : Nat) (hc : c ≤ j + 3) : Clear p a (j + 1) c := by
  intro a' j' b' h1 h2 h3 h4
  exact h a' j' b' h1 h2 h3 (by omega)

theorem Clear.a {p : List Nat} {a j b : Nat} (h : Clear p a j b) (hj : p.length ≤ j + 2) (k c : Nat) (hk : k ≤ a + 2) (hc : c ≤ k + 2) : Clear p (a + 1) k c := by
  intro a' j' b' h1 h2 h3 h4
  exact h a' j' b' h1 h2 h3 (by omega)

/-- The first positions that rule p out. -/
def First (p : List Nat) (a j b : Nat) : Prop := a < j ∧ j + 2 ≤ b ∧ b < p.length ∧ bad p a j b = true ∧ Clear p a j b

theorem First.only {p : List Nat} {a j b a' j' b' : Nat} (h : First p a j b) (k : First p a' j' b') : a = a' ∧ j = j' ∧ b = b' := by
  obtain ⟨h1, h2, h3, h4, h5⟩ := h
  obtain ⟨k1, k2, k3, k4, k5⟩ := k
  have e1 : ¬ (a' < a ∨ a' = a ∧ (j' < j ∨ j' = j ∧ b' < b)) := fun e => by
    rw [h5 a' j' b' k1 k2 k3 e] at k4
    exact absurd k4 (by decide)
  have e2 : ¬ (a < a' ∨ a = a' ∧ (j < j' ∨ j = j' ∧ b < b')) := fun e => by
    rw [k5 a j b h1 h2 h3 e] at h4
    exact absurd h4 (by decide)
  omega

/-- No positions rule p out. -/
def None' (p : List Nat) : Prop := ∀ a j b, a < j → j + 2 ≤ b → b < p.length → bad p a j b = false

theorem Clear.none {p : List Nat} {a j b : Nat} (h : Clear p a j b) (ha : p.length ≤ a) : None' p :=
  fun a' j' b' h1 h2 h3 => h a' j' b' h1 h2 h3 (by omega)

theorem First.not_none {p : List Nat} {a j b : Nat} (h : First p a j b) (k : None' p) : False := by
  have := k a j b h.1 h.2.1 h.2.2.1
  rw [h.2.2.2.1] at this
  exact absurd this (by decide)

end Go.Proofs.Ytgdaidmkcgblbaa
