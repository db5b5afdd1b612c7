/-
  Knuth's theorem, in plain words: a stack sorts a permutation just if it has no occurrence of 1, 2, 0. And: a list that cannot be cut has one of two patterns.
  The first occurrence of a permutation in another one, in plain words.
  A run of a stack, letter by letter, in plain words: what sorts.
-/
import Derived.Test.YtcklgdcjedikoaaSortP
namespace Go.Proofs.Ytcklgdcjedikoaa

/-- An occurrence of 1, 2, 0. -/
def Has120 (p : List Nat) : Prop := ∃ a b c, a < b ∧ b < c ∧ c < p.length ∧ p.getD c 0 < p.getD a 0 ∧ p.getD a 0 < p.getD b 0

theorem last_app (A B : List Nat) (h : 0 < B.length) : (A ++ B).getD ((A ++ B).length - 1) 0 ∈ B := by
  have h1 : (A ++ B).length - 1 = A.length + (B.length - 1) := by rw [List.length_append]; omega
  rw [h1, List.getD_eq_getElem?_getD, List.getElem?_append_right (by omega), Nat.add_sub_cancel_left, List.getElem?_eq_getElem (by omega)]
  exact List.getElem_mem _

theorem take_pos {p : List Nat} {i x : Nat} (h : x ∈ p.take i) : ∃ k, k < i ∧ k < p.length ∧ p.getD k 0 = x := by
  obtain ⟨k, hk, rfl⟩ := List.getElem_of_mem h
  rw [List.length_take] at hk
  refine ⟨k, by omega, by omega, ?_⟩
  simp [List.getD_eq_getElem?_getD, List.getElem?_eq_getElem (show k < p.length by omega)]
theorem pos_take {p : List Nat} {i k : Nat} (h : k < i) (hk : k < p.length) : p.getD k 0 ∈ p.take i := by
  have : (p.take i)[k]? = some (p.getD k 0) := by
    rw [List.getElem?_take_of_lt h, List.getElem?_eq_getElem hk]
    simp [List.getD_eq_getElem?_getD, List.getElem?_eq_getElem hk]
  exact List.mem_of_getElem? this
theorem drop_pos {p : List Nat} {s x : Nat} (h : x ∈ p.drop s) : ∃ k, s ≤ k ∧ k < p.length ∧ p.getD k 0 = x := by
  obtain ⟨k, hk, rfl⟩ := List.getElem_of_mem h
  rw [List.length_drop] at hk
  refine ⟨s + k, by omega, by omega, ?_⟩
  simp [List.getD_eq_getElem?_getD, List.getElem?_eq_getElem (show s + k < p.length by omega)]
theorem take_more (p : List Nat) (i : Nat) (h : i < p.length) : p.take (i + 1) = p.take i ++ [p.getD i 0] := by
  rw [List.take_succ_eq_append_getElem h]
  simp [List.getD_eq_getElem?_getD, List.getElem?_eq_getElem h]

/-- Whatever passes the test stands before the last that does. -/
theorem filter_last {p : List Nat} (hp : IsPerm p) (f : Nat → Bool) {i d b : Nat} (hi : i ≤ p.length) (hd : d < i) (hb : b < i) (hf : f (p.getD b 0) = true)
    (hl : ((p.take i).filter f).getD (((p.take i).filter f).length - 1) 0 = p.getD d 0) : b ≤ d := by
  refine Nat.le_of_not_lt fun hdb => ?_
  have e : (p.take i).filter f = ((p.take i).take (d + 1)).filter f ++ ((p.take i).drop (d + 1)).filter f := by rw [← List.filter_append, List.take_append_drop]
  have hmem : p.getD b 0 ∈ (p.take i).drop (d + 1) := by
    have h1 : ((p.take i).drop (d + 1))[b - (d + 1)]? = some (p.getD b 0) := by
      rw [List.getElem?_drop, show d + 1 + (b - (d + 1)) = b by omega, List.getElem?_take_of_lt hb, List.getElem?_eq_getElem (by omega)]
      simp [List.getD_eq_getElem?_getD, List.getElem?_eq_getElem (show b < p.length by omega)]
    exact List.mem_of_getElem? h1
  have hm2 : p.getD b 0 ∈ ((p.take i).drop (d + 1)).filter f := List.mem_filter.2 ⟨hmem, hf⟩
  rw [e] at hl
  have h3 := last_app (((p.take i).take (d + 1)).filter f) (((p.take i).drop (d + 1)).filter f) (List.length_pos_of_mem hm2)
  rw [hl] at h3
  obtain ⟨k, h4, h5, h6⟩ := drop_pos (List.mem_filter.1 h3).1
  rw [List.length_take] at h5
  have h7 : (p.take i).getD k 0 = p.getD k 0 := by simp [List.getD_eq_getElem?_getD, List.getElem?_take_of_lt (show k < i by omega)]
  rw [h7] at h6
  have := hp.inj (show k < p.length by omega) (show d < p.length by omega) h6
  omega

/-- The stack: what was put and is not off. -/
structure StackSo (p : List Nat) (s : SS) : Prop where
  top : s.i ≤ p.length
  st : s.st = (p.take s.i).filter fun x => decide (s.nx ≤ x)
  low : ∀ v, v < s.nx → v ∈ p.take s.i

theorem perm_nodup {p : List Nat} (hp : IsPerm p) : p.Nodup := by
  rw [List.nodup_iff_pairwise_ne, List.pairwise_iff_getElem]
  intro i j hi hj hij e
  have := hp.inj hi hj (by simp [List.getD_eq_getElem?_getD, hi, hj, e])
  omega

theorem last_split {l : List Nat} (h : 0 < l.length) : l = l.take (l.length - 1) ++ [l.getD (l.length - 1) 0] := by
  have := take_more l (l.length - 1) (by omega)
  rw [show l.length - 1 + 1 = l.length by omega, List.take_length] at this
  exact this

theorem StackSo.step {p : List Nat} (hp : IsPerm p) {s : SS} (h : StackSo p s) : StackSo p (stepS p s) := by
  obtain ⟨i, st, nx, run⟩ := s
  obtain ⟨h1, h2, h3⟩ := h
  dsimp only at h1 h2 h3
  unfold stepS
  by_cases hc : calm st nx = true
  · dsimp only
    rw [if_pos hc]
    by_cases hi : i < p.length
    · rw [if_pos hi]
      refine ⟨hi, ?_, fun v hv => ?_⟩
      · show st ++ [p.getD i 0] = _
        rw [take_more p i hi, List.filter_append, ← h2]
        have : decide (nx ≤ p.getD i 0) = true := by
          refine decide_eq_true (Nat.le_of_not_lt fun hlt => ?_)
          obtain ⟨k, k1, k2, k3⟩ := take_pos (h3 _ hlt)
          have := hp.inj k2 hi k3
          omega
        have e4 : [p.getD i 0].filter (fun x => decide (nx ≤ x)) = [p.getD i 0] := List.filter_eq_self.2 fun x hx => by rw [List.mem_singleton.1 hx]; exact this
        rw [e4]
      · rw [take_more p i hi]
        exact List.mem_append_left _ (h3 v hv)
    · rw [if_neg hi]
      exact ⟨h1, h2, h3⟩
  · dsimp only
    rw [if_neg hc]
    obtain ⟨c1, c2⟩ := calm_false (by simpa using hc)
    have hsp := last_split c1
    rw [c2] at hsp
    have hnx : nx ∈ p.take i := by
      have : nx ∈ st := by rw [hsp]; simp
      rw [h2] at this
      exact (List.mem_filter.1 this).1
    refine ⟨h1, ?_, fun v hv => ?_⟩
    · show st.take (st.length - 1) = (p.take i).filter fun x => decide (nx + 1 ≤ x)
      have e1 : ((p.take i).filter fun x => decide (nx + 1 ≤ x)) = st.filter fun x => decide (nx + 1 ≤ x) := by
        rw [h2, List.filter_filter]
        congr 1
        funext x
        rw [Bool.eq_iff_iff]
        simp only [decide_eq_true_eq, Bool.and_eq_true]
        omega
      have hnd : st.Nodup := by rw [h2]; exact ((perm_nodup hp).sublist (List.take_sublist _ _)).sublist List.filter_sublist
      rw [e1, hsp]
      rw [List.filter_append]
      have e2 : [nx].filter (fun x => decide (nx + 1 ≤ x)) = [] := by simp
      rw [e2, List.append_nil]
      rw [hsp] at hnd
      have hnn : nx ∉ st.take (st.length - 1) := fun hm => (List.nodup_append.1 hnd).2.2 nx hm nx (by simp) rfl
      have hge : ∀ x ∈ st.take (st.length - 1), nx ≤ x := fun x hx => by
        have : x ∈ st := List.mem_of_mem_take hx
        rw [h2] at this
        exact of_decide_eq_true (List.mem_filter.1 this).2
      have e3 : (st.take (st.length - 1)).filter (fun x => decide (nx + 1 ≤ x)) = st.take (st.length - 1) := by
        rw [List.filter_eq_self]
        intro x hx
        have h5 := hge x hx
        have h6 : x ≠ nx := fun e => hnn (e ▸ hx)
        exact decide_eq_true (by omega)
      rw [e3]
      simp only [List.length_append, List.length_singleton, List.length_take]
      rw [List.take_append_of_le_length (by rw [List.length_take]; omega), List.take_take]
      congr 1
      omega
    · show v ∈ p.take i
      by_cases e : v = nx
      · rw [e]; exact hnx
      · exact h3 v (by have : v < nx + 1 := hv; omega)

theorem stack_so {p : List Nat} (hp : IsPerm p) : ∀ k, StackSo p (iterS p k)
  | 0 => ⟨Nat.zero_le _, by simp [iterS], fun v hv => by simp [iterS] at hv⟩
  | k + 1 => (stack_so hp k).step hp

/-- Each number that is off was taken off once. -/
theorem taken_once (p : List Nat) (v : Nat) : ∀ k, v < (iterS p k).nx → ∃ j, (iterS p j).nx = v ∧ calm (iterS p j).st (iterS p j).nx = false
  | 0, h => absurd h (by simp [iterS])
  | k + 1, h => by
    have e : iterS p (k + 1) = stepS p (iterS p k) := rfl
    rw [e] at h
    unfold stepS at h
    by_cases hc : calm (iterS p k).st (iterS p k).nx = true
    · rw [if_pos hc] at h
      refine taken_once p v k ?_
      split at h <;> exact h
    · rw [if_neg hc] at h
      by_cases e : v = (iterS p k).nx
      · exact ⟨k, e.symm, by simpa using hc⟩
      · exact taken_once p v k (by have : v < (iterS p k).nx + 1 := h; omega)

theorem sorts_not {p : List Nat} (hp : IsPerm p) (h : sortsB p = true) : ¬ Has120 p := by
  rintro ⟨a, b, c, hab, hbc, hc, h1, h2⟩
  have hn : p.length ≤ (finS p).nx := of_decide_eq_true h
  obtain ⟨j, hj, hcalm⟩ := taken_once p (p.getD a 0) _ (Nat.lt_of_lt_of_le (hp.lt (show a < p.length by omega)) hn)
  have hs := stack_so hp j
  rw [hj] at hcalm
  obtain ⟨c1, c2⟩ := calm_false hcalm
  obtain ⟨k, k1, k2, k3⟩ := take_pos (hs.low (p.getD c 0) (by rw [hj]; exact h1))
  have := hp.inj k2 hc k3
  subst this
  rw [hs.st] at c2
  have := filter_last hp _ hs.top (show a < (iterS p j).i by omega) (show b < (iterS p j).i by omega) (by rw [hj]; exact decide_eq_true (by omega)) c2
  omega

/-- Without an occurrence the next number is on top as soon as it was put. -/
def OnTop (p : List Nat) (s : SS) : Prop := s.nx ∈ p.take s.i → calm s.st s.nx = false

theorem calm_of {st : List Nat} {nx : Nat} (h : 0 < st.length) (e : st.getD (st.length - 1) 0 = nx) : calm st nx = false := by
  simp only [calm, e, Bool.or_eq_false_iff, decide_eq_false_iff_not, ne_eq, Decidable.not_not, and_true]
  omega

theorem OnTop.step {p : List Nat} (hp : IsPerm p) (hno : ¬ Has120 p) {s : SS} (hs : StackSo p s) (h : OnTop p s) : OnTop p (stepS p s) := by
  have hs' := hs.step hp
  obtain ⟨i, st, nx, run⟩ := s
  unfold stepS at hs' ⊢
  by_cases hc : calm st nx = true
  · dsimp only at hs' ⊢
    rw [if_pos hc] at hs' ⊢
    by_cases hi : i < p.length
    · rw [if_pos hi]
      intro hm
      have hm : nx ∈ p.take (i + 1) := hm
      rw [take_more p i hi, List.mem_append, List.mem_singleton] at hm
      rcases hm with hm | hm
      · have := h hm
        rw [show calm st nx = true from hc] at this
        cases this
      · show calm (st ++ [p.getD i 0]) nx = false
        refine calm_of (by simp) ?_
        have := last_app st [p.getD i 0] (by simp)
        rw [List.mem_singleton] at this
        rw [this, hm]
    · rw [if_neg hi]
      exact h
  · dsimp only at hs' ⊢
    rw [if_neg hc] at hs' ⊢
    obtain ⟨c1, c2⟩ := calm_false (by simpa using hc)
    intro hm
    have hm : nx + 1 ∈ p.take i := hm
    show calm (st.take (st.length - 1)) (nx + 1) = false
    have hst' : st.take (st.length - 1) = (p.take i).filter fun x => decide (nx + 1 ≤ x) := hs'.st
    have hst : st = (p.take i).filter fun x => decide (nx ≤ x) := hs.st
    have htop : i ≤ p.length := hs.top
    have hmm : nx + 1 ∈ st.take (st.length - 1) := by rw [hst']; exact List.mem_filter.2 ⟨hm, decide_eq_true (Nat.le_refl _)⟩
    have hpos := List.length_pos_of_mem hmm
    refine calm_of hpos ?_
    -- the last one
    have hlm : (st.take (st.length - 1)).getD ((st.take (st.length - 1)).length - 1) 0 ∈ st.take (st.length - 1) := by
      have := last_app [] (st.take (st.length - 1)) hpos
      simpa using this
    generalize ht : (st.take (st.length - 1)).getD ((st.take (st.length - 1)).length - 1) 0 = t at hlm ⊢
    rw [hst'] at hlm ht
    obtain ⟨hl1, hl2⟩ := List.mem_filter.1 hlm
    have hl2 := of_decide_eq_true hl2
    obtain ⟨a, a1, a2, a3⟩ := take_pos hm
    obtain ⟨b, b1, b2, b3⟩ := take_pos hl1
    have hnm : nx ∈ p.take i := by
      have : nx ∈ st := by rw [last_split c1, c2]; simp
      rw [hst] at this
      exact (List.mem_filter.1 this).1
    obtain ⟨d, d1, d2, d3⟩ := take_pos hnm
    have hab := filter_last hp _ htop b1 a1 (by rw [a3]; exact decide_eq_true (Nat.le_refl _)) (ht.trans b3.symm)
    rw [hst] at c2
    have hbd := filter_last hp _ htop d1 b1 (by rw [b3]; exact decide_eq_true (by omega)) (c2.trans d3.symm)
    refine Decidable.byContradiction fun hne => hno ⟨a, b, d, ?_, ?_, d2, ?_, ?_⟩
    · refine Nat.lt_of_le_of_ne hab fun e => hne ?_
      rw [← b3, ← a3, e]
    · refine Nat.lt_of_le_of_ne hbd fun e => ?_
      rw [e, d3] at b3
      omega
    · rw [d3, a3]; omega
    · rw [a3, b3]; omega

theorem on_top {p : List Nat} (hp : IsPerm p) (hno : ¬ Has120 p) : ∀ k, OnTop p (iterS p k)
  | 0 => fun h => by simp [iterS] at h
  | k + 1 => (on_top hp hno k).step hp hno (stack_so hp k)

/-- Each step puts or takes, until all was put and nothing can be taken. -/
theorem steps_count (p : List Nat) : ∀ k, (iterS p k).i + (iterS p k).nx = k ∨ (calm (iterS p k).st (iterS p k).nx = true ∧ ¬ (iterS p k).i < p.length)
  | 0 => .inl rfl
  | k + 1 => by
    have e : iterS p (k + 1) = stepS p (iterS p k) := rfl
    rcases steps_count p k with h | ⟨h1, h2⟩
    · by_cases hc : calm (iterS p k).st (iterS p k).nx = true
      · by_cases hi : (iterS p k).i < p.length
        · left
          rw [e]
          unfold stepS
          rw [if_pos hc, if_pos hi]
          show (iterS p k).i + 1 + (iterS p k).nx = k + 1
          omega
        · right
          have e2 : stepS p (iterS p k) = iterS p k := by unfold stepS; rw [if_pos hc, if_neg hi]
          rw [e, e2]
          exact ⟨hc, hi⟩
      · left
        rw [e]
        unfold stepS
        rw [if_neg hc]
        show (iterS p k).i + ((iterS p k).nx + 1) = k + 1
        omega
    · right
      have e2 : stepS p (iterS p k) = iterS p k := by unfold stepS; rw [if_pos h1, if_neg h2]
      rw [e, e2]
      exact ⟨h1, h2⟩

theorem not_sorts {p : List Nat} (hp : IsPerm p) (hall : ∀ v, v < p.length → v ∈ p) (hno : ¬ Has120 p) : sortsB p = true := by
  refine decide_eq_true ?_
  have hs := stack_so hp (2 * p.length)
  have htop := hs.top
  rcases steps_count p (2 * p.length) with h | ⟨h1, h2⟩
  · unfold finS; omega
  · refine Nat.le_of_not_lt fun hlt => ?_
    have := on_top hp hno (2 * p.length) (by
      rw [show (iterS p (2 * p.length)).i = p.length by omega, List.take_length]
      exact hall _ hlt)
    rw [h1] at this
    cases this

theorem sorts_iff {p : List Nat} (hp : IsPerm p) (hall : ∀ v, v < p.length → v ∈ p) : sortsB p = true ↔ ¬ Has120 p :=
  ⟨sorts_not hp, not_sorts hp hall⟩

/-! ### Cuts and two patterns, for any order of positions -/

def SumAt (R : Nat → Nat → Prop) (n k : Nat) : Prop := ∀ i j, i < k → k ≤ j → j < n → R i j
def Pat2 (R : Nat → Nat → Prop) (n : Nat) : Prop := ∃ a b c d, a < b ∧ b < c ∧ c < d ∧ d < n ∧ R b d ∧ R d a ∧ R a c
def Pat1 (R : Nat → Nat → Prop) (n : Nat) : Prop := ∃ a b c d, a < b ∧ b < c ∧ c < d ∧ d < n ∧ R c a ∧ R a d ∧ R d b
structure Tot (R : Nat → Nat → Prop) (n : Nat) : Prop where
  irr : ∀ i, i < n → ¬ R i i
  tr : ∀ i j k, i < n → j < n → k < n → R i j → R j k → R i k
  tot : ∀ i j, i < n → j < n → i ≠ j → R i j ∨ R j i

theorem Tot.flip {R : Nat → Nat → Prop} {n : Nat} (h : Tot R n) : Tot (fun i j => R j i) n :=
  ⟨h.irr, fun i j k hi hj hk h1 h2 => h.tr k j i hk hj hi h2 h1, fun i j hi hj e => (h.tot i j hi hj e).symm⟩
theorem Tot.less {R : Nat → Nat → Prop} {n : Nat} (h : Tot R (n + 1)) : Tot R n :=
  ⟨fun i hi => h.irr i (by omega), fun i j k hi hj hk => h.tr i j k (by omega) (by omega) (by omega), fun i j hi hj => h.tot i j (by omega) (by omega)⟩

theorem least {P : Nat → Prop} : ∀ n, P n → ∃ k, k ≤ n ∧ P k ∧ ∀ j, j < k → ¬ P j := by
  intro n
  induction n using Nat.strongRecOn with
  | ind n ih =>
    intro hn
    by_cases h : ∃ j, j < n ∧ P j
    · obtain ⟨j, hj, hp⟩ := h
      obtain ⟨k, hk, h2⟩ := ih j hj hp
      exact ⟨k, by omega, h2⟩
    · exact ⟨n, Nat.le_refl _, hn, fun j hj hp => h ⟨j, hj, hp⟩⟩

theorem grow_sum {R : Nat → Nat → Prop} {n : Nat} (hR : Tot R (n + 1)) {k0 : Nat} (h0 : 0 < k0) (hk0 : k0 < n) (hs : SumAt R n k0) (hno : ¬ Pat2 R (n + 1)) :
    ∃ k, 0 < k ∧ k < n + 1 ∧ (SumAt R (n + 1) k ∨ SumAt (fun i j => R j i) (n + 1) k) := by
  obtain ⟨k, hk, ⟨hk1, hk2⟩, hmin⟩ := least (P := fun k => 0 < k ∧ SumAt R n k) k0 ⟨h0, hs⟩
  by_cases hall : ∀ i, i < k → R i n
  · refine ⟨k, hk1, by omega, .inl fun i j hi hj hjn => ?_⟩
    by_cases e : j = n
    · rw [e]; exact hall i hi
    · exact hk2 i j hi hj (by omega)
  · obtain ⟨h, hh⟩ := Classical.not_forall.1 hall
    obtain ⟨hhk, hhn⟩ := Classical.not_imp.1 hh
    have hup : R n h := (hR.tot h n (by omega) (by omega) (by omega)).resolve_left hhn
    by_cases hall2 : ∀ i, i < k → R n i
    · refine ⟨n, by omega, by omega, .inr fun i j hi hj hjn => ?_⟩
      obtain rfl : j = n := by omega
      by_cases e : i < k
      · exact hall2 i e
      · exact hR.tr j 0 i (by omega) (by omega) (by omega) (hall2 0 hk1) (hk2 0 i hk1 (by omega) hi)
    · exfalso
      obtain ⟨l, hl⟩ := Classical.not_forall.1 hall2
      obtain ⟨hlk, hln⟩ := Classical.not_imp.1 hl
      have hlow : R l n := (hR.tot l n (by omega) (by omega) (by omega)).resolve_right hln
      obtain ⟨j, hj, hj1, hj2⟩ := least (P := fun j => R n j) h hup
      have hdown : ∀ i, i < j → R i n := fun i hi => (hR.tot i n (by omega) (by omega) (by omega)).resolve_right (hj2 i hi)
      have hupp : ∀ m, j ≤ m → m < k → R n m := fun m hm hmk => by
        by_cases e : m = j
        · rw [e]; exact hj1
        · refine ((hR.tot n m (by omega) (by omega) (by omega))).resolve_right fun hmn => ?_
          exact hno ⟨j, m, k, n, by omega, hmk, by omega, by omega, hmn, hj1, hk2 j k (by omega) (Nat.le_refl _) (by omega)⟩
      have hjl : l < j := Nat.lt_of_not_le fun hle => hR.irr l (by omega) (hR.tr l n l (by omega) (by omega) (by omega) hlow (hupp l hle hlk))
      refine hmin j (by omega) ⟨by omega, fun i m hi hm hmn => ?_⟩
      by_cases e : m < k
      · exact hR.tr i n m (by omega) (by omega) (by omega) (hdown i hi) (hupp m hm e)
      · exact hk2 i m (by omega) (by omega) hmn

theorem cut_there {R : Nat → Nat → Prop} : ∀ n, 2 ≤ n → Tot R n → ¬ Pat2 R n → ¬ Pat1 R n → ∃ k, 0 < k ∧ k < n ∧ (SumAt R n k ∨ SumAt (fun i j => R j i) n k)
  | 0, h, _, _, _ => absurd h (by omega)
  | 1, h, _, _, _ => absurd h (by omega)
  | 2, _, hR, _, _ => by
    refine ⟨1, by omega, by omega, ?_⟩
    rcases hR.tot 0 1 (by omega) (by omega) (by omega) with h | h
    · exact .inl fun i j hi hj hjn => by
        obtain rfl : i = 0 := by omega
        obtain rfl : j = 1 := by omega
        exact h
    · exact .inr fun i j hi hj hjn => by
        obtain rfl : i = 0 := by omega
        obtain rfl : j = 1 := by omega
        exact h
  | n + 3, _, hR, h2, h1 => by
    have w2 : ¬ Pat2 R (n + 2) := fun ⟨a, b, c, d, q1, q2, q3, q4, q5⟩ => h2 ⟨a, b, c, d, q1, q2, q3, by omega, q5⟩
    have w1 : ¬ Pat1 R (n + 2) := fun ⟨a, b, c, d, q1, q2, q3, q4, q5⟩ => h1 ⟨a, b, c, d, q1, q2, q3, by omega, q5⟩
    obtain ⟨k, hk, hkn, h⟩ := cut_there (n + 2) (by omega) hR.less w2 w1
    rcases h with h | h
    · exact grow_sum hR hk hkn h h2
    · obtain ⟨k', q1, q2, q3⟩ := grow_sum (R := fun i j => R j i) hR.flip hk hkn h (fun ⟨a, b, c, d, q1, q2, q3, q4, q5, q6, q7⟩ => h1 ⟨a, b, c, d, q1, q2, q3, q4, q7, q6, q5⟩)
      exact ⟨k', q1, q2, q3.symm⟩

end Go.Proofs.Ytcklgdcjedikoaa

namespace Go.Proofs.Ytcklgdcjedikoaa

/-- Position i may come next: its value is to those of at as q's next is to its first ones. -/
def fits (p q : List Nat) (at' : List Nat) (i : Nat) : Bool :=
  (List.range at'.length).all fun j => decide (p.getD (at'.getD j 0) 0 < p.getD i 0) == decide (q.getD j 0 < q.getD at'.length 0)

/-- The search: to so many levels, behind at', from the position s on. -/
def ext (p q : List Nat) : Nat → List Nat → Nat → Option (List Nat)
  | 0, _, _ => none
  | f + 1, at', s => if at'.length = q.length then some at' else
      (List.range' s (p.length - s)).findSome? fun i => if fits p q at' i then ext p q f (at' ++ [i]) (i + 1) else none
/-- The first occurrence. -/
def occ (p q : List Nat) : Option (List Nat) := ext p q (q.length + 1) [] 0

/-- What is tried at one position. -/
def tryAt (p q : List Nat) (f : Nat) (at' : List Nat) (i : Nat) : Option (List Nat) := if fits p q at' i then ext p q f (at' ++ [i]) (i + 1) else none
theorem ext_full {p q : List Nat} {f : Nat} {at' : List Nat} {s : Nat} (h : at'.length = q.length) : ext p q (f + 1) at' s = some at' := if_pos h
theorem ext_go {p q : List Nat} {f : Nat} {at' : List Nat} {s : Nat} (h : at'.length ≠ q.length) : ext p q (f + 1) at' s = (List.range' s (p.length - s)).findSome? (tryAt p q f at') := if_neg h

/-- Nothing was found at the positions from s on, k of them. -/
def Nope (p q : List Nat) (f : Nat) (at' : List Nat) (s k : Nat) : Prop := ∀ i, s ≤ i → i < s + k → tryAt p q f at' i = none
theorem Nope.zero (p q : List Nat) (f : Nat) (at' : List Nat) (s : Nat) : Nope p q f at' s 0 := fun i h1 h2 => absurd h2 (by omega)
theorem Nope.snoc {p q : List Nat} {f : Nat} {at' : List Nat} {s k : Nat} (h : Nope p q f at' s k) (h1 : tryAt p q f at' (s + k) = none) : Nope p q f at' s (k + 1) := fun i h2 h3 => by
  by_cases e : i = s + k
  · rw [e]; exact h1
  · exact h i h2 (by omega)
theorem ext_none {p q : List Nat} {f : Nat} {at' : List Nat} {s : Nat} (h : at'.length ≠ q.length) (hn : Nope p q f at' s (p.length - s)) : ext p q (f + 1) at' s = none := by
  rw [ext_go h, List.findSome?_eq_none_iff]
  intro i hi
  rw [List.mem_range'_1] at hi
  exact hn i hi.1 hi.2
theorem ext_some {p q : List Nat} {f : Nat} {at' : List Nat} {s k : Nat} {r : List Nat} (h : at'.length ≠ q.length) (hk : s + k < p.length) (hn : Nope p q f at' s k) (hr : tryAt p q f at' (s + k) = some r) : ext p q (f + 1) at' s = some r := by
  rw [ext_go h, show p.length - s = k + (p.length - s - k) by omega, ← List.range'_append_1, List.findSome?_append]
  have h1 : (List.range' s k).findSome? (tryAt p q f at') = none := by
    rw [List.findSome?_eq_none_iff]
    intro i hi
    rw [List.mem_range'_1] at hi
    exact hn i hi.1 hi.2
  rw [h1, show p.length - s - k = (p.length - s - k - 1) + 1 by omega, List.range'_succ, List.findSome?_cons, hr]
  rfl

/-- The same relation of size at some positions, of the first k. -/
def Like (p q at' : List Nat) : Prop :=
  (∀ i, i < at'.length → at'.getD i 0 < p.length) ∧ (∀ i j, i < j → j < at'.length → at'.getD i 0 < at'.getD j 0) ∧
    ∀ i j, i < j → j < at'.length → (p.getD (at'.getD i 0) 0 < p.getD (at'.getD j 0) 0 ↔ q.getD i 0 < q.getD j 0)

theorem fits_iff {p q at' : List Nat} {i : Nat} : fits p q at' i = true ↔ ∀ j, j < at'.length → (p.getD (at'.getD j 0) 0 < p.getD i 0 ↔ q.getD j 0 < q.getD at'.length 0) := by
  unfold fits
  rw [List.all_eq_true]
  constructor
  · intro h j hj
    have := h j (List.mem_range.2 hj)
    simpa using this
  · intro h j hj
    have := h j (List.mem_range.1 hj)
    simpa using this

theorem app_old {l : List Nat} {x k : Nat} (h : k < l.length) : (l ++ [x]).getD k 0 = l.getD k 0 := by
  simp [List.getD_eq_getElem?_getD, List.getElem?_append_left h]
theorem app_new {l : List Nat} {x : Nat} : (l ++ [x]).getD l.length 0 = x := by
  simp [List.getD_eq_getElem?_getD]

theorem Like.snoc {p q at' : List Nat} {i : Nat} (h : Like p q at') (hi : i < p.length) (hl : ∀ k, k < at'.length → at'.getD k 0 < i) (hf : fits p q at' i = true) : Like p q (at' ++ [i]) := by
  obtain ⟨h1, h2, h3⟩ := h
  rw [fits_iff] at hf
  refine ⟨fun k hk => ?_, fun a b hab hb => ?_, fun a b hab hb => ?_⟩
  · rw [List.length_append, List.length_singleton] at hk
    by_cases e : k = at'.length
    · rw [e, app_new]; exact hi
    · rw [app_old (by omega)]; exact h1 k (by omega)
  · rw [List.length_append, List.length_singleton] at hb
    rw [app_old (show a < at'.length by omega)]
    by_cases e : b = at'.length
    · rw [e, app_new]; exact hl a (by omega)
    · rw [app_old (by omega)]; exact h2 a b hab (by omega)
  · rw [List.length_append, List.length_singleton] at hb
    rw [app_old (show a < at'.length by omega)]
    by_cases e : b = at'.length
    · rw [e, app_new]; exact hf a (by omega)
    · rw [app_old (by omega)]; exact h3 a b hab (by omega)

/-- What the search returns is an occurrence. -/
theorem ext_like {p q : List Nat} : ∀ (f : Nat) (at' : List Nat) (s : Nat) (r : List Nat), Like p q at' → (∀ k, k < at'.length → at'.getD k 0 < s) → ext p q f at' s = some r → Like p q r ∧ r.length = q.length
  | 0, _, _, _, _, _, h => absurd h (by simp [ext])
  | f + 1, at', s, r, hl, hs, h => by
    by_cases e : at'.length = q.length
    · rw [ext_full e] at h
      injection h with h
      rw [← h]
      exact ⟨hl, e⟩
    · rw [ext_go e] at h
      obtain ⟨i, hi, hr⟩ := List.exists_of_findSome?_eq_some h
      rw [List.mem_range'_1] at hi
      unfold tryAt at hr
      split at hr
      · next hf =>
        refine ext_like f _ _ r (hl.snoc (by omega) (fun k hk => by have := hs k hk; omega) hf) (fun k hk => ?_) hr
        rw [List.length_append, List.length_singleton] at hk
        by_cases e2 : k = at'.length
        · rw [e2, app_new]; omega
        · rw [app_old (by omega)]; have := hs k (by omega); omega
      · cases hr

/-- If there is an occurrence that begins so, the search finds one. -/
theorem ext_finds {p q : List Nat} : ∀ (f : Nat) (at' : List Nat) (s : Nat) (r : List Nat), Like p q r → r.length = q.length → at' = r.take at'.length → at'.length ≤ q.length → q.length < f + at'.length →
    (at'.length < q.length → s ≤ r.getD at'.length 0) → ∃ o, ext p q f at' s = some o
  | 0, _, _, _, _, _, _, h1, h2, _ => absurd h2 (by omega)
  | f + 1, at', s, r, hl, hr, ht, h1, h2, hs => by
    by_cases e : at'.length = q.length
    · exact ⟨_, ext_full e⟩
    · rw [ext_go e]
      cases hc : (List.range' s (p.length - s)).findSome? (tryAt p q f at') with
      | some o => exact ⟨o, rfl⟩
      | none =>
        exfalso
        rw [List.findSome?_eq_none_iff] at hc
        have hlt : at'.length < q.length := by omega
        have hk := hs hlt
        have hpk := hl.1 at'.length (by omega)
        have hold : ∀ j, j < at'.length → at'.getD j 0 = r.getD j 0 := fun j hj => by
          rw [ht]
          simp [List.getD_eq_getElem?_getD, List.getElem?_take_of_lt hj]
        have hn := hc (r.getD at'.length 0) (by rw [List.mem_range'_1]; omega)
        unfold tryAt at hn
        rw [if_pos (fits_iff.2 fun j hj => by rw [hold j hj]; exact hl.2.2 j at'.length hj (by omega))] at hn
        have hlen : (at' ++ [r.getD at'.length 0]).length = at'.length + 1 := by simp
        obtain ⟨o, ho⟩ := ext_finds f (at' ++ [r.getD at'.length 0]) (r.getD at'.length 0 + 1) r hl hr (by
          rw [hlen, take_more r at'.length (by omega), ← ht]) (by rw [hlen]; omega) (by rw [hlen]; omega) (fun h3 => by
          rw [hlen] at h3 ⊢
          exact hl.2.1 at'.length (at'.length + 1) (by omega) (by omega))
        rw [hn] at ho
        cases ho

theorem occ_like {p q r : List Nat} (h : occ p q = some r) : Like p q r ∧ r.length = q.length :=
  ext_like _ _ _ _ ⟨fun i hi => by simp at hi, fun i j hij hj => by simp at hj, fun i j hij hj => by simp at hj⟩ (fun k hk => by simp at hk) h
theorem occ_finds {p q r : List Nat} (hl : Like p q r) (hr : r.length = q.length) : ∃ o, occ p q = some o :=
  ext_finds _ _ _ r hl hr rfl (by simp) (by simp) fun _ => Nat.zero_le _
theorem occ_isSome {p q : List Nat} : (occ p q).isSome = true ↔ ∃ r, Like p q r ∧ r.length = q.length := by
  constructor
  · intro h
    obtain ⟨r, hr⟩ := Option.isSome_iff_exists.1 h
    exact ⟨r, occ_like hr⟩
  · rintro ⟨r, h1, h2⟩
    obtain ⟨o, ho⟩ := occ_finds h1 h2
    rw [ho]; rfl

end Go.Proofs.Ytcklgdcjedikoaa

namespace Go.Proofs.Ytcklgdcjedikoaa

/-- One letter: 105 puts, 111 takes. How many were put, the stack, what comes off next. -/
def stepR (p : List Nat) (x : Nat) (s : Nat × List Nat × Nat) : Option (Nat × List Nat × Nat) :=
  if x = 105 then (if s.1 < p.length then some (s.1 + 1, s.2.1 ++ [p.getD s.1 0], s.2.2) else none)
  else if x = 111 then (if calm s.2.1 s.2.2 = true then none else some (s.1, s.2.1.take (s.2.1.length - 1), s.2.2 + 1))
  else none
/-- The first letters. -/
def runTo (p l : List Nat) : Nat → Option (Nat × List Nat × Nat)
  | 0 => some (0, [], 0)
  | k + 1 => (runTo p l k).bind (stepR p (l.getD k 0))
/-- Whether a run sorts p. -/
def sortsF (p l : List Nat) : Bool := match runTo p l l.length with
  | some s => decide (s.2.2 = p.length)
  | none => false

theorem runTo_none {p l : List Nat} {k : Nat} (h : runTo p l k = none) : ∀ d, runTo p l (k + d) = none
  | 0 => h
  | d + 1 => by show (runTo p l (k + d)).bind _ = none; rw [runTo_none h d]; rfl
theorem sortsF_none {p l : List Nat} {k : Nat} (hk : k ≤ l.length) (h : runTo p l k = none) : sortsF p l = false := by
  have := runTo_none h (l.length - k)
  rw [show k + (l.length - k) = l.length by omega] at this
  unfold sortsF
  rw [this]
theorem sortsF_some {p l : List Nat} {i nx : Nat} {st : List Nat} (h : runTo p l l.length = some (i, st, nx)) : sortsF p l = decide (nx = p.length) := by
  unfold sortsF
  rw [h]
theorem runTo_succ {p l : List Nat} {k : Nat} {s : Nat × List Nat × Nat} (h : runTo p l k = some s) : runTo p l (k + 1) = stepR p (l.getD k 0) s := by
  show (runTo p l k).bind _ = _
  rw [h]; rfl
theorem step_put {p : List Nat} {x i nx : Nat} {st : List Nat} (hx : x = 105) (hi : i < p.length) : stepR p x (i, st, nx) = some (i + 1, st ++ [p.getD i 0], nx) := by
  unfold stepR
  rw [if_pos hx, if_pos hi]
theorem step_full {p : List Nat} {x i nx : Nat} {st : List Nat} (hx : x = 105) (hi : ¬ i < p.length) : stepR p x (i, st, nx) = none := by
  unfold stepR
  rw [if_pos hx, if_neg hi]
theorem step_take {p : List Nat} {x i nx : Nat} {st : List Nat} (hx : x = 111) (hc : calm st nx = false) : stepR p x (i, st, nx) = some (i, st.take (st.length - 1), nx + 1) := by
  unfold stepR
  rw [if_neg (by omega), if_pos hx, if_neg (by rw [hc]; decide)]
theorem step_stay {p : List Nat} {x i nx : Nat} {st : List Nat} (hx : x = 111) (hc : calm st nx = true) : stepR p x (i, st, nx) = none := by
  unfold stepR
  rw [if_neg (by omega), if_pos hx, if_pos hc]
theorem step_other {p : List Nat} {x : Nat} {s : Nat × List Nat × Nat} (h1 : x ≠ 105) (h2 : x ≠ 111) : stepR p x s = none := by
  unfold stepR
  rw [if_neg h1, if_neg h2]

/-- How the numbers hang together. -/
theorem runTo_count {p l : List Nat} : ∀ (k i nx : Nat) (st : List Nat), runTo p l k = some (i, st, nx) → i + nx = k ∧ st.length + nx = i ∧ i ≤ p.length
  | 0, i, nx, st, h => by
    have h : some (0, [], 0) = some (i, st, nx) := h
    injection h with h
    injection h with h1 h2
    injection h2 with h2 h3
    subst h1 h2 h3
    simp
  | k + 1, i, nx, st, h => by
    cases hr : runTo p l k with
    | none => rw [show runTo p l (k + 1) = (runTo p l k).bind (stepR p (l.getD k 0)) from rfl, hr] at h; cases h
    | some s =>
      obtain ⟨i', st', nx'⟩ := s
      obtain ⟨q1, q2, q3⟩ := runTo_count k i' nx' st' hr
      rw [runTo_succ hr] at h
      by_cases h1 : l.getD k 0 = 105
      · by_cases h2 : i' < p.length
        · rw [step_put h1 h2] at h
          injection h with h
          injection h with e1 e2
          injection e2 with e2 e3
          subst e1 e2 e3
          rw [List.length_append, List.length_singleton]
          omega
        · rw [step_full h1 h2] at h; cases h
      · by_cases h2 : l.getD k 0 = 111
        · cases hc : calm st' nx' with
          | true => rw [step_stay h2 hc] at h; cases h
          | false =>
            rw [step_take h2 hc] at h
            injection h with h
            injection h with e1 e2
            injection e2 with e2 e3
            subst e1 e2 e3
            have := calm_false hc
            rw [List.length_take]
            omega
        · rw [step_other h1 h2] at h; cases h

theorem sortsF_long {p l : List Nat} (h : l.length ≠ 2 * p.length) : sortsF p l = false := by
  cases hr : runTo p l l.length with
  | none => exact sortsF_none (Nat.le_refl _) hr
  | some s =>
    obtain ⟨i, st, nx⟩ := s
    have := runTo_count l.length i nx st hr
    rw [sortsF_some hr]
    exact decide_eq_false (by omega)

/-- The stack's own run leads where the stack came. -/
theorem runTo_prefix {p l : List Nat} {x : Nat} : ∀ k, k ≤ l.length → runTo p (l ++ [x]) k = runTo p l k
  | 0, _ => rfl
  | k + 1, hk => by
    show (runTo p (l ++ [x]) k).bind _ = (runTo p l k).bind _
    rw [runTo_prefix k (by omega)]
    congr 2
    simp [List.getD_eq_getElem?_getD, List.getElem?_append_left (show k < l.length by omega)]
theorem runTo_own (p : List Nat) : ∀ k, (iterS p k).i ≤ p.length ∧ runTo p (iterS p k).run (iterS p k).run.length = some ((iterS p k).i, (iterS p k).st, (iterS p k).nx)
  | 0 => ⟨Nat.zero_le _, rfl⟩
  | k + 1 => by
    obtain ⟨h0, h⟩ := runTo_own p k
    have e : iterS p (k + 1) = stepS p (iterS p k) := rfl
    rw [e]
    unfold stepS
    have snoc : ∀ x s, stepR p x ((iterS p k).i, (iterS p k).st, (iterS p k).nx) = some s → runTo p ((iterS p k).run ++ [x]) ((iterS p k).run ++ [x]).length = some s := fun x s hs => by
      rw [List.length_append, List.length_singleton]
      rw [runTo_succ (s := ((iterS p k).i, (iterS p k).st, (iterS p k).nx)) (by rw [runTo_prefix _ (Nat.le_refl _)]; exact h)]
      rw [show ((iterS p k).run ++ [x]).getD (iterS p k).run.length 0 = x by simp [List.getD_eq_getElem?_getD]]
      exact hs
    by_cases hc : calm (iterS p k).st (iterS p k).nx = true
    · rw [if_pos hc]
      by_cases hi : (iterS p k).i < p.length
      · rw [if_pos hi]
        exact ⟨hi, snoc 105 _ (step_put rfl hi)⟩
      · rw [if_neg hi]
        exact ⟨h0, h⟩
    · rw [if_neg hc]
      exact ⟨h0, snoc 111 _ (step_take rfl (by simpa using hc))⟩
theorem own_sorts {p : List Nat} (h : sortsB p = true) : sortsF p (finS p).run = true := by
  have hr := runTo_own p (2 * p.length)
  have hn : p.length ≤ (finS p).nx := of_decide_eq_true h
  have hc := runTo_count _ _ _ _ hr.2
  rw [show (finS p).run = (iterS p (2 * p.length)).run from rfl, sortsF_some hr.2]
  refine decide_eq_true ?_
  have : (finS p).nx = (iterS p (2 * p.length)).nx := rfl
  omega

end Go.Proofs.Ytcklgdcjedikoaa
