/-
  A list's block tree stays when all its numbers are raised by the same.
  What the reference's Blocks finds, in plain words: the same parts as the program.
-/
import Derived.Test.YtgdaidmkcgblbaaBackN
set_option linter.unusedVariables false
namespace Go.Proofs.Ytgdaidmkcgblbaa
open Go.RowKit

/-- All numbers raised. -/
def up (c : Nat) (l : List Nat) : List Nat := l.map fun x => c + x
theorem up_length (c : Nat) (l : List Nat) : (up c l).length = l.length := List.length_map _
theorem up_getD (c : Nat) (l : List Nat) (i : Nat) (h : i < l.length) : (up c l).getD i 0 = c + l.getD i 0 := by
  simp [up, List.getD_eq_getElem?_getD, h]
theorem up_seg (c : Nat) (l : List Nat) (s e : Nat) : seg (up c l) s e = up c (seg l s e) := by
  unfold seg up
  rw [← List.map_drop, ← List.map_take]
theorem up_max (c : Nat) (l : List Nat) (h : 0 < l.length) : ∀ k, k ≤ l.length → maxTo (up c l) k = c + maxTo l k
  | 0, _ => up_getD c l 0 h
  | k + 1, hk => by
    show max (maxTo (up c l) k) ((up c l).getD k 0) = c + max (maxTo l k) (l.getD k 0)
    rw [up_max c l h k (by omega), up_getD c l k (by omega)]
    omega
theorem up_min (c : Nat) (l : List Nat) (h : 0 < l.length) : ∀ k, k ≤ l.length → minTo (up c l) k = c + minTo l k
  | 0, _ => up_getD c l 0 h
  | k + 1, hk => by
    show min (minTo (up c l) k) ((up c l).getD k 0) = c + min (minTo l k) (l.getD k 0)
    rw [up_min c l h k (by omega), up_getD c l k (by omega)]
    omega
theorem up_maxL (c : Nat) (l : List Nat) (h : 0 < l.length) : maxL (up c l) = c + maxL l := by
  unfold maxL
  rw [up_length]
  exact up_max c l h _ (Nat.le_refl _)
theorem up_minL (c : Nat) (l : List Nat) (h : 0 < l.length) : minL (up c l) = c + minL l := by
  unfold minL
  rw [up_length]
  exact up_min c l h _ (Nat.le_refl _)

theorem up_cutTo {T : List Nat → List Nat → Bool} (c : Nat) (p : List Nat) (hT : ∀ a b : List Nat, 0 < a.length → 0 < b.length → T (up c a) (up c b) = T a b) : ∀ k, k + 1 ≤ p.length → cutTo T (up c p) k = cutTo T p k
  | 0, _ => rfl
  | k + 1, hk => by
    have ih := up_cutTo c p hT k (by omega)
    have hle := (cutTo_le T p k).1
    conv => lhs; unfold cutTo
    conv => rhs; unfold cutTo
    rw [ih, up_seg, up_seg, up_length, hT _ _ (by rw [seg_length _ _ _ (by omega) (by omega)]; omega) (by rw [seg_length _ _ _ (by omega) (by omega)]; omega)]
theorem up_cutL {T : List Nat → List Nat → Bool} (c : Nat) (p : List Nat) (h1 : 1 ≤ p.length) (hT : ∀ a b : List Nat, 0 < a.length → 0 < b.length → T (up c a) (up c b) = T a b) : cutL T (up c p) = cutL T p := by
  unfold cutL
  rw [up_length, up_cutTo c p hT _ (by omega)]
theorem up_lessL (c : Nat) (p : List Nat) (h1 : 1 ≤ p.length) : lessL (up c p) = lessL p :=
  up_cutL c p h1 fun a b ha hb => by
    show decide (maxL (up c a) < minL (up c b)) = decide (maxL a < minL b)
    rw [up_maxL c a ha, up_minL c b hb]
    exact decide_eq_decide.2 (by omega)
theorem up_greatL (c : Nat) (p : List Nat) (h1 : 1 ≤ p.length) : greatL (up c p) = greatL p :=
  up_cutL c p h1 fun a b ha hb => by
    show decide (maxL (up c b) < minL (up c a)) = decide (maxL b < minL a)
    rw [up_maxL c b hb, up_minL c a ha]
    exact decide_eq_decide.2 (by omega)
theorem up_gapB (c : Nat) (p : List Nat) (s e : Nat) (h1 : s < e) (h2 : e ≤ p.length) : gapB (up c p) s e = gapB p s e := by
  have hl : 0 < (seg p s e).length := by rw [seg_length _ _ _ (by omega) h2]; omega
  unfold gapB
  rw [up_seg, up_maxL c _ hl, up_minL c _ hl]
  exact decide_eq_decide.2 (by omega)
theorem gapB_zero (p : List Nat) (s e : Nat) (h : e ≤ s) : gapB p s e = true := by
  unfold gapB
  exact decide_eq_true (by omega)
theorem up_longEnd (c : Nat) (p : List Nat) (s : Nat) : ∀ e, e ≤ p.length → longEnd (up c p) s e = longEnd p s e
  | 0, _ => rfl
  | e + 1, h => by
    have hg : gapB (up c p) s (e + 1) = gapB p s (e + 1) := by
      by_cases hs : s < e + 1
      · exact up_gapB c p s (e + 1) hs h
      · rw [gapB_zero _ _ _ (by omega), gapB_zero _ _ _ (by omega)]
    conv => lhs; unfold longEnd
    conv => rhs; unfold longEnd
    rw [hg, up_longEnd c p s e (by omega)]
theorem up_longE (c : Nat) (p : List Nat) (s : Nat) : longE (up c p) s = longE p s := by
  unfold longE
  rw [up_length]
  split
  · exact up_longEnd c p s _ (by omega)
  · exact up_longEnd c p s _ (Nat.le_refl _)
theorem up_longFrom (c : Nat) (p : List Nat) : ∀ f s, longFrom (up c p) f s = longFrom p f s
  | 0, _ => rfl
  | f + 1, s => by
    conv => lhs; unfold longFrom
    conv => rhs; unfold longFrom
    rw [up_length, up_longE, up_longFrom c p f]
theorem up_longL (c : Nat) (p : List Nat) : longL (up c p) = longL p := by
  unfold longL
  rw [up_length, up_longFrom]
theorem up_divL (c : Nat) (p : List Nat) (h1 : 1 ≤ p.length) : divL (up c p) = divL p := by
  unfold divL
  rw [up_lessL c p h1, up_greatL c p h1, up_longL]
theorem up_patL (c : Nat) (p : List Nat) (rows : List (Nat × Nat)) (h : ∀ x ∈ rows, x.1 < p.length) : patL (up c p) rows = patL p rows := by
  unfold patL
  apply List.map_congr_left
  intro x hx
  unfold patAt
  apply List.countP_congr
  intro y hy
  rw [decide_eq_true_eq, decide_eq_true_eq, up_getD c p _ (h x hx), up_getD c p _ (h y hy)]
  omega
theorem up_treeF (c : Nat) : ∀ (f : Nat) (p : List Nat), 1 ≤ p.length → treeF f (up c p) = treeF f p
  | 0, _, _ => rfl
  | f + 1, p, h1 => by
    rw [treeF_succ, treeF_succ, up_length, up_divL c p h1]
    by_cases e : p.length = 1
    · rw [if_pos e, if_pos e]
    · rw [if_neg e, if_neg e]
      have hp := (divL_parts p (by omega)).1
      congr 1
      · split
        · exact up_patL c p _ (fun x hx => by have := hp x hx; omega)
        · rfl
      · apply List.map_congr_left
        intro x hx
        have hx' := hp x hx
        rw [up_seg]
        exact up_treeF c f _ (by rw [seg_length _ _ _ (by omega) hx'.2.1]; omega)

end Go.Proofs.Ytgdaidmkcgblbaa

namespace Go.Proofs.Ytgdaidmkcgblbaa
open Go.RowKit

/-- Neighbours. -/
def pairsOf : List Nat → List (Nat × Nat)
  | x :: y :: l => (x, y) :: pairsOf (y :: l)
  | _ => []
theorem pairsOf_snoc (y : Nat) : ∀ (l : List Nat) (x : Nat), pairsOf (l ++ [x, y]) = pairsOf (l ++ [x]) ++ [(x, y)]
  | [], _ => rfl
  | [_], _ => rfl
  | a :: b :: l, x => by
    show (a, b) :: pairsOf (b :: l ++ [x, y]) = (a, b) :: (pairsOf (b :: l ++ [x]) ++ [(x, y)])
    rw [pairsOf_snoc y (b :: l) x]
theorem pairsOf_length : ∀ l : List Nat, (pairsOf l).length = l.length - 1
  | [] => rfl
  | [_] => rfl
  | x :: y :: l => by
    show (pairsOf (y :: l)).length + 1 = _
    rw [pairsOf_length (y :: l)]
    simp
theorem pairsOf_get : ∀ (l : List Nat) (i : Nat), i + 1 < l.length → (pairsOf l).getD i (0, 0) = (l.getD i 0, l.getD (i + 1) 0)
  | [], _, h => absurd h (by simp)
  | [_], _, h => absurd h (by simp)
  | x :: y :: l, 0, _ => rfl
  | x :: y :: l, i + 1, h => by
    show (pairsOf (y :: l)).getD i (0, 0) = _
    rw [pairsOf_get (y :: l) i (by simpa using h)]
    rfl

/-- Whether all before a place are less than all others (or greater). -/
def allB (p : List Nat) (a kind : Nat) : Bool := (List.range a).all fun i => (List.range (p.length - a)).all fun k => decide (p.getD i 0 < p.getD (a + k) 0) == (kind == 1)
theorem allB_iff {p : List Nat} {a kind : Nat} : allB p a kind = true ↔ ∀ i j, i < a → a ≤ j → j < p.length → (p.getD i 0 < p.getD j 0 ↔ kind = 1) := by
  unfold allB
  rw [List.all_eq_true]
  constructor
  · intro h i j hi hj hl
    have h1 := List.all_eq_true.1 (h i (List.mem_range.2 hi)) (j - a) (List.mem_range.2 (by omega))
    rw [show a + (j - a) = j by omega] at h1
    have h2 := beq_iff_eq.1 h1
    constructor
    · intro hlt
      rw [decide_eq_true hlt] at h2
      exact beq_iff_eq.1 h2.symm
    · intro hk
      rw [hk] at h2
      exact of_decide_eq_true h2
  · intro h i hi
    rw [List.all_eq_true]
    intro k hk
    have h1 := h i (a + k) (List.mem_range.1 hi) (Nat.le_add_right _ _) (by have := List.mem_range.1 hk; omega)
    rw [beq_iff_eq]
    by_cases hk1 : kind = 1
    · rw [decide_eq_true (h1.2 hk1), hk1]; rfl
    · rw [decide_eq_false (fun hlt => hk1 (h1.1 hlt))]
      exact (beq_eq_false_iff_ne.2 hk1).symm

/-- The places where a list is cut, up to k. -/
def cutsR (f : Nat → Bool) : Nat → List Nat
  | 0 => [0]
  | k + 1 => if f (k + 1) then cutsR f k ++ [k + 1] else cutsR f k
/-- A list and its last element. -/
theorem cutsR_last (f : Nat → Bool) : ∀ k, ∃ l c, cutsR f k = l ++ [c] ∧ c ≤ k
  | 0 => ⟨[], 0, rfl, Nat.le_refl _⟩
  | k + 1 => by
    unfold cutsR
    split
    · exact ⟨_, k + 1, rfl, Nat.le_refl _⟩
    · obtain ⟨l, c, h, hc⟩ := cutsR_last f k
      exact ⟨l, c, h, by omega⟩
theorem cutsR_length (f : Nat → Bool) : ∀ k, 1 ≤ (cutsR f k).length ∧ (cutsR f k).length ≤ k + 1
  | 0 => ⟨Nat.le_refl _, Nat.le_refl _⟩
  | k + 1 => by
    have := cutsR_length f k
    unfold cutsR
    split
    · rw [List.length_append, List.length_singleton]; omega
    · omega

theorem cutTo_R {T : List Nat → List Nat → Bool} {p : List Nat} {f : Nat → Bool} (hf : ∀ k l c, cutsR f k = l ++ [c] → k + 1 < p.length → c ≤ k → T (seg p c (k + 1)) (seg p (k + 1) p.length) = f (k + 1)) :
    ∀ k, k < p.length → (cutTo T p k).1 = pairsOf (cutsR f k) ∧ ∃ l, cutsR f k = l ++ [(cutTo T p k).2]
  | 0, _ => ⟨rfl, [], rfl⟩
  | k + 1, hk => by
    obtain ⟨h1, l, h2⟩ := cutTo_R hf k (by omega)
    have hc := (cutTo_le T p k).1
    have h3 := hf k l _ h2 hk hc
    unfold cutTo cutsR
    rw [h3]
    split
    · refine ⟨?_, cutsR f k, rfl⟩
      show (cutTo T p k).1 ++ [((cutTo T p k).2, k + 1)] = pairsOf (cutsR f k ++ [k + 1])
      rw [h1, h2, List.append_assoc]
      exact (pairsOf_snoc (k + 1) l _).symm
    · exact ⟨h1, l, h2⟩
theorem cutL_R {T : List Nat → List Nat → Bool} {p : List Nat} {f : Nat → Bool} (h0 : 1 ≤ p.length) (hf : ∀ k l c, cutsR f k = l ++ [c] → k + 1 < p.length → c ≤ k → T (seg p c (k + 1)) (seg p (k + 1) p.length) = f (k + 1)) :
    cutL T p = pairsOf (cutsR f (p.length - 1) ++ [p.length]) := by
  obtain ⟨h1, l, h2⟩ := cutTo_R hf (p.length - 1) (by omega)
  unfold cutL
  rw [h1, h2, List.append_assoc]
  exact (pairsOf_snoc p.length l _).symm

/-- All before the last cut are less than all behind it. -/
theorem cutsR_all {p : List Nat} {kind : Nat} : ∀ k l c, cutsR (fun a => allB p a kind) k = l ++ [c] → ∀ i j, i < c → c ≤ j → j < p.length → (p.getD i 0 < p.getD j 0 ↔ kind = 1)
  | 0, l, c, h, i, j, hi, _, _ => by
    have e : l ++ [c] = [0] := h.symm
    have : c = 0 := by
      have := congrArg (fun x => x.getLast?) e
      simpa using this
    omega
  | k + 1, l, c, h, i, j, hi, hj, hl => by
    unfold cutsR at h
    split at h
    · next hb =>
      have : c = k + 1 := by
        have := congrArg (fun x => x.getLast?) h
        simpa using this.symm
      subst this
      exact allB_iff.1 hb i j hi hj hl
    · exact cutsR_all k l c h i j hi hj hl

theorem seg_getD {p : List Nat} {s e : Nat} {x : Nat} (hse : s ≤ e) (he : e ≤ p.length) : x ∈ seg p s e ↔ ∃ i, s ≤ i ∧ i < e ∧ p.getD i 0 = x :=
  ⟨seg_mem hse he, fun ⟨i, h1, h2, h3⟩ => h3 ▸ mem_seg h1 h2 he⟩

theorem lessL_R {p : List Nat} (h0 : 1 ≤ p.length) : lessL p = pairsOf (cutsR (fun a => allB p a 1) (p.length - 1) ++ [p.length]) := by
  refine cutL_R h0 fun k l c h hk hc => ?_
  have hall := cutsR_all k l c h
  have l1 : 0 < (seg p c (k + 1)).length := by rw [seg_length _ _ _ (by omega) (by omega)]; omega
  have l2 : 0 < (seg p (k + 1) p.length).length := by rw [seg_length _ _ _ (by omega) (by omega)]; omega
  rw [Bool.eq_iff_iff, decide_eq_true_eq, allB_iff]
  constructor
  · intro hm i j hi hj hl
    refine ⟨fun _ => rfl, fun _ => ?_⟩
    by_cases hic : i < c
    · exact (hall i j hic (by omega) hl).2 rfl
    · have a1 := maxL_high (l := seg p c (k + 1)) (mem_seg (p := p) (show c ≤ i by omega) hi (by omega))
      have a2 := minL_low (l := seg p (k + 1) p.length) (mem_seg (p := p) hj hl (Nat.le_refl _))
      omega
  · intro h
    obtain ⟨i, i1, i2, i3⟩ := seg_mem (by omega) (by omega) (maxL_mem l1)
    obtain ⟨j, j1, j2, j3⟩ := seg_mem (by omega) (by omega) (minL_mem l2)
    have := (h i j (by omega) j1 j2).2 rfl
    omega
theorem greatL_R {p : List Nat} (h0 : 1 ≤ p.length) (hd : ∀ i j, i < p.length → j < p.length → p.getD i 0 = p.getD j 0 → i = j) : greatL p = pairsOf (cutsR (fun a => allB p a 2) (p.length - 1) ++ [p.length]) := by
  refine cutL_R h0 fun k l c h hk hc => ?_
  have hall := cutsR_all k l c h
  have l1 : 0 < (seg p c (k + 1)).length := by rw [seg_length _ _ _ (by omega) (by omega)]; omega
  have l2 : 0 < (seg p (k + 1) p.length).length := by rw [seg_length _ _ _ (by omega) (by omega)]; omega
  rw [Bool.eq_iff_iff, decide_eq_true_eq, allB_iff]
  constructor
  · intro hm i j hi hj hl
    refine ⟨fun hlt => ?_, fun h2 => by cases h2⟩
    exfalso
    by_cases hic : i < c
    · have := (hall i j hic (by omega) hl).1 hlt
      cases this
    · have a1 := minL_low (l := seg p c (k + 1)) (mem_seg (p := p) (show c ≤ i by omega) hi (by omega))
      have a2 := maxL_high (l := seg p (k + 1) p.length) (mem_seg (p := p) hj hl (Nat.le_refl _))
      omega
  · intro h
    obtain ⟨i, i1, i2, i3⟩ := seg_mem (by omega) (by omega) (minL_mem l1)
    obtain ⟨j, j1, j2, j3⟩ := seg_mem (by omega) (by omega) (maxL_mem l2)
    have a1 := h i j (by omega) j1 j2
    have a2 : ¬ p.getD i 0 < p.getD j 0 := fun hlt => by have := a1.1 hlt; cases this
    have a3 : p.getD i 0 ≠ p.getD j 0 := fun e => by have := hd i j (by omega) j2 e; omega
    omega

/-- What pattern returns. -/
def patR (l : List Nat) : List Nat := l.map (lessN l)
theorem patR_gapless {l : List Nat} (h : Gapless l) : patR l = norm l := by
  unfold patR norm
  apply List.map_congr_left
  intro x hx
  have h1 := minL_low hx
  have h2 := maxL_high hx
  have h3 := h.max
  exact h.less h1 (by omega)
theorem up_norm {l : List Nat} : up (minL l) (norm l) = l := by
  unfold up norm
  rw [List.map_map]
  conv => rhs; rw [← List.map_id l]
  apply List.map_congr_left
  intro x hx
  have := minL_low hx
  show minL l + (x - minL l) = x
  omega
theorem norm_isPerm {l : List Nat} (h : Gapless l) : IsPerm (norm l) := by
  have hg : ∀ i, i < l.length → (norm l).getD i 0 = l.getD i 0 - minL l := fun i hi => by
    unfold norm
    simp [List.getD_eq_getElem?_getD, hi]
  refine ⟨fun i hi => ?_, fun i j hi hj e => ?_⟩
  · rw [norm_length] at hi ⊢
    rw [hg i hi]
    have h1 := maxL_high (getD_mem l i hi)
    have h3 := h.max
    have := h.2.1
    omega
  · rw [norm_length] at hi hj
    rw [hg i hi, hg j hj] at e
    have h1 := minL_low (getD_mem l i hi)
    have h2 := minL_low (getD_mem l j hj)
    have e' : l.getD i 0 = l.getD j 0 := by omega
    rw [List.getD_eq_getElem?_getD, List.getD_eq_getElem?_getD, List.getElem?_eq_getElem hi, List.getElem?_eq_getElem hj] at e'
    have e2 : l[i] = l[j] := e'
    have hp := List.pairwise_iff_getElem.1 h.1
    rcases Nat.lt_trichotomy i j with g | g | g
    · exact absurd e2 (hp i j hi hj g)
    · exact g
    · exact absurd e2.symm (hp j i hj hi g)
theorem treeF_norm (f : Nat) {l : List Nat} (h : 1 ≤ l.length) : treeF f (norm l) = treeF f l := by
  conv => rhs; rw [← up_norm (l := l)]
  exact (up_treeF _ f (norm l) (by rw [norm_length]; exact h)).symm

/-- The pattern of the first elements of parts. -/
theorem patR_first (p : List Nat) (rows : List (Nat × Nat)) : patR (rows.map fun x => p.getD x.1 0) = patL p rows := by
  unfold patR patL
  rw [List.map_map]
  apply List.map_congr_left
  intro x _
  show lessN (rows.map fun x => p.getD x.1 0) (p.getD x.1 0) = patAt p rows x
  unfold lessN patAt
  rw [List.countP_map]
  rfl

/-- Trees are of as many levels as there are elements, at most. -/
theorem toIT_len : ∀ (N d : Nat) (p : List Nat), p.length ≤ N → 1 ≤ p.length → p.length ≤ d → toIT d (treeF p.length p) = toIT p.length (treeF p.length p)
  | 0, _, p, h1, h2, _ => absurd h1 (by omega)
  | _ + 1, 0, p, _, h2, h3 => absurd h3 (by omega)
  | N + 1, d + 1, p, h1, h2, h3 => by
    obtain ⟨m, hm⟩ : ∃ m, p.length = m + 1 := ⟨p.length - 1, by omega⟩
    rw [hm, treeF_succ]
    by_cases e : p.length = 1
    · rw [if_pos e]; rfl
    · rw [if_neg e]
      have hp := (divL_parts p (by omega)).1
      generalize (if (divL p).1 = 3 then patL p (divL p).2 else []) = pl
      show IT.node _ _ ((List.map _ _).map (toIT d)) = IT.node _ _ ((List.map _ _).map (toIT m))
      congr 1
      rw [List.map_map, List.map_map]
      apply List.map_congr_left
      intro x hx
      have hx' := hp x hx
      have hl : (seg p x.1 x.2).length = x.2 - x.1 := seg_length p x.1 x.2 (Nat.le_of_lt hx'.1) hx'.2.1
      show toIT d (treeF m (seg p x.1 x.2)) = toIT m (treeF m (seg p x.1 x.2))
      rw [treeF_len N m _ (by omega) (by omega) (by omega), toIT_len N d _ (by omega) (by omega) (by omega), toIT_len N m _ (by omega) (by omega) (by omega)]

end Go.Proofs.Ytgdaidmkcgblbaa
