/-
  A list's block tree stays when all its numbers are raised by the same.
-/
import Derived.Test.YtgdemenokjghoaaBackN
namespace Go.Proofs.Ytgdemenokjghoaa
open Go.RowKit

/-- All numbers raised. -/
def up (c : Nat) (l : List Nat) : List Nat := l.map fun x => c + x
theorem up_length (c : Nat) (l : List Nat) : (up c l).length = l.length := List.length_map _
theorem up_getD (c : Nat) (l : List Nat) (i : Nat) (h : i < l.length) : (up c l).getD i 0 = c + l.getD i 0 := by
  simp [up, List.getD_eq_getElem?_getD, h]
theorem up_seg (c : Nat) (l : List Nat) (s e : Nat) : seg (up c l) s e = up c (seg l s e) := by
  unfold seg up
  rw [← List.map_drop, ← List.map_take]
theorem up_max (c : Nat) (l : List Nat) (h : 0 < l.length) : ∀ k, k ≤ l.length → maxTo (up c l) k = c + maxTo l k
  | 0, _ => up_getD c l 0 h
  | k + 1, hk => by
    show max (maxTo (up c l) k) ((up c l).getD k 0) = c + max (maxTo l k) (l.getD k 0)
    rw [up_max c l h k (by omega), up_getD c l k (by omega)]
    omega
theorem up_min (c : Nat) (l : List Nat) (h : 0 < l.length) : ∀ k, k ≤ l.length → minTo (up c l) k = c + minTo l k
  | 0, _ => up_getD c l 0 h
  | k + 1, hk => by
    show min (minTo (up c l) k) ((up c l).getD k 0) = c + min (minTo l k) (l.getD k 0)
    rw [up_min c l h k (by omega), up_getD c l k (by omega)]
    omega
theorem up_maxL (c : Nat) (l : List Nat) (h : 0 < l.length) : maxL (up c l) = c + maxL l := by
  unfold maxL
  rw [up_length]
  exact up_max c l h _ (Nat.le_refl _)
theorem up_minL (c : Nat) (l : List Nat) (h : 0 < l.length) : minL (up c l) = c + minL l := by
  unfold minL
  rw [up_length]
  exact up_min c l h _ (Nat.le_refl _)

theorem up_cutTo {T : List Nat → List Nat → Bool} (c : Nat) (p : List Nat) (hT : ∀ a b : List Nat, 0 < a.length → 0 < b.length → T (up c a) (up c b) = T a b) : ∀ k, k + 1 ≤ p.length → cutTo T (up c p) k = cutTo T p k
  | 0, _ => rfl
  | k + 1, hk => by
    have ih := up_cutTo c p hT k (by omega)
    have hle := (cutTo_le T p k).1
    conv => lhs; unfold cutTo
    conv => rhs; unfold cutTo
    rw [ih, up_seg, up_seg, up_length, hT _ _ (by rw [seg_length _ _ _ (by omega) (by omega)]; omega) (by rw [seg_length _ _ _ (by omega) (by omega)]; omega)]
theorem up_cutL {T : List Nat → List Nat → Bool} (c : Nat) (p : List Nat) (h1 : 1 ≤ p.length) (hT : ∀ a b : List Nat, 0 < a.length → 0 < b.length → T (up c a) (up c b) = T a b) : cutL T (up c p) = cutL T p := by
  unfold cutL
  rw [up_length, up_cutTo c p hT _ (by omega)]
theorem up_lessL (c : Nat) (p : List Nat) (h1 : 1 ≤ p.length) : lessL (up c p) = lessL p :=
  up_cutL c p h1 fun a b ha hb => by
    show decide (maxL (up c a) < minL (up c b)) = decide (maxL a < minL b)
    rw [up_maxL c a ha, up_minL c b hb]
    exact decide_eq_decide.2 (by omega)
theorem up_greatL (c : Nat) (p : List Nat) (h1 : 1 ≤ p.length) : greatL (up c p) = greatL p :=
  up_cutL c p h1 fun a b ha hb => by
    show decide (maxL (up c b) < minL (up c a)) = decide (maxL b < minL a)
    rw [up_maxL c b hb, up_minL c a ha]
    exact decide_eq_decide.2 (by omega)
theorem up_gapB (c : Nat) (p : List Nat) (s e : Nat) (h1 : s < e) (h2 : e ≤ p.length) : gapB (up c p) s e = gapB p s e := by
  have hl : 0 < (seg p s e).length := by rw [seg_length _ _ _ (by omega) h2]; omega
  unfold gapB
  rw [up_seg, up_maxL c _ hl, up_minL c _ hl]
  exact decide_eq_decide.2 (by omega)
theorem gapB_zero (p : List Nat) (s e : Nat) (h : e ≤ s) : gapB p s e = true := by
  unfold gapB
  exact decide_eq_true (by omega)
theorem up_longEnd (c : Nat) (p : List Nat) (s : Nat) : ∀ e, e ≤ p.length → longEnd (up c p) s e = longEnd p s e
  | 0, _ => rfl
  | e + 1, h => by
    have hg : gapB (up c p) s (e + 1) = gapB p s (e + 1) := by
      by_cases hs : s < e + 1
      · exact up_gapB c p s (e + 1) hs h
      · rw [gapB_zero _ _ _ (by omega), gapB_zero _ _ _ (by omega)]
    conv => lhs; unfold longEnd
    conv => rhs; unfold longEnd
    rw [hg, up_longEnd c p s e (by omega)]
theorem up_longE (c : Nat) (p : List Nat) (s : Nat) : longE (up c p) s = longE p s := by
  unfold longE
  rw [up_length]
  split
  · exact up_longEnd c p s _ (by omega)
  · exact up_longEnd c p s _ (Nat.le_refl _)
theorem up_longFrom (c : Nat) (p : List Nat) : ∀ f s, longFrom (up c p) f s = longFrom p f s
  | 0, _ => rfl
  | f + 1, s => by
    conv => lhs; unfold longFrom
    conv => rhs; unfold longFrom
    rw [up_length, up_longE, up_longFrom c p f]
theorem up_longL (c : Nat) (p : List Nat) : longL (up c p) = longL p := by
  unfold longL
  rw [up_length, up_longFrom]
theorem up_divL (c : Nat) (p : List Nat) (h1 : 1 ≤ p.length) : divL (up c p) = divL p := by
  unfold divL
  rw [up_lessL c p h1, up_greatL c p h1, up_longL]
theorem up_patL (c : Nat) (p : List Nat) (rows : List (Nat × Nat)) (h : ∀ x ∈ rows, x.1 < p.length) : patL (up c p) rows = patL p rows := by
  unfold patL
  apply List.map_congr_left
  intro x hx
  unfold patAt
  apply List.countP_congr
  intro y hy
  rw [decide_eq_true_eq, decide_eq_true_eq, up_getD c p _ (h x hx), up_getD c p _ (h y hy)]
  omega
theorem up_treeF (c : Nat) : ∀ (f : Nat) (p : List Nat), 1 ≤ p.length → treeF f (up c p) = treeF f p
  | 0, _, _ => rfl
  | f + 1, p, h1 => by
    rw [treeF_succ, treeF_succ, up_length, up_divL c p h1]
    by_cases e : p.length = 1
    · rw [if_pos e, if_pos e]
    · rw [if_neg e, if_neg e]
      have hp := (divL_parts p (by omega)).1
      congr 1
      · split
        · exact up_patL c p _ (fun x hx => by have := hp x hx; omega)
        · rfl
      · apply List.map_congr_left
        intro x hx
        have hx' := hp x hx
        rw [up_seg]
        exact up_treeF c f _ (by rw [seg_length _ _ _ (by omega) hx'.2.1]; omega)

end Go.Proofs.Ytgdemenokjghoaa
