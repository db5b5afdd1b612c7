/-
  A tree of blocks has a node of the kind 3 just if the list has one of two patterns; and what an occurrence of few elements says.
-/
import Derived.Test.YtcklgdcjedikoaaPartN
import Derived.Test.YtcklgdcjedikoaaKnuM
import Derived.Test.YtcklgdcjedikoaaSimp
namespace Go.Proofs.Ytcklgdcjedikoaa

/-- The order of the positions by their values. -/
def byVal (p : List Nat) (i j : Nat) : Prop := p.getD i 0 < p.getD j 0
theorem tot_of {p : List Nat} (h : p.Nodup) : Tot (byVal p) p.length := by
  refine ⟨fun i _ h => Nat.lt_irrefl _ h, fun i j k _ _ _ h1 h2 => Nat.lt_trans h1 h2, fun i j hi hj e => ?_⟩
  rcases Nat.lt_trichotomy (p.getD i 0) (p.getD j 0) with h1 | h1 | h1
  · exact .inl h1
  · exfalso
    simp only [List.getD_eq_getElem?_getD, List.getElem?_eq_getElem hi, List.getElem?_eq_getElem hj, Option.getD_some] at h1
    rcases Nat.lt_or_gt_of_ne e with h2 | h2
    · exact List.pairwise_iff_getElem.1 h i j hi hj h2 h1
    · exact List.pairwise_iff_getElem.1 h j i hj hi h2 h1.symm
  · exact .inr h1

/-- One of the two patterns. -/
def Pats (p : List Nat) : Prop := Pat1 (byVal p) p.length ∨ Pat2 (byVal p) p.length

theorem pats_seg {p : List Nat} {s e : Nat} (hse : s ≤ e) (he : e ≤ p.length) (h : Pats (seg p s e)) : Pats p := by
  have hl := seg_length p s e hse he
  have hg : ∀ i, i < e - s → (seg p s e).getD i 0 = p.getD (s + i) 0 := fun i hi => seg_get p s e i hi
  rcases h with ⟨a, b, c, d, h1, h2, h3, h4, h5, h6, h7⟩ | ⟨a, b, c, d, h1, h2, h3, h4, h5, h6, h7⟩
  · unfold byVal at h5 h6 h7
    rw [hg _ (by omega), hg _ (by omega)] at h5 h6 h7
    exact .inl ⟨s + a, s + b, s + c, s + d, by omega, by omega, by omega, by omega, h5, h6, h7⟩
  · unfold byVal at h5 h6 h7
    rw [hg _ (by omega), hg _ (by omega)] at h5 h6 h7
    exact .inr ⟨s + a, s + b, s + c, s + d, by omega, by omega, by omega, by omega, h5, h6, h7⟩
theorem pats_in {p : List Nat} {s e : Nat} (he : e ≤ p.length) (h : (∃ a b c d, (s ≤ a ∧ a < b ∧ b < c ∧ c < d ∧ d < e) ∧ (byVal p c a ∧ byVal p a d ∧ byVal p d b ∨ byVal p b d ∧ byVal p d a ∧ byVal p a c))) : Pats (seg p s e) := by
  obtain ⟨a, b, c, d, ⟨h0, h1, h2, h3, h4⟩, h⟩ := h
  have hl := seg_length p s e (by omega) he
  have hg : ∀ i, s ≤ i → i < e → (seg p s e).getD (i - s) 0 = p.getD i 0 := fun i hi hie => by rw [seg_get p s e _ (by omega), show s + (i - s) = i by omega]
  rcases h with ⟨h5, h6, h7⟩ | ⟨h5, h6, h7⟩
  · refine .inl ⟨a - s, b - s, c - s, d - s, by omega, by omega, by omega, by omega, ?_, ?_, ?_⟩ <;>
    · unfold byVal
      rw [hg _ (by omega) (by omega), hg _ (by omega) (by omega)]
      assumption
  · refine .inr ⟨a - s, b - s, c - s, d - s, by omega, by omega, by omega, by omega, ?_, ?_, ?_⟩ <;>
    · unfold byVal
      rw [hg _ (by omega) (by omega), hg _ (by omega) (by omega)]
      assumption
theorem pats_four {p : List Nat} (h : Pats p) : ∃ a b c d, (0 ≤ a ∧ a < b ∧ b < c ∧ c < d ∧ d < p.length) ∧ (byVal p c a ∧ byVal p a d ∧ byVal p d b ∨ byVal p b d ∧ byVal p d a ∧ byVal p a c) := by
  rcases h with ⟨a, b, c, d, h1, h2, h3, h4, h5⟩ | ⟨a, b, c, d, h1, h2, h3, h4, h5⟩
  · exact ⟨a, b, c, d, ⟨Nat.zero_le _, h1, h2, h3, h4⟩, .inl h5⟩
  · exact ⟨a, b, c, d, ⟨Nat.zero_le _, h1, h2, h3, h4⟩, .inr h5⟩

/-- The part of a position. -/
theorem part_of {p : List Nat} {m : Nat} {a : Nat → Nat} (h : Ends p m a) {x : Nat} : ∀ k, k ≤ m → x < a k → ∃ i, i < k ∧ a i ≤ x ∧ x < a (i + 1)
  | 0, _, hx => absurd hx (by rw [h.first]; omega)
  | k + 1, hk, hx => by
    by_cases e : a k ≤ x
    · exact ⟨k, by omega, e, hx⟩
    · obtain ⟨i, h1, h2⟩ := part_of h (x := x) k (by omega) (by omega)
      exact ⟨i, by omega, h2⟩

/-- What lies between two parts that are apart, with two positions in different ones. -/
theorem apart_less {p : List Nat} {m : Nat} {a : Nat → Nat} (h : Ends p m a) {R : Nat → Nat → Prop} (hR : ∀ i j, i < j → j < m → ∀ u v, u ∈ part p a i → v ∈ part p a j → R u v)
    {k x y : Nat} (hk : k < m) (hx : x < a k) (hy : a k ≤ y) (hyn : y < p.length) : R (p.getD x 0) (p.getD y 0) := by
  have hlast : a m = p.length := h.last
  obtain ⟨i, i1, i2, i3⟩ := part_of h k (by omega) hx
  obtain ⟨j, j1, j2, j3⟩ := part_of h m (Nat.le_refl _) (show y < a m by omega)
  have hkj : k ≤ j := Nat.le_of_not_lt fun hlt => by
    have := h.le (j + 1) (k - (j + 1)) (by omega)
    rw [show j + 1 + (k - (j + 1)) = k by omega] at this
    omega
  exact hR i j (by omega) j1 _ _ (mem_seg i2 i3 (h.top (by omega))) (mem_seg j2 j3 (h.top (by omega)))

theorem three_no_cut {p : List Nat} (h0 : 2 ≤ p.length) (h1 : ¬ 1 < (lessL p).length) (h2 : ¬ 1 < (greatL p).length) : ¬ ∃ k, 0 < k ∧ k < p.length ∧ (SumAt (byVal p) p.length k ∨ SumAt (fun i j => byVal p j i) p.length k) := by
  rintro ⟨k, hk, hkn, h⟩
  have e1 := (cut_one (T := fun l r => decide (maxL l < minL r)) (p := p) (by omega)).1 h1 k hk hkn
  have e2 := (cut_one (T := fun l r => decide (maxL r < minL l)) (p := p) (by omega)).1 h2 k hk hkn
  have hl1 : 0 < (seg p 0 k).length := by rw [seg_length p 0 k (by omega) (by omega)]; omega
  have hl2 : 0 < (seg p k p.length).length := by rw [seg_length p k p.length (by omega) (by omega)]; omega
  rcases h with h | h
  · refine absurd e1 (by
      rw [Bool.not_eq_false, decide_eq_true_eq]
      obtain ⟨i, i1, i2, i3⟩ := seg_mem (Nat.zero_le _) (by omega) (maxL_mem hl1)
      obtain ⟨j, j1, j2, j3⟩ := seg_mem (by omega) (Nat.le_refl _) (minL_mem hl2)
      rw [← i3, ← j3]
      exact h i j i2 j1 j2)
  · refine absurd e2 (by
      rw [Bool.not_eq_false, decide_eq_true_eq]
      obtain ⟨i, i1, i2, i3⟩ := seg_mem (Nat.zero_le _) (by omega) (minL_mem hl1)
      obtain ⟨j, j1, j2, j3⟩ := seg_mem (by omega) (Nat.le_refl _) (maxL_mem hl2)
      rw [← i3, ← j3]
      exact h i j i2 j1 j2)

theorem any_parts {d f : Nat} {p : List Nat} {rows : List (Nat × Nat)} {i : Nat} (hi : i < rows.length) {s e : Nat} (hr : rows.getD i (0, 0) = (s, e)) (h : simpT d (treeF f (seg p s e)) = true) : ((rows.map fun x => treeF f (seg p x.1 x.2)).any fun u => simpT d u) = true := by
  rw [List.any_eq_true]
  refine ⟨treeF f (seg p s e), List.mem_map.2 ⟨(s, e), ?_, rfl⟩, h⟩
  rw [← hr]
  exact rows_mem hi

theorem simp_cut {K d f : Nat} {p : List Nat} {rows : List (Nat × Nat)} {a : Nat → Nat} (hK : K ≠ 3) (h : Ends p rows.length a) (hr : ∀ i, i < rows.length → rows.getD i (0, 0) = (a i, a (i + 1)))
    (ih : ∀ i, i < rows.length → (simpT d (treeF f (part p a i)) = true ↔ Pats (part p a i)))
    (hR : (∀ i j, i < j → j < rows.length → ∀ u v, u ∈ part p a i → v ∈ part p a j → u < v) ∨ (∀ i j, i < j → j < rows.length → ∀ u v, u ∈ part p a i → v ∈ part p a j → v < u)) :
    simpT (d + 1) (.node K [] (rows.map fun x => treeF f (seg p x.1 x.2))) = true ↔ Pats p := by
  have e0 : simpT (d + 1) (.node K [] (rows.map fun x => treeF f (seg p x.1 x.2))) = ((rows.map fun x => treeF f (seg p x.1 x.2)).any fun u => simpT d u) := by
    show (decide (K = 3) || _) = _
    rw [decide_eq_false hK]; rfl
  rw [e0]
  have hlast : a rows.length = p.length := h.last
  constructor
  · intro hany
    obtain ⟨u, hu, hs⟩ := List.any_eq_true.1 hany
    obtain ⟨x, hx, rfl⟩ := List.mem_map.1 hu
    obtain ⟨i, hi, he⟩ := List.getElem_of_mem hx
    have hxi : x = (a i, a (i + 1)) := by
      rw [← hr i hi, ← he]
      simp [List.getD_eq_getElem?_getD, List.getElem?_eq_getElem hi]
    rw [hxi] at hs
    exact pats_seg (h.le i 1 (by omega)) (h.top (by omega)) ((ih i hi).1 hs)
  · intro hp
    obtain ⟨w, x, y, z, ⟨-, h1, h2, h3, h4⟩, hq⟩ := pats_four hp
    obtain ⟨i, i1, i2, i3⟩ := part_of h rows.length (Nat.le_refl _) (show w < a rows.length by omega)
    by_cases hz : z < a (i + 1)
    · exact any_parts i1 (hr i i1) ((ih i i1).2 (pats_in (h.top (by omega)) ⟨w, x, y, z, ⟨i2, h1, h2, h3, hz⟩, hq⟩))
    · exfalso
      have hk : i + 1 < rows.length := Nat.lt_of_le_of_ne i1 fun e => by rw [e] at hz; omega
      unfold byVal at hq
      rcases hR with hR | hR
      · have hh : ∀ s t, s < a (i + 1) → a (i + 1) ≤ t → t < p.length → p.getD s 0 < p.getD t 0 := fun s t q1 q2 q3 => apart_less (R := fun u v => u < v) h hR hk q1 q2 q3
        have a1 := hh w z i3 (by omega) h4
        by_cases hy : y < a (i + 1)
        · have a2 := hh y z hy (by omega) h4
          have a3 := hh x z (by omega) (by omega) h4
          omega
        · have a2 := hh w y i3 (by omega) (by omega)
          by_cases hx : x < a (i + 1)
          · have a3 := hh x y hx (by omega) (by omega)
            have a4 := hh x z hx (by omega) h4
            omega
          · have a3 := hh w x i3 (by omega) (by omega)
            omega
      · have hh : ∀ s t, s < a (i + 1) → a (i + 1) ≤ t → t < p.length → p.getD t 0 < p.getD s 0 := fun s t q1 q2 q3 => apart_less (R := fun u v => v < u) h hR hk q1 q2 q3
        have a1 := hh w z i3 (by omega) h4
        by_cases hy : y < a (i + 1)
        · have a2 := hh y z hy (by omega) h4
          have a3 := hh x z (by omega) (by omega) h4
          omega
        · have a2 := hh w y i3 (by omega) (by omega)
          by_cases hx : x < a (i + 1)
          · have a3 := hh x y hx (by omega) (by omega)
            have a4 := hh x z hx (by omega) h4
            omega
          · have a3 := hh w x i3 (by omega) (by omega)
            omega

theorem simp_iff (N : Nat) : ∀ (p : List Nat), p.length ≤ N → 1 ≤ p.length → p.Nodup → ∀ d f, p.length ≤ d → p.length ≤ f → (simpT d (treeF f p) = true ↔ Pats p) := by
  induction N with
  | zero => intro p h1 h2; omega
  | succ N ih =>
    intro p hN h1 hnd d f hd hf
    obtain ⟨d, rfl⟩ : ∃ d', d = d' + 1 := ⟨d - 1, by omega⟩
    obtain ⟨f, rfl⟩ : ∃ f', f = f' + 1 := ⟨f - 1, by omega⟩
    by_cases e1 : p.length = 1
    · rw [treeF_succ, if_pos e1]
      constructor
      · intro h
        exact absurd h (by simp [simpT, PT.kind, PT.parts])
      · intro h
        obtain ⟨w, x, y, z, h, -⟩ := pats_four h
        omega
    · by_cases c1 : 1 < (lessL p).length
      · rw [tree_less e1 c1]
        obtain ⟨a, ha, hr, hT, -⟩ := cutL_ends (fun l r => decide (maxL l < minL r)) p h1
        have hT : ∀ i, i + 1 < (lessL p).length → maxL (part p a i) < minL (seg p (a (i + 1)) p.length) := fun i hi => of_decide_eq_true (hT i hi)
        refine simp_cut (by omega) ha hr (fun i hi => ?_) (.inl fun i j hij hj u v hu hv => Nat.lt_of_le_of_lt (maxL_high hu) (Nat.lt_of_lt_of_le (less_lt ha hT hj hij) (minL_low hv)))
        have hl := ha.length hi
        have hx := cutL_parts _ p h1 c1 _ (rows_mem (rows := cutL (fun l r => decide (maxL l < minL r)) p) hi)
        rw [hr i hi] at hx
        exact ih (part p a i) (by rw [hl.1]; dsimp only at hx; omega) hl.2 (seg_nodup hnd _ _) d f (by rw [hl.1]; dsimp only at hx; omega) (by rw [hl.1]; dsimp only at hx; omega)
      · by_cases c2 : 1 < (greatL p).length
        · rw [tree_great e1 c1 c2]
          obtain ⟨a, ha, hr, hT, -⟩ := cutL_ends (fun l r => decide (maxL r < minL l)) p h1
          have hT : ∀ i, i + 1 < (greatL p).length → maxL (seg p (a (i + 1)) p.length) < minL (part p a i) := fun i hi => of_decide_eq_true (hT i hi)
          refine simp_cut (by omega) ha hr (fun i hi => ?_) (.inr fun i j hij hj u v hu hv => Nat.lt_of_le_of_lt (maxL_high hv) (Nat.lt_of_lt_of_le (great_lt ha hT hj hij) (minL_low hu)))
          have hl := ha.length hi
          have hx := cutL_parts _ p h1 c2 _ (rows_mem (rows := cutL (fun l r => decide (maxL r < minL l)) p) hi)
          rw [hr i hi] at hx
          exact ih (part p a i) (by rw [hl.1]; dsimp only at hx; omega) hl.2 (seg_nodup hnd _ _) d f (by rw [hl.1]; dsimp only at hx; omega) (by rw [hl.1]; dsimp only at hx; omega)
        · rw [tree_simple e1 c1 c2]
          have ht : simpT (d + 1) (.node 3 (patL p (longL p)) ((longL p).map fun x => treeF f (seg p x.1 x.2))) = true := by
            show (decide ((3 : Nat) = 3) || _) = true
            rw [decide_eq_true rfl]; rfl
          refine ⟨fun _ => ?_, fun _ => ht⟩
          refine Decidable.byContradiction (dec := Classical.propDecidable _) fun hno => three_no_cut (by omega) c1 c2 (cut_there p.length (by omega) (tot_of hnd) (fun h => hno (.inr h)) (fun h => hno (.inl h)))

/-! ### Occurrences of few elements -/

theorem three_of {r : List Nat} (h : r.length = 3) : ∃ a b c, r = [a, b, c] := by
  match r, h with
  | [a, b, c], _ => exact ⟨a, b, c, rfl⟩
theorem four_of {r : List Nat} (h : r.length = 4) : ∃ a b c d, r = [a, b, c, d] := by
  match r, h with
  | [a, b, c, d], _ => exact ⟨a, b, c, d, rfl⟩

theorem like_of_pairs {p q at' : List Nat} (h1 : ∀ i, i < at'.length → at'.getD i 0 < p.length) (h2 : ∀ i j, i < j → j < at'.length → at'.getD i 0 < at'.getD j 0 ∧ (p.getD (at'.getD i 0) 0 < p.getD (at'.getD j 0) 0 ↔ q.getD i 0 < q.getD j 0)) : Like p q at' :=
  ⟨h1, fun i j hij hj => (h2 i j hij hj).1, fun i j hij hj => (h2 i j hij hj).2⟩

theorem occ_120 {p : List Nat} (hp : p.Nodup) : (occ p [1, 2, 0]).isSome = true ↔ Has120 p := by
  have hT := tot_of hp
  rw [occ_isSome]
  constructor
  · rintro ⟨r, ⟨h1, h2, h3⟩, hl⟩
    obtain ⟨a, b, c, rfl⟩ := three_of hl
    have q1 := h1 2 (show 2 < 3 by decide)
    have q2 := h2 0 1 (by decide) (show 1 < 3 by decide)
    have q3 := h2 1 2 (by decide) (show 2 < 3 by decide)
    have q4 := h3 0 1 (by decide) (show 1 < 3 by decide)
    have q5 := h3 0 2 (by decide) (show 2 < 3 by decide)
    simp at q1 q2 q3 q4 q5
    refine ⟨a, b, c, q2, q3, q1, ?_, by simpa [List.getD_eq_getElem?_getD] using q4⟩
    have h := hT.tot a c (by omega) (by omega) (by omega)
    unfold byVal at h
    simp only [List.getD_eq_getElem?_getD] at h ⊢
    omega
  · rintro ⟨a, b, c, h1, h2, h3, h4, h5⟩
    refine ⟨[a, b, c], like_of_pairs ?_ ?_, rfl⟩
    · intro i hi
      match i, hi with
      | 0, _ => exact (by omega : a < p.length)
      | 1, _ => exact (by omega : b < p.length)
      | 2, _ => exact h3
    · intro i j hij hj
      have hj' : j < 3 := hj
      have hc : (i = 0 ∧ j = 1) ∨ (i = 0 ∧ j = 2) ∨ (i = 1 ∧ j = 2) := by omega
      rcases hc with ⟨rfl, rfl⟩ | ⟨rfl, rfl⟩ | ⟨rfl, rfl⟩
      · exact ⟨h1, ⟨fun _ => by decide, fun _ => h5⟩⟩
      · exact ⟨Nat.lt_trans h1 h2, ⟨fun h => absurd h (by show ¬ (p.getD a 0 < p.getD c 0); omega), fun h => absurd h (by decide)⟩⟩
      · exact ⟨h2, ⟨fun h => absurd h (by show ¬ (p.getD b 0 < p.getD c 0); omega), fun h => absurd h (by decide)⟩⟩

theorem occ_1302 {p : List Nat} (hp : p.Nodup) : (occ p [1, 3, 0, 2]).isSome = true ↔ Pat1 (byVal p) p.length := by
  have hT := tot_of hp
  rw [occ_isSome]
  constructor
  · rintro ⟨r, ⟨h1, h2, h3⟩, hl⟩
    obtain ⟨a, b, c, d, rfl⟩ := four_of hl
    have q1 := h1 3 (show 3 < 4 by decide)
    have q2 := h2 0 1 (by decide) (show 1 < 4 by decide)
    have q3 := h2 1 2 (by decide) (show 2 < 4 by decide)
    have q4 := h2 2 3 (by decide) (show 3 < 4 by decide)
    have q5 := h3 0 2 (by decide) (show 2 < 4 by decide)
    have q6 := h3 0 3 (by decide) (show 3 < 4 by decide)
    have q7 := h3 1 3 (by decide) (show 3 < 4 by decide)
    simp at q1 q2 q3 q4 q5 q6 q7
    refine ⟨a, b, c, d, q2, q3, q4, q1, ?_, by simpa [byVal, List.getD_eq_getElem?_getD] using q6, ?_⟩
    · have h := hT.tot a c (by omega) (by omega) (by omega)
      unfold byVal at h ⊢
      simp only [List.getD_eq_getElem?_getD] at h ⊢
      omega
    · have h := hT.tot b d (by omega) (by omega) (by omega)
      unfold byVal at h ⊢
      simp only [List.getD_eq_getElem?_getD] at h ⊢
      omega
  · rintro ⟨a, b, c, d, h1, h2, h3, h4, h5, h6, h7⟩
    unfold byVal at h5 h6 h7
    refine ⟨[a, b, c, d], like_of_pairs ?_ ?_, rfl⟩
    · intro i hi
      match i, hi with
      | 0, _ => exact (by omega : a < p.length)
      | 1, _ => exact (by omega : b < p.length)
      | 2, _ => exact (by omega : c < p.length)
      | 3, _ => exact h4
    · intro i j hij hj
      have hj' : j < 4 := hj
      have hc : (i = 0 ∧ j = 1) ∨ (i = 0 ∧ j = 2) ∨ (i = 0 ∧ j = 3) ∨ (i = 1 ∧ j = 2) ∨ (i = 1 ∧ j = 3) ∨ (i = 2 ∧ j = 3) := by omega
      rcases hc with ⟨rfl, rfl⟩ | ⟨rfl, rfl⟩ | ⟨rfl, rfl⟩ | ⟨rfl, rfl⟩ | ⟨rfl, rfl⟩ | ⟨rfl, rfl⟩
      · exact ⟨h1, ⟨fun _ => by decide, fun _ => (by omega : p.getD a 0 < p.getD b 0)⟩⟩
      · exact ⟨(by omega : a < c), ⟨fun h => absurd h (by show ¬ (p.getD a 0 < p.getD c 0); omega), fun h => absurd h (by decide)⟩⟩
      · exact ⟨(by omega : a < d), ⟨fun _ => by decide, fun _ => h6⟩⟩
      · exact ⟨h2, ⟨fun h => absurd h (by show ¬ (p.getD b 0 < p.getD c 0); omega), fun h => absurd h (by decide)⟩⟩
      · exact ⟨(by omega : b < d), ⟨fun h => absurd h (by show ¬ (p.getD b 0 < p.getD d 0); omega), fun h => absurd h (by decide)⟩⟩
      · exact ⟨h3, ⟨fun _ => by decide, fun _ => (by omega : p.getD c 0 < p.getD d 0)⟩⟩

theorem occ_2031 {p : List Nat} (hp : p.Nodup) : (occ p [2, 0, 3, 1]).isSome = true ↔ Pat2 (byVal p) p.length := by
  have hT := tot_of hp
  rw [occ_isSome]
  constructor
  · rintro ⟨r, ⟨h1, h2, h3⟩, hl⟩
    obtain ⟨a, b, c, d, rfl⟩ := four_of hl
    have q1 := h1 3 (show 3 < 4 by decide)
    have q2 := h2 0 1 (by decide) (show 1 < 4 by decide)
    have q3 := h2 1 2 (by decide) (show 2 < 4 by decide)
    have q4 := h2 2 3 (by decide) (show 3 < 4 by decide)
    have q5 := h3 0 2 (by decide) (show 2 < 4 by decide)
    have q6 := h3 0 3 (by decide) (show 3 < 4 by decide)
    have q7 := h3 1 3 (by decide) (show 3 < 4 by decide)
    simp at q1 q2 q3 q4 q5 q6 q7
    refine ⟨a, b, c, d, q2, q3, q4, q1, by simpa [byVal, List.getD_eq_getElem?_getD] using q7, ?_, by simpa [byVal, List.getD_eq_getElem?_getD] using q5⟩
    have h := hT.tot a d (by omega) (by omega) (by omega)
    unfold byVal at h ⊢
    simp only [List.getD_eq_getElem?_getD] at h ⊢
    omega
  · rintro ⟨a, b, c, d, h1, h2, h3, h4, h5, h6, h7⟩
    unfold byVal at h5 h6 h7
    refine ⟨[a, b, c, d], like_of_pairs ?_ ?_, rfl⟩
    · intro i hi
      match i, hi with
      | 0, _ => exact (by omega : a < p.length)
      | 1, _ => exact (by omega : b < p.length)
      | 2, _ => exact (by omega : c < p.length)
      | 3, _ => exact h4
    · intro i j hij hj
      have hj' : j < 4 := hj
      have hc : (i = 0 ∧ j = 1) ∨ (i = 0 ∧ j = 2) ∨ (i = 0 ∧ j = 3) ∨ (i = 1 ∧ j = 2) ∨ (i = 1 ∧ j = 3) ∨ (i = 2 ∧ j = 3) := by omega
      rcases hc with ⟨rfl, rfl⟩ | ⟨rfl, rfl⟩ | ⟨rfl, rfl⟩ | ⟨rfl, rfl⟩ | ⟨rfl, rfl⟩ | ⟨rfl, rfl⟩
      · exact ⟨h1, ⟨fun h => absurd h (by show ¬ (p.getD a 0 < p.getD b 0); omega), fun h => absurd h (by decide)⟩⟩
      · exact ⟨(by omega : a < c), ⟨fun _ => by decide, fun _ => h7⟩⟩
      · exact ⟨(by omega : a < d), ⟨fun h => absurd h (by show ¬ (p.getD a 0 < p.getD d 0); omega), fun h => absurd h (by decide)⟩⟩
      · exact ⟨h2, ⟨fun _ => by decide, fun _ => (by omega : p.getD b 0 < p.getD c 0)⟩⟩
      · exact ⟨(by omega : b < d), ⟨fun _ => by decide, fun _ => h5⟩⟩
      · exact ⟨h3, ⟨fun h => absurd h (by show ¬ (p.getD c 0 < p.getD d 0); omega), fun h => absurd h (by decide)⟩⟩

/-- What rules a Baxter permutation out is an occurrence of one of the two. -/
theorem none_of_no {p : List Nat} (h : ¬ Pats p) : None' p := by
  intro a j b h1 h2 h3
  refine Bool.eq_false_iff.2 fun hb => h ?_
  unfold bad at hb
  simp only [Bool.or_eq_true, Bool.and_eq_true, decide_eq_true_eq] at hb
  rcases hb with ⟨⟨q1, q2⟩, q3⟩ | ⟨⟨q1, q2⟩, q3⟩
  · exact .inl ⟨a, j, j + 1, b, h1, by omega, by omega, h3, q1, q2, q3⟩
  · exact .inr ⟨a, j, j + 1, b, h1, by omega, by omega, h3, q1, q2, q3⟩

end Go.Proofs.Ytcklgdcjedikoaa
