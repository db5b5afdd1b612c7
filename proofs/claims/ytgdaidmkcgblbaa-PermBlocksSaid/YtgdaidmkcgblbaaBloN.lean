/-
  The reference's longest blocks are the program's; the parts of a list without a gap have none.
-/
import Derived.Test.YtgdaidmkcgblbaaBloM
import Derived.Test.YtgdaidmkcgblbaaSimR
set_option linter.unusedVariables false
namespace Go.Proofs.Ytgdaidmkcgblbaa
open Go.RowKit

theorem high_max (l : List Nat) : ∀ k, k ≤ l.length → maxTo l k = highF (l.getD 0 0) (l.take k)
  | 0, _ => rfl
  | k + 1, h => by
    rw [highF_step _ (by omega), ← high_max l k (by omega)]
    rfl
theorem low_min (l : List Nat) : ∀ k, k ≤ l.length → minTo l k = lowF (l.getD 0 0) (l.take k)
  | 0, _ => rfl
  | k + 1, h => by
    rw [lowF_step _ (by omega), ← low_min l k (by omega)]
    rfl
theorem gapR_eq (l : List Nat) : gapR l = decide ((maxL l : Int) - (minL l : Int) = (l.length : Int) - 1) := by
  unfold gapR maxL minL
  rw [high_max l _ (Nat.le_refl _), low_min l _ (Nat.le_refl _), List.take_length]
theorem gapR_gapB {p : List Nat} (hd : p.Nodup) {s e : Nat} (h1 : s < e) (h2 : e ≤ p.length) : gapR (seg p s e) = !gapB p s e := by
  have hl := seg_length p s e (Nat.le_of_lt h1) h2
  rw [gapR_eq, hl]
  cases hb : gapB p s e with
  | false =>
    have hg := gapless_of_gapB hd h1 h2 hb
    have hm := hg.max
    rw [hl] at hm
    exact decide_eq_true (by omega)
  | true =>
    unfold gapB at hb
    have := of_decide_eq_true hb
    exact decide_eq_false (by omega)

theorem longEnd_le (p : List Nat) (s : Nat) : ∀ e, longEnd p s e ≤ e
  | 0 => Nat.le_refl _
  | e + 1 => by
    unfold longEnd
    split
    · have := longEnd_le p s e; omega
    · exact Nat.le_refl _
/-- Where the longest block ends, as the reference looks for it. -/
def endR (p : List Nat) (s : Nat) : Nat → Nat
  | 0 => s + 1
  | d + 1 => if winB p s (s + 1 + d) then s + 1 + d else endR p s d
theorem endR_spec (p : List Nat) (s : Nat) : ∀ d, (endR p s d = s + 1 ∨ winB p s (endR p s d) = true) ∧ s < endR p s d ∧ (endR p s d ≤ s + d ∨ endR p s d = s + 1) ∧ ∀ e, endR p s d < e → e ≤ s + d → winB p s e = false
  | 0 => ⟨.inl rfl, Nat.lt_succ_self _, .inr rfl, fun e h1 h2 => by
      have : endR p s 0 = s + 1 := rfl
      omega⟩
  | d + 1 => by
    obtain ⟨h1, h2, h3, h4⟩ := endR_spec p s d
    unfold endR
    split
    · next hw => exact ⟨.inr hw, by omega, .inl (by omega), fun e h5 h6 => by omega⟩
    · next hw =>
      refine ⟨h1, h2, by omega, fun e h5 h6 => ?_⟩
      by_cases he : e = s + 1 + d
      · subst he; exact Bool.eq_false_iff.2 hw
      · exact h4 e h5 (by omega)
theorem endR_long {p : List Nat} (hd : p.Nodup) {s : Nat} (h : s < p.length) (h2 : 2 ≤ p.length) : endR p s (p.length - s) = longE p s := by
  obtain ⟨l1, l2⟩ := longE_spec p s h h2
  have hlt : s < longE p s := by
    unfold gapB at l1
    have := of_decide_eq_false l1
    omega
  have hle : longE p s ≤ (if s = 0 then p.length - 1 else p.length) := longEnd_le p s _
  have hwin : ∀ e, s < e → e ≤ p.length → (winB p s e = true ↔ (e ≤ (if s = 0 then p.length - 1 else p.length) ∧ gapB p s e = false)) := fun e h3 h4 => by
    unfold winB
    rw [gapR_gapB hd h3 h4, Bool.and_eq_true, decide_eq_true_eq, Bool.not_eq_true']
    split <;> constructor <;> rintro ⟨q1, q2⟩ <;> exact ⟨by omega, q2⟩
  obtain ⟨e1, e2, e3, e4⟩ := endR_spec p s (p.length - s)
  have hlim : (if s = 0 then p.length - 1 else p.length) ≤ p.length := by split <;> omega
  generalize endR p s (p.length - s) = r at *
  rcases Nat.lt_trichotomy r (longE p s) with g | g | g
  · have := e4 (longE p s) g (by omega)
    rw [(hwin _ hlt (by omega)).2 ⟨hle, l1⟩] at this
    cases this
  · exact g
  · have hw : winB p s r = true := by
      rcases e1 with e | e
      · omega
      · exact e
    have hr : r ≤ p.length := by omega
    obtain ⟨q1, q2⟩ := (hwin r e2 hr).1 hw
    rw [l2 r g q1] at q2
    cases q2
theorem longE_top {p : List Nat} {s : Nat} (h : s < p.length) (h2 : 2 ≤ p.length) : s < longE p s ∧ longE p s ≤ p.length := by
  obtain ⟨l1, -⟩ := longE_spec p s h h2
  have hle : longE p s ≤ (if s = 0 then p.length - 1 else p.length) := longEnd_le p s _
  unfold gapB at l1
  have := of_decide_eq_false l1
  split at hle <;> exact ⟨by omega, by omega⟩
theorem longFrom_go {p : List Nat} {f s : Nat} (h : s < p.length) (hf : p.length - s ≤ f) : longFrom p f s = (s, longE p s) :: longFrom p (f - 1) (longE p s) := by
  obtain ⟨g, rfl⟩ : ∃ g, f = g + 1 := ⟨f - 1, by omega⟩
  conv => lhs; unfold longFrom
  rw [if_pos h]
  rfl
theorem longFrom_end {p : List Nat} {f : Nat} : longFrom p f p.length = [] := by
  cases f with
  | zero => rfl
  | succ f => unfold longFrom; rw [if_neg (by omega)]

theorem div_gapless {p : List Nat} (hg : Gapless p) (h2 : 2 ≤ p.length) : ∀ x ∈ (divL p).2, Gapless (seg p x.1 x.2) := by
  intro x hx
  have key : ∀ (rows : List (Nat × Nat)) (a : Nat → Nat), (∀ i, i < rows.length → rows.getD i (0, 0) = (a i, a (i + 1))) → (∀ i, i < rows.length → Gapless (part p a i)) → x ∈ rows → Gapless (seg p x.1 x.2) := fun rows a h1 h3 hx => by
    obtain ⟨i, hi, rfl⟩ := List.getElem_of_mem hx
    have e := h1 i hi
    rw [List.getD_eq_getElem?_getD, List.getElem?_eq_getElem hi] at e
    have e' : rows[i] = (a i, a (i + 1)) := e
    rw [e']
    exact h3 i hi
  unfold divL at hx
  split at hx
  · obtain ⟨a, h1, h3, h4, -⟩ := cutL_ends (fun l r => decide (maxL l < minL r)) p (by omega)
    exact key (lessL p) a h3 (fun i hi => split_gapless hg h1 (less_split h1 (fun i hi => of_decide_eq_true (h4 i hi))) hi) hx
  · split at hx
    · obtain ⟨a, h1, h3, h4, -⟩ := cutL_ends (fun l r => decide (maxL r < minL l)) p (by omega)
      exact key (greatL p) a h3 (fun i hi => split_gapless hg h1 (great_split h1 (fun i hi => of_decide_eq_true (h4 i hi))) hi) hx
    · obtain ⟨a, h1, h3, h4⟩ := longL_ends p h2
      have hb : Blocky p (longL p) a := ⟨hg, h1, h3, h4, h2⟩
      exact key (longL p) a h3 hb.part hx

/-- What parts asks of the cuts. -/
theorem cuts_ok {p C : List Nat} {N m : Nat} (hg : Gapless p) (hN : p.length = N + 1) (h2 : 1 ≤ N) (hC : C.length = m + 1) (hr : pairsOf C = (divL p).2) :
    ∀ i, i < m → C.getD i 0 < C.getD (i + 1) 0 ∧ C.getD (i + 1) 0 ≤ N + 1 ∧ C.getD (i + 1) 0 - C.getD i 0 < N + 1 ∧ Gapless (seg p (C.getD i 0) (C.getD (i + 1) 0)) := fun i hi => by
  have hl : (pairsOf C).length = m := by rw [pairsOf_length, hC]; omega
  have hi' : i < (pairsOf C).length := by omega
  have e1 : (pairsOf C)[i] = (C.getD i 0, C.getD (i + 1) 0) := by
    have := pairsOf_get C i (by omega)
    rwa [List.getD_eq_getElem?_getD, List.getElem?_eq_getElem hi'] at this
  have hm : (C.getD i 0, C.getD (i + 1) 0) ∈ (divL p).2 := by rw [← hr, ← e1]; exact List.getElem_mem hi'
  have h3 := (divL_parts p (by omega)).1 _ hm
  have h4 := div_gapless hg (by omega) _ hm
  exact ⟨h3.1, by have := h3.2.1; omega, by have := h3.2.2; omega, h4⟩

/-- The tree of a list that is no single element. -/
theorem treeF_node {p : List Nat} {N : Nat} (hN : p.length = N + 1) (h2 : 1 ≤ N) : toIT (N + 1) (treeF (N + 1) p) = .node ((divL p).1 : Nat) ((if (divL p).1 = 3 then patL p (divL p).2 else []).map fun (x : Nat) => (x : Int)) ((divL p).2.map fun x => toIT N (treeF N (seg p x.1 x.2))) := by
  rw [treeF_succ, if_neg (by omega)]
  show IT.node _ _ ((List.map _ _).map (toIT N)) = _
  rw [List.map_map]
  rfl

end Go.Proofs.Ytgdaidmkcgblbaa
