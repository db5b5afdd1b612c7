/-
  The closure of a table of inversions, and its order: the one that counts and the one that inserts are the same.
  The orders of the permutations as values: what the program computes and what the reference computes are the same.
-/
import Derived.Test.YtcklgdcjedikoaaPairs
import Derived.Test.YtcklgdcjedikoaaPartN
import Derived.Test.YtcklgdcjedikoaaROrd
import Derived.Test.YtcklgdcjedikoaaOrders
namespace Go.Proofs.Ytcklgdcjedikoaa
open Go.RowKit

/-- A table of inversions: the greater value first; transitive, and the pairs that aren't in it too. -/
structure Lin (n : Nat) (M : Nat → Nat → Bool) : Prop where
  down : ∀ a b, M a b = true → b < a ∧ a < n
  trans : ∀ a b c, M a b = true → M b c = true → M a c = true
  co : ∀ a b c, c < b → b < a → M a c = true → M a b = true ∨ M b c = true

theorem closRow_at (M : Nat → Nat → Bool) (k v : Nat) : ∀ x a b, closRow M k v x a b = if a = v ∧ b < x then (M v b || M v k && M k b) else M a b
  | 0, a, b => by rw [closRow, if_neg (by omega)]
  | x + 1, a, b => by
    have h := closRow_at M k v x
    have e1 : closRow M k v x v x = M v x := by rw [h, if_neg (by omega)]
    have e2 : closRow M k v x v k = M v k := by
      rw [h]
      split
      · cases M v k <;> simp
      · rfl
    have e3 : closRow M k v x k x = M k x := by rw [h, if_neg (by omega)]
    rw [closRow, e1, e2, e3]
    unfold upd
    by_cases h1 : a = v ∧ b = x
    · rw [if_pos h1, if_pos (by omega), h1.2]
    · rw [if_neg h1, h]
      by_cases h2 : a = v ∧ b < x
      · rw [if_pos h2, if_pos (by omega)]
      · rw [if_neg h2, if_neg (by omega)]
theorem closPlane_at (n : Nat) (M : Nat → Nat → Bool) (k : Nat) : ∀ v a b, closPlane n M k v a b = if a < v ∧ b < n then (M a b || M a k && M k b) else M a b
  | 0, a, b => by rw [closPlane, if_neg (by omega)]
  | v + 1, a, b => by
    have h := closPlane_at n M k v
    have e3 : closPlane n M k v k b = M k b := by
      rw [h]
      split
      · cases M k b <;> cases M k k <;> simp
      · rfl
    have e2 : closPlane n M k v v k = M v k := by rw [h, if_neg (by omega)]
    have e1 : closPlane n M k v v b = M v b := by rw [h, if_neg (by omega)]
    rw [closPlane, closRow_at, e1, e2, e3]
    by_cases h1 : a = v ∧ b < n
    · rw [if_pos h1, if_pos (by omega), h1.1]
    · rw [if_neg h1, h]
      by_cases h2 : a < v ∧ b < n
      · rw [if_pos h2, if_pos (by omega)]
      · rw [if_neg h2, if_neg (by omega)]
theorem clos_down {n : Nat} {M : Nat → Nat → Bool} (hd : ∀ a b, M a b = true → b < a ∧ a < n) : ∀ k a b, clos n M k a b = true → b < a ∧ a < n
  | 0, a, b, h => hd a b h
  | k + 1, a, b, h => by
    rw [clos, closPlane_at] at h
    split at h
    · rcases Bool.or_eq_true _ _ ▸ h with h | h
      · exact clos_down hd k a b h
      · have h := Bool.and_eq_true _ _ ▸ h
        have h1 := clos_down hd k _ _ h.1
        have h2 := clos_down hd k _ _ h.2
        omega
    · exact clos_down hd k a b h
theorem clos_step {n : Nat} {M : Nat → Nat → Bool} (hd : ∀ a b, M a b = true → b < a ∧ a < n) (k a b : Nat) : clos n M (k + 1) a b = true ↔ clos n M k a b = true ∨ clos n M k a k = true ∧ clos n M k k b = true := by
  rw [clos, closPlane_at]
  split
  · rw [Bool.or_eq_true, Bool.and_eq_true]
  · rename_i hn
    refine ⟨Or.inl, fun h => ?_⟩
    rcases h with h | ⟨h1, h2⟩
    · exact h
    · have := clos_down hd k _ _ h1
      have := clos_down hd k _ _ h2
      omega
theorem clos_through {n : Nat} {M : Nat → Nat → Bool} (hd : ∀ a b, M a b = true → b < a ∧ a < n) : ∀ k a b c, c < k → clos n M k a c = true → clos n M k c b = true → clos n M k a b = true
  | 0, _, _, _, h, _, _ => absurd h (Nat.not_lt_zero _)
  | k + 1, a, b, c, hc, h1, h2 => by
    have ih := clos_through hd k
    rw [clos_step hd] at h1 h2 ⊢
    by_cases e : c = k
    · subst e
      have g1 : clos n M c a c = true := by rcases h1 with h | h; exact h; exact h.1
      have g2 : clos n M c c b = true := by rcases h2 with h | h; exact h; exact h.2
      exact .inr ⟨g1, g2⟩
    · have hc' : c < k := by omega
      rcases h1 with h1 | ⟨h1, h1'⟩
      · rcases h2 with h2 | ⟨h2, h2'⟩
        · exact .inl (ih _ _ _ hc' h1 h2)
        · exact .inr ⟨ih _ _ _ hc' h1 h2, h2'⟩
      · rcases h2 with h2 | ⟨h2, h2'⟩
        · exact .inr ⟨h1, ih _ _ _ hc' h1' h2⟩
        · exact .inr ⟨h1, h2'⟩
theorem clos_co {n : Nat} {M : Nat → Nat → Bool} (hd : ∀ a b, M a b = true → b < a ∧ a < n) (hco : ∀ a b c, c < b → b < a → M a c = true → M a b = true ∨ M b c = true) : ∀ k a b c, c < b → b < a → clos n M k a c = true → clos n M k a b = true ∨ clos n M k b c = true
  | 0, a, b, c, h1, h2, h => hco a b c h1 h2 h
  | k + 1, a, b, c, h1, h2, h => by
    have ih := clos_co hd hco k
    rw [clos_step hd] at h ⊢
    rw [clos_step hd]
    rcases h with h | ⟨h, h'⟩
    · rcases ih a b c h1 h2 h with g | g
      · exact .inl (.inl g)
      · exact .inr (.inl g)
    · have d1 := clos_down hd k _ _ h
      have d2 := clos_down hd k _ _ h'
      rcases Nat.lt_trichotomy b k with e | e | e
      · rcases ih k b c h1 e h' with g | g
        · exact .inl (.inr ⟨h, g⟩)
        · exact .inr (.inl g)
      · subst e
        exact .inl (.inl h)
      · rcases ih a b k e h2 h with g | g
        · exact .inl (.inl g)
        · exact .inr (.inr ⟨g, h'⟩)
theorem lin_clos {n : Nat} {M : Nat → Nat → Bool} (hd : ∀ a b, M a b = true → b < a ∧ a < n) (hco : ∀ a b c, c < b → b < a → M a c = true → M a b = true ∨ M b c = true) : Lin n (clos n M n) :=
  ⟨clos_down hd n, fun a b c h1 h2 => clos_through hd n a c b (by have := clos_down hd n _ _ h1; omega) h1 h2, clos_co hd hco n⟩

theorem comes_iff (C : Nat → Nat → Bool) (v x : Nat) : comes C v x = true ↔ v < x ∧ C x v = true ∨ x < v ∧ C v x = false := by
  unfold comes
  rw [Bool.or_eq_true, Bool.and_eq_true, Bool.and_eq_true, decide_eq_true_eq, decide_eq_true_eq, Bool.not_eq_true']
theorem comes_self (C : Nat → Nat → Bool) (v : Nat) : comes C v v = false := by
  unfold comes
  simp
theorem comes_not {C : Nat → Nat → Bool} {v x : Nat} (h : comes C v x = true) : comes C x v = false := by
  cases e : comes C x v
  · rfl
  · rw [comes_iff] at h e
    rcases h with ⟨h1, h2⟩ | ⟨h1, h2⟩ <;> rcases e with ⟨e1, e2⟩ | ⟨e1, e2⟩
    · omega
    · rw [h2] at e2; cases e2
    · rw [h2] at e2; cases e2
    · omega
/-- What comes before what comes before. -/
theorem comes_trans {n : Nat} {C : Nat → Nat → Bool} (h : Lin n C) {x y z : Nat} (h1 : comes C y x = true) (h2 : comes C z y = true) : comes C z x = true := by
  rw [comes_iff] at h1 h2 ⊢
  rcases h1 with ⟨a1, b1⟩ | ⟨a1, b1⟩ <;> rcases h2 with ⟨a2, b2⟩ | ⟨a2, b2⟩
  · exact .inl ⟨by omega, h.trans _ _ _ b1 b2⟩
  · rcases Nat.lt_trichotomy z x with e | e | e
    · rcases h.co x z y a2 e b1 with g | g
      · exact .inl ⟨e, g⟩
      · rw [b2] at g; cases g
    · subst e
      rw [b1] at b2; cases b2
    · refine .inr ⟨e, ?_⟩
      cases g : C z x
      · rfl
      · rw [h.trans _ _ _ g b1] at b2; cases b2
  · rcases Nat.lt_trichotomy z x with e | e | e
    · refine .inl ⟨e, ?_⟩
      rcases h.co y x z e a1 b2 with g | g
      · rw [b1] at g; cases g
      · exact g
    · subst e
      rw [b1] at b2; cases b2
    · refine .inr ⟨e, ?_⟩
      cases g : C z x
      · rfl
      · rw [h.trans _ _ _ b2 g] at b1; cases b1
  · refine .inr ⟨by omega, ?_⟩
    cases g : C z x
    · rfl
    · rcases h.co z y x a1 a2 g with k | k
      · rw [b2] at k; cases k
      · rw [b1] at k; cases k

theorem take_headN (M : Nat → Nat → Bool) (v : Nat) : ∀ l : List Nat, l.take (headN M v l) = l.takeWhile (fun x => !M v x) ∧ l.drop (headN M v l) = l.dropWhile (fun x => !M v x)
  | [] => by simp [headN]
  | x :: l => by
    obtain ⟨h1, h2⟩ := take_headN M v l
    unfold headN at h1 h2 ⊢
    cases e : M v x
    · rw [List.takeWhile_cons, List.dropWhile_cons, e]
      simp [h1, h2]
    · rw [List.takeWhile_cons, List.dropWhile_cons, e]
      simp
theorem ordIns_perm (M : Nat → Nat → Bool) : ∀ v, List.Perm (ordIns M v) (List.range v)
  | 0 => List.Perm.refl _
  | v + 1 => by
    have ih := ordIns_perm M v
    rw [ordIns, List.append_assoc, List.singleton_append, List.range_succ]
    refine List.perm_middle.trans ?_
    rw [List.take_append_drop]
    exact (ih.cons v).trans (List.perm_append_singleton v _).symm
theorem mem_takeWhile {α : Type} {P : α → Bool} : ∀ {l : List α} {x : α}, x ∈ l.takeWhile P → P x = true
  | [], x, h => by simp at h
  | y :: l, x, h => by
    rw [List.takeWhile_cons] at h
    split at h
    · rcases List.mem_cons.1 h with rfl | h
      · assumption
      · exact mem_takeWhile h
    · simp at h
theorem head_dropWhile {α : Type} {P : α → Bool} : ∀ {l : List α} {x : α} {r : List α}, l.dropWhile P = x :: r → P x = false
  | [], x, r, h => by simp at h
  | y :: l, x, r, h => by
    rw [List.dropWhile_cons] at h
    split at h
    · exact head_dropWhile h
    · rename_i hp
      injection h with h1 h2
      subst h1
      simpa using hp
/-- What the insertion has sorted. -/
theorem ordIns_sorted {n : Nat} {C : Nat → Nat → Bool} (h : Lin n C) : ∀ v, (ordIns C v).Pairwise fun x y => comes C y x = true
  | 0 => List.Pairwise.nil
  | v + 1 => by
    have ih := ordIns_sorted h v
    have hlt := ordIns_lt C v
    rw [ordIns, (take_headN C v _).1, (take_headN C v _).2, List.append_assoc, List.singleton_append]
    generalize ordIns C v = l at *
    have hsplit := List.takeWhile_append_dropWhile (p := fun x => !C v x) (l := l)
    rw [← hsplit, List.pairwise_append] at ih
    obtain ⟨p1, p2, p3⟩ := ih
    have hA : ∀ x, x ∈ l.takeWhile (fun x => !C v x) → comes C v x = true := fun x hx => by
      have h1 := mem_takeWhile hx
      have h2 := hlt x ((List.takeWhile_prefix _).subset hx)
      rw [comes_iff]
      exact .inr ⟨h2, by simpa using h1⟩
    have hB : ∀ y, y ∈ l.dropWhile (fun x => !C v x) → comes C y v = true := by
      cases e : l.dropWhile (fun x => !C v x) with
      | nil => intro y hy; simp at hy
      | cons z r =>
        have h1 := head_dropWhile e
        have hz : z ∈ l := (List.dropWhile_suffix _).subset (by rw [e]; simp)
        have h2 : comes C z v = true := by
          rw [comes_iff]
          exact .inl ⟨hlt z hz, by simpa using h1⟩
        intro y hy
        rcases List.mem_cons.1 hy with rfl | hy
        · exact h2
        · rw [e, List.pairwise_cons] at p2
          exact comes_trans h h2 (p2.1 y hy)
    rw [List.pairwise_append, List.pairwise_cons]
    refine ⟨p1, ⟨hB, p2⟩, fun x hx y hy => ?_⟩
    rcases List.mem_cons.1 hy with rfl | hy
    · exact hA x hx
    · exact p3 x hx y hy
theorem befCnt_countP (M : Nat → Nat → Bool) (v : Nat) : ∀ x, befCnt M v x = (List.range x).countP fun x => comes M v x
  | 0 => rfl
  | x + 1 => by
    rw [befCnt, befCnt_countP M v x, List.range_succ, List.countP_append, List.countP_cons, List.countP_nil, Nat.zero_add]
theorem befCnt_at {n : Nat} {C : Nat → Nat → Bool} (h : Lin n C) {i : Nat} (hi : i < n) : befCnt C ((ordIns C n).getD i 0) n = i := by
  have hs := ordIns_sorted h n
  have hl := ordIns_length C n
  rw [befCnt_countP, ← (ordIns_perm C n).countP_eq]
  generalize ordIns C n = L at *
  have hv : L.getD i 0 = L[i]'(by omega) := by simp [List.getD_eq_getElem?_getD, show i < L.length by omega]
  have hL : L = L.take i ++ L.getD i 0 :: L.drop (i + 1) := by
    rw [hv, ← List.drop_eq_getElem_cons (by omega), List.take_append_drop]
  generalize L.getD i 0 = v at *
  have hA : (L.take i).length = i := by rw [List.length_take]; omega
  generalize L.take i = A at *
  generalize L.drop (i + 1) = B at *
  subst hL
  rw [List.pairwise_append, List.pairwise_cons] at hs
  obtain ⟨-, ⟨h1, -⟩, h2⟩ := hs
  rw [List.countP_append, List.countP_cons, comes_self, (List.countP_eq_length).2 (fun x hx => h2 x hx v (by simp)), (List.countP_eq_zero).2 (fun y hy => by rw [comes_not (h1 y hy)]; decide), hA]
  simp
theorem ordTo_get {n : Nat} {C : Nat → Nat → Bool} (hb : ∀ x, x < n → befCnt C x n < n) (hinj : ∀ x y, x < n → y < n → befCnt C x n = befCnt C y n → x = y) : ∀ v, v ≤ n → ∀ x, x < v → (ordTo n C v).getD (befCnt C x n) 0 = x
  | 0, _, x, hx => absurd hx (Nat.not_lt_zero _)
  | v + 1, hv, x, hx => by
    rw [ordTo, getD_set _ _ _ _ (by rw [ordTo_length]; exact hb x (by omega))]
    by_cases e : x = v
    · subst e
      rw [if_pos rfl]
    · rw [if_neg (fun h => e (hinj v x (by omega) (by omega) h).symm)]
      exact ordTo_get hb hinj v (by omega) x (by omega)
theorem ordTo_ordIns {n : Nat} {C : Nat → Nat → Bool} (h : Lin n C) : ordTo n C n = ordIns C n := by
  have hl := ordIns_length C n
  have hp := ordIns_perm C n
  have hat : ∀ x, x < n → ∃ i, i < n ∧ (ordIns C n).getD i 0 = x ∧ befCnt C x n = i := fun x hx => by
    have hm : x ∈ ordIns C n := hp.symm.subset (List.mem_range.2 hx)
    obtain ⟨i, hi, e⟩ := mem_getD hm
    rw [hl] at hi
    exact ⟨i, hi, e, by rw [← e]; exact befCnt_at h hi⟩
  have hb : ∀ x, x < n → befCnt C x n < n := fun x hx => by
    obtain ⟨i, hi, _, e⟩ := hat x hx
    omega
  have hinj : ∀ x y, x < n → y < n → befCnt C x n = befCnt C y n → x = y := fun x y hx hy e => by
    obtain ⟨i, _, e1, e2⟩ := hat x hx
    obtain ⟨j, _, e3, e4⟩ := hat y hy
    rw [← e1, ← e3, show i = j by omega]
  apply List.ext_getElem
  · rw [ordTo_length, hl]
  · intro i h1 h2
    have hi : i < n := by rw [ordTo_length] at h1; exact h1
    have e1 : (ordTo n C n)[i] = (ordTo n C n).getD i 0 := by simp [List.getD_eq_getElem?_getD, h1]
    have e2 : (ordIns C n)[i] = (ordIns C n).getD i 0 := by simp [List.getD_eq_getElem?_getD, h2]
    rw [e1, e2]
    have hx : (ordIns C n).getD i 0 < n := ordIns_at C n i hi
    have := ordTo_get hb hinj n (Nat.le_refl _) _ hx
    rw [befCnt_at h hi] at this
    exact this

end Go.Proofs.Ytcklgdcjedikoaa

namespace Go.Proofs.Ytcklgdcjedikoaa
open Go.RowKit

theorem perm_all {p : List Nat} (hp : IsPerm p) {v : Nat} (hv : v < p.length) : ∃ i, i < p.length ∧ p.getD i 0 = v := by
  have h0 : 0 < p.length := by omega
  have hg := gapless_perm hp h0
  have hmax := hg.max
  have hmin := minL_perm hp h0
  exact mem_getD (hg.mem (by omega) (by omega))

/-- The table holds the inversions' values. -/
theorem invM_iff {p : List Nat} {a b : Nat} : invM p a b = true ↔ ∃ i k, i < k ∧ k < p.length ∧ p.getD i 0 = a ∧ p.getD k 0 = b ∧ b < a := by
  unfold invM tabOf
  rw [List.any_eq_true]
  constructor
  · rintro ⟨⟨i, k⟩, hm, hx⟩
    rw [Bool.and_eq_true, decide_eq_true_eq, decide_eq_true_eq] at hx
    obtain ⟨h1, h2⟩ := hx
    unfold invTo at hm
    obtain ⟨i', hi', hm⟩ := List.mem_flatMap.1 hm
    unfold rowOf at hm
    obtain ⟨k', hk', e⟩ := List.mem_map.1 hm
    injection e with e1 e2
    subst e1 e2
    obtain ⟨hr, hlt⟩ := List.mem_filter.1 hk'
    rw [List.mem_range'_1] at hr
    rw [decide_eq_true_eq] at hlt
    rw [List.mem_range] at hi'
    simp only at h1 h2
    exact ⟨i', k', by omega, by omega, h1, h2, by omega⟩
  · rintro ⟨i, k, h1, h2, h3, h4, h5⟩
    refine ⟨(i, k), ?_, ?_⟩
    · unfold invTo
      refine List.mem_flatMap.2 ⟨i, List.mem_range.2 (by omega), ?_⟩
      unfold rowOf
      refine List.mem_map.2 ⟨k, List.mem_filter.2 ⟨?_, ?_⟩, rfl⟩
      · rw [List.mem_range'_1]
        omega
      · rw [decide_eq_true_eq]
        omega
    · rw [Bool.and_eq_true, decide_eq_true_eq, decide_eq_true_eq]
      exact ⟨h3, h4⟩
theorem invM_down {p : List Nat} (hp : IsPerm p) : ∀ a b, invM p a b = true → b < a ∧ a < p.length := by
  intro a b h
  obtain ⟨i, k, h1, h2, h3, h4, h5⟩ := invM_iff.1 h
  exact ⟨h5, by rw [← h3]; exact hp.lt (by omega)⟩
theorem invM_co {p : List Nat} (hp : IsPerm p) : ∀ a b c, c < b → b < a → invM p a c = true → invM p a b = true ∨ invM p b c = true := by
  intro a b c h1 h2 h
  have ha := (invM_down hp _ _ h).2
  obtain ⟨i, k, g1, g2, g3, g4, g5⟩ := invM_iff.1 h
  obtain ⟨j, j1, j2⟩ := perm_all hp (show b < p.length by omega)
  have hij : i ≠ j := fun e => by subst e; omega
  rw [invM_iff, invM_iff]
  by_cases e : i < j
  · exact .inl ⟨i, j, e, j1, g3, j2, h2⟩
  · exact .inr ⟨j, k, by omega, g2, j2, g4, h1⟩

/-- The pairs of both tables. -/
theorem both_iff {n : Nat} {M N : Nat → Nat → Bool} (hN : ∀ a b, N a b = true → b < a ∧ a < n) (a b : Nat) : withTo n M N n 0 a b = true ↔ M a b = true ∨ N a b = true := by
  unfold withTo
  split
  · rw [Bool.or_eq_true]
  · rename_i hn
    refine ⟨Or.inl, fun h => ?_⟩
    rcases h with h | h
    · exact h
    · have := hN _ _ h
      omega
theorem lin_join {p q : List Nat} (hp : IsPerm p) (hq : IsPerm q) (hl : q.length = p.length) : Lin p.length (clos p.length (withTo p.length (invM p) (invM q) p.length 0) p.length) := by
  have dp := invM_down hp
  have dq := invM_down hq
  rw [hl] at dq
  have hb := both_iff (M := invM p) dq
  refine lin_clos (fun a b h => ?_) (fun a b c h1 h2 h => ?_)
  · rcases (hb a b).1 h with h | h
    · exact dp _ _ h
    · exact dq _ _ h
  · rw [hb, hb]
    rcases (hb a c).1 h with h | h
    · rcases invM_co hp a b c h1 h2 h with g | g
      · exact .inl (.inl g)
      · exact .inr (.inl g)
    · rcases invM_co hq a b c h1 h2 h with g | g
      · exact .inl (.inr g)
      · exact .inr (.inr g)
theorem join_same {p q : List Nat} (hp : IsPerm p) (hq : IsPerm q) (hl : q.length = p.length) : joinL p q = rjoinL p q := ordTo_ordIns (lin_join hp hq hl)
theorem meet_same {p q : List Nat} (hp : IsPerm p) (hq : IsPerm q) (hl : q.length = p.length) : meetL p q = rmeetL p q := by
  unfold meetL rmeetL
  rw [join_same (isPerm_reverse hp) (isPerm_reverse hq) (by rw [List.length_reverse, List.length_reverse]; exact hl)]
theorem weak_same {p q : List Nat} (hp : IsPerm p) (hq : IsPerm q) (hl : q.length = p.length) (h60 : p.length ≤ 60) : weakB p q = subB p.length (invM p) (invM q) := by
  have dp := invM_down hp
  have dq := invM_down hq
  rw [hl] at dq
  have hb := both_iff (M := invM p) dq
  rw [Bool.eq_iff_iff]
  unfold weakB subB
  rw [eqT_iff, decide_eq_true_eq]
  constructor
  · intro h i hi k hk hm
    have := h i k (by omega) (by omega)
    rw [← this, hb]
    exact .inl hm
  · intro h v x hv hx
    rw [Bool.eq_iff_iff, hb]
    refine ⟨fun g => ?_, Or.inr⟩
    rcases g with g | g
    · have := dp _ _ g
      exact h v this.2 x (by omega) g
    · exact g
theorem aftTo_get (p q : List Nat) : ∀ i, i ≤ p.length → ∀ k, k < i → (aftTo p q i).getD k 0 = p.getD (q.getD k 0) 0
  | 0, _, k, hk => absurd hk (Nat.not_lt_zero _)
  | i + 1, hi, k, hk => by
    rw [aftTo, getD_set _ _ _ _ (by rw [aftTo_length]; omega)]
    by_cases e : i = k
    · subst e
      rw [if_pos rfl]
    · rw [if_neg e]
      exact aftTo_get p q i (by omega) k (by omega)
theorem after_same {p q : List Nat} (hl : q.length = p.length) : afterL p q = aftL p q := by
  apply List.ext_getElem
  · rw [afterL_length, aftL_length, hl]
  · intro i h1 h2
    have e1 : (afterL p q)[i] = (afterL p q).getD i 0 := by simp [List.getD_eq_getElem?_getD, h1]
    have e2 : (aftL p q)[i] = (aftL p q).getD i 0 := by simp [List.getD_eq_getElem?_getD, h2]
    rw [afterL_length] at h1
    rw [aftL_length] at h2
    rw [e1, e2, aftL_get p q i h2]
    exact aftTo_get p q p.length (Nat.le_refl _) i h1

end Go.Proofs.Ytcklgdcjedikoaa
