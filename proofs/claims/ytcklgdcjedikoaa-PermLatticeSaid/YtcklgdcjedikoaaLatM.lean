/-
  The weak and the strong order, joins and meets, inverses and Baxter permutations: what holds of any of them.
-/
import Derived.Test.YtcklgdcjedikoaaOrdM
import Derived.Test.YtcklgdcjedikoaaInvs
namespace Go.Proofs.Ytcklgdcjedikoaa
open Go.RowKit

theorem inv_lin {p : List Nat} (hp : IsPerm p) : Lin p.length (invM p) := by
  refine ⟨invM_down hp, fun a b c h1 h2 => ?_, invM_co hp⟩
  obtain ⟨i, k, a1, a2, a3, a4, a5⟩ := invM_iff.1 h1
  obtain ⟨i', k', b1, b2, b3, b4, b5⟩ := invM_iff.1 h2
  have e : k = i' := hp.inj a2 (by omega) (by omega)
  subst e
  exact invM_iff.2 ⟨i, k', by omega, b2, a3, b4, by omega⟩
theorem at_getD {l : List Nat} {i : Nat} (h : i < l.length) : l[i] = l.getD i 0 := by simp [List.getD_eq_getElem?_getD, h]
/-- A list in the table's order: each element stands where the count says. -/
theorem sorted_at {n : Nat} {C : Nat → Nat → Bool} {L : List Nat} (hL : List.Perm L (List.range n)) (hs : L.Pairwise fun x y => comes C y x = true) {i : Nat} (hi : i < n) : befCnt C (L.getD i 0) n = i := by
  have hl := hL.length_eq
  rw [List.length_range] at hl
  rw [befCnt_countP, ← hL.countP_eq]
  have hv := at_getD (l := L) (i := i) (by omega)
  have hd : L = L.take i ++ L.getD i 0 :: L.drop (i + 1) := by
    rw [← hv, ← List.drop_eq_getElem_cons (by omega), List.take_append_drop]
  clear hv hL
  generalize L.getD i 0 = v at *
  have hA : (L.take i).length = i := by rw [List.length_take]; omega
  generalize L.take i = A at *
  generalize L.drop (i + 1) = B at *
  subst hd
  rw [List.pairwise_append, List.pairwise_cons] at hs
  obtain ⟨-, ⟨h1, -⟩, h2⟩ := hs
  rw [List.countP_append, List.countP_cons, comes_self, (List.countP_eq_length).2 (fun x hx => h2 x hx v (by simp)), (List.countP_eq_zero).2 (fun y hy => by rw [comes_not (h1 y hy)]; decide), hA]
  simp
theorem sorted_only {n : Nat} {C : Nat → Nat → Bool} {L K : List Nat} (hL : List.Perm L (List.range n)) (hs : L.Pairwise fun x y => comes C y x = true) (hK : List.Perm K (List.range n)) (ks : K.Pairwise fun x y => comes C y x = true) : L = K := by
  have l1 := hL.length_eq
  have l2 := hK.length_eq
  rw [List.length_range] at l1 l2
  apply List.ext_getElem
  · omega
  · intro i h1 h2
    rw [at_getD h1, at_getD h2]
    obtain ⟨j, hj, e⟩ := mem_getD (hK.symm.subset (hL.subset (getD_mem L i h1)))
    have c1 := sorted_at hL hs (i := i) (by omega)
    have c2 := sorted_at hK ks (i := j) (by omega)
    rw [e, c1] at c2
    subst c2
    exact e.symm
theorem perm_mem {p : List Nat} (hp : IsPerm p) (v : Nat) : v ∈ p ↔ v < p.length := by
  constructor
  · intro h
    obtain ⟨i, hi, e⟩ := mem_getD h
    rw [← e]
    exact hp.lt hi
  · intro h
    obtain ⟨i, hi, e⟩ := perm_all hp h
    rw [← e]
    exact getD_mem p i hi
theorem perm_range {p : List Nat} (hp : IsPerm p) : List.Perm p (List.range p.length) :=
  (List.perm_ext_iff_of_nodup (perm_nodup hp) List.nodup_range).2 fun v => by rw [perm_mem hp, List.mem_range]
theorem inv_sorted {p : List Nat} (hp : IsPerm p) : p.Pairwise fun x y => comes (invM p) y x = true := by
  rw [List.pairwise_iff_getElem]
  intro i j hi hj hij
  rw [at_getD hi, at_getD hj, comes_iff]
  rcases Nat.lt_trichotomy (p.getD j 0) (p.getD i 0) with h | h | h
  · exact .inl ⟨h, invM_iff.2 ⟨i, j, hij, hj, rfl, rfl, h⟩⟩
  · have := hp.inj hj hi h
    omega
  · refine .inr ⟨h, ?_⟩
    cases e : invM p (p.getD j 0) (p.getD i 0)
    · rfl
    · obtain ⟨a, b, h1, h2, h3, h4, h5⟩ := invM_iff.1 e
      have := hp.inj (by omega) hj h3
      have := hp.inj h2 hi h4
      omega
/-- A permutation is the order of its inversions. -/
theorem ordIns_inv {p : List Nat} (hp : IsPerm p) : ordIns (invM p) p.length = p := sorted_only (ordIns_perm _ _) (ordIns_sorted (inv_lin hp) _) (perm_range hp) (inv_sorted hp)
theorem ordIns_isPerm {n : Nat} {C : Nat → Nat → Bool} (h : Lin n C) : IsPerm (ordIns C n) := by
  refine ⟨fun i hi => ?_, fun i j hi hj e => ?_⟩
  · rw [ordIns_length] at hi ⊢
    exact ordIns_at C n i hi
  · rw [ordIns_length] at hi hj
    have h1 := befCnt_at h hi
    have h2 := befCnt_at h hj
    rw [e] at h1
    omega
/-- And the inversions of the order are the table. -/
theorem inv_ordIns {n : Nat} {C : Nat → Nat → Bool} (h : Lin n C) (a b : Nat) : invM (ordIns C n) a b = C a b := by
  have hs := ordIns_sorted h n
  have hl := ordIns_length C n
  have hp := ordIns_isPerm h
  have hpw := List.pairwise_iff_getElem.1 hs
  have hat : ∀ i k, i < k → k < n → comes C ((ordIns C n).getD k 0) ((ordIns C n).getD i 0) = true := fun i k h1 h2 => by
    have := hpw i k (by omega) (by omega) h1
    rw [at_getD, at_getD] at this
    exact this
  rw [Bool.eq_iff_iff, invM_iff]
  constructor
  · rintro ⟨i, k, h1, h2, rfl, rfl, h5⟩
    rcases (comes_iff _ _ _).1 (hat i k h1 (by omega)) with ⟨_, g⟩ | ⟨g, _⟩
    · exact g
    · omega
  · intro hc
    obtain ⟨d1, d2⟩ := h.down _ _ hc
    obtain ⟨i, hi, ei⟩ := perm_all hp (v := a) (by omega)
    obtain ⟨k, hk, ek⟩ := perm_all hp (v := b) (by omega)
    refine ⟨i, k, ?_, hk, ei, ek, d1⟩
    rcases Nat.lt_trichotomy i k with g | g | g
    · exact g
    · subst g
      omega
    · have h3 := (comes_iff _ _ _).1 (hat k i g (by omega))
      rw [ei, ek] at h3
      rcases h3 with ⟨g1, _⟩ | ⟨_, g2⟩
      · omega
      · rw [hc] at g2
        cases g2

/-- Below in the weak order. -/
def Lo (p q : List Nat) : Prop := ∀ a b, invM p a b = true → invM q a b = true
theorem Lo.refl (p : List Nat) : Lo p p := fun _ _ h => h
theorem Lo.trans {p q r : List Nat} (h : Lo p q) (k : Lo q r) : Lo p r := fun a b g => k a b (h a b g)
theorem lo_antisymm {p q : List Nat} (hp : IsPerm p) (hq : IsPerm q) (hl : q.length = p.length) (h1 : Lo p q) (h2 : Lo q p) : p = q := by
  have e : invM p = invM q := by
    funext a b
    rw [Bool.eq_iff_iff]
    exact ⟨h1 a b, h2 a b⟩
  exact (ordIns_inv hp).symm.trans ((show ordIns (invM p) p.length = ordIns (invM q) q.length by rw [e, hl]).trans (ordIns_inv hq))
theorem weak_iff {p q : List Nat} (hp : IsPerm p) (hq : IsPerm q) (hl : q.length = p.length) (h60 : p.length ≤ 60) : weakB p q = true ↔ Lo p q := by
  rw [weak_same hp hq hl h60]
  unfold subB
  rw [decide_eq_true_eq]
  exact ⟨fun h a b g => by have := invM_down hp _ _ g; exact h a this.2 b (by omega) g, fun h a _ b _ g => h a b g⟩
theorem clos_mono {n : Nat} {M : Nat → Nat → Bool} (hd : ∀ a b, M a b = true → b < a ∧ a < n) (a b : Nat) (h : M a b = true) : ∀ k, clos n M k a b = true
  | 0 => h
  | k + 1 => (clos_step hd k a b).2 (.inl (clos_mono hd a b h k))
theorem clos_le {n : Nat} {M C : Nat → Nat → Bool} (hd : ∀ a b, M a b = true → b < a ∧ a < n) (hC : Lin n C) (hM : ∀ a b, M a b = true → C a b = true) : ∀ k a b, clos n M k a b = true → C a b = true
  | 0, a, b, h => hM a b h
  | k + 1, a, b, h => by
    rcases (clos_step hd k a b).1 h with h | ⟨h, h'⟩
    · exact clos_le hd hC hM k a b h
    · exact hC.trans _ _ _ (clos_le hd hC hM k a k h) (clos_le hd hC hM k k b h')
theorem both_down {p q : List Nat} (hp : IsPerm p) (hq : IsPerm q) (hl : q.length = p.length) : ∀ a b, withTo p.length (invM p) (invM q) p.length 0 a b = true → b < a ∧ a < p.length := by
  have dq := invM_down hq
  rw [hl] at dq
  intro a b h
  rcases (both_iff (M := invM p) dq a b).1 h with h | h
  · exact invM_down hp _ _ h
  · exact dq _ _ h
theorem join_perm {p q : List Nat} (hp : IsPerm p) (hq : IsPerm q) (hl : q.length = p.length) : IsPerm (joinL p q) := by
  rw [join_same hp hq hl]
  exact ordIns_isPerm (lin_join hp hq hl)
theorem join_inv {p q : List Nat} (hp : IsPerm p) (hq : IsPerm q) (hl : q.length = p.length) (a b : Nat) : invM (joinL p q) a b = clos p.length (withTo p.length (invM p) (invM q) p.length 0) p.length a b := by
  rw [join_same hp hq hl]
  exact inv_ordIns (lin_join hp hq hl) a b
theorem lo_join_left {p q : List Nat} (hp : IsPerm p) (hq : IsPerm q) (hl : q.length = p.length) : Lo p (joinL p q) := fun a b h => by
  have dq := invM_down hq
  rw [hl] at dq
  rw [join_inv hp hq hl]
  exact clos_mono (both_down hp hq hl) a b ((both_iff (M := invM p) dq a b).2 (.inl h)) _
theorem lo_join_right {p q : List Nat} (hp : IsPerm p) (hq : IsPerm q) (hl : q.length = p.length) : Lo q (joinL p q) := fun a b h => by
  have dq := invM_down hq
  rw [hl] at dq
  rw [join_inv hp hq hl]
  exact clos_mono (both_down hp hq hl) a b ((both_iff (M := invM p) dq a b).2 (.inr h)) _
theorem lo_join {p q r : List Nat} (hp : IsPerm p) (hq : IsPerm q) (hr : IsPerm r) (hl : q.length = p.length) (hlr : r.length = p.length) (h1 : Lo p r) (h2 : Lo q r) : Lo (joinL p q) r := fun a b h => by
  have dq := invM_down hq
  rw [hl] at dq
  rw [join_inv hp hq hl] at h
  refine clos_le (both_down hp hq hl) (hlr ▸ inv_lin hr) (fun a b g => ?_) _ a b h
  rcases (both_iff (M := invM p) dq a b).1 g with g | g
  · exact h1 _ _ g
  · exact h2 _ _ g
theorem inv_at {p : List Nat} (hp : IsPerm p) {i k : Nat} (hi : i < p.length) (hk : k < p.length) (h : p.getD k 0 < p.getD i 0) : invM p (p.getD i 0) (p.getD k 0) = true ↔ i < k := by
  rw [invM_iff]
  constructor
  · rintro ⟨a, b, h1, h2, h3, h4, h5⟩
    have := hp.inj (by omega) hi h3
    have := hp.inj h2 hk h4
    omega
  · intro g
    exact ⟨i, k, g, hk, rfl, rfl, h⟩
theorem inv_reverse {p : List Nat} (hp : IsPerm p) {a b : Nat} (hb : b < a) (ha : a < p.length) : invM p.reverse a b = true ↔ invM p a b = false := by
  obtain ⟨i, hi, rfl⟩ := perm_all hp ha
  obtain ⟨k, hk, rfl⟩ := perm_all hp (show b < p.length by omega)
  have hlr : p.reverse.length = p.length := List.length_reverse
  have ei := getD_reverse p (p.length - 1 - i) (by omega)
  have ek := getD_reverse p (p.length - 1 - k) (by omega)
  rw [show p.length - 1 - (p.length - 1 - i) = i by omega] at ei
  rw [show p.length - 1 - (p.length - 1 - k) = k by omega] at ek
  have h1 := inv_at hp hi hk hb
  have h2 := inv_at (isPerm_reverse hp) (i := p.length - 1 - i) (k := p.length - 1 - k) (by omega) (by omega) (by rw [ei, ek]; exact hb)
  rw [ei, ek] at h2
  rw [h2]
  have hne : i ≠ k := fun e => by subst e; omega
  constructor
  · intro g
    cases e : invM p (p.getD i 0) (p.getD k 0)
    · rfl
    · have := h1.1 e
      omega
  · intro g
    have : ¬ i < k := fun e => by
      have := h1.2 e
      rw [this] at g
      cases g
    omega
theorem lo_reverse {p q : List Nat} (hp : IsPerm p) (hq : IsPerm q) (hl : q.length = p.length) (h : Lo p q) : Lo q.reverse p.reverse := fun a b g => by
  have d := invM_down (isPerm_reverse hq) _ _ g
  rw [List.length_reverse] at d
  rw [inv_reverse hq d.1 d.2] at g
  rw [inv_reverse hp d.1 (by omega)]
  cases e : invM p a b
  · rfl
  · rw [h _ _ e] at g
    cases g
theorem rev_len {p q : List Nat} (hl : q.length = p.length) : q.reverse.length = p.reverse.length := by rw [List.length_reverse, List.length_reverse]; exact hl
theorem meet_perm {p q : List Nat} (hp : IsPerm p) (hq : IsPerm q) (hl : q.length = p.length) : IsPerm (meetL p q) :=
  isPerm_reverse (join_perm (isPerm_reverse hp) (isPerm_reverse hq) (rev_len hl))
theorem meet_length (p q : List Nat) : (meetL p q).length = p.length := by
  unfold meetL
  rw [List.length_reverse, joinL_length, List.length_reverse]
theorem lo_meet_left {p q : List Nat} (hp : IsPerm p) (hq : IsPerm q) (hl : q.length = p.length) : Lo (meetL p q) p := by
  have h := lo_reverse (isPerm_reverse hp) (join_perm (isPerm_reverse hp) (isPerm_reverse hq) (rev_len hl)) (joinL_length _ _) (lo_join_left (isPerm_reverse hp) (isPerm_reverse hq) (rev_len hl))
  rw [List.reverse_reverse] at h
  exact h
theorem lo_meet_right {p q : List Nat} (hp : IsPerm p) (hq : IsPerm q) (hl : q.length = p.length) : Lo (meetL p q) q := by
  have h := lo_reverse (isPerm_reverse hq) (join_perm (isPerm_reverse hp) (isPerm_reverse hq) (rev_len hl)) (by rw [joinL_length, List.length_reverse, List.length_reverse]; exact hl.symm) (lo_join_right (isPerm_reverse hp) (isPerm_reverse hq) (rev_len hl))
  rw [List.reverse_reverse] at h
  exact h
theorem lo_meet {p q r : List Nat} (hp : IsPerm p) (hq : IsPerm q) (hr : IsPerm r) (hl : q.length = p.length) (hlr : r.length = p.length) (h1 : Lo r p) (h2 : Lo r q) : Lo r (meetL p q) := by
  have g1 := lo_reverse hr hp hlr.symm h1
  have g2 := lo_reverse hr hq (by omega) h2
  have g := lo_join (isPerm_reverse hp) (isPerm_reverse hq) (isPerm_reverse hr) (rev_len hl) (rev_len hlr) g1 g2
  have k := lo_reverse (join_perm (isPerm_reverse hp) (isPerm_reverse hq) (rev_len hl)) (isPerm_reverse hr) (by rw [joinL_length]; exact rev_len hlr) g
  rw [List.reverse_reverse] at k
  exact k

theorem lat_back {p q : List Nat} (hp : IsPerm p) (hq : IsPerm q) (hl : q.length = p.length) : meetL p (joinL p q) = p := by
  have hj := join_perm hp hq hl
  have hjl := joinL_length p q
  exact lo_antisymm (meet_perm hp hj hjl) hp (meet_length _ _).symm (lo_meet_left hp hj hjl) (lo_meet hp hj hp hjl rfl (Lo.refl p) (lo_join_left hp hq hl))
theorem lat_assoc {p q r : List Nat} (hp : IsPerm p) (hq : IsPerm q) (hr : IsPerm r) (hl : q.length = p.length) (hlr : r.length = p.length) : joinL (joinL p q) r = joinL p (joinL q r) := by
  have h1 := join_perm hp hq hl
  have l1 := joinL_length p q
  have h2 := join_perm hq hr (by omega)
  have l2 := joinL_length q r
  have h3 := join_perm h1 hr (by omega)
  have l3 := joinL_length (joinL p q) r
  have h4 := join_perm hp h2 (by omega)
  have l4 := joinL_length p (joinL q r)
  have a1 := lo_join_left hp hq hl
  have a2 := lo_join_right hp hq hl
  have a3 := lo_join_left hq hr (by omega)
  have a4 := lo_join_right hq hr (by omega)
  have a5 := lo_join_left h1 hr (by omega)
  have a6 := lo_join_right h1 hr (by omega)
  have a7 := lo_join_left hp h2 (by omega)
  have a8 := lo_join_right hp h2 (by omega)
  exact lo_antisymm h3 h4 (by omega) (lo_join h1 hr h4 (by omega) (by omega) (lo_join hp hq h4 hl (by omega) a7 (a3.trans a8)) (a4.trans a8)) (lo_join hp h2 h3 (by omega) (by omega) (a1.trans a5) (lo_join hq hr h3 (by omega) (by omega) (a2.trans a5) a6))
theorem lat_join {p q : List Nat} (hp : IsPerm p) (hq : IsPerm q) (hl : q.length = p.length) (h60 : p.length ≤ 60) : decide (joinL p q = q) = weakB p q := by
  rw [Bool.eq_iff_iff, weak_iff hp hq hl h60, decide_eq_true_eq]
  constructor
  · intro h
    have := lo_join_left hp hq hl
    rw [h] at this
    exact this
  · intro h
    exact lo_antisymm (join_perm hp hq hl) hq (by rw [joinL_length]; exact hl) (lo_join hp hq hq hl hl h (Lo.refl q)) (lo_join_right hp hq hl)
theorem lat_meet {p q : List Nat} (hp : IsPerm p) (hq : IsPerm q) (hl : q.length = p.length) (h60 : p.length ≤ 60) : decide (meetL p q = p) = weakB p q := by
  rw [Bool.eq_iff_iff, weak_iff hp hq hl h60, decide_eq_true_eq]
  constructor
  · intro h
    have := lo_meet_right hp hq hl
    rw [h] at this
    exact this
  · intro h
    exact lo_antisymm (meet_perm hp hq hl) hp (meet_length p q).symm (lo_meet_left hp hq hl) (lo_meet hp hq hp hl rfl (Lo.refl p) h)
/-- What is below comes no later as a list. -/
theorem lo_before {p q : List Nat} (hp : IsPerm p) (hq : IsPerm q) (hl : q.length = p.length) (h : Lo p q) (i : Nat) (hi : i < p.length) (hs : ∀ k, k < i → p.getD k 0 = q.getD k 0) (hne : p.getD i 0 ≠ q.getD i 0) : p.getD i 0 < q.getD i 0 := by
  rcases Nat.lt_trichotomy (p.getD i 0) (q.getD i 0) with g | g | g
  · exact g
  · exact absurd g hne
  · exfalso
    have hu : q.getD i 0 < p.length := by have := hq.lt (i := i) (by omega); omega
    obtain ⟨k, hk, ek⟩ := perm_all hp hu
    have hik : i < k := by
      rcases Nat.lt_trichotomy k i with e | e | e
      · have e1 := hs k e
        have := hq.inj (i := k) (j := i) (by omega) (by omega) (by omega)
        omega
      · subst e
        exact absurd ek hne
      · exact e
    have h1 : invM p (p.getD i 0) (q.getD i 0) = true := invM_iff.2 ⟨i, k, hik, hk, rfl, ek, g⟩
    obtain ⟨i', k', a1, a2, a3, a4, a5⟩ := invM_iff.1 (h _ _ h1)
    have e1 := hq.inj a2 (by omega) a4
    subst e1
    have e2 := hs i' a1
    have := hp.inj (i := i') (j := k') (by omega) hi (by omega)
    omega

theorem mem_takeD {p : List Nat} {i v : Nat} : v ∈ p.take i ↔ ∃ k, k < i ∧ k < p.length ∧ p.getD k 0 = v := by
  rw [List.mem_take_iff_getElem]
  constructor
  · rintro ⟨k, hk, e⟩
    exact ⟨k, by omega, by omega, by rw [← at_getD (by omega)]; exact e⟩
  · rintro ⟨k, h1, h2, h3⟩
    exact ⟨k, by omega, by rw [at_getD h2]; exact h3⟩
theorem geN_take (p : List Nat) (j : Nat) : ∀ i, i ≤ p.length → geN p j i = ((p.take i).filter fun x => decide (j ≤ x)).length ∧ geN p j i + ((p.take i).filter fun x => decide (x < j)).length = i
  | 0, _ => by simp [geN]
  | i + 1, h => by
    obtain ⟨h1, h2⟩ := geN_take p j i (by omega)
    rw [take_snoc p i (by omega), List.filter_append, List.filter_append, List.length_append, List.length_append, geN]
    by_cases e : j ≤ p.getD i 0
    · rw [if_pos e, List.filter_cons_of_pos (by simpa using e), List.filter_cons_of_neg (by simpa using e), List.filter_nil, List.filter_nil]
      simp
      omega
    · rw [if_neg e, List.filter_cons_of_neg (by simpa using e), List.filter_cons_of_pos (by simpa using e), List.filter_nil, List.filter_nil]
      simp
      omega
theorem lo_strong {p q : List Nat} (hp : IsPerm p) (hq : IsPerm q) (hl : q.length = p.length) (h : Lo p q) : strongB p q = true := by
  rw [strong_same hp]
  unfold rstrongB
  rw [decide_eq_true_eq]
  intro i hi j _
  apply Classical.byContradiction
  intro hlt
  obtain ⟨p1, p2⟩ := geN_take p j i hi
  obtain ⟨q1, q2⟩ := geN_take q j i (by omega)
  have np : (p.take i).Nodup := (perm_nodup hp).sublist (List.take_sublist _ _)
  have nq : (q.take i).Nodup := (perm_nodup hq).sublist (List.take_sublist _ _)
  have hv : ∃ v, j ≤ v ∧ v ∈ p.take i ∧ ¬ v ∈ q.take i := by
    apply Classical.byContradiction
    intro hno
    have : ((p.take i).filter fun x => decide (j ≤ x)).length ≤ ((q.take i).filter fun x => decide (j ≤ x)).length := List.Nodup.length_le_of_subset (np.sublist List.filter_sublist) fun v hv => by
      obtain ⟨a, b⟩ := List.mem_filter.1 hv
      refine List.mem_filter.2 ⟨?_, b⟩
      apply Classical.byContradiction
      intro c
      exact hno ⟨v, by simpa using b, a, c⟩
    omega
  have hu : ∃ u, u < j ∧ u ∈ q.take i ∧ ¬ u ∈ p.take i := by
    apply Classical.byContradiction
    intro hno
    have : ((q.take i).filter fun x => decide (x < j)).length ≤ ((p.take i).filter fun x => decide (x < j)).length := List.Nodup.length_le_of_subset (nq.sublist List.filter_sublist) fun v hv => by
      obtain ⟨a, b⟩ := List.mem_filter.1 hv
      refine List.mem_filter.2 ⟨?_, b⟩
      apply Classical.byContradiction
      intro c
      exact hno ⟨v, by simpa using b, a, c⟩
    omega
  obtain ⟨v, v1, v2, v3⟩ := hv
  obtain ⟨u, u1, u2, u3⟩ := hu
  obtain ⟨a, a1, a2, a3⟩ := mem_takeD.1 v2
  obtain ⟨c, c1, c2, c3⟩ := mem_takeD.1 u2
  have hun : u < p.length := by rw [← c3, ← hl]; exact hq.lt c2
  obtain ⟨b, b1, b2⟩ := perm_all hp hun
  have hib : i ≤ b := by
    rcases Nat.lt_or_ge b i with e | e
    · exact absurd (mem_takeD.2 ⟨b, e, b1, b2⟩) u3
    · exact e
  have h1 : invM p v u = true := invM_iff.2 ⟨a, b, by omega, b1, a3, b2, by omega⟩
  obtain ⟨a', b', d1, d2, d3, d4, d5⟩ := invM_iff.1 (h _ _ h1)
  have e := hq.inj d2 c2 (by omega)
  exact v3 (mem_takeD.2 ⟨a', by omega, by omega, d3⟩)

/-- Each is the other's inverse. -/
structure Turn (n : Nat) (p a : List Nat) : Prop where
  lp : p.length = n
  la : a.length = n
  pa : ∀ k, k < n → p.getD k 0 < n ∧ a.getD (p.getD k 0) 0 = k
  ap : ∀ v, v < n → a.getD v 0 < n ∧ p.getD (a.getD v 0) 0 = v
theorem Turn.symm {n : Nat} {p a : List Nat} (h : Turn n p a) : Turn n a p := ⟨h.la, h.lp, h.ap, h.pa⟩
theorem Turn.perm {n : Nat} {p a : List Nat} (h : Turn n p a) : IsPerm a := by
  refine ⟨fun i hi => ?_, fun i j hi hj e => ?_⟩
  · rw [h.la] at hi ⊢
    exact (h.ap i hi).1
  · rw [h.la] at hi hj
    rw [← (h.ap i hi).2, ← (h.ap j hj).2, e]
theorem inv_get {p : List Nat} (hp : IsPerm p) : ∀ k, k ≤ p.length → ∀ i, i < k → (invF p k).getD (p.getD i 0) 0 = i
  | 0, _, i, h => absurd h (Nat.not_lt_zero _)
  | k + 1, hk, i, h => by
    rw [invF, getD_set _ _ _ _ (by rw [invF_length]; exact hp.lt (by omega))]
    by_cases e : i = k
    · subst e
      rw [if_pos rfl]
    · rw [if_neg (fun g => e (hp.inj (by omega) (by omega) g).symm)]
      exact inv_get hp k (by omega) i (by omega)
theorem turn_of {p : List Nat} (hp : IsPerm p) : Turn p.length p (invF p p.length) := by
  have hg := inv_get hp p.length (Nat.le_refl _)
  refine ⟨rfl, invF_length _ _, fun k hk => ⟨hp.lt hk, hg k hk⟩, fun v hv => ?_⟩
  obtain ⟨i, hi, rfl⟩ := perm_all hp hv
  rw [hg i hi]
  exact ⟨hi, rfl⟩
/-- How many of the first i are below j. -/
def ltC (p : List Nat) (j i : Nat) : Nat := ((List.range i).filter fun k => decide (p.getD k 0 < j)).length
theorem geN_ltC (p : List Nat) (j : Nat) : ∀ i, geN p j i + ltC p j i = i
  | 0 => by simp [geN, ltC]
  | i + 1 => by
    have h := geN_ltC p j i
    unfold ltC at h ⊢
    rw [List.range_succ, List.filter_append, List.length_append, geN]
    by_cases e : j ≤ p.getD i 0
    · rw [if_pos e, List.filter_cons_of_neg (by simpa using e), List.filter_nil, List.length_nil]
      omega
    · rw [if_neg e, List.filter_cons_of_pos (by simpa using e), List.filter_nil, List.length_singleton]
      omega
theorem turn_cnt {n : Nat} {p a : List Nat} (h : Turn n p a) {i j : Nat} (hi : i ≤ n) : ltC a j i ≤ ltC p i j := by
  unfold ltC
  have hn : (((List.range i).filter fun k => decide (a.getD k 0 < j)).map fun v => a.getD v 0).Nodup := by
    rw [List.nodup_iff_pairwise_ne, List.pairwise_map]
    refine ((List.nodup_range (n := i)).sublist List.filter_sublist).imp_of_mem (fun {x y} hx hy hne => ?_)
    have hx := List.mem_range.1 (List.mem_filter.1 hx).1
    have hy := List.mem_range.1 (List.mem_filter.1 hy).1
    intro e
    apply hne
    rw [← (h.ap x (by omega)).2, ← (h.ap y (by omega)).2, e]
  have := hn.length_le_of_subset (l₂ := (List.range j).filter fun k => decide (p.getD k 0 < i)) fun x hx => by
    obtain ⟨v, hv, rfl⟩ := List.mem_map.1 hx
    obtain ⟨h1, h2⟩ := List.mem_filter.1 hv
    have h1 := List.mem_range.1 h1
    refine List.mem_filter.2 ⟨List.mem_range.2 (by simpa using h2), ?_⟩
    rw [(h.ap v (by omega)).2]
    simpa using h1
  rw [List.length_map] at this
  exact this
/-- Inverses keep the strong order. -/
theorem strong_turn {n : Nat} {p a q b : List Nat} (h : Turn n p a) (k : Turn n q b) : strongB a b = strongB p q := by
  rw [strong_same h.perm, strong_same h.symm.perm]
  unfold rstrongB
  rw [h.la, h.lp]
  apply decide_eq_decide.2
  have hc : ∀ {p a : List Nat} (h : Turn n p a) i j, i ≤ n → j ≤ n → ltC a j i = ltC p i j := fun h i j hi hj => Nat.le_antisymm (turn_cnt h hi) (turn_cnt h.symm hj)
  constructor
  · intro g i hi j hj
    have g := g j hj i hi
    have e1 := geN_ltC a i j
    have e2 := geN_ltC b i j
    have e3 := geN_ltC p j i
    have e4 := geN_ltC q j i
    have c1 := hc h j i hj hi
    have c2 := hc k j i hj hi
    omega
  · intro g i hi j hj
    have g := g j hj i hi
    have e1 := geN_ltC a j i
    have e2 := geN_ltC b j i
    have e3 := geN_ltC p i j
    have e4 := geN_ltC q i j
    have c1 := hc h i j hi hj
    have c2 := hc k i j hi hj
    omega
theorem step_at {f : Nat → Prop} [DecidablePred f] {lo : Nat} : ∀ d, f lo → ¬ f (lo + d) → ∃ t, lo ≤ t ∧ t < lo + d ∧ f t ∧ ¬ f (t + 1)
  | 0, h1, h2 => absurd h1 h2
  | d + 1, h1, h2 => by
    by_cases h : f (lo + d)
    · exact ⟨lo + d, by omega, by omega, h, h2⟩
    · obtain ⟨t, a, b, c, e⟩ := step_at d h1 h
      exact ⟨t, a, by omega, c, e⟩
/-- Inverses keep Baxter permutations. -/
theorem baxter_turn {n : Nat} {p a : List Nat} (h : Turn n p a) (hp : None' p) : None' a := by
  intro x y z h1 h2 h3
  rw [h.la] at h3
  cases e : bad a x y z
  · rfl
  · exfalso
    have px := h.ap x (by omega)
    have py := h.ap y (by omega)
    have py' := h.ap (y + 1) (by omega)
    have pz := h.ap z (by omega)
    unfold bad at e
    rw [Bool.or_eq_true, Bool.and_eq_true, Bool.and_eq_true, Bool.and_eq_true, Bool.and_eq_true, decide_eq_true_eq, decide_eq_true_eq, decide_eq_true_eq, decide_eq_true_eq, decide_eq_true_eq, decide_eq_true_eq] at e
    generalize a.getD x 0 = ax at *
    generalize a.getD y 0 = ay at *
    generalize a.getD (y + 1) 0 = ay' at *
    generalize a.getD z 0 = az at *
    have hout : ∀ t, t < n → t ≠ ay → t ≠ ay' → p.getD t 0 ≠ y ∧ p.getD t 0 ≠ y + 1 := fun t ht n1 n2 => by
      have := h.pa t ht
      constructor
      · intro e
        have e2 := h.pa ay py.1
        rw [py.2, ← e, this.2] at e2
        exact n1 e2.2
      · intro e
        have e2 := h.pa ay' py'.1
        rw [py'.2, ← e, this.2] at e2
        exact n2 e2.2
    rcases e with ⟨⟨e1, e2⟩, e3⟩ | ⟨⟨e1, e2⟩, e3⟩
    · obtain ⟨t, t1, t2, t3, t4⟩ := step_at (f := fun t => p.getD t 0 < y) (lo := ax) (az - ax) (by rw [px.2]; exact h1) (by rw [show ax + (az - ax) = az by omega, pz.2]; omega)
      have o := hout (t + 1) (by omega) (by omega) (by omega)
      have := hp ay' t ay (by omega) (by omega) (by rw [h.lp]; exact py.1)
      unfold bad at this
      rw [py.2, py'.2, decide_eq_true (show p.getD t 0 < y from t3), decide_eq_true (show y < y + 1 by omega), decide_eq_true (show y + 1 < p.getD (t + 1) 0 by omega)] at this
      simp at this
    · obtain ⟨t, t1, t2, t3, t4⟩ := step_at (f := fun t => y < p.getD t 0) (lo := az) (ax - az) (by show y < p.getD az 0; rw [pz.2]; omega) (by show ¬ y < p.getD (az + (ax - az)) 0; rw [show az + (ax - az) = ax by omega, px.2]; omega)
      have o := hout (t + 1) (by omega) (by omega) (by omega)
      have o' := hout t (by omega) (by omega) (by omega)
      have t3 : y < p.getD t 0 := t3
      have t4 : ¬ y < p.getD (t + 1) 0 := t4
      have := hp ay t ay' (by omega) (by omega) (by rw [h.lp]; exact py'.1)
      unfold bad at this
      rw [py.2, py'.2, decide_eq_true (show p.getD (t + 1) 0 < y by omega), decide_eq_true (show y < y + 1 by omega), decide_eq_true (show y + 1 < p.getD t 0 by omega)] at this
      simp at this
theorem after_turn {p a : List Nat} (h : Turn p.length p a) : afterL p a = List.range p.length := by
  rw [after_same h.la]
  apply List.ext_getElem
  · rw [aftL_length, h.la, List.length_range]
  · intro i h1 h2
    rw [at_getD h1]
    rw [aftL_length] at h1
    rw [aftL_get p a i h1, List.getElem_range]
    exact (h.ap i (by rw [h.la] at h1; exact h1)).2

end Go.Proofs.Ytcklgdcjedikoaa
