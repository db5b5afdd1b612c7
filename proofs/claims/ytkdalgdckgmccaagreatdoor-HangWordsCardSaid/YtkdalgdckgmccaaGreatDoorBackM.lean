/-
  The mathematics of HangBack: names of sets as strings, sets of few nails, and the dual of the dual.
-/
import Derived.Test.YtkdalgdckgmccaaGreatDoorHangM
import Derived.Test.YtkdalgdckgmccaaGreatDoorList
import Derived.Test.YtkdalgdckgmccaaGreatDoorLawSets
namespace Go.Proofs.YtkdalgdckgmccaaGreatDoor
open Go.RowKit

theorem rising_filter (f : Nat → Bool) : ∀ (n a last : Nat), last < 97 + a → a + n ≤ 26 → risingB last (((List.range' a n).filter f).map fun k => 97 + k) = true
  | 0, _, _, _, _ => rfl
  | n + 1, a, last, h, h2 => by
    rw [List.range'_succ]
    by_cases hf : f a = true
    · rw [List.filter_cons_of_pos hf, List.map_cons]
      show (decide (97 ≤ 97 + a) && decide (97 + a ≤ 122) && decide (last < 97 + a) && risingB (97 + a) _) = true
      rw [rising_filter f n (a + 1) (97 + a) (by omega) (by omega), decide_eq_true (by omega : 97 ≤ 97 + a), decide_eq_true (by omega : 97 + a ≤ 122), decide_eq_true h]; rfl
    · rw [List.filter_cons_of_neg hf]
      exact rising_filter f n (a + 1) last (by omega) (by omega)
theorem rising_name (S : Nat → Bool) : risingB 0 (nameL S) = true := by
  unfold nameL r26
  rw [List.range_eq_range']
  exact rising_filter S 26 0 0 (by omega) (by omega)
theorem rising_one {K : Nat} (h : K ≤ 26) (e : Bool) (x : Int) : risingB 0 (oneS K e x) = true := by
  unfold oneS
  split
  · rfl
  · unfold setL setTo
    rw [List.range_eq_range']
    exact rising_filter (bitZ x) K 0 0 (by omega) (by omega)
theorem rising_word : ∀ {l : List Nat} {last : Nat}, risingB last l = true → IsWord l
  | [], _, _ => IsWord.nil
  | c :: l, last, h => by
    unfold risingB at h
    simp only [Bool.and_eq_true, decide_eq_true_eq] at h
    exact IsWord.cons (.inr ⟨h.1.1.1, h.1.1.2⟩) (rising_word h.2)
theorem nails_sup {l : List Nat} (h : IsWord l) : Sup (nailsL l) := fun k hk => by
  obtain ⟨c, hc, rfl⟩ := nails_of hk
  exact nail_lt (h c hc)
theorem nails_name {S : Nat → Bool} (h : Sup S) : nailsL (nameL S) = S := by
  funext k
  apply Bool.eq_iff_iff.2
  constructor
  · intro hk
    obtain ⟨c, hc, rfl⟩ := nails_of hk
    exact (nameL_nail hc).2
  · intro hk
    obtain ⟨h1, h2⟩ := nameL_mem (h k hk) hk
    have := nails_mem h1
    rwa [h2] at this
theorem few_nailsIn {U : Nat → Bool} {K : Nat} (h : ∀ k, U k = true → k < K) : (nailsIn U).length ≤ K := by
  have hsub : ∀ k ∈ nailsIn U, k ∈ List.range K := fun k hk => List.mem_range.2 (h k (mem_nailsIn.1 hk).2)
  have := List.Nodup.length_le_of_subset (nailsIn_nodup U) hsub
  simpa using this
theorem name_few {U : Nat → Bool} {K : Nat} (h : ∀ k, U k = true → k < K) : (nameL U).length ≤ K := by
  unfold nameL
  rw [List.length_map]
  exact few_nailsIn h
theorem pow_few {U : Nat → Bool} {K : Nat} (h : ∀ k, U k = true → k < K) : 2 ^ (nailsIn U).length ≤ 2 ^ K := Nat.pow_le_pow_right (by omega) (few_nailsIn h)

/-- Names of sets of few nails, none of them empty. -/
structure Nice (K : Nat) (ss : List ByteArray) : Prop where
  rising : ∀ s ∈ ss, risingB 0 (lettersOf s) = true
  few : ∀ s ∈ ss, ∀ c ∈ lettersOf s, nailN c < K
  some : ∀ s ∈ ss, lettersOf s ≠ []
theorem one_few {K : Nat} (h2 : 2 ≤ K) (x : Int) : ∀ c ∈ oneS K false x, nailN c < K := by
  intro c hc
  unfold oneS at hc
  split at hc
  · obtain rfl : c = 98 := by simpa using hc
    unfold nailN; rw [if_pos (by omega)]; omega
  · unfold setL setTo at hc
    obtain ⟨k, hk, rfl⟩ := List.mem_map.1 hc
    have := List.mem_range.1 (List.mem_filter.1 hk).1
    unfold nailN; rw [if_pos (by omega)]; omega
theorem one_some {K : Nat} (x : Int) : oneS K false x ≠ [] := by
  unfold oneS
  split
  · simp
  · rename_i h
    intro e
    exact h ⟨e, rfl⟩
theorem good_ones {K : Nat} (h2 : 2 ≤ K) (h26 : K ≤ 26) (xs : List Int) : Nice K (xs.map fun x => strL (oneS K false x)) := by
  have hl : ∀ x : Int, lettersOf (strL (oneS K false x)) = oneS K false x := fun x => letters_strL (rising_word (rising_one h26 false x)).lt256
  refine ⟨fun s hs => ?_, fun s hs => ?_, fun s hs => ?_⟩ <;> obtain ⟨x, _, rfl⟩ := List.mem_map.1 hs <;> rw [hl]
  · exact rising_one h26 false x
  · exact one_few h2 x
  · exact one_some x
theorem rising_length : ∀ {l : List Nat} {last : Nat}, risingB last l = true → 97 ≤ last + 1 → l.length + last ≤ 122 ∨ l = []
  | [], _, _, _ => .inr rfl
  | c :: l, last, h, hl => by
    unfold risingB at h
    simp only [Bool.and_eq_true, decide_eq_true_eq] at h
    rcases rising_length h.2 (by omega) with h1 | h1
    · refine .inl ?_
      rw [List.length_cons]
      omega
    · refine .inl ?_
      rw [h1]
      simp only [List.length_cons, List.length_nil]
      omega
theorem rising_size {l : List Nat} (h : risingB 0 l = true) : l.length ≤ 26 := by
  cases l with
  | nil => simp
  | cons c l =>
    unfold risingB at h
    simp only [Bool.and_eq_true, decide_eq_true_eq] at h
    rw [List.length_cons]
    rcases rising_length h.2 (by omega) with h1 | h1
    · omega
    · rw [h1]; simp
theorem Nice.named {K : Nat} {ss : List ByteArray} (h : Nice K ss) : Named ss := fun s hs => ⟨by
  have := rising_size (h.rising s hs)
  rw [lettersOf_length] at this
  omega, h.rising s hs⟩
theorem Nice.sup {K : Nat} {ss : List ByteArray} (h : Nice K ss) : ∀ S ∈ setsOf ss, Sup S := fun S hS => by
  obtain ⟨s, hs, rfl⟩ := List.mem_map.1 hS
  exact nails_sup (rising_word (h.rising s hs))
theorem Nice.union {K : Nat} {ss : List ByteArray} (h : Nice K ss) : ∀ k, unionN (setsOf ss) k = true → k < K := fun k hk => by
  obtain ⟨S, hS, e⟩ := union_iff.1 hk
  obtain ⟨s, hs, rfl⟩ := List.mem_map.1 hS
  obtain ⟨c, hc, rfl⟩ := nails_of e
  exact h.few s hs c hc
theorem Nice.nonempty {K : Nat} {ss : List ByteArray} (h : Nice K ss) : ∀ S ∈ setsOf ss, ∃ k, k < 26 ∧ S k = true := fun S hS => by
  obtain ⟨s, hs, rfl⟩ := List.mem_map.1 hS
  obtain ⟨c, hc⟩ := List.exists_mem_of_ne_nil _ (h.some s hs)
  exact ⟨nailN c, nail_lt (rising_word (h.rising s hs) c hc), nails_mem hc⟩
theorem no_empty {Ss : List (Nat → Bool)} (h : ∀ S ∈ Ss, ∃ k, k < 26 ∧ S k = true) : (Ss.any fun S => eqN (fun _ => false) S) = false := by
  rw [List.any_eq_false]
  intro S hS e
  obtain ⟨k, hk, h1⟩ := h S hS
  have := eqN_iff.1 e k hk
  rw [h1] at this; cases this

theorem red_sub {w : List Nat} : ∀ {st : List Nat}, ∀ x ∈ runS st w, x ∈ st ∨ x ∈ w := by
  induction w with
  | nil => exact fun x h => .inl h
  | cons c w ih =>
    intro st x h
    rcases ih x h with h | h
    · cases st with
      | nil =>
        have e : x = c := by simpa [push] using h
        exact .inr (by simp [e])
      | cons y r =>
        unfold push at h
        dsimp only at h
        split at h
        · exact .inl (List.mem_cons_of_mem _ h)
        · rcases List.mem_cons.1 h with rfl | h
          · exact .inr (by simp)
          · exact .inl h
    · exact .inr (List.mem_cons_of_mem _ h)
theorem redL_sub {w : List Nat} {c : Nat} (h : c ∈ redL w) : c ∈ w := by
  unfold redL at h
  rcases red_sub c (List.mem_reverse.1 h) with h | h
  · cases h
  · exact h
/-- The nails of the word of Hang are those of the sets. -/
theorem hang_nails {Ss : List (Nat → Bool)} {N : Nat} (h : 2 ^ (nailsIn (unionN Ss)).length ≤ N) (h0 : Ss ≠ []) {k : Nat} (hk : nailsL (hangL Ss N) k = true) : unionN Ss k = true := by
  obtain ⟨c, hc, rfl⟩ := nails_of hk
  unfold hangL at hc
  obtain ⟨l, hl, hcl⟩ := List.mem_flatten.1 (redL_sub hc)
  obtain ⟨D, hD, rfl⟩ := List.mem_map.1 hl
  have hne : nameL D ≠ [] := fun e => by
    obtain ⟨S, hS⟩ := List.exists_mem_of_ne_nil _ h0
    obtain ⟨k, hk, h1, _⟩ := meetN_iff.1 (hitB_iff.1 ((dualL_mem h D).1 hD).2.1 S hS)
    have := (nameL_mem hk h1).1
    rw [e] at this; cases this
  obtain ⟨_, _, t3⟩ := tied_red 25 (nameL_once D) hne (nameL_length D)
  obtain ⟨d, hd, e⟩ := t3 c hcl
  rw [e]
  exact (((dualL_mem h D).1 hD).1 _ (nameL_nail hd).2).2
theorem hangL_word (Ss : List (Nat → Bool)) (N : Nat) : IsWord (hangL Ss N) := red_word (flat_word (tied_flat (dualL Ss N)).1)
/-- The falling sets of the word of Hang are the reduced list. -/
theorem hang_sets {Ss : List (Nat → Bool)} {N M : Nat} (h : 2 ^ (nailsIn (unionN Ss)).length ≤ N) (h0 : Ss ≠ []) (hs : ∀ S ∈ Ss, Sup S) (hM : 2 ^ (nailsIn (nailsL (hangL Ss N))).length ≤ M) : setsB (hangL Ss N) M = namesB (minL Ss) := by
  unfold setsB
  exact names_perm (least_has hs (hang_falls h h0) (nailsL (hangL Ss N)) (fun T => falls_own (hangL_word Ss N)) M hM)
/-- The sets that the names of a list of sets name. -/
theorem sets_names {Ds : List (Nat → Bool)} (h : ∀ D ∈ Ds, Sup D) : (setsOf ((namesB Ds).map fun b => (⟨b.toArray⟩ : ByteArray))).Perm Ds := by
  unfold setsOf namesB
  rw [List.map_map]
  refine ((List.mergeSort_perm _ _).map _).trans ?_
  rw [List.map_map]
  have : Ds.map (((fun s => nailsL (lettersOf s)) ∘ fun b => (⟨b.toArray⟩ : ByteArray)) ∘ fun S => bytesL (nameL S)) = Ds := by
    have h2 : ∀ D ∈ Ds, (((fun s => nailsL (lettersOf s)) ∘ fun b => (⟨b.toArray⟩ : ByteArray)) ∘ fun S => bytesL (nameL S)) D = D := fun D hD => by
      show nailsL (lettersOf (⟨(bytesL (nameL D)).toArray⟩ : ByteArray)) = D
      rw [← strL_bytes, letters_strL (nameL_word D).lt256, nails_name (h D hD)]
    exact (List.map_congr_left h2).trans (List.map_id' _)
  rw [this]
theorem good_names {K : Nat} {Ds : List (Nat → Bool)} (h : ∀ D ∈ Ds, (∀ k, D k = true → k < K) ∧ ∃ k, k < 26 ∧ D k = true) : Nice K ((namesB Ds).map fun b => (⟨b.toArray⟩ : ByteArray)) := by
  have key : ∀ s ∈ (namesB Ds).map fun b => (⟨b.toArray⟩ : ByteArray), ∃ D ∈ Ds, lettersOf s = nameL D := fun s hs => by
    obtain ⟨b, hb, rfl⟩ := List.mem_map.1 hs
    unfold namesB at hb
    have hb2 := (List.mergeSort_perm _ _).mem_iff.1 hb
    obtain ⟨D, hD, rfl⟩ := List.mem_map.1 hb2
    exact ⟨D, hD, by rw [← strL_bytes, letters_strL (nameL_word D).lt256]⟩
  refine ⟨fun s hs => ?_, fun s hs c hc => ?_, fun s hs e => ?_⟩ <;> obtain ⟨D, hD, e2⟩ := key s hs
  · rw [e2]; exact rising_name D
  · rw [e2] at hc
    exact (h D hD).1 _ (nameL_nail hc).2
  · obtain ⟨k, hk, h1⟩ := (h D hD).2
    have := (nameL_mem hk h1).1
    rw [← e2, e] at this; cases this
theorem hit_perm {Ds Es : List (Nat → Bool)} (h : Ds.Perm Es) (T : Nat → Bool) : hitB Ds T = hitB Es T := by
  apply Bool.eq_iff_iff.2
  rw [hitB_iff, hitB_iff]
  exact ⟨fun g S hS => g S (h.mem_iff.2 hS), fun g S hS => g S (h.mem_iff.1 hS)⟩
/-- The dual of the dual is the reduced list. -/
theorem dual_dual {Ss Ds : List (Nat → Bool)} {N M : Nat} (h : 2 ^ (nailsIn (unionN Ss)).length ≤ N) (hs : ∀ S ∈ Ss, Sup S) (hD : Ds.Perm (dualL Ss N)) (hM : 2 ^ (nailsIn (unionN Ds)).length ≤ M) : namesB (dualL Ds M) = namesB (minL Ss) := by
  refine names_perm (least_has hs (hp := fun T => Ds.all fun S => meetN T S) (fun T => ?_) (unionN Ds) (fun T => ?_) M hM)
  · show hitB Ds T = _
    rw [hit_perm hD, has_hit h]
  · show hitB Ds _ = hitB Ds T
    apply Bool.eq_iff_iff.2
    rw [hitB_iff, hitB_iff]
    refine ⟨fun g D hDm => ?_, fun g D hDm => ?_⟩ <;> obtain ⟨k, hk, h1, h2⟩ := meetN_iff.1 (g D hDm)
    · exact meetN_iff.2 ⟨k, hk, (Bool.and_eq_true _ _ ▸ h1 : _ ∧ _).1, h2⟩
    · exact meetN_iff.2 ⟨k, hk, by rw [h1, union_iff.2 ⟨D, hDm, h2⟩]; rfl, h2⟩
theorem dual_some {Ss : List (Nat → Bool)} {N : Nat} (h : 2 ^ (nailsIn (unionN Ss)).length ≤ N) (hne : ∀ S ∈ Ss, ∃ k, k < 26 ∧ S k = true) : 0 < (dualL Ss N).length := by
  have hU : hitB Ss (fun k => unionN Ss k && decide (k < 26)) = true := hitB_iff.2 fun S hS => by
    obtain ⟨k, hk, h1⟩ := hne S hS
    exact meetN_iff.2 ⟨k, hk, by rw [union_iff.2 ⟨S, hS, h1⟩, decide_eq_true hk]; rfl, h1⟩
  have hm : (fun k => unionN Ss k && decide (k < 26)) ∈ subsF (unionN Ss) N fun _ => false := (mem_subs _ _ N h).2 fun x hx => by
    rw [Bool.and_eq_true, decide_eq_true_eq] at hx
    exact ⟨hx.2, hx.1⟩
  obtain ⟨V, hV, _⟩ := leastL_below _ _ _ hm hU
  exact List.length_pos_of_mem hV
theorem dual_good {Ss : List (Nat → Bool)} {N K : Nat} (h : 2 ^ (nailsIn (unionN Ss)).length ≤ N) (hK : ∀ k, unionN Ss k = true → k < K) (h0 : Ss ≠ []) : ∀ D ∈ dualL Ss N, (∀ k, D k = true → k < K) ∧ ∃ k, k < 26 ∧ D k = true := fun D hD => by
  have hm := (dualL_mem h D).1 hD
  refine ⟨fun k hk => hK k (hm.1 k hk).2, ?_⟩
  obtain ⟨S, hS⟩ := List.exists_mem_of_ne_nil _ h0
  obtain ⟨k, hk, h1, _⟩ := meetN_iff.1 (hitB_iff.1 hm.2.1 S hS)
  exact ⟨k, hk, h1⟩
theorem hangL_size {Ss : List (Nat → Bool)} {N d : Nat} (h : ∀ D ∈ dualL Ss N, (nameL D).length ≤ 2 ^ d) : (hangL Ss N).length ≤ N * 4 ^ d := by
  unfold hangL
  refine Nat.le_trans (redL_length _) (Nat.le_trans (flat_len _ _ (4 ^ d) fun D hD => tiedF_length 25 d _ (h D hD)) (Nat.mul_le_mul_right _ (leastL_length' _ _ _)))

end Go.Proofs.YtkdalgdckgmccaaGreatDoor
