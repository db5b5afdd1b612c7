/-
  The mathematics of HangTen: the word of at most eight sets of ten nails has at most 30000 letters, and falls as it must.
-/
import Derived.Test.YtkdalgdckgmccaaGreatDoorBackM
import Derived.Test.YtkdalgdckgmccaaGreatDoorRefD
namespace Go.Proofs.YtkdalgdckgmccaaGreatDoor
open Go.RowKit

/-- A nail that two sets have in common. -/
def pickN (T S : Nat → Bool) : Nat := (r26.find? fun k => T k && S k).getD 0
theorem pick_of {T S : Nat → Bool} (h : meetN T S = true) : pickN T S < 26 ∧ T (pickN T S) = true ∧ S (pickN T S) = true := by
  unfold pickN
  cases e : r26.find? fun k => T k && S k with
  | none =>
    rw [List.find?_eq_none] at e
    obtain ⟨k, hk, h1, h2⟩ := meetN_iff.1 h
    exact absurd (by rw [h1, h2]; rfl) (e k (mem_r26.2 hk))
  | some k =>
    have h1 := List.find?_some e
    rw [Bool.and_eq_true] at h1
    exact ⟨mem_r26.1 (List.mem_of_find?_eq_some e), h1.1, h1.2⟩
/-- A set of the dual has at most one nail for each set. -/
theorem dual_small {Ss : List (Nat → Bool)} {N : Nat} (h : 2 ^ (nailsIn (unionN Ss)).length ≤ N) {D : Nat → Bool} (hD : D ∈ dualL Ss N) : (nailsIn D).length ≤ Ss.length := by
  have hm := (dualL_mem h D).1 hD
  have hhit := hitB_iff.1 hm.2.1
  have hU := hm.2.2 (fun k => Ss.any fun S => decide (pickN D S = k)) (fun x hx => by
    obtain ⟨S, hS, e⟩ := List.any_eq_true.1 hx
    rw [decide_eq_true_eq] at e
    exact e ▸ (pick_of (hhit S hS)).2.1) (hitB_iff.2 fun S hS => by
    obtain ⟨h1, h2, h3⟩ := pick_of (hhit S hS)
    exact meetN_iff.2 ⟨_, h1, List.any_eq_true.2 ⟨S, hS, by simp⟩, h3⟩)
  have hsub : ∀ k ∈ nailsIn D, k ∈ Ss.map (pickN D) := fun k hk => by
    have h1 := (mem_nailsIn.1 hk).2
    rw [← hU] at h1
    obtain ⟨S, hS, e⟩ := List.any_eq_true.1 h1
    rw [decide_eq_true_eq] at e
    exact List.mem_map.2 ⟨S, hS, e⟩
  have := List.Nodup.length_le_of_subset (nailsIn_nodup D) hsub
  rwa [List.length_map] at this

/-- How many letters a tied wire has at most. -/
def tieN : Nat → Nat → Nat
  | 0, n => n
  | f + 1, n => if n < 2 then n else 2 * (tieN f (n / 2) + tieN f (n - n / 2))
theorem tied_le : ∀ (f : Nat) (l : List Nat), (tiedF f l).length ≤ tieN f l.length
  | 0, _ => Nat.le_refl _
  | f + 1, l => by
    unfold tiedF tieN
    split
    · exact Nat.le_refl _
    · refine Nat.le_trans (commL_length _ _) (Nat.mul_le_mul_left 2 (Nat.add_le_add ?_ ?_))
      · have := tied_le f (l.take (l.length / 2))
        rwa [List.length_take, Nat.min_eq_left (by omega)] at this
      · have := tied_le f (l.drop (l.length / 2))
        rwa [List.length_drop] at this
/-- The nails that a number names. -/
def selL : List Nat → Nat → List Nat
  | [], _ => []
  | k :: ns, j => if j % 2 = 1 then k :: selL ns (j / 2) else selL ns (j / 2)
def cntN : Nat → Nat → Nat
  | 0, _ => 0
  | n + 1, j => j % 2 + cntN n (j / 2)
theorem selL_length : ∀ (ns : List Nat) (j : Nat), (selL ns j).length = cntN ns.length j
  | [], _ => rfl
  | k :: ns, j => by
    unfold selL
    rw [List.length_cons]
    unfold cntN
    split
    · rw [List.length_cons, selL_length ns]; omega
    · rw [selL_length ns]; omega
theorem selL_sub : ∀ (ns : List Nat) (j x : Nat), x ∈ selL ns j → x ∈ ns
  | [], _, _, h => h
  | k :: ns, j, x, h => by
    unfold selL at h
    split at h
    · rcases List.mem_cons.1 h with rfl | h
      · exact List.mem_cons_self
      · exact List.mem_cons_of_mem _ (selL_sub ns _ x h)
    · exact List.mem_cons_of_mem _ (selL_sub ns _ x h)
theorem selL_nodup : ∀ (ns : List Nat) (j : Nat), ns.Nodup → (selL ns j).Nodup
  | [], _, _ => List.nodup_nil
  | k :: ns, j, h => by
    rw [List.nodup_cons] at h
    unfold selL
    split
    · exact List.nodup_cons.2 ⟨fun g => h.1 (selL_sub ns _ k g), selL_nodup ns _ h.2⟩
    · exact selL_nodup ns _ h.2
theorem selL_bit : ∀ (ns : List Nat) (j x : Nat), ns.Nodup → (x ∈ selL ns j ↔ bitS ns j x = true)
  | [], _, _, _ => ⟨fun h => (by cases h), fun h => (by cases h)⟩
  | k :: ns, j, x, h => by
    rw [List.nodup_cons] at h
    have ih := selL_bit ns (j / 2) x h.2
    unfold selL
    show _ ↔ (if x = k then _ else _) = true
    by_cases hx : x = k
    · subst hx
      rw [if_pos rfl]
      split
      · rename_i e
        exact ⟨fun _ => by simp [e], fun _ => List.mem_cons_self⟩
      · rename_i e
        exact ⟨fun g => absurd (selL_sub ns _ x g) h.1, fun g => absurd (by simpa using g) e⟩
    · rw [if_neg hx]
      split
      · rw [List.mem_cons]
        exact ⟨fun g => ih.1 (g.resolve_left hx), fun g => .inr (ih.2 g)⟩
      · exact ih
theorem bit_count (U : Nat → Bool) (j : Nat) : (nailsIn (bitS (nailsIn U) j)).length = cntN (nailsIn U).length j := by
  rw [← selL_length]
  apply Nat.le_antisymm
  · exact List.Nodup.length_le_of_subset (nailsIn_nodup _) fun k hk => (selL_bit _ j k (nailsIn_nodup U)).2 (mem_nailsIn.1 hk).2
  · exact List.Nodup.length_le_of_subset (selL_nodup _ j (nailsIn_nodup U)) fun k hk => mem_nailsIn.2 ⟨(mem_nailsIn.1 (selL_sub _ _ _ hk)).1, (selL_bit _ j k (nailsIn_nodup U)).1 hk⟩
/-- The letters of the parts for sets of at most eight nails. -/
def wgt (m : Nat) : Nat := if m ≤ 8 then tieN 25 m else 0
theorem wgt_all : ∀ n, n < 11 → ((List.range (2 ^ n)).map fun j => wgt (cntN n j)).sum ≤ 30000 := by decide +kernel
theorem sum_sub {α : Type} (f : α → Nat) {l m : List α} (h : l.Sublist m) : (l.map f).sum ≤ (m.map f).sum := by
  induction h with
  | slnil => exact Nat.le_refl _
  | cons a _ ih => rw [List.map_cons, List.sum_cons]; omega
  | cons_cons a _ ih => rw [List.map_cons, List.map_cons, List.sum_cons, List.sum_cons]; omega
theorem flat_sum {α β : Type} (f : α → List β) (g : α → Nat) : ∀ l : List α, (∀ x ∈ l, (f x).length ≤ g x) → (l.map f).flatten.length ≤ (l.map g).sum
  | [], _ => Nat.le_refl _
  | a :: l, h => by
    rw [List.map_cons, List.flatten_cons, List.length_append, List.map_cons, List.sum_cons]
    have h1 := h a (by simp)
    have h2 := flat_sum f g l fun x hx => h x (by simp [hx])
    omega
theorem leastL_sublist (hp : (Nat → Bool) → Bool) (Ts : List (Nat → Bool)) : (leastL hp Ts).Sublist Ts := by
  induction Ts using snoc_ind with
  | h0 => exact List.Sublist.refl _
  | h1 Ts T ih =>
    rw [leastL_snoc]
    unfold leastStep
    split
    · exact ih.append (List.Sublist.refl _)
    · exact ih.trans (List.sublist_append_left _ _)
theorem ten_length {Ss : List (Nat → Bool)} {N : Nat} (h : 2 ^ (nailsIn (unionN Ss)).length ≤ N) (h10 : (nailsIn (unionN Ss)).length ≤ 10) (h8 : Ss.length ≤ 8) : (hangL Ss N).length ≤ 30000 := by
  unfold hangL
  refine Nat.le_trans (redL_length _) (Nat.le_trans (flat_sum _ (fun D => wgt (nailsIn D).length) _ fun D hD => ?_) ?_)
  · have hd := dual_small h hD
    unfold wgt
    rw [if_pos (by omega)]
    have := tied_le 25 (nameL D)
    have e : (nameL D).length = (nailsIn D).length := List.length_map ..
    rwa [e] at this
  · have hsub := leastL_sublist (fun T => Ss.all fun S => meetN T S) (subsF (unionN Ss) N fun _ => false)
    refine Nat.le_trans (sum_sub _ hsub) ?_
    rw [subsF_all _ N h, List.map_map]
    have e : (List.range (2 ^ (nailsIn (unionN Ss)).length)).map ((fun D => wgt (nailsIn D).length) ∘ bitS (nailsIn (unionN Ss))) = (List.range (2 ^ (nailsIn (unionN Ss)).length)).map fun j => wgt (cntN (nailsIn (unionN Ss)).length j) :=
      List.map_congr_left fun j _ => by
        show wgt (nailsIn (bitS (nailsIn (unionN Ss)) j)).length = _
        rw [bit_count]
    rw [e]
    exact wgt_all _ (by omega)

/-- Small letters alone. -/
theorem rising_low : ∀ {l : List Nat} {last : Nat}, risingB last l = true → ∀ c ∈ l, 97 ≤ c
  | [], _, _, _, h => by cases h
  | d :: l, last, h, c, hc => by
    unfold risingB at h
    simp only [Bool.and_eq_true, decide_eq_true_eq] at h
    rcases List.mem_cons.1 hc with rfl | hc
    · exact h.1.1.1
    · exact rising_low h.2 c hc
theorem has_nail {p : List Nat} (hp : risingB 0 p = true) (k : Nat) : hasL p (97 + k) = nailsL p k := by
  apply Bool.eq_iff_iff.2
  rw [hasL_iff]
  constructor
  · intro h
    have := nails_mem h
    have e : nailN (97 + k) = k := by unfold nailN; rw [if_pos (by omega)]; omega
    rwa [e] at this
  · intro h
    obtain ⟨c, hc, e⟩ := nails_of h
    have := rising_low hp c hc
    unfold nailN at e
    rw [if_pos this] at e
    rwa [show 97 + k = c by omega]
theorem stay_keep {p : List Nat} (hp : risingB 0 p = true) (l : List Nat) : stayL p l = l.filter (keep (nailsL p)) := by
  unfold stayL
  apply List.filter_congr
  intro c _
  rw [has_nail hp]; rfl
theorem contains_sub {s t : List Nat} (hs : risingB 0 s = true) (ht : risingB 0 t = true) : (t.all fun c => hasL s c) = subN (nailsL s) (nailsL t) := by
  apply Bool.eq_iff_iff.2
  rw [List.all_eq_true, subN_iff]
  constructor
  · intro h k _ hk
    obtain ⟨c, hc, rfl⟩ := nails_of hk
    exact nails_mem (hasL_iff.1 (h c hc))
  · intro h c hc
    have h1 := h (nailN c) (nail_lt (rising_word ht c hc)) (nails_mem hc)
    rw [← has_nail hs] at h1
    have := rising_low ht c hc
    have e : 97 + nailN c = c := by unfold nailN; rw [if_pos this]; omega
    rwa [e] at h1
/-- The word of Hang falls with just the sets that contain one of the given ones, by the reference's words. -/
theorem ten_falls {ss : List ByteArray} {K N : Nat} (hg : Nice K ss) (h : 2 ^ (nailsIn (unionN (setsOf ss))).length ≤ N) (h0 : ss ≠ []) {t : ByteArray} (ht : risingB 0 (lettersOf t) = true) :
    decide (redL (stayL (lettersOf t) (hangL (setsOf ss) N)) = []) = ss.any fun o => (lettersOf o).all fun c => hasL (lettersOf t) c := by
  have hn0 : setsOf ss ≠ [] := fun e => h0 (List.map_eq_nil_iff.1 e)
  rw [stay_keep ht, ← falls_eq (hangL_word _ _), hang_falls h hn0]
  unfold hasB setsOf
  rw [List.any_map]
  apply Bool.eq_iff_iff.2
  rw [List.any_eq_true, List.any_eq_true]
  constructor
  · rintro ⟨o, ho, e⟩
    exact ⟨o, ho, by rw [contains_sub ht (hg.rising o ho)]; exact e⟩
  · rintro ⟨o, ho, e⟩
    rw [contains_sub ht (hg.rising o ho)] at e
    exact ⟨o, ho, e⟩

end Go.Proofs.YtkdalgdckgmccaaGreatDoor
