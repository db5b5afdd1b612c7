/-
  The mathematics of counting: all sets within a set of nails, each once, in the order of their numbers; and which of them leastL keeps.
-/
import Derived.Test.YtkdalgdckgmccaaGreatDoorLeast
namespace Go.Proofs.YtkdalgdckgmccaaGreatDoor

/-- The set of a number: its bits stand for the nails of a list. -/
def bitS : List Nat → Nat → (Nat → Bool)
  | [], _ => fun _ => false
  | k :: ns, j => fun x => if x = k then j % 2 == 1 else bitS ns (j / 2) x
def nextG : List Nat → (Nat → Bool) → (Nat → Bool)
  | [], T => T
  | k :: r, T => if T k = true then nextG r (setN T k false) else setN T k true
theorem nextF_filter (S : Nat → Bool) : ∀ (r : List Nat) (T : Nat → Bool), nextF S r T = nextG (r.filter S) T
  | [], _ => rfl
  | k :: r, T => by
    unfold nextF
    by_cases h : S k = true
    · rw [if_pos h, List.filter_cons_of_pos h]
      unfold nextG
      rw [nextF_filter S r]
    · rw [if_neg h, List.filter_cons_of_neg h, nextF_filter S r]
theorem bitS_out : ∀ (ns : List Nat) (j x : Nat), x ∉ ns → bitS ns j x = false
  | [], _, _, _ => rfl
  | k :: ns, j, x, h => by
    simp only [List.mem_cons, not_or] at h
    show (if x = k then _ else _) = _
    rw [if_neg h.1]
    exact bitS_out ns _ x h.2
theorem nextG_bitS : ∀ (ns : List Nat) (j : Nat), ns.Nodup → nextG ns (bitS ns j) = bitS ns (j + 1)
  | [], _, _ => rfl
  | k :: ns, j, h => by
    rw [List.nodup_cons] at h
    have e : bitS (k :: ns) j k = (j % 2 == 1) := by show (if k = k then _ else _) = _; rw [if_pos rfl]
    unfold nextG
    rw [e]
    by_cases hj : j % 2 = 1
    · rw [if_pos (by simp [hj])]
      have h1 : setN (bitS (k :: ns) j) k false = bitS ns (j / 2) := by
        funext x
        unfold setN
        by_cases hx : x = k
        · rw [if_pos hx, hx, bitS_out ns _ k h.1]
        · rw [if_neg hx]
          show (if x = k then _ else _) = _
          rw [if_neg hx]
      rw [h1, nextG_bitS ns (j / 2) h.2]
      funext x
      show _ = (if x = k then _ else _)
      by_cases hx : x = k
      · rw [if_pos hx, hx, bitS_out ns _ k h.1]
        have : (j + 1) % 2 = 0 := by omega
        simp [this]
      · rw [if_neg hx, show (j + 1) / 2 = j / 2 + 1 by omega]
    · rw [if_neg (by simp [hj])]
      funext x
      unfold setN
      show _ = (if x = k then _ else _)
      by_cases hx : x = k
      · rw [if_pos hx, if_pos hx]
        have : (j + 1) % 2 = 1 := by omega
        simp [this]
      · rw [if_neg hx, if_neg hx]
        show (if x = k then _ else _) = _
        rw [if_neg hx, show (j + 1) / 2 = j / 2 by omega]
theorem bitS_zero : ∀ (ns : List Nat), bitS ns 0 = fun _ => false
  | [] => rfl
  | k :: ns => by
    funext x
    show (if x = k then _ else _) = _
    split
    · rfl
    · exact congrFun (bitS_zero ns) x
theorem bitS_full : ∀ (ns : List Nat), bitS ns (2 ^ ns.length) = fun _ => false
  | [] => rfl
  | k :: ns => by
    funext x
    show (if x = k then _ else _) = _
    rw [List.length_cons, Nat.pow_succ, show 2 ^ ns.length * 2 / 2 = 2 ^ ns.length by omega]
    split
    · simp
    · exact congrFun (bitS_full ns) x
theorem bitS_some : ∀ (ns : List Nat) (j : Nat), ns.Nodup → j < 2 ^ ns.length → 0 < j → ∃ x ∈ ns, bitS ns j x = true
  | [], j, _, h, h0 => by simp at h; omega
  | k :: ns, j, hn, h, h0 => by
    rw [List.nodup_cons] at hn
    by_cases hj : j % 2 = 1
    · refine ⟨k, List.mem_cons_self, ?_⟩
      show (if k = k then _ else _) = _
      rw [if_pos rfl]
      simp [hj]
    · rw [List.length_cons, Nat.pow_succ] at h
      obtain ⟨x, hx, e⟩ := bitS_some ns (j / 2) hn.2 (by omega) (by omega)
      refine ⟨x, List.mem_cons_of_mem _ hx, ?_⟩
      show (if x = k then _ else _) = _
      rw [if_neg (fun (e2 : x = k) => hn.1 (e2 ▸ hx))]
      exact e
theorem bitS_all : ∀ (ns : List Nat) (T : Nat → Bool), ns.Nodup → (∀ x, T x = true → x ∈ ns) → ∃ j, j < 2 ^ ns.length ∧ bitS ns j = T
  | [], T, _, h => ⟨0, by simp, by
    funext x
    show false = _
    cases e : T x with
    | false => rfl
    | true => exact absurd (h x e) (by simp)⟩
  | k :: ns, T, hn, h => by
    rw [List.nodup_cons] at hn
    obtain ⟨j, hj, e⟩ := bitS_all ns (setN T k false) hn.2 (fun x hx => by
      unfold setN at hx
      by_cases hxk : x = k
      · rw [if_pos hxk] at hx; cases hx
      · rw [if_neg hxk] at hx
        exact (List.mem_cons.1 (h x hx)).resolve_left hxk)
    refine ⟨2 * j + (if T k = true then 1 else 0), ?_, ?_⟩
    · rw [List.length_cons, Nat.pow_succ]
      split <;> omega
    · funext x
      show (if x = k then _ else _) = _
      by_cases hx : x = k
      · rw [if_pos hx, hx]
        cases T k
        · simp
        · have : (2 * j + 1) % 2 = 1 := by omega
          simp [this]
      · rw [if_neg hx, show (2 * j + (if T k = true then 1 else 0)) / 2 = j by split <;> omega, e]
        unfold setN
        rw [if_neg hx]
/-- A set within another one has no greater number. -/
theorem bitS_le : ∀ (ns : List Nat) (i j : Nat), ns.Nodup → i < 2 ^ ns.length → (∀ x ∈ ns, bitS ns i x = true → bitS ns j x = true) → i ≤ j
  | [], i, j, _, h, _ => by simp at h; omega
  | k :: ns, i, j, hn, hi, h => by
    rw [List.nodup_cons] at hn
    rw [List.length_cons, Nat.pow_succ] at hi
    have h1 := bitS_le ns (i / 2) (j / 2) hn.2 (by omega) (fun x hx hb => by
      have := h x (List.mem_cons_of_mem _ hx)
      have hxk : x ≠ k := fun e => hn.1 (e ▸ hx)
      have e1 : ∀ j, bitS (k :: ns) j x = bitS ns (j / 2) x := fun j => by show (if x = k then _ else _) = _; rw [if_neg hxk]
      rw [e1, e1] at this
      exact this hb)
    have h2 := h k List.mem_cons_self
    have e2 : ∀ j, bitS (k :: ns) j k = (j % 2 == 1) := fun j => by show (if k = k then _ else _) = _; rw [if_pos rfl]
    rw [e2, e2] at h2
    by_cases hi2 : i % 2 = 1
    · have : j % 2 = 1 := by simpa using h2 (by simp [hi2])
      omega
    · omega

/-- The nails of a set, rising. -/
def nailsIn (S : Nat → Bool) : List Nat := r26.filter S
theorem nailsIn_nodup (S : Nat → Bool) : (nailsIn S).Nodup := (List.nodup_range).filter _
theorem mem_nailsIn {S : Nat → Bool} {k : Nat} : k ∈ nailsIn S ↔ k < 26 ∧ S k = true := by
  unfold nailsIn
  rw [List.mem_filter, mem_r26]
theorem nextN_bitS (S : Nat → Bool) (j : Nat) : nextN S (bitS (nailsIn S) j) = bitS (nailsIn S) (j + 1) := by
  unfold nextN
  rw [nextF_filter]
  exact nextG_bitS _ _ (nailsIn_nodup S)
theorem bitS_end (S : Nat → Bool) (j : Nat) (h0 : 0 < j) (h : j ≤ 2 ^ (nailsIn S).length) : eqN (bitS (nailsIn S) j) (fun _ => false) = true ↔ j = 2 ^ (nailsIn S).length := by
  rw [eqN_iff]
  constructor
  · intro g
    rcases Nat.lt_or_ge j (2 ^ (nailsIn S).length) with hlt | hge
    · obtain ⟨x, hx, e⟩ := bitS_some _ j (nailsIn_nodup S) hlt h0
      rw [g x (mem_nailsIn.1 hx).1] at e
      cases e
    · omega
  · rintro rfl k _
    rw [bitS_full]
/-- All sets within S, in the order of their numbers. -/
theorem subsF_bits (S : Nat → Bool) : ∀ (f j : Nat), j < 2 ^ (nailsIn S).length → 2 ^ (nailsIn S).length ≤ j + f → subsF S f (bitS (nailsIn S) j) = (List.range' j (2 ^ (nailsIn S).length - j)).map (bitS (nailsIn S)) ∧ doneF S f (bitS (nailsIn S) j) = true
  | 0, j, h, h2 => by omega
  | f + 1, j, h, h2 => by
    unfold subsF doneF
    rw [nextN_bitS]
    obtain ⟨m, hm⟩ : ∃ m, 2 ^ (nailsIn S).length - j = m + 1 := ⟨2 ^ (nailsIn S).length - j - 1, by omega⟩
    rw [hm, List.range'_succ, List.map_cons]
    by_cases he : j + 1 = 2 ^ (nailsIn S).length
    · have h1 := (bitS_end S (j + 1) (by omega) (by omega)).2 he
      rw [h1, if_pos rfl, show m = 0 by omega]
      exact ⟨rfl, rfl⟩
    · have h1 : ¬ eqN (bitS (nailsIn S) (j + 1)) (fun _ => false) = true := fun g => he ((bitS_end S (j + 1) (by omega) (by omega)).1 g)
      obtain ⟨h3, h4⟩ := subsF_bits S f (j + 1) (by omega) (by omega)
      rw [if_neg h1, h3, h4, show 2 ^ (nailsIn S).length - (j + 1) = m by omega]
      exact ⟨rfl, Bool.or_true _⟩
theorem subsF_all (S : Nat → Bool) (N : Nat) (h : 2 ^ (nailsIn S).length ≤ N) : subsF S N (fun _ => false) = (List.range (2 ^ (nailsIn S).length)).map (bitS (nailsIn S)) := by
  have h1 := (subsF_bits S N 0 (Nat.pow_pos (by omega)) (by omega)).1
  rw [bitS_zero] at h1
  rw [h1, List.range_eq_range', Nat.sub_zero]
theorem doneF_all (S : Nat → Bool) (N : Nat) (h : 2 ^ (nailsIn S).length ≤ N) : doneF S N (fun _ => false) = true := by
  have h1 := (subsF_bits S N 0 (Nat.pow_pos (by omega)) (by omega)).2
  rwa [bitS_zero] at h1

theorem subN_refl (T : Nat → Bool) : subN T T = true := subN_iff.2 fun _ _ h => h
theorem subN_trans {T U V : Nat → Bool} (h : subN T U = true) (g : subN U V = true) : subN T V = true := subN_iff.2 fun k hk hv => subN_iff.1 h k hk (subN_iff.1 g k hk hv)
theorem leastStep_mem {hp : (Nat → Bool) → Bool} {out : List (Nat → Bool)} {T V : Nat → Bool} (h : V ∈ out) : V ∈ leastStep hp out T := by
  unfold leastStep
  split
  · exact List.mem_append_left _ h
  · exact h
theorem snoc_ind {α : Type} {motive : List α → Prop} (h0 : motive []) (h1 : ∀ l a, motive l → motive (l ++ [a])) (l : List α) : motive l := by
  have : ∀ r : List α, motive r.reverse := by
    intro r
    induction r with
    | nil => exact h0
    | cons a r ih => rw [List.reverse_cons]; exact h1 _ _ ih
  have := this l.reverse
  rwa [List.reverse_reverse] at this
/-- Whatever serves has a kept one within it. -/
theorem leastL_below (hp : (Nat → Bool) → Bool) (Ts : List (Nat → Bool)) : ∀ U ∈ Ts, hp U = true → ∃ V ∈ leastL hp Ts, subN U V = true := by
  induction Ts using snoc_ind with
  | h0 => intro U h; cases h
  | h1 Ts T ih =>
    intro U hU hp1
    rw [leastL_snoc]
    rcases List.mem_append.1 hU with h | h
    · obtain ⟨V, hV, e⟩ := ih U h hp1
      exact ⟨V, leastStep_mem hV, e⟩
    · obtain rfl : U = T := by simpa using h
      cases ha : (leastL hp Ts).any fun V => subN U V with
      | true =>
        obtain ⟨V, hV, e⟩ := List.any_eq_true.1 ha
        exact ⟨V, leastStep_mem hV, e⟩
      | false =>
        refine ⟨U, ?_, subN_refl U⟩
        unfold leastStep
        rw [ha, hp1, if_pos (by decide)]
        exact List.mem_append_right _ (by simp)
theorem leastL_sub (hp : (Nat → Bool) → Bool) (Ts : List (Nat → Bool)) : ∀ U ∈ leastL hp Ts, U ∈ Ts ∧ hp U = true := by
  induction Ts using snoc_ind with
  | h0 => intro U h; cases h
  | h1 Ts T ih =>
    intro U hU
    rw [leastL_snoc] at hU
    unfold leastStep at hU
    split at hU
    · rename_i hc
      rcases List.mem_append.1 hU with h | h
      · exact ⟨List.mem_append_left _ (ih U h).1, (ih U h).2⟩
      · obtain rfl : U = T := by simpa using h
        exact ⟨List.mem_append_right _ (by simp), by simpa using (Bool.and_eq_true _ _ ▸ hc).2⟩
    · exact ⟨List.mem_append_left _ (ih U hU).1, (ih U hU).2⟩
/-- What leastL keeps of sets none of which has a later one within it: the least ones that serve. -/
theorem leastL_mem (hp : (Nat → Bool) → Bool) (Ts : List (Nat → Bool)) : Ts.Pairwise (fun U T => ¬ subN U T = true) → ∀ T, T ∈ leastL hp Ts ↔ T ∈ Ts ∧ hp T = true ∧ ∀ U ∈ Ts, subN T U = true → hp U = true → U = T := by
  induction Ts using snoc_ind with
  | h0 => intro _ T; exact ⟨fun h => (by cases h), fun h => (by cases h.1)⟩
  | h1 Ts A ih =>
    intro hpw T
    rw [List.pairwise_append] at hpw
    obtain ⟨hp1, _, hp2⟩ := hpw
    have hA : ∀ U ∈ Ts, ¬ subN U A = true := fun U hU => hp2 U hU A (by simp)
    have ih := ih hp1
    rw [leastL_snoc]
    constructor
    · intro hT
      have hs := leastL_sub hp (Ts ++ [A]) T (by rw [leastL_snoc]; exact hT)
      refine ⟨hs.1, hs.2, fun U hU hTU hUp => ?_⟩
      unfold leastStep at hT
      split at hT
      · rename_i hc
        rcases List.mem_append.1 hT with h | h
        · have h3 := (ih T).1 h
          rcases List.mem_append.1 hU with g | g
          · exact h3.2.2 U g hTU hUp
          · obtain rfl : U = A := by simpa using g
            exact absurd hTU (hA T h3.1)
        · obtain rfl : T = A := by simpa using h
          rcases List.mem_append.1 hU with g | g
          · obtain ⟨V, hV, e⟩ := leastL_below hp Ts U g hUp
            have h5 : ((leastL hp Ts).any fun V => subN T V) = true := List.any_eq_true.2 ⟨V, hV, subN_trans hTU e⟩
            rw [h5] at hc
            exact absurd hc (by simp)
          · simpa using g
      · have h3 := (ih T).1 hT
        rcases List.mem_append.1 hU with g | g
        · exact h3.2.2 U g hTU hUp
        · obtain rfl : U = A := by simpa using g
          exact absurd hTU (hA T h3.1)
    · rintro ⟨hT, hTp, hmin⟩
      rcases List.mem_append.1 hT with h | h
      · exact leastStep_mem ((ih T).2 ⟨h, hTp, fun U hU => hmin U (List.mem_append_left _ hU)⟩)
      · obtain rfl : T = A := by simpa using h
        have hno : ((leastL hp Ts).any fun V => subN T V) = false := by
          cases e : (leastL hp Ts).any fun V => subN T V with
          | false => rfl
          | true =>
            obtain ⟨V, hV, g⟩ := List.any_eq_true.1 e
            have h4 := leastL_sub hp Ts V hV
            have h5 := hmin V (List.mem_append_left _ h4.1) g h4.2
            exact absurd (subN_refl T) (by have := hA V h4.1; rwa [h5] at this)
        unfold leastStep
        rw [hno, hTp, if_pos (by decide)]
        exact List.mem_append_right _ (by simp)
/-- Among the sets of numbers none has a later one within it. -/
theorem bits_pairwise (S : Nat → Bool) : ((List.range (2 ^ (nailsIn S).length)).map (bitS (nailsIn S))).Pairwise (fun U T => ¬ subN U T = true) := by
  rw [List.pairwise_map]
  refine (List.pairwise_lt_range).imp_of_mem ?_
  intro i j hi hj hij h
  rw [List.mem_range] at hi hj
  have := bitS_le (nailsIn S) j i (nailsIn_nodup S) hj (fun x hx hb => subN_iff.1 h x (mem_nailsIn.1 hx).1 hb)
  omega
theorem mem_subs (S T : Nat → Bool) (N : Nat) (h : 2 ^ (nailsIn S).length ≤ N) : T ∈ subsF S N (fun _ => false) ↔ ∀ x, T x = true → x < 26 ∧ S x = true := by
  rw [subsF_all S N h, List.mem_map]
  constructor
  · rintro ⟨j, _, rfl⟩ x hx
    rw [← mem_nailsIn]
    by_cases hm : x ∈ nailsIn S
    · exact hm
    · rw [bitS_out _ _ _ hm] at hx; cases hx
  · intro g
    obtain ⟨j, hj, e⟩ := bitS_all (nailsIn S) T (nailsIn_nodup S) (fun x hx => mem_nailsIn.2 (g x hx))
    exact ⟨j, List.mem_range.2 hj, e⟩
/-- The least of all sets within S that serve. -/
theorem least_subs (hp : (Nat → Bool) → Bool) (S : Nat → Bool) (N : Nat) (h : 2 ^ (nailsIn S).length ≤ N) (T : Nat → Bool) :
    T ∈ leastL hp (subsF S N fun _ => false) ↔ (∀ x, T x = true → x < 26 ∧ S x = true) ∧ hp T = true ∧ ∀ U, (∀ x, U x = true → T x = true) → hp U = true → U = T := by
  have hpw := bits_pairwise S
  rw [← subsF_all S N h] at hpw
  rw [leastL_mem hp _ hpw T, mem_subs S T N h]
  constructor
  · rintro ⟨h1, h2, h3⟩
    refine ⟨h1, h2, fun U hU hp1 => h3 U ((mem_subs S U N h).2 fun x hx => h1 x (hU x hx)) (subN_iff.2 fun k _ hk => hU k hk) hp1⟩
  · rintro ⟨h1, h2, h3⟩
    refine ⟨h1, h2, fun U hU hs hp1 => h3 U (fun x hx => subN_iff.1 hs x ((mem_subs S U N h).1 hU x hx).1 hx) hp1⟩
theorem least_nodup (hp : (Nat → Bool) → Bool) (S : Nat → Bool) (N : Nat) (h : 2 ^ (nailsIn S).length ≤ N) : (leastL hp (subsF S N fun _ => false)).Nodup := by
  have hpw := bits_pairwise S
  rw [← subsF_all S N h] at hpw
  have hsub : ∀ Ts : List (Nat → Bool), (leastL hp Ts).Sublist Ts := by
    intro Ts
    induction Ts using snoc_ind with
    | h0 => exact List.Sublist.refl _
    | h1 Ts A ih =>
      rw [leastL_snoc]
      unfold leastStep
      split
      · exact ih.append (List.Sublist.refl _)
      · exact ih.trans (List.sublist_append_left _ _)
  refine (hpw.sublist (hsub _)).imp ?_
  rintro U T h rfl
  exact h (subN_refl U)

end Go.Proofs.YtkdalgdckgmccaaGreatDoor
