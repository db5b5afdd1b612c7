/-
  The mathematics of HangBack: with which nails the word of Hang falls, the dual of the dual, and the reduced list.
-/
import Derived.Test.YtkdalgdckgmccaaGreatDoorRedM
import Derived.Test.YtkdalgdckgmccaaGreatDoorHang
namespace Go.Proofs.YtkdalgdckgmccaaGreatDoor

/-- A set of the 26 nails. -/
def Sup (S : Nat → Bool) : Prop := ∀ k, S k = true → k < 26
/-- Whether a set contains one of a list. -/
def hasB (Ss : List (Nat → Bool)) (T : Nat → Bool) : Bool := Ss.any fun S => subN T S
/-- Whether a set has a nail of each of a list. -/
def hitB (Ss : List (Nat → Bool)) (T : Nat → Bool) : Bool := Ss.all fun S => meetN T S

theorem meetN_iff {S T : Nat → Bool} : meetN S T = true ↔ ∃ k, k < 26 ∧ S k = true ∧ T k = true := by
  unfold meetN
  rw [List.any_eq_true]
  constructor
  · rintro ⟨k, hk, h⟩
    rw [Bool.and_eq_true] at h
    exact ⟨k, mem_r26.1 hk, h⟩
  · rintro ⟨k, hk, h⟩
    exact ⟨k, mem_r26.2 hk, by rw [Bool.and_eq_true]; exact h⟩
theorem hasB_iff {Ss : List (Nat → Bool)} {T : Nat → Bool} : hasB Ss T = true ↔ ∃ S ∈ Ss, subN T S = true := by unfold hasB; rw [List.any_eq_true]
theorem hitB_iff {Ss : List (Nat → Bool)} {T : Nat → Bool} : hitB Ss T = true ↔ ∀ S ∈ Ss, meetN T S = true := by unfold hitB; rw [List.all_eq_true]
theorem union_iff {Ss : List (Nat → Bool)} {k : Nat} : unionN Ss k = true ↔ ∃ S ∈ Ss, S k = true := by unfold unionN; rw [List.any_eq_true]
theorem sub_eq {S T : Nat → Bool} (hS : Sup S) (hT : Sup T) (h : subN S T = true) (g : subN T S = true) : S = T := by
  funext k
  apply Bool.eq_iff_iff.2
  exact ⟨fun e => subN_iff.1 g k (hS k e) e, fun e => subN_iff.1 h k (hT k e) e⟩
theorem eqN_sup {S T : Nat → Bool} (hS : Sup S) (hT : Sup T) : eqN S T = true ↔ S = T := by
  rw [eqN_iff]
  constructor
  · intro h
    funext k
    rcases Nat.lt_or_ge k 26 with hk | hk
    · exact h k hk
    · have h1 : S k = false := by
        cases e : S k with
        | false => rfl
        | true => have := hS k e; omega
      have h2 : T k = false := by
        cases e : T k with
        | false => rfl
        | true => have := hT k e; omega
      rw [h1, h2]
  · rintro rfl k _; rfl

/-- The least hitting sets. -/
theorem dualL_mem {Ss : List (Nat → Bool)} {N : Nat} (h : 2 ^ (nailsIn (unionN Ss)).length ≤ N) (T : Nat → Bool) :
    T ∈ dualL Ss N ↔ (∀ x, T x = true → x < 26 ∧ unionN Ss x = true) ∧ hitB Ss T = true ∧ ∀ U, (∀ x, U x = true → T x = true) → hitB Ss U = true → U = T := least_subs _ _ N h T
/-- A set contains one of a list just if it has a nail of each set of the dual. -/
theorem has_hit {Ss : List (Nat → Bool)} {N : Nat} (h : 2 ^ (nailsIn (unionN Ss)).length ≤ N) (T : Nat → Bool) : hasB Ss T = hitB (dualL Ss N) T := by
  apply Bool.eq_iff_iff.2
  rw [hasB_iff, hitB_iff]
  constructor
  · rintro ⟨S, hS, hs⟩ D hD
    obtain ⟨_, h2, _⟩ := (dualL_mem h D).1 hD
    obtain ⟨k, hk, h3, h4⟩ := meetN_iff.1 (hitB_iff.1 h2 S hS)
    exact meetN_iff.2 ⟨k, hk, subN_iff.1 hs k hk h4, h3⟩
  · intro hall
    cases hc : hasB Ss T with
    | true => exact hasB_iff.1 hc
    | false =>
      have hno : ∀ S ∈ Ss, ¬ subN T S = true := fun S hS e => by
        have := hasB_iff.2 ⟨S, hS, e⟩
        rw [hc] at this; cases this
      have hU : hitB Ss (fun k => unionN Ss k && decide (k < 26) && !T k) = true := hitB_iff.2 fun S hS => by
        have hn := hno S hS
        rw [subN_iff] at hn
        have hex : ∃ k, k < 26 ∧ S k = true ∧ T k = false := by
          apply Classical.byContradiction
          intro hne
          refine hn fun k hk hSk => ?_
          cases hT : T k with
          | true => rfl
          | false => exact absurd ⟨k, hk, hSk, hT⟩ hne
        obtain ⟨k, hk, hSk, hTk⟩ := hex
        refine meetN_iff.2 ⟨k, hk, ?_, hSk⟩
        have := union_iff.2 ⟨S, hS, hSk⟩
        simp [this, hk, hTk]
      have hmem : (fun k => unionN Ss k && decide (k < 26) && !T k) ∈ subsF (unionN Ss) N fun _ => false := (mem_subs _ _ N h).2 fun x hx => by
        simp only [Bool.and_eq_true, decide_eq_true_eq] at hx
        exact ⟨hx.1.2, hx.1.1⟩
      obtain ⟨V, hV, hs⟩ := leastL_below _ _ _ hmem hU
      obtain ⟨k, hk, h3, h4⟩ := meetN_iff.1 (hall V hV)
      have := subN_iff.1 hs k hk h4
      simp [h3] at this
/-- No set of the dual is within another one. -/
theorem dual_anti {Ss : List (Nat → Bool)} {N : Nat} (h : 2 ^ (nailsIn (unionN Ss)).length ≤ N) {D E : Nat → Bool} (hD : D ∈ dualL Ss N) (hE : E ∈ dualL Ss N) (hs : ∀ x, D x = true → E x = true) : D = E :=
  ((dualL_mem h E).1 hE).2.2 D hs ((dualL_mem h D).1 hD).2.1
theorem dual_sup {Ss : List (Nat → Bool)} {N : Nat} (h : 2 ^ (nailsIn (unionN Ss)).length ≤ N) {D : Nat → Bool} (hD : D ∈ dualL Ss N) : Sup D := fun k hk => (((dualL_mem h D).1 hD).1 k hk).1

theorem nameL_once (S : Nat → Bool) : Once (nameL S) := by
  refine ⟨nameL_word S, ?_⟩
  unfold nameL
  rw [List.pairwise_map]
  have hp : (r26.filter S).Pairwise (· ≠ ·) := (List.nodup_range (n := 26)).filter _
  refine hp.imp ?_
  intro a b hab e
  unfold nailN at e
  rw [if_pos (by omega), if_pos (by omega)] at e
  omega
theorem nameL_nail {S : Nat → Bool} {c : Nat} (h : c ∈ nameL S) : nailN c < 26 ∧ S (nailN c) = true := by
  unfold nameL at h
  obtain ⟨k, hk, rfl⟩ := List.mem_map.1 h
  have : nailN (97 + k) = k := by unfold nailN; rw [if_pos (by omega)]; omega
  rw [this]
  exact ⟨mem_r26.1 (List.mem_filter.1 hk).1, (List.mem_filter.1 hk).2⟩
theorem nameL_mem {S : Nat → Bool} {k : Nat} (hk : k < 26) (h : S k = true) : 97 + k ∈ nameL S ∧ nailN (97 + k) = k := by
  refine ⟨List.mem_map.2 ⟨k, List.mem_filter.2 ⟨mem_r26.2 hk, h⟩, rfl⟩, ?_⟩
  unfold nailN
  rw [if_pos (by omega)]
  omega

/-- The word of Hang falls with just the sets that contain one of the list. -/
theorem hang_falls {Ss : List (Nat → Bool)} {N : Nat} (h : 2 ^ (nailsIn (unionN Ss)).length ≤ N) (h0 : Ss ≠ []) (T : Nat → Bool) :
    fallsL T (redL (hangL Ss N)) = hasB Ss T := by
  obtain ⟨hword, _⟩ := tied_flat (dualL Ss N)
  have hfw := flat_word hword
  unfold hangL
  rw [red_red hfw, falls_eq hfw, has_hit h T]
  apply Bool.eq_iff_iff.2
  rw [decide_eq_true_eq, hitB_iff]
  have hlen : ∀ D : Nat → Bool, (nameL D).length ≤ 25 + 1 := fun D => nameL_length D
  have hkeep : ∀ (U : Nat → Bool) (D : Nat → Bool), meetN U D = true → redL ((tiedF 25 (nameL D)).filter (keep U)) = [] := fun U D hm => by
    obtain ⟨k, hk, h1, h2⟩ := meetN_iff.1 hm
    obtain ⟨m1, m2⟩ := nameL_mem hk h2
    refine tied_falls (keep U) (fun c hc => keep_inv U c hc) 25 (nameL_word D) (hlen D) ⟨_, m1, ?_⟩
    unfold keep
    rw [m2, h1]; rfl
  constructor
  · intro he D hD
    cases hc : meetN T D with
    | true => rfl
    | false =>
      -- all nails but those of D are pulled
      have hsub : ∀ k, T k = true → (decide (k < 26) = true → D k = false) := fun k hk hk2 => by
        cases e : D k with
        | false => rfl
        | true =>
          have := meetN_iff.2 ⟨k, of_decide_eq_true hk2, hk, e⟩
          rw [hc] at this; cases this
      have hless : redL ((List.flatten ((dualL Ss N).map fun S => tiedF 25 (nameL S))).filter (keep fun k => !D k)) = [] := by
        refine red_nil_more (P := keep T) (fun c hc => keep_inv _ c hc) (fun c hcc => ?_) hfw he
        unfold keep at *
        rw [Bool.not_not] at hcc
        cases e : T (nailN c) with
        | false => rfl
        | true =>
          have := hsub _ e (decide_eq_true (dual_sup h hD _ hcc))
          rw [hcc] at this; cases this
      obtain ⟨As, Bs, hAB⟩ := List.append_of_mem hD
      have hnd : (dualL Ss N).Nodup := least_nodup _ _ N h
      have hother : ∀ E ∈ dualL Ss N, E ≠ D → redL ((tiedF 25 (nameL E)).filter (keep fun k => !D k)) = [] := fun E hE hne => by
        refine hkeep _ E ?_
        have hex : ∃ k, E k = true ∧ D k = false := by
          apply Classical.byContradiction
          intro hno
          refine hne (dual_anti h hE hD fun x hx => ?_)
          cases e : D x with
          | true => rfl
          | false => exact absurd ⟨x, hx, e⟩ hno
        obtain ⟨k, h1, h2⟩ := hex
        exact meetN_iff.2 ⟨k, dual_sup h hE k h1, by rw [h2]; rfl, h1⟩
      rw [hAB, List.nodup_append] at hnd
      obtain ⟨_, n2, n3⟩ := hnd
      rw [List.nodup_cons] at n2
      have hA : ∀ E ∈ As, E ≠ D := fun E hE e => n3 E hE D (by simp) e
      have hB : ∀ E ∈ Bs, E ≠ D := fun E hE e => n2.1 (e ▸ hE)
      rw [filter_flat, List.map_map, hAB, List.map_append, List.map_cons] at hless
      have hwall : ∀ m ∈ (As.map ((fun l : List Nat => l.filter (keep fun k => !D k)) ∘ fun S => tiedF 25 (nameL S))) ++ ((fun l : List Nat => l.filter (keep fun k => !D k)) ∘ fun S => tiedF 25 (nameL S)) D :: (Bs.map ((fun l : List Nat => l.filter (keep fun k => !D k)) ∘ fun S => tiedF 25 (nameL S))), IsWord m := by
        intro m hm
        have : ∃ E, m = (tiedF 25 (nameL E)).filter (keep fun k => !D k) := by
          rcases List.mem_append.1 hm with hm | hm
          · obtain ⟨E, _, e⟩ := List.mem_map.1 hm
            exact ⟨E, e.symm⟩
          · rcases List.mem_cons.1 hm with hm | hm
            · exact ⟨D, hm⟩
            · obtain ⟨E, _, e⟩ := List.mem_map.1 hm
              exact ⟨E, e.symm⟩
        obtain ⟨E, rfl⟩ := this
        exact (tiedF_word 25 (nameL_word E)).filter _
      rw [red_flat_one hwall (fun m hm => by
        obtain ⟨E, hE, rfl⟩ := List.mem_map.1 hm
        exact hother E (by rw [hAB]; simp [hE]) (hA E hE)) (fun m hm => by
        obtain ⟨E, hE, rfl⟩ := List.mem_map.1 hm
        exact hother E (by rw [hAB]; simp [hE]) (hB E hE))] at hless
      -- what is left is D's part
      have hne : nameL D ≠ [] := fun e => by
        obtain ⟨S, hS⟩ := List.exists_mem_of_ne_nil _ h0
        obtain ⟨k, hk, h1, _⟩ := meetN_iff.1 (hitB_iff.1 ((dualL_mem h D).1 hD).2.1 S hS)
        have := (nameL_mem hk h1).1
        rw [e] at this; cases this
      obtain ⟨t1, t2, t3⟩ := tied_red 25 (nameL_once D) hne (hlen D)
      have hfl : (tiedF 25 (nameL D)).filter (keep fun k => !D k) = tiedF 25 (nameL D) := List.filter_eq_self.2 fun c hc => by
        obtain ⟨d, hd, e⟩ := t3 c hc
        show (!(!D (nailN c))) = true
        rw [e, (nameL_nail hd).2]; rfl
      have hless2 : redL ((tiedF 25 (nameL D)).filter (keep fun k => !D k)) = [] := hless
      rw [hfl, red_of_red (redS_rev (tiedF_word 25 (nameL_word D)) t1)] at hless2
      exact absurd hless2 t2
  · intro hall
    rw [filter_flat, List.map_map]
    refine red_flat_nil (fun m hm => ?_) (fun m hm => ?_)
    · obtain ⟨E, _, rfl⟩ := List.mem_map.1 hm
      exact (tiedF_word 25 (nameL_word E)).filter _
    · obtain ⟨E, hE, rfl⟩ := List.mem_map.1 hm
      exact hkeep T E (hall E hE)

/-- One set more, if it contains no other one, and is not there. -/
def minStep (Ss out : List (Nat → Bool)) (S : Nat → Bool) : List (Nat → Bool) := if (!(Ss.any fun T => !eqN S T && subN S T) && !(out.any fun T => eqN S T)) = true then out ++ [S] else out
/-- The reduced list. -/
def minL (Ss : List (Nat → Bool)) : List (Nat → Bool) := Ss.foldl (minStep Ss) []
def minTo (Ss Ts : List (Nat → Bool)) : List (Nat → Bool) := Ts.foldl (minStep Ss) []
theorem minTo_snoc (Ss Ts : List (Nat → Bool)) (S : Nat → Bool) : minTo Ss (Ts ++ [S]) = minStep Ss (minTo Ss Ts) S := by unfold minTo; rw [List.foldl_append]; rfl
theorem minStep_length (Ss out : List (Nat → Bool)) (S : Nat → Bool) : (minStep Ss out S).length ≤ out.length + 1 := by
  unfold minStep
  split
  · simp
  · omega
theorem minTo_length (Ss Ts : List (Nat → Bool)) : (minTo Ss Ts).length ≤ Ts.length := by
  induction Ts using snoc_ind with
  | h0 => exact Nat.le_refl _
  | h1 Ts T ih =>
    rw [minTo_snoc]
    have := minStep_length Ss (minTo Ss Ts) T
    simp only [List.length_append, List.length_singleton]
    omega
theorem minTo_mem {Ss Ts : List (Nat → Bool)} (hs : ∀ S ∈ Ss, Sup S) (hT : ∀ T ∈ Ts, T ∈ Ss) : (minTo Ss Ts).Nodup ∧ ∀ T, T ∈ minTo Ss Ts ↔ T ∈ Ts ∧ ∀ U ∈ Ss, subN T U = true → U = T := by
  induction Ts using snoc_ind with
  | h0 => exact ⟨List.nodup_nil, fun T => ⟨fun h => (by cases h), fun h => (by cases h.1)⟩⟩
  | h1 Ts A ih =>
    obtain ⟨i1, i2⟩ := ih fun T h => hT T (List.mem_append_left _ h)
    have hA := hT A (by simp)
    have e1 : (Ss.any fun T => !eqN A T && subN A T) = false ↔ ∀ U ∈ Ss, subN A U = true → U = A := by
      rw [List.any_eq_false]
      constructor
      · intro h U hU hsub
        have := h U hU
        rw [hsub, Bool.and_true] at this
        simp only [Bool.not_eq_true', Bool.not_eq_false] at this
        exact ((eqN_sup (hs A hA) (hs U hU)).1 this).symm
      · intro h U hU e
        rw [Bool.and_eq_true] at e
        have := h U hU e.2
        subst this
        rw [(eqN_sup (hs U hU) (hs U hU)).2 rfl] at e
        cases e.1
    have e2 : ((minTo Ss Ts).any fun T => eqN A T) = false ↔ A ∉ minTo Ss Ts := by
      rw [List.any_eq_false]
      constructor
      · intro h hm
        exact h A hm ((eqN_sup (hs A hA) (hs A hA)).2 rfl)
      · intro h T hTm e
        have := (eqN_sup (hs A hA) (hs T (hT T (List.mem_append_left _ ((i2 T).1 hTm).1)))).1 e
        exact h (this ▸ hTm)
    rw [minTo_snoc]
    unfold minStep
    by_cases hmin : ∀ U ∈ Ss, subN A U = true → U = A
    · by_cases hin : A ∈ minTo Ss Ts
      · have n2 : ¬ ((minTo Ss Ts).any fun T => eqN A T) = false := fun e => e2.1 e hin
        rw [if_neg (by simp only [Bool.not_eq_false] at n2; rw [n2]; simp)]
        refine ⟨i1, fun T => ?_⟩
        rw [i2 T]
        constructor
        · rintro ⟨a, b⟩; exact ⟨List.mem_append_left _ a, b⟩
        · rintro ⟨a, b⟩
          rcases List.mem_append.1 a with a | a
          · exact ⟨a, b⟩
          · obtain rfl : T = A := by simpa using a
            exact (i2 T).1 hin
      · rw [e1.2 hmin, e2.2 hin, if_pos (by decide)]
        refine ⟨List.nodup_append.2 ⟨i1, by simp, fun x hx y hy e => ?_⟩, fun T => ?_⟩
        · obtain rfl : y = A := by simpa using hy
          exact hin (e ▸ hx)
        · rw [List.mem_append, i2 T, List.mem_append]
          constructor
          · rintro (⟨a, b⟩ | a)
            · exact ⟨.inl a, b⟩
            · obtain rfl : T = A := by simpa using a
              exact ⟨.inr a, hmin⟩
          · rintro ⟨a | a, b⟩
            · exact .inl ⟨a, b⟩
            · exact .inr a
    · have n1 : ¬ (Ss.any fun T => !eqN A T && subN A T) = false := fun e => hmin (e1.1 e)
      rw [if_neg (by simp only [Bool.not_eq_false] at n1; rw [n1]; simp)]
      refine ⟨i1, fun T => ?_⟩
      rw [i2 T]
      constructor
      · rintro ⟨a, b⟩; exact ⟨List.mem_append_left _ a, b⟩
      · rintro ⟨a, b⟩
        rcases List.mem_append.1 a with a | a
        · exact ⟨a, b⟩
        · obtain rfl : T = A := by simpa using a
          exact absurd b hmin
theorem minL_mem {Ss : List (Nat → Bool)} (hs : ∀ S ∈ Ss, Sup S) : (minL Ss).Nodup ∧ ∀ T, T ∈ minL Ss ↔ T ∈ Ss ∧ ∀ U ∈ Ss, subN T U = true → U = T := minTo_mem hs fun _ h => h
theorem sub_of {S T : Nat → Bool} (h : ∀ x, T x = true → S x = true) : subN S T = true := subN_iff.2 fun k _ hk => h k hk
theorem of_sub {S T : Nat → Bool} (hT : Sup T) (h : subN S T = true) : ∀ x, T x = true → S x = true := fun x hx => subN_iff.1 h x (hT x hx) hx
/-- The least sets that contain one of a list, tried within a set that decides, are the reduced list. -/
theorem least_has {Ss : List (Nat → Bool)} (hs : ∀ S ∈ Ss, Sup S) {hp : (Nat → Bool) → Bool} (hhp : ∀ T, hp T = hasB Ss T) (U : Nat → Bool) (hU : ∀ T, hp (fun k => T k && U k) = hp T) (N : Nat) (hN : 2 ^ (nailsIn U).length ≤ N) :
    (leastL hp (subsF U N fun _ => false)).Perm (minL Ss) := by
  obtain ⟨m1, m2⟩ := minL_mem hs
  apply (List.perm_ext_iff_of_nodup (least_nodup _ _ N hN) m1).2
  intro T
  rw [least_subs _ _ N hN, m2]
  constructor
  · rintro ⟨a1, a2, a3⟩
    rw [hhp] at a2
    obtain ⟨S, hS, e⟩ := hasB_iff.1 a2
    have key : ∀ V ∈ Ss, subN T V = true → V = T := fun V hV e => a3 V (of_sub (hs V hV) e) (by rw [hhp]; exact hasB_iff.2 ⟨V, hV, subN_refl V⟩)
    exact ⟨key S hS e ▸ hS, key⟩
  · rintro ⟨a1, a2⟩
    have hhT : hp T = true := by rw [hhp]; exact hasB_iff.2 ⟨T, a1, subN_refl T⟩
    have key : ∀ V, (∀ x, V x = true → T x = true) → hp V = true → V = T := fun V hV hv => by
      rw [hhp] at hv
      obtain ⟨S, hS, e⟩ := hasB_iff.1 hv
      have h1 := of_sub (hs S hS) e
      have h2 : S = T := a2 S hS (sub_of fun x hx => hV x (h1 x hx))
      funext x
      apply Bool.eq_iff_iff.2
      exact ⟨hV x, fun hx => h1 x (by rw [h2]; exact hx)⟩
    refine ⟨fun x hx => ⟨hs T a1 x hx, ?_⟩, hhT, key⟩
    have := key (fun k => T k && U k) (fun x hx => (Bool.and_eq_true _ _ ▸ hx : _ ∧ _).1) ((hU T).trans hhT)
    have := congrFun this x
    simp only [hx, Bool.true_and] at this
    exact this

end Go.Proofs.YtkdalgdckgmccaaGreatDoor
