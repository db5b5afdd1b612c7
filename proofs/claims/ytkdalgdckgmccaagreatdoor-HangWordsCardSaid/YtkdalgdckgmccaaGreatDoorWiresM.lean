/-
  The mathematics of HangWires: falling sets of a word, of its inverse, of what it is turned into.
-/
import Derived.Test.YtkdalgdckgmccaaGreatDoorCount
import Derived.Test.YtkdalgdckgmccaaGreatDoorSets
import Derived.Test.YtkdalgdckgmccaaGreatDoorText
namespace Go.Proofs.YtkdalgdckgmccaaGreatDoor

theorem falls_eq {S : Nat → Bool} {l : List Nat} (hw : IsWord l) : fallsL S (redL l) = decide (redL (l.filter (keep S)) = []) := by
  unfold fallsL leftL
  rw [red_filter (keep S) (fun c h => keep_inv S c h) hw]
theorem falls_inv {S : Nat → Bool} {l : List Nat} (hw : IsWord l) : fallsL S (redL (invL l)) = fallsL S (redL l) := by
  rw [falls_eq hw, falls_eq (invL_word hw), filter_invL (keep S) (fun c h => keep_inv S c h) hw]
  have hf := hw.filter (keep S)
  apply decide_eq_decide.2
  exact ⟨fun h => by have := red_nil_inv (invL_word hf) h; rwa [invL_invL hf] at this, red_nil_inv hf⟩
theorem red_conj1 {u v : List Nat} (hu : IsWord u) (hv : IsWord v) (h : redL u = []) : redL (v ++ (u ++ invL v)) = [] := by
  rw [← red_append_right hv (hu.append (invL_word hv)), ← red_append_left hu, h, List.nil_append, red_append_right hv (invL_word hv)]
  exact red_inv hv
theorem red_conj {u v : List Nat} (hu : IsWord u) (hv : IsWord v) : redL (v ++ (u ++ invL v)) = [] ↔ redL u = [] := by
  refine ⟨fun h => ?_, red_conj1 hu hv⟩
  have hi := invL_word hv
  have h1 := red_conj1 (v := invL v) (hv.append (hu.append hi)) hi h
  rw [invL_invL hv] at h1
  have h2 : redL (invL v ++ v) = [] := by
    have := red_inv hi
    rwa [invL_invL hv] at this
  have e : invL v ++ (v ++ (u ++ invL v) ++ v) = (invL v ++ v) ++ (u ++ (invL v ++ v)) := by simp only [List.append_assoc]
  rw [e, ← red_append_left (hi.append hv), h2, List.nil_append, ← red_append_right hu (hi.append hv), h2, List.append_nil] at h1
  exact h1
theorem falls_conj {S : Nat → Bool} {u v : List Nat} (hu : IsWord u) (hv : IsWord v) : fallsL S (redL (v ++ (u ++ invL v))) = fallsL S (redL u) := by
  rw [falls_eq hu, falls_eq (hv.append (hu.append (invL_word hv))), List.filter_append, List.filter_append, filter_invL (keep S) (fun c h => keep_inv S c h) hv]
  apply decide_eq_decide.2
  exact red_conj (hu.filter _) (hv.filter _)
theorem falls_more {S T : Nat → Bool} {l : List Nat} (hw : IsWord l) (h : ∀ k, S k = true → T k = true) (hf : fallsL S (redL l) = true) : fallsL T (redL l) = true := by
  rw [falls_eq hw] at *
  rw [decide_eq_true_eq] at *
  refine red_nil_more (fun c h => keep_inv T c h) (fun c hc => ?_) hw hf
  unfold keep at *
  cases e : S (nailN c) with
  | false => rfl
  | true => rw [h _ e] at hc; cases hc
theorem nails_mem {l : List Nat} {c : Nat} (h : c ∈ l) : nailsL l (nailN c) = true := List.any_eq_true.2 ⟨c, h, by simp⟩
theorem nails_of {l : List Nat} {k : Nat} (h : nailsL l k = true) : ∃ c ∈ l, nailN c = k := by
  obtain ⟨c, hc, e⟩ := List.any_eq_true.1 h
  exact ⟨c, hc, by simpa using e⟩
theorem falls_own {T : Nat → Bool} {l : List Nat} (hw : IsWord l) : fallsL (fun k => T k && nailsL l k) (redL l) = fallsL T (redL l) := by
  rw [falls_eq hw, falls_eq hw]
  have : l.filter (keep fun k => T k && nailsL l k) = l.filter (keep T) := List.filter_congr fun c hc => by
    show (!(T (nailN c) && nailsL l (nailN c))) = !T (nailN c)
    rw [nails_mem hc, Bool.and_true]
  rw [this]
theorem falls_all {T : Nat → Bool} {l : List Nat} (hw : IsWord l) (h : ∀ c ∈ l, T (nailN c) = true) : fallsL T (redL l) = true := by
  rw [falls_eq hw, decide_eq_true_eq]
  have : l.filter (keep T) = [] := List.filter_eq_nil_iff.2 fun c hc => by
    unfold keep
    rw [h c hc]
    decide
  rw [this]; rfl
theorem nails_inv {l : List Nat} (hw : IsWord l) : nailsL (invL l) = nailsL l := by
  funext k
  apply Bool.eq_iff_iff.2
  constructor
  · intro h
    obtain ⟨c, hc, e⟩ := nails_of h
    unfold invL at hc
    obtain ⟨d, hd, rfl⟩ := List.mem_map.1 (List.mem_reverse.1 hc)
    rw [nail_inv (hw d hd)] at e
    exact e ▸ nails_mem hd
  · intro h
    obtain ⟨c, hc, e⟩ := nails_of h
    have : inv c ∈ invL l := List.mem_reverse.2 (List.mem_map.2 ⟨c, hc, rfl⟩)
    have h2 := nails_mem this
    rwa [nail_inv (hw c hc), e] at h2
theorem sets_inv {l : List Nat} (hw : IsWord l) (N : Nat) : setsB (invL l) N = setsB l N := by
  unfold setsB
  rw [nails_inv hw]
  have : (fun T => fallsL T (redL (invL l))) = fun T => fallsL T (redL l) := funext fun T => falls_inv hw
  rw [this]
theorem names_perm {As Bs : List (Nat → Bool)} (h : As.Perm Bs) : namesB As = namesB Bs := by
  unfold namesB
  have hp : ((As.map fun S => bytesL (nameL S)).mergeSort fun x y => decide (x ≤ y)).Perm ((Bs.map fun S => bytesL (nameL S)).mergeSort fun x y => decide (x ≤ y)) :=
    (List.mergeSort_perm _ _).trans ((h.map _).trans (List.mergeSort_perm _ _).symm)
  have hs : ∀ l : List (List UInt8), (l.mergeSort fun x y => decide (x ≤ y)).Pairwise fun x y => decide (x ≤ y) = true := fun l =>
    List.pairwise_mergeSort (fun a b c h1 h2 => by
      rw [decide_eq_true_eq] at *
      exact List.le_trans h1 h2) (fun a b => by
      rw [Bool.or_eq_true, decide_eq_true_eq, decide_eq_true_eq]
      exact List.le_total a b) l
  exact hp.eq_of_pairwise (fun a b _ _ h1 h2 => by
    rw [decide_eq_true_eq] at *
    exact List.le_antisymm h1 h2) (hs _) (hs _)
theorem sets_conj {u v : List Nat} (hu : IsWord u) (hv : IsWord v) (N : Nat) (h1 : 2 ^ (nailsIn (nailsL u)).length ≤ N) (h2 : 2 ^ (nailsIn (nailsL (v ++ (u ++ invL v)))).length ≤ N) : setsB (v ++ (u ++ invL v)) N = setsB u N := by
  unfold setsB
  have e : (fun T => fallsL T (redL (v ++ (u ++ invL v)))) = fun T => fallsL T (redL u) := funext fun T => falls_conj hu hv
  rw [e]
  apply names_perm
  apply (List.perm_ext_iff_of_nodup (least_nodup _ _ N h2) (least_nodup _ _ N h1)).2
  intro T
  rw [least_subs _ _ N h2, least_subs _ _ N h1]
  constructor
  · rintro ⟨a1, a2, a3⟩
    refine ⟨fun x hx => ⟨(a1 x hx).1, ?_⟩, a2, a3⟩
    have := a3 (fun k => T k && nailsL u k) (fun x hx => (Bool.and_eq_true _ _ ▸ hx : _ ∧ _).1) ((falls_own hu).trans a2)
    have := congrFun this x
    simp only [hx, Bool.true_and] at this
    exact this
  · rintro ⟨a1, a2, a3⟩
    refine ⟨fun x hx => ⟨(a1 x hx).1, ?_⟩, a2, a3⟩
    obtain ⟨c, hc, rfl⟩ := nails_of (a1 x hx).2
    exact nails_mem (by simp [hc])

end Go.Proofs.YtkdalgdckgmccaaGreatDoor
