/-
  The mathematics of HangSets: the reference's falling sets are the program's.
-/
import Derived.Test.YtolppbilcmobbaaRefI
namespace Go.Proofs.Ytolppbilcmobbaa
open Go.RowKit

theorem selL_map (f : Nat → Nat) : ∀ (l : List Nat) (j : Nat), selL (l.map f) j = (selL l j).map f
  | [], _ => rfl
  | k :: l, j => by
    rw [List.map_cons]
    show (if j % 2 = 1 then f k :: selL (l.map f) (j / 2) else selL (l.map f) (j / 2)) = _
    rw [selL_map f l (j / 2)]
    show _ = (if j % 2 = 1 then k :: selL l (j / 2) else selL l (j / 2)).map f
    split <;> rfl
theorem selL_sublist : ∀ (l : List Nat) (j : Nat), (selL l j).Sublist l
  | [], _ => List.Sublist.refl _
  | k :: l, j => by
    unfold selL
    split
    · exact (selL_sublist l _).cons_cons k
    · exact (selL_sublist l _).cons k
/-- The letters that a number names are those of its set. -/
theorem sel_name (U : Nat → Bool) (j : Nat) : selL (nameL U) j = nameL (bitS (nailsIn U) j) := by
  have e : nameL U = (nailsIn U).map fun k => 97 + k := rfl
  rw [e, selL_map]
  show _ = (nailsIn (bitS (nailsIn U) j)).map fun k => 97 + k
  congr 1
  have hp : ∀ P : Nat → Bool, (nailsIn P).Pairwise (· < ·) := fun P => (List.pairwise_lt_range (n := 26)).filter P
  have hs : (selL (nailsIn U) j).Pairwise (· < ·) := (hp U).sublist (selL_sublist _ _)
  have hperm : (selL (nailsIn U) j).Perm (nailsIn (bitS (nailsIn U) j)) := (List.perm_ext_iff_of_nodup (selL_nodup _ j (nailsIn_nodup U)) (nailsIn_nodup _)).2 fun k => by
    rw [selL_bit _ j k (nailsIn_nodup U), mem_nailsIn]
    constructor
    · intro h
      have := (selL_bit _ j k (nailsIn_nodup U)).2 h
      exact ⟨(mem_nailsIn.1 (selL_sub _ _ _ this)).1, h⟩
    · exact fun h => h.2
  exact hperm.eq_of_pairwise (fun a b _ _ h1 h2 => absurd (Nat.lt_trans h1 h2) (Nat.lt_irrefl _)) hs (hp _)

/-- The name of a set as a string. -/
def nmS (S : Nat → Bool) : ByteArray := strL (nameL S)
theorem nmS_letters (S : Nat → Bool) : lettersOf (nmS S) = nameL S := letters_strL (nameL_word S).lt256
theorem nmS_inj {S T : Nat → Bool} (hS : Sup S) (hT : Sup T) (h : nmS S = nmS T) : S = T := by
  have := congrArg lettersOf h
  rw [nmS_letters, nmS_letters] at this
  rw [← nails_name hS, this, nails_name hT]
theorem bitS_sup (U : Nat → Bool) (j : Nat) : Sup (bitS (nailsIn U) j) := fun k hk => by
  have := (selL_bit _ j k (nailsIn_nodup U)).2 hk
  exact (mem_nailsIn.1 (selL_sub _ _ _ this)).1
theorem fallAt_eq {l : List Nat} (hw : IsWord l) (j : Nat) : fallAt l j = fallsL (bitS (nailsIn (nailsL l)) j) (redL l) := by
  unfold fallAt
  rw [sel_name, stay_keep (rising_name _), nails_name (bitS_sup _ _), ← falls_eq hw]
theorem fallTo_eq {l : List Nat} (hw : IsWord l) {N : Nat} (h : 2 ^ (nailsIn (nailsL l)).length ≤ N) : fallTo l (2 ^ (nameL (nailsL l)).length) = ((subsF (nailsL l) N fun _ => false).filter fun T => fallsL T (redL l)).map nmS := by
  have e : (nameL (nailsL l)).length = (nailsIn (nailsL l)).length := List.length_map ..
  rw [e, subsF_all _ N h, List.filter_map, List.map_map]
  unfold fallTo
  have e2 : fallAt l = (fun T => fallsL T (redL l)) ∘ bitS (nailsIn (nailsL l)) := funext fun j => fallAt_eq hw j
  rw [e2]
  apply List.map_congr_left
  intro j _
  show strL (selL (nameL (nailsL l)) j) = nmS _
  rw [sel_name]; rfl

theorem insL_mem {s y : ByteArray} : ∀ {l : List ByteArray}, y ∈ insL l s ↔ y = s ∨ y ∈ l
  | [] => by
    show y ∈ [s] ↔ _
    simp
  | x :: r => by
    unfold insL
    split
    · rw [List.mem_cons, insL_mem (l := r), List.mem_cons]
      constructor
      · rintro (h | h | h)
        · exact .inr (.inl h)
        · exact .inl h
        · exact .inr (.inr h)
      · rintro (h | h | h)
        · exact .inr (.inl h)
        · exact .inl h
        · exact .inr (.inr h)
    · split
      · rename_i e
        rw [List.mem_cons]
        constructor
        · exact .inr
        · rintro (h | h)
          · exact .inl (h.trans e.symm)
          · exact h
      · rw [List.mem_cons]
theorem lessB_eq (a b : ByteArray) : lessB a b = decide (a.toList < b.toList) := bytesLess_eq _ _
theorem toList_inj {a b : ByteArray} (h : a.toList = b.toList) : a = b := by
  rw [← strL_letters a, ← strL_letters b]
  unfold lettersOf
  rw [← ByteArray.toList_eq, ← ByteArray.toList_eq, h]
/-- In the order of strings, each once. -/
def Ordered (l : List ByteArray) : Prop := (l.Pairwise fun a b => a.toList ≤ b.toList) ∧ l.Nodup
theorem insL_ordered {s : ByteArray} : ∀ {l : List ByteArray}, Ordered l → Ordered (insL l s)
  | [], _ => ⟨by show List.Pairwise _ [s]; simp, by show [s].Nodup; simp⟩
  | x :: r, ⟨h1, h2⟩ => by
    rw [List.pairwise_cons] at h1
    rw [List.nodup_cons] at h2
    obtain ⟨i1, i2⟩ := insL_ordered (s := s) ⟨h1.2, h2.2⟩
    unfold insL
    split
    · rename_i e
      rw [lessB_eq, decide_eq_true_eq] at e
      refine ⟨List.pairwise_cons.2 ⟨fun y hy => ?_, i1⟩, List.nodup_cons.2 ⟨fun hx => ?_, i2⟩⟩
      · rcases insL_mem.1 hy with rfl | hy
        · exact List.le_of_lt e
        · exact h1.1 y hy
      · rcases insL_mem.1 hx with rfl | hx
        · exact List.lt_irrefl _ e
        · exact h2.1 hx
    · rename_i e
      rw [lessB_eq, decide_eq_true_eq, List.not_lt] at e
      split
      · exact ⟨List.pairwise_cons.2 h1, List.nodup_cons.2 h2⟩
      · rename_i hne
        refine ⟨List.pairwise_cons.2 ⟨fun y hy => ?_, List.pairwise_cons.2 h1⟩, List.nodup_cons.2 ⟨fun hx => ?_, List.nodup_cons.2 h2⟩⟩
        · rcases List.mem_cons.1 hy with rfl | hy
          · exact e
          · exact List.le_trans e (h1.1 y hy)
        · rcases List.mem_cons.1 hx with hx | hx
          · exact hne hx.symm
          · exact hne (toList_inj (List.le_antisymm (h1.1 s hx) e))
theorem insAll_facts (l : List ByteArray) : Ordered (insAll l) ∧ ∀ y, y ∈ insAll l ↔ y ∈ l := by
  have : ∀ (l out : List ByteArray), Ordered out → Ordered (l.foldl insL out) ∧ ∀ y, y ∈ l.foldl insL out ↔ y ∈ out ∨ y ∈ l := by
    intro l
    induction l with
    | nil => intro out h; exact ⟨h, fun y => by simp⟩
    | cons x l ih =>
      intro out h
      obtain ⟨a, b⟩ := ih (insL out x) (insL_ordered h)
      refine ⟨a, fun y => ?_⟩
      rw [List.foldl_cons, b y, insL_mem, List.mem_cons]
      constructor
      · rintro ((h | h) | h)
        · exact .inr (.inl h)
        · exact .inl h
        · exact .inr (.inr h)
      · rintro (h | h | h)
        · exact .inl (.inr h)
        · exact .inl (.inl h)
        · exact .inr h
  obtain ⟨a, b⟩ := this l [] ⟨List.Pairwise.nil, List.nodup_nil⟩
  exact ⟨a, fun y => by rw [insAll, b y]; simp⟩
/-- Sorted names as strings. -/
theorem names_ordered {Ls : List (Nat → Bool)} (hn : Ls.Nodup) (hs : ∀ S ∈ Ls, Sup S) : Ordered ((namesB Ls).map fun b => (⟨b.toArray⟩ : ByteArray)) ∧ ∀ y, y ∈ ((namesB Ls).map fun b => (⟨b.toArray⟩ : ByteArray)) ↔ y ∈ Ls.map nmS := by
  have hb : ∀ b : List UInt8, (⟨b.toArray⟩ : ByteArray).toList = b := fun b => by rw [ByteArray.toList_eq]
  have hperm : ((namesB Ls).map fun b => (⟨b.toArray⟩ : ByteArray)).Perm (Ls.map nmS) := by
    unfold namesB
    refine ((List.mergeSort_perm _ _).map _).trans ?_
    rw [List.map_map]
    have : Ls.map ((fun b => (⟨b.toArray⟩ : ByteArray)) ∘ fun S => bytesL (nameL S)) = Ls.map nmS := List.map_congr_left fun S _ => by
      show (⟨(bytesL (nameL S)).toArray⟩ : ByteArray) = strL (nameL S)
      rw [strL_bytes]
    rw [this]
  refine ⟨⟨?_, ?_⟩, fun y => hperm.mem_iff⟩
  · rw [List.pairwise_map]
    have h := List.pairwise_mergeSort (le := fun x y : List UInt8 => decide (x ≤ y)) (fun a b c h1 h2 => by
      rw [decide_eq_true_eq] at *
      exact List.le_trans h1 h2) (fun a b => by
      rw [Bool.or_eq_true, decide_eq_true_eq, decide_eq_true_eq]
      exact List.le_total a b) (Ls.map fun S => bytesL (nameL S))
    refine List.Pairwise.imp ?_ h
    intro a b hab
    rw [hb, hb]
    exact of_decide_eq_true hab
  · refine hperm.nodup_iff.2 ?_
    refine List.Pairwise.map nmS ?_ (List.Pairwise.and_mem.1 hn)
    rintro S T ⟨h1, h2, h3⟩ e
    exact h3 (nmS_inj (hs S h1) (hs T h2) e)
theorem ordered_eq {l m : List ByteArray} (hl : Ordered l) (hm : Ordered m) (h : ∀ y, y ∈ l ↔ y ∈ m) : l = m :=
  ((List.perm_ext_iff_of_nodup hl.2 hm.2).2 h).eq_of_pairwise (fun a b _ _ h1 h2 => toList_inj (List.le_antisymm h1 h2)) hl.1 hm.1
theorem offR_nm {S T : Nat → Bool} (hS : Sup S) (hT : Sup T) : offR (nmS S) (nmS T) = true ↔ (subN S T = true → T = S) := by
  unfold offR
  rw [nmS_letters, nmS_letters, contains_sub (rising_name S) (rising_name T), nails_name hS, nails_name hT, Bool.or_eq_true, decide_eq_true_eq]
  constructor
  · rintro (h | h) hs
    · exact nmS_inj hT hS h
    · rw [hs] at h; cases h
  · intro h
    cases e : subN S T with
    | true => exact .inl (by rw [h e])
    | false => exact .inr rfl
/-- The reference's falling sets are the program's. -/
theorem setsR_eq {l : List Nat} (hw : IsWord l) {N : Nat} (h : 2 ^ (nailsIn (nailsL l)).length ≤ N) : setsR l = (setsB l N).map fun b => (⟨b.toArray⟩ : ByteArray) := by
  unfold setsR setsB leastR
  rw [fallTo_eq hw h]
  have hsup : ∀ T ∈ subsF (nailsL l) N (fun _ => false), Sup T := fun T hT k hk => ((mem_subs _ _ N h).1 hT k hk).1
  have hmem := leastL_mem (fun T => fallsL T (redL l)) (subsF (nailsL l) N fun _ => false) (by rw [subsF_all _ N h]; exact bits_pairwise _)
  have hsupL : ∀ S ∈ leastL (fun T => fallsL T (redL l)) (subsF (nailsL l) N fun _ => false), Sup S := fun S hS => hsup S ((hmem S).1 hS).1
  obtain ⟨n1, n2⟩ := names_ordered (least_nodup (fun T => fallsL T (redL l)) (nailsL l) N h) hsupL
  obtain ⟨i1, i2⟩ := insAll_facts (((((subsF (nailsL l) N fun _ => false).filter fun T => fallsL T (redL l)).map nmS).filter (okR (((subsF (nailsL l) N fun _ => false).filter fun T => fallsL T (redL l)).map nmS))))
  refine ordered_eq i1 n1 fun y => ?_
  rw [i2, n2, List.mem_filter, List.mem_map, List.mem_map]
  have hok : ∀ S ∈ subsF (nailsL l) N (fun _ => false), okR (((subsF (nailsL l) N fun _ => false).filter fun T => fallsL T (redL l)).map nmS) (nmS S) = true ↔ ∀ U ∈ subsF (nailsL l) N (fun _ => false), subN S U = true → fallsL U (redL l) = true → U = S := fun S hS => by
    unfold okR
    rw [List.all_eq_true]
    constructor
    · intro g U hU hs hf
      exact (offR_nm (hsup S hS) (hsup U hU)).1 (g _ (List.mem_map.2 ⟨U, List.mem_filter.2 ⟨hU, hf⟩, rfl⟩)) hs
    · intro g x hx
      obtain ⟨U, hU, rfl⟩ := List.mem_map.1 hx
      obtain ⟨h1, h2⟩ := List.mem_filter.1 hU
      exact (offR_nm (hsup S hS) (hsup U h1)).2 fun hs => g U h1 hs h2
  constructor
  · rintro ⟨⟨S, hS, rfl⟩, h2⟩
    obtain ⟨s1, s2⟩ := List.mem_filter.1 hS
    exact ⟨S, (hmem S).2 ⟨s1, s2, (hok S s1).1 h2⟩, rfl⟩
  · rintro ⟨S, hS, rfl⟩
    obtain ⟨s1, s2, s3⟩ := (hmem S).1 hS
    exact ⟨⟨S, List.mem_filter.2 ⟨s1, s2⟩, rfl⟩, (hok S s1).2 s3⟩

end Go.Proofs.Ytolppbilcmobbaa
