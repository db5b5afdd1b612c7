/-
  Mathematics of reduced words: when a word is its own reduced form, and that a wire tied to its nails is one.
-/
import Derived.Test.YtkdalgdckgmccaaGreatDoorWiresM
import Derived.Test.YtkdalgdckgmccaaGreatDoorTied
namespace Go.Proofs.YtkdalgdckgmccaaGreatDoor

theorem RedS.drop : ∀ {a b : List Nat}, RedS (a ++ b) → RedS b
  | [], _, h => h
  | _ :: a, _, h => RedS.drop (a := a) h.tail
theorem run_fresh {w : List Nat} : ∀ {st : List Nat}, RedS (w.reverse ++ st) → runS st w = w.reverse ++ st := by
  induction w with
  | nil => intro st _; rfl
  | cons c w ih =>
    intro st h
    rw [List.reverse_cons, List.append_assoc] at h
    have h1 : RedS (c :: st) := RedS.drop h
    have e : push st c = c :: st := by
      cases st with
      | nil => rfl
      | cons x r =>
        unfold push
        dsimp only
        rw [if_neg h1.1]
    rw [runS_cons, e, ih (st := c :: st) h, List.reverse_cons, List.append_assoc]
    rfl
theorem red_of_red {w : List Nat} (h : RedS w.reverse) : redL w = w := by
  unfold redL
  rw [run_fresh (st := []) (by rw [List.append_nil]; exact h), List.append_nil, List.reverse_reverse]
theorem red_redS {w : List Nat} (h : IsWord w) : RedS (redL w).reverse := by
  unfold redL
  rw [List.reverse_reverse]
  exact runS_red (st := []) trivial h
theorem red_iff {w : List Nat} (h : IsWord w) : redL w = w ↔ RedS w.reverse :=
  ⟨fun e => by have := red_redS h; rwa [e] at this, red_of_red⟩
theorem redS_glue : ∀ {a b : List Nat} {x y : Nat}, RedS (a ++ [x]) → RedS (y :: b) → y ≠ inv x → RedS (a ++ x :: y :: b)
  | [], b, x, y, _, h, g => ⟨g, h⟩
  | [c], b, x, y, h0, h, g => ⟨h0.1, g, h⟩
  | c :: d :: a, b, x, y, h0, h, g => ⟨h0.1, redS_glue (a := d :: a) h0.2 h g⟩
theorem redS_append {a b : List Nat} (ha : RedS a) (hb : RedS b) (h : ∀ x ∈ a, ∀ y ∈ b, a.getLast? = some x → b.head? = some y → y ≠ inv x) : RedS (a ++ b) := by
  rcases List.eq_nil_or_concat a with rfl | ⟨a', x, rfl⟩
  · exact hb
  · simp only [List.concat_eq_append] at ha h ⊢
    cases b with
    | nil => rw [List.append_nil]; exact ha
    | cons y b =>
      rw [List.append_assoc]
      exact redS_glue ha hb (h x (by simp) y (by simp) (by simp) rfl)
theorem redS_take : ∀ {a b : List Nat}, RedS (a ++ b) → RedS a
  | [], _, _ => trivial
  | [_], _, _ => trivial
  | _ :: d :: a, _, h => ⟨h.1, redS_take (a := d :: a) h.2⟩
theorem redS_rev {a : List Nat} (hw : IsWord a) (h : RedS a) : RedS a.reverse := by
  induction a with
  | nil => trivial
  | cons x a ih =>
    rw [List.reverse_cons]
    refine redS_append (ih hw.tail h.tail) trivial (fun u hu v hv h1 h2 => ?_)
    obtain rfl : x = v := by simpa using h2
    cases a with
    | nil => cases hu
    | cons y r =>
      have : u = y := by simpa using h1.symm
      subst this
      intro e
      exact h.1 (by rw [e, inv_inv (hw u (by simp))])
theorem redS_rev_iff {a : List Nat} (hw : IsWord a) : RedS a.reverse ↔ RedS a :=
  ⟨fun h => by have := redS_rev hw.reverse h; rwa [List.reverse_reverse] at this, redS_rev hw⟩
theorem redS_inv {a : List Nat} (hw : IsWord a) (h : RedS a) : RedS (invL a) := by
  have : ∀ {l : List Nat}, IsWord l → RedS l → RedS (l.map inv) := by
    intro l
    induction l with
    | nil => intro _ _; trivial
    | cons x l ih =>
      intro hw h
      cases l with
      | nil => trivial
      | cons y r => exact ⟨fun e => h.1 (inv_inj (hw y (by simp)) (hw x (by simp)).inv e), ih hw.tail h.tail⟩
  unfold invL
  exact redS_rev (fun c hc => by
    obtain ⟨d, hd, rfl⟩ := List.mem_map.1 hc
    exact (hw d hd).inv) (this hw h)
/-- Words without a nail in common. -/
def Apart (a b : List Nat) : Prop := ∀ x ∈ a, ∀ y ∈ b, nailN x ≠ nailN y
theorem Apart.symm {a b : List Nat} (h : Apart a b) : Apart b a := fun x hx y hy e => h y hy x hx e.symm
theorem Apart.inv_right {a b : List Nat} (hb : IsWord b) (h : Apart a b) : Apart a (invL b) := fun x hx y hy => by
  unfold invL at hy
  obtain ⟨d, hd, rfl⟩ := List.mem_map.1 (List.mem_reverse.1 hy)
  rw [nail_inv (hb d hd)]
  exact h x hx d hd
theorem Apart.redS {a b : List Nat} (hwa : IsWord a) (h : Apart a b) (ha : RedS a) (hb : RedS b) : RedS (a ++ b) :=
  redS_append ha hb fun x hx y hy _ _ e => h x hx y hy (by rw [e, nail_inv (hwa x hx)])
theorem redS_mid {a m b : List Nat} (h0 : m ≠ []) (h1 : RedS (a ++ m)) (h2 : RedS (m ++ b)) : RedS (a ++ (m ++ b)) := by
  induction a with
  | nil => exact h2
  | cons x a ih =>
    cases a with
    | nil =>
      cases m with
      | nil => exact absurd rfl h0
      | cons y m => exact ⟨h1.1, h2⟩
    | cons z a => exact ⟨h1.1, ih h1.2⟩
theorem comm_apart {a b : List Nat} (hwa : IsWord a) (hwb : IsWord b) (ha : RedS a) (hb : RedS b) (h : Apart a b) (na : a ≠ []) (nb : b ≠ []) : commL a b = a ++ (b ++ (invL a ++ invL b)) ∧ RedS (commL a b) := by
  have hia := redS_inv hwa ha
  have hib := redS_inv hwb hb
  have wia := invL_word hwa
  have wib := invL_word hwb
  have nia : invL a ≠ [] := fun e => na (by have := invL_length a; rw [e] at this; exact List.eq_nil_of_length_eq_zero this.symm)
  have r1 : RedS (a ++ b) := h.redS hwa ha hb
  have r2 : RedS (b ++ invL a) := (h.symm.inv_right hwa).redS hwb hb hia
  have r3 : RedS (invL a ++ invL b) := ((h.symm.inv_right hwa).symm.inv_right hwb).redS wia hia hib
  have r4 : RedS (b ++ (invL a ++ invL b)) := redS_mid nia r2 r3
  have r5 : RedS (a ++ (b ++ (invL a ++ invL b))) := redS_mid nb r1 r4
  have e : commL a b = a ++ (b ++ (invL a ++ invL b)) := by
    unfold commL
    exact red_of_red (redS_rev (hwa.append (hwb.append (wia.append wib))) r5)
  exact ⟨e, by rw [e]; exact r5⟩

/-- Small letters, each once. -/
def Once (l : List Nat) : Prop := IsWord l ∧ l.Pairwise fun x y => nailN x ≠ nailN y
/-- A tied wire is reduced, not empty, and goes around its nails only. -/
theorem tied_red : ∀ (f : Nat) {l : List Nat}, Once l → l ≠ [] → l.length ≤ f + 1 → RedS (tiedF f l) ∧ tiedF f l ≠ [] ∧ ∀ c ∈ tiedF f l, ∃ d ∈ l, nailN c = nailN d
  | 0, l, h, h0, hl => by
    refine ⟨?_, h0, fun c hc => ⟨c, hc, rfl⟩⟩
    show RedS l
    cases l with
    | nil => trivial
    | cons x l =>
      have : l = [] := List.eq_nil_of_length_eq_zero (by rw [List.length_cons] at hl; omega)
      subst this
      trivial
  | f + 1, l, h, h0, hl => by
    unfold tiedF
    by_cases h2 : l.length < 2
    · rw [if_pos h2]
      refine ⟨?_, h0, fun c hc => ⟨c, hc, rfl⟩⟩
      cases l with
      | nil => trivial
      | cons x l =>
        have : l = [] := List.eq_nil_of_length_eq_zero (by rw [List.length_cons] at h2; omega)
        subst this
        trivial
    · rw [if_neg h2]
      have hp := h.2
      rw [← List.take_append_drop (l.length / 2) l] at hp
      obtain ⟨p1, p2, p3⟩ := List.pairwise_append.1 hp
      have o1 : Once (l.take (l.length / 2)) := ⟨h.1.take _, p1⟩
      have o2 : Once (l.drop (l.length / 2)) := ⟨h.1.drop _, p2⟩
      have n1 : l.take (l.length / 2) ≠ [] := fun e => by
        have := congrArg List.length e
        rw [List.length_take, List.length_nil] at this
        omega
      have n2 : l.drop (l.length / 2) ≠ [] := fun e => by
        have := congrArg List.length e
        rw [List.length_drop, List.length_nil] at this
        omega
      obtain ⟨a1, a2, a3⟩ := tied_red f o1 n1 (by rw [List.length_take]; omega)
      obtain ⟨b1, b2, b3⟩ := tied_red f o2 n2 (by rw [List.length_drop]; omega)
      have w1 := tiedF_word f o1.1
      have w2 := tiedF_word f o2.1
      have hap : Apart (tiedF f (l.take (l.length / 2))) (tiedF f (l.drop (l.length / 2))) := fun x hx y hy => by
        obtain ⟨d, hd, e⟩ := a3 x hx
        obtain ⟨d', hd', e'⟩ := b3 y hy
        rw [e, e']
        exact p3 d hd d' hd'
      obtain ⟨c1, c2⟩ := comm_apart w1 w2 a1 b1 hap a2 b2
      refine ⟨c2, ?_, ?_⟩
      · rw [c1]
        intro e
        exact a2 (List.append_eq_nil_iff.1 e).1
      · intro c hc
        rw [c1] at hc
        have hin : ∀ x ∈ tiedF f (l.take (l.length / 2)), ∃ d ∈ l, nailN x = nailN d := fun x hx => by
          obtain ⟨d, hd, e⟩ := a3 x hx
          exact ⟨d, List.mem_of_mem_take hd, e⟩
        have hin2 : ∀ x ∈ tiedF f (l.drop (l.length / 2)), ∃ d ∈ l, nailN x = nailN d := fun x hx => by
          obtain ⟨d, hd, e⟩ := b3 x hx
          exact ⟨d, List.mem_of_mem_drop hd, e⟩
        have hinv : ∀ {m : List Nat}, IsWord m → (∀ x ∈ m, ∃ d ∈ l, nailN x = nailN d) → ∀ x ∈ invL m, ∃ d ∈ l, nailN x = nailN d := fun {m} hm hh x hx => by
          unfold invL at hx
          obtain ⟨d, hd, rfl⟩ := List.mem_map.1 (List.mem_reverse.1 hx)
          rw [nail_inv (hm d hd)]
          exact hh d hd
        rcases List.mem_append.1 hc with hc | hc
        · exact hin c hc
        rcases List.mem_append.1 hc with hc | hc
        · exact hin2 c hc
        rcases List.mem_append.1 hc with hc | hc
        · exact hinv w1 hin c hc
        · exact hinv w2 hin2 c hc
/-- A tied wire falls with each of its nails. -/
theorem tied_falls (P : Nat → Bool) (hP : ∀ c, Lt c → P (inv c) = P c) : ∀ (f : Nat) {l : List Nat}, IsWord l → l.length ≤ f + 1 → (∃ c ∈ l, P c = false) → redL ((tiedF f l).filter P) = []
  | 0, l, hw, hl, ⟨c, hc, h⟩ => by
    show redL (l.filter P) = []
    cases l with
    | nil => cases hc
    | cons x l =>
      have : l = [] := List.eq_nil_of_length_eq_zero (by rw [List.length_cons] at hl; omega)
      subst this
      obtain rfl : c = x := by simpa using hc
      rw [List.filter_cons_of_neg (by rw [h]; decide)]
      rfl
  | f + 1, l, hw, hl, ⟨c, hc, h⟩ => by
    unfold tiedF
    by_cases h2 : l.length < 2
    · rw [if_pos h2]
      cases l with
      | nil => cases hc
      | cons x l =>
        have : l = [] := List.eq_nil_of_length_eq_zero (by rw [List.length_cons] at h2; omega)
        subst this
        obtain rfl : c = x := by simpa using hc
        rw [List.filter_cons_of_neg (by rw [h]; decide)]
        rfl
    · rw [if_neg h2]
      have w1 := tiedF_word f (hw.take (l.length / 2))
      have w2 := tiedF_word f (hw.drop (l.length / 2))
      have key : redL ((tiedF f (l.take (l.length / 2))).filter P) = [] ∨ redL ((tiedF f (l.drop (l.length / 2))).filter P) = [] := by
        rw [← List.take_append_drop (l.length / 2) l] at hc
        rcases List.mem_append.1 hc with hc | hc
        · exact .inl (tied_falls P hP f (hw.take _) (by rw [List.length_take]; omega) ⟨c, hc, h⟩)
        · exact .inr (tied_falls P hP f (hw.drop _) (by rw [List.length_drop]; omega) ⟨c, hc, h⟩)
      generalize tiedF f (l.take (l.length / 2)) = a at *
      generalize tiedF f (l.drop (l.length / 2)) = b at *
      unfold commL
      have i1 := invL_word w1
      have i2 := invL_word w2
      rw [red_filter P hP (w1.append (w2.append (i1.append i2))), List.filter_append, List.filter_append, List.filter_append, filter_invL P hP w1, filter_invL P hP w2]
      have v1 := w1.filter P
      have v2 := w2.filter P
      generalize a.filter P = a at *
      generalize b.filter P = b at *
      have j1 := invL_word v1
      have j2 := invL_word v2
      rcases key with k | k
      · have k2 := red_nil_inv v1 k
        rw [← red_append_left v1, k, List.nil_append, ← red_append_right v2 (j1.append j2), ← red_append_left (v := invL b) j1, k2, List.nil_append, red_append_right v2 j2]
        exact red_inv v2
      · have k2 := red_nil_inv v2 k
        rw [← red_append_right v1 (v2.append (j1.append j2)), ← red_append_left (v := invL a ++ invL b) v2, k, List.nil_append, ← red_append_right j1 j2, k2, List.append_nil, red_append_right v1 j1]
        exact red_inv v1

/-- Parts that fall, but for one. -/
theorem red_flat_nil : ∀ {ls : List (List Nat)}, (∀ l ∈ ls, IsWord l) → (∀ l ∈ ls, redL l = []) → redL ls.flatten = []
  | [], _, _ => rfl
  | l :: ls, hw, h => by
    have w1 := hw l (by simp)
    rw [List.flatten_cons, ← red_append_left w1, h l (by simp), List.nil_append]
    exact red_flat_nil (fun m hm => hw m (by simp [hm])) (fun m hm => h m (by simp [hm]))
theorem flat_word {ls : List (List Nat)} (hw : ∀ l ∈ ls, IsWord l) : IsWord ls.flatten := fun c hc => by
  obtain ⟨l, hl, h⟩ := List.mem_flatten.1 hc
  exact hw l hl c h
theorem red_flat_one {ls ms : List (List Nat)} {l : List Nat} (hw : ∀ m ∈ ls ++ l :: ms, IsWord m) (h1 : ∀ m ∈ ls, redL m = []) (h2 : ∀ m ∈ ms, redL m = []) : redL (ls ++ l :: ms).flatten = redL l := by
  have wl : ∀ m ∈ ls, IsWord m := fun m hm => hw m (by simp [hm])
  have wm : ∀ m ∈ ms, IsWord m := fun m hm => hw m (by simp [hm])
  have w := hw l (by simp)
  rw [List.flatten_append, List.flatten_cons, ← red_append_left (flat_word wl), red_flat_nil wl h1, List.nil_append, ← red_append_right w (flat_word wm), red_flat_nil wm h2, List.append_nil]
theorem filter_flat (P : Nat → Bool) : ∀ ls : List (List Nat), ls.flatten.filter P = (ls.map fun l => l.filter P).flatten
  | [] => rfl
  | l :: ls => by rw [List.flatten_cons, List.filter_append, List.map_cons, List.flatten_cons, filter_flat P ls]

end Go.Proofs.YtkdalgdckgmccaaGreatDoor
