/-
  Mathematics of powers: words that commute are powers of one word; the least rotation; loops that commute in the free group.
  Mathematics of roots: the loop of a word and its least rotation; words that commute have one root, or its inverse.
  Mathematics of words that commute: they are powers of one word.
-/
import Derived.Test.YtojjpbeaifiejaaGrpM
namespace Go.Proofs.Ytojjpbeaifiejaa

/-- A word, k times. -/
def pw (p : List Nat) : Nat → List Nat
  | 0 => []
  | k + 1 => p ++ pw p k
theorem pw_zero (p : List Nat) : pw p 0 = [] := rfl
theorem pw_succ (p : List Nat) (k : Nat) : pw p (k + 1) = p ++ pw p k := rfl
theorem pw_one (p : List Nat) : pw p 1 = p := List.append_nil p
theorem pw_add (p : List Nat) (j : Nat) : ∀ i, pw p (i + j) = pw p i ++ pw p j
  | 0 => by rw [Nat.zero_add]; rfl
  | i + 1 => by rw [Nat.add_right_comm, pw_succ, pw_add p j i, pw_succ, List.append_assoc]
theorem pw_snoc (p : List Nat) (k : Nat) : pw p (k + 1) = pw p k ++ p := by rw [pw_add, pw_one]
theorem pw_mul (p : List Nat) (i : Nat) : ∀ j, pw (pw p i) j = pw p (i * j)
  | 0 => by rw [Nat.mul_zero]; rfl
  | j + 1 => by rw [pw_succ, pw_mul p i j, Nat.mul_succ, Nat.add_comm, pw_add]
theorem pw_length (p : List Nat) : ∀ k, (pw p k).length = k * p.length
  | 0 => by rw [Nat.zero_mul]; rfl
  | k + 1 => by rw [pw_succ, List.length_append, pw_length p k, Nat.succ_mul, Nat.add_comm]
theorem pw_nil : ∀ k, pw [] k = []
  | 0 => rfl
  | k + 1 => by rw [pw_succ, pw_nil k]; rfl
theorem pw_word {p : List Nat} (h : IsWord p) : ∀ k, IsWord (pw p k)
  | 0 => IsWord.nil
  | k + 1 => h.append (pw_word h k)
theorem pw_inv (p : List Nat) : ∀ k, invL (pw p k) = pw (invL p) k
  | 0 => rfl
  | k + 1 => by rw [pw_succ, invL_append, pw_inv p k, pw_snoc]

/-- Words that commute are powers of one word. -/
theorem comm_words : ∀ (n : Nat) (u v : List Nat), u.length + v.length ≤ n → u ++ v = v ++ u → ∃ p i j, u = pw p i ∧ v = pw p j
  | 0, u, v, hn, _ => ⟨[], 0, 0, List.length_eq_zero_iff.1 (by omega), List.length_eq_zero_iff.1 (by omega)⟩
  | n + 1, u, v, hn, h => by
    by_cases hu : u = []
    · subst hu; exact ⟨v, 0, 1, rfl, (pw_one v).symm⟩
    · by_cases hv : v = []
      · subst hv; exact ⟨u, 1, 0, (pw_one u).symm, rfl⟩
      · have lu : 0 < u.length := List.length_pos_iff.2 hu
        have lv : 0 < v.length := List.length_pos_iff.2 hv
        by_cases hl : u.length ≤ v.length
        · obtain ⟨v', rfl⟩ : ∃ v', v = u ++ v' := by
            refine ⟨v.drop u.length, ?_⟩
            have e1 : v.take u.length = u := by
              have := congrArg (List.take u.length) h
              rw [List.take_left, List.take_append_of_le_length hl] at this
              exact this.symm
            have := List.take_append_drop u.length v
            rw [e1] at this
            exact this.symm
          rw [List.append_assoc] at h
          have h2 := List.append_cancel_left h
          rw [List.length_append] at hn
          obtain ⟨p, i, j, e1, e2⟩ := comm_words n u v' (by omega) h2
          exact ⟨p, i, i + j, e1, by rw [pw_add, ← e1, ← e2]⟩
        · obtain ⟨u', rfl⟩ : ∃ u', u = v ++ u' := by
            refine ⟨u.drop v.length, ?_⟩
            have e1 : u.take v.length = v := by
              have := congrArg (List.take v.length) h
              rw [List.take_left, List.take_append_of_le_length (by omega)] at this
              exact this
            have := List.take_append_drop v.length u
            rw [e1] at this
            exact this.symm
          rw [List.append_assoc] at h
          have h2 := List.append_cancel_left h
          rw [List.length_append] at hn
          obtain ⟨p, i, j, e1, e2⟩ := comm_words n u' v (by omega) h2
          exact ⟨p, j + i, j, by rw [pw_add, ← e1, ← e2], e2⟩

/-- A word that is no power of a shorter one. -/
def Prim (p : List Nat) : Prop := p ≠ [] ∧ ∀ q i, p = pw q i → i = 1
/-- Two words with a power in common commute. -/
theorem pw_comm {p q : List Nat} {i j : Nat} (h : pw p (i + 1) = pw q (j + 1)) : p ++ q = q ++ p := by
  have e1 : pw p (i + 1) ++ pw q (j + 1) = p ++ (q ++ (pw q j ++ pw p i)) := by
    have h2 : pw p (i + 1) ++ pw q (j + 1) = p ++ (pw p i ++ pw p (i + 1)) := by rw [← h, pw_succ, List.append_assoc]
    rw [h2, ← pw_add, Nat.add_comm i (i + 1), pw_add, h, pw_succ q j, List.append_assoc]
  have e2 : pw p (i + 1) ++ pw q (j + 1) = q ++ (p ++ (pw p i ++ pw q j)) := by
    have h2 : pw p (i + 1) ++ pw q (j + 1) = q ++ (pw q j ++ pw q (j + 1)) := by rw [h, pw_succ, List.append_assoc]
    rw [h2, ← pw_add, Nat.add_comm j (j + 1), pw_add, ← h, pw_succ p i, List.append_assoc]
  have e3 : (p ++ q) ++ (pw q j ++ pw p i) = (q ++ p) ++ (pw p i ++ pw q j) := by rw [List.append_assoc, List.append_assoc, ← e1, e2]
  exact (List.append_inj e3 (by rw [List.length_append, List.length_append]; omega)).1
/-- A word that commutes with a primitive one is its power. -/
theorem prim_comm {p q : List Nat} (hp : Prim p) (h : p ++ q = q ++ p) : ∃ b, q = pw p b := by
  obtain ⟨s, a, b, e1, e2⟩ := comm_words _ p q (Nat.le_refl _) h
  obtain rfl : a = 1 := hp.2 s a e1
  rw [pw_one] at e1
  subst e1
  exact ⟨b, e2⟩

/-- The least rotation of a word onto itself. -/
def IsLR (w : List Nat) (d : Nat) : Prop := 1 ≤ d ∧ d ≤ w.length ∧ rotL w d = w ∧ ∀ j, 1 ≤ j → j < d → rotL w j ≠ w
theorem rot_pw (q : List Nat) (k : Nat) : rotL (pw q (k + 1)) q.length = pw q (k + 1) := by
  unfold rotL
  rw [pw_succ, List.drop_left, List.take_left, ← pw_snoc, pw_succ]
theorem lr_pow {w : List Nat} {d : Nat} (h : IsLR w d) {s : List Nat} {k : Nat} (e : w = pw s (k + 1)) (hs : s ≠ []) : d ≤ s.length := by
  have := rot_pw s k
  rw [← e] at this
  have lp := List.length_pos_iff.2 hs
  by_cases hlt : s.length < d
  · exact absurd this (h.2.2.2 _ (by omega) hlt)
  · omega
theorem pos_of_pw {p s : List Nat} {a : Nat} (h : p = pw s a) (hp : p ≠ []) : s ≠ [] ∧ ∃ b, a = b + 1 := by
  constructor
  · rintro rfl
    rw [pw_nil] at h
    exact hp h
  · cases a with
    | zero => exact absurd h hp
    | succ b => exact ⟨b, rfl⟩
theorem mul_one_of {a n : Nat} (h : n = (a + 1) * n) (hn : 0 < n) : a = 0 := by
  rw [Nat.succ_mul] at h
  have h2 : a * n = 0 := by omega
  rcases Nat.mul_eq_zero.1 h2 with h3 | h3
  · exact h3
  · omega
theorem mul_le_one {a n d : Nat} (h : d = (a + 1) * n) (hd : d ≤ n) (hn : 0 < n) : a = 0 ∧ d = n := by
  have h1 : (a + 1) * n = a * n + n := Nat.succ_mul a n
  have h2 : a * n = 0 := by omega
  rcases Nat.mul_eq_zero.1 h2 with h3 | h3
  · exact ⟨h3, by omega⟩
  · omega
theorem lr_prim {w : List Nat} {d : Nat} (h : IsLR w d) : Prim (w.take d) ∧ ∃ k, w = pw (w.take d) (k + 1) := by
  have hh := h
  obtain ⟨h1, h2, h3, h4⟩ := h
  have hlen : (w.take d).length = d := by rw [List.length_take]; omega
  have hne : w.take d ≠ [] := by intro e; rw [e] at hlen; simp at hlen; omega
  have hc : w.take d ++ w.drop d = w.drop d ++ w.take d := by rw [List.take_append_drop]; exact h3.symm
  obtain ⟨q, i, j, e1, e2⟩ := comm_words _ _ _ (Nat.le_refl _) hc
  have hw : w = pw q (i + j) := by rw [pw_add, ← e1, ← e2, List.take_append_drop]
  obtain ⟨hq, i, rfl⟩ := pos_of_pw e1 hne
  have hd : d = (i + 1) * q.length := by rw [← pw_length, ← e1, hlen]
  have hdq := lr_pow hh (s := q) (k := i + j) (by rw [hw]; congr 1; omega) hq
  obtain ⟨rfl, _⟩ := mul_le_one hd hdq (List.length_pos_iff.2 hq)
  rw [Nat.zero_add, pw_one] at e1
  have hw2 : w = pw q (j + 1) := by rw [hw]; congr 1; omega
  refine ⟨⟨hne, fun s a e => ?_⟩, j, by rw [e1]; exact hw2⟩
  obtain ⟨hs, a, rfl⟩ := pos_of_pw e hne
  have hda : d = (a + 1) * s.length := by rw [← pw_length, ← e, hlen]
  have hws : w = pw s ((a + 1) * j + a + 1) := by
    rw [hw2, ← e1, e, pw_mul, Nat.mul_succ]; rfl
  obtain ⟨rfl, _⟩ := mul_le_one hda (lr_pow hh hws hs) (List.length_pos_iff.2 hs)
  rfl
/-- The least rotation of a power of a primitive word. -/
theorem prim_lr {p : List Nat} (hp : Prim p) (k : Nat) : IsLR (pw p (k + 1)) p.length := by
  have lp := List.length_pos_iff.2 hp.1
  have hwl : (pw p (k + 1)).length = k * p.length + p.length := by rw [pw_length, Nat.succ_mul]
  refine ⟨lp, by omega, rot_pw p k, fun j h1 h2 h3 => ?_⟩
  have hlen : ((pw p (k + 1)).take j).length = j := by rw [List.length_take]; omega
  have hne : (pw p (k + 1)).take j ≠ [] := by intro e; rw [e] at hlen; simp at hlen; omega
  have hc : (pw p (k + 1)).take j ++ (pw p (k + 1)).drop j = (pw p (k + 1)).drop j ++ (pw p (k + 1)).take j := by rw [List.take_append_drop]; exact h3.symm
  obtain ⟨q, a, b, e1, e2⟩ := comm_words _ _ _ (Nat.le_refl _) hc
  have hw : pw p (k + 1) = pw q (a + b) := by rw [pw_add q b a, ← e1, ← e2, List.take_append_drop]
  obtain ⟨hq, a, rfl⟩ := pos_of_pw e1 hne
  rw [show a + 1 + b = a + b + 1 by omega] at hw
  obtain ⟨c, e⟩ := prim_comm hp (pw_comm hw)
  obtain ⟨_, c, rfl⟩ := pos_of_pw e hq
  have h4 : q.length = c * p.length + p.length := by rw [e, pw_length, Nat.succ_mul]
  have h5 : j = a * q.length + q.length := by rw [← hlen, e1, pw_length, Nat.succ_mul]
  omega

/-- The two ends of a word do not undo each other. -/
def CR (l : List Nat) : Prop := ∀ x y, l.head? = some x → l.getLast? = some y → x ≠ inv y

theorem run_full {w : List Nat} : ∀ {st : List Nat}, (runS st w).length ≤ st.length + w.length ∧ ((runS st w).length = st.length + w.length → runS st w = w.reverse ++ st) := by
  induction w with
  | nil => intro st; exact ⟨Nat.le_refl _, fun _ => rfl⟩
  | cons c w ih =>
    intro st
    rw [runS_cons]
    obtain ⟨h1, h2⟩ := ih (st := push st c)
    have hp : (push st c).length ≤ st.length + 1 ∧ ((push st c).length = st.length + 1 → push st c = c :: st) := by
      unfold push
      cases st with
      | nil => exact ⟨by simp, fun _ => rfl⟩
      | cons x r =>
        dsimp only
        split
        · exact ⟨by simp only [List.length_cons]; omega, fun h => by simp only [List.length_cons] at h; omega⟩
        · exact ⟨by simp, fun _ => rfl⟩
    rw [List.length_cons]
    refine ⟨by omega, fun h => ?_⟩
    have e1 := hp.2 (by omega)
    rw [h2 (by omega), e1]
    simp
/-- A word that reduction does not shorten is reduced. -/
theorem red_full {w : List Nat} (h : (redL w).length = w.length) : redL w = w := by
  unfold redL at *
  rw [List.length_reverse] at h
  rw [(run_full (st := [])).2 (by simpa using h)]
  simp

theorem redS_word {w : List Nat} (hw : IsWord w) : redL w = w ↔ RedS w := (red_iff hw).trans (redS_rev_iff hw)
/-- What commutes with a loop, and what follows it undoes nothing of it, is a power with it. -/
theorem comm_fresh {c l : List Nat} (hc : IsWord c) (hl : IsWord l) (h : Eqv (c ++ l) (l ++ c)) (hr : RedS (c ++ l)) : c ++ l = l ++ c := by
  have e1 : redL (c ++ l) = c ++ l := (redS_word (hc.append hl)).2 hr
  have e2 : redL (l ++ c) = c ++ l := (Eq.symm h).trans e1
  have e3 := red_full (w := l ++ c) (by rw [e2, List.length_append, List.length_append]; omega)
  rw [← e2, e3]
theorem eqv_comm_inv {c l : List Nat} (hc : IsWord c) (hl : IsWord l) (h : Eqv (c ++ l) (l ++ c)) : Eqv (l ++ invL c) (invL c ++ l) := by
  have ic := invL_word hc
  -- c' (c l) c' = c' (l c) c'
  have h1 : Eqv (invL c ++ ((c ++ l) ++ invL c)) (invL c ++ ((l ++ c) ++ invL c)) :=
    Eqv.left ic ((hc.append hl).append ic) ((hl.append hc).append ic) (Eqv.right (hc.append hl) (hl.append hc) ic h)
  have h2 : Eqv (invL c ++ ((c ++ l) ++ invL c)) (l ++ invL c) := by
    rw [List.append_assoc c l]
    exact eqv_cancel_left hc (hl.append ic)
  have h3 : Eqv (invL c ++ ((l ++ c) ++ invL c)) (invL c ++ l) := by
    have e : invL c ++ ((l ++ c) ++ invL c) = (invL c ++ l) ++ (c ++ invL c) := by simp only [List.append_assoc]
    rw [e]
    have := Eqv.left (ic.append hl) (hc.append ic) IsWord.nil (eqv_inv_right hc)
    rwa [List.append_nil] at this
  exact (h2.symm.trans h1).trans h3
/-- What commutes in the free group with a loop whose ends do not undo each other. -/
theorem comm_loop {c l : List Nat} (hc : IsWord c) (hl : IsWord l) (rc : RedS c) (rl : RedS l) (nl : l ≠ []) (hcr : CR l) (h : Eqv (c ++ l) (l ++ c)) : c ++ l = l ++ c ∨ l ++ invL c = invL c ++ l := by
  by_cases hlast : ∀ x ∈ c, ∀ y ∈ l, c.getLast? = some x → l.head? = some y → y ≠ inv x
  · exact Or.inl (comm_fresh hc hl h (redS_append rc rl hlast))
  · right
    have hex : ∃ x y, x ∈ c ∧ c.getLast? = some x ∧ l.head? = some y ∧ y = inv x := by
      apply Classical.byContradiction
      intro hno
      exact hlast fun x hx y _ h1 h2 e => hno ⟨x, y, hx, h1, h2, e⟩
    obtain ⟨x, y, hx, h1, h2, rfl⟩ := hex
    have hhead : (invL c).head? = some (inv x) := by
      unfold invL
      rw [List.head?_reverse, List.getLast?_map, h1]
      rfl
    have hr : RedS (l ++ invL c) := redS_append rl (redS_inv hc rc) fun a _ b _ ha hb => by
      rw [hhead] at hb
      cases hb
      exact hcr _ _ h2 ha
    exact comm_fresh hl (invL_word hc) (eqv_comm_inv hc hl h) hr
end Go.Proofs.Ytojjpbeaifiejaa

namespace Go.Proofs.Ytojjpbeaifiejaa

theorem core_stop (l : List Nat) : ∀ (f k : Nat), l.length ≤ f + k → ¬ (coreF l f k + 1 < l.length - coreF l f k ∧ l.getD (coreF l f k) 0 = inv (l.getD (l.length - coreF l f k - 1) 0))
  | 0, k, h => by
    unfold coreF
    omega
  | f + 1, k, h => by
    unfold coreF
    split
    · exact core_stop l f (k + 1) (by omega)
    · assumption
theorem redS_self {a : List Nat} (hw : IsWord a) (hr : redL a = a) : RedS a := (redS_word hw).1 hr
/-- The loop of a reduced word that is not empty is not empty. -/
theorem loop_ne {a : List Nat} (hw : IsWord a) (hr : redL a = a) (hne : a ≠ []) : loopL a ≠ [] := by
  intro e
  have h := split_eq hw
  rw [e, List.nil_append] at h
  have h2 := red_inv (handle_word hw)
  rw [← h, hr] at h2
  exact hne h2
theorem loop_head {a : List Nat} (h : loopL a ≠ []) : (loopL a).head? = some (a.getD (coreK a) 0) := by
  have hl := List.length_pos_iff.2 h
  rw [loopL_length] at hl
  unfold loopL
  rw [List.head?_eq_getElem?, List.getElem?_take_of_lt hl, List.getElem?_drop, List.getD_eq_getElem?_getD, Nat.add_zero, List.getElem?_eq_getElem (by omega)]
  rfl
theorem loop_last {a : List Nat} (h : loopL a ≠ []) : (loopL a).getLast? = some (a.getD (a.length - coreK a - 1) 0) := by
  have hl := List.length_pos_iff.2 h
  have hl2 := loopL_length a
  rw [loopL_length] at hl
  rw [List.getLast?_eq_getElem?, hl2]
  unfold loopL
  rw [List.getElem?_take_of_lt (by omega), List.getElem?_drop, List.getD_eq_getElem?_getD, show coreK a + (a.length - 2 * coreK a - 1) = a.length - coreK a - 1 by omega, List.getElem?_eq_getElem (by omega)]
  rfl
/-- The ends of a loop do not undo each other. -/
theorem loop_cr {a : List Nat} (h : loopL a ≠ []) : CR (loopL a) := by
  intro x y hx hy e
  have hl := List.length_pos_iff.2 h
  rw [loopL_length] at hl
  rw [loop_head h] at hx
  rw [loop_last h] at hy
  cases hx
  cases hy
  have hs := core_stop a a.length 0 (by omega)
  change ¬ (coreK a + 1 < a.length - coreK a ∧ a.getD (coreK a) 0 = inv (a.getD (a.length - coreK a - 1) 0)) at hs
  by_cases h1 : coreK a + 1 < a.length - coreK a
  · exact hs ⟨h1, e⟩
  · have : a.length - coreK a - 1 = coreK a := by omega
    rw [this] at e
    exact inv_ne _ e.symm
theorem getD_mid (h m x : List Nat) {i : Nat} (hi : i < m.length) : (h ++ (m ++ x)).getD (h.length + i) 0 = m[i] := by
  rw [List.getD_eq_getElem?_getD, List.getElem?_append_right (by omega), show h.length + i - h.length = i by omega, List.getElem?_append_left hi, List.getElem?_eq_getElem hi]
  rfl
/-- A word that is a loop whose ends do not undo each other, between a word and its inverse. -/
theorem core_of {h m : List Nat} (hw : IsWord h) (hm : m ≠ []) (hcr : CR m) : ∀ (f k : Nat), k ≤ h.length → h.length ≤ f + k → coreF (h ++ (m ++ invL h)) f k = h.length
  | 0, k, h1, h2 => by
    unfold coreF
    omega
  | f + 1, k, h1, h2 => by
    have lm := List.length_pos_iff.2 hm
    have hlen : (h ++ (m ++ invL h)).length = h.length + (m.length + h.length) := by rw [List.length_append, List.length_append, invL_length]
    unfold coreF
    by_cases hk : k < h.length
    · have e1 : (h ++ (m ++ invL h)).getD k 0 = h[k] := by
        rw [List.getD_eq_getElem?_getD, List.getElem?_append_left hk, List.getElem?_eq_getElem hk]; rfl
      have e2 : (h ++ (m ++ invL h)).getD ((h ++ (m ++ invL h)).length - k - 1) 0 = inv h[k] := by
        rw [hlen, List.getD_eq_getElem?_getD, List.getElem?_append_right (by omega), List.getElem?_append_right (by omega)]
        unfold invL
        rw [List.getElem?_reverse (by rw [List.length_map]; omega), List.getElem?_map, List.length_map]
        rw [show h.length - 1 - (h.length + (m.length + h.length) - k - 1 - h.length - m.length) = k by omega, List.getElem?_eq_getElem hk]
        rfl
      rw [if_pos ⟨by rw [hlen]; omega, by rw [e1, e2, inv_inv (hw _ (List.getElem_mem _))]⟩]
      exact core_of hw hm hcr f (k + 1) (by omega) (by omega)
    · obtain rfl : k = h.length := by omega
      rw [if_neg]
      rintro ⟨h3, h4⟩
      rw [hlen] at h4
      have hh : m.head? = some m[0] := by rw [List.head?_eq_getElem?, List.getElem?_eq_getElem lm]
      have hl : m.getLast? = some m[m.length - 1] := by rw [List.getLast?_eq_getElem?, List.getElem?_eq_getElem (by omega)]
      refine hcr _ _ hh hl ?_
      have g1 := getD_mid h m (invL h) (i := 0) lm
      have g2 := getD_mid h m (invL h) (i := m.length - 1) (by omega)
      rw [Nat.add_zero] at g1
      rw [show h.length + (m.length - 1) = h.length + (m.length + h.length) - h.length - 1 by omega] at g2
      rw [g1, g2] at h4
      exact h4
theorem split_of {h m : List Nat} (hw : IsWord h) (hm : m ≠ []) (hcr : CR m) : handleL (h ++ (m ++ invL h)) = h ∧ loopL (h ++ (m ++ invL h)) = m := by
  have hk : coreK (h ++ (m ++ invL h)) = h.length := core_of hw hm hcr _ 0 (by omega) (by rw [List.length_append]; omega)
  unfold handleL loopL
  rw [hk]
  refine ⟨List.take_left, ?_⟩
  rw [List.drop_left, show (h ++ (m ++ invL h)).length - 2 * h.length = m.length by rw [List.length_append, List.length_append, invL_length]; omega, List.take_left]

/-- The least rotation of a loop, as the program finds it. -/
theorem per_lr {a : List Nat} (hw : IsWord a) (hne : loopL a ≠ []) : Looped a ∧ IsLR (loopL a) (perL a) := by
  have hl := List.length_pos_iff.2 hne
  have h256 : ∀ c ∈ loopL a, c < 256 := fun c hc => by have := (loop_word hw c hc).lt; omega
  obtain ⟨at', h1, h2, h3, h4⟩ := rot_hit (l := loopL a) (l2 := loopL a) h256 h256 rfl (first := 1) (by omega) ⟨(loopL a).length, by omega, Nat.le_refl _, by unfold rotL; rw [List.drop_length, List.take_length]; rfl⟩
  have hp : perL a = 1 + at' := by unfold perL; rw [h1]; omega
  refine ⟨⟨hl, by rw [h1]; omega, by rw [hp]; exact h2⟩, by omega, by omega, by rw [hp]; exact h3, fun j hj hj2 => h4 j hj (by omega)⟩

theorem head_pw (p : List Nat) (k : Nat) (hp : p ≠ []) : (pw p (k + 1)).head? = p.head? := by
  cases p with
  | nil => exact absurd rfl hp
  | cons x r => rfl
theorem last_pw (p : List Nat) (k : Nat) (hp : p ≠ []) : (pw p (k + 1)).getLast? = p.getLast? := by
  rw [pw_snoc]
  rcases List.eq_nil_or_concat p with rfl | ⟨p', x, rfl⟩
  · exact absurd rfl hp
  · simp
theorem pw_ne {p : List Nat} (hp : p ≠ []) (k : Nat) : pw p (k + 1) ≠ [] := by
  rw [pw_succ]
  intro e
  exact hp (List.append_eq_nil_iff.1 e).1
theorem CR.pw {p : List Nat} (hp : p ≠ []) {k : Nat} (h : CR (pw p (k + 1))) (j : Nat) : CR (Go.Proofs.Ytojjpbeaifiejaa.pw p (j + 1)) := by
  intro x y hx hy
  rw [head_pw p j hp] at hx
  rw [last_pw p j hp] at hy
  exact h x y (by rw [head_pw p k hp]; exact hx) (by rw [last_pw p k hp]; exact hy)
theorem redS_left {a b : List Nat} (h : RedS (a ++ b)) : RedS a := redS_take h
theorem redS_junction {a b : List Nat} {x y : Nat} (h : RedS (a ++ b)) (hx : a.getLast? = some x) (hy : b.head? = some y) : y ≠ inv x := by
  rcases List.eq_nil_or_concat a with rfl | ⟨a', x', rfl⟩
  · cases hx
  · cases b with
    | nil => cases hy
    | cons y' b =>
      obtain rfl : y' = y := by simpa using hy
      obtain rfl : x' = x := by simpa using hx
      rw [List.concat_eq_append, List.append_assoc] at h
      exact (RedS.drop h).1
/-- Powers of a word without neighbours that undo each other have none, if its ends do not. -/
theorem redS_pw {p : List Nat} (hp : p ≠ []) (hr : RedS p) (hcr : CR p) (hw : IsWord p) : ∀ k, RedS (pw p k)
  | 0 => trivial
  | 1 => by rw [pw_one]; exact hr
  | k + 2 => by
    rw [pw_succ]
    refine redS_append hr (redS_pw hp hr hcr hw (k + 1)) fun x hx y hy h1 h2 => ?_
    rw [head_pw p k hp] at h2
    exact hcr y x h2 h1

/-- A handle, and the primitive word of a loop. -/
structure Sh (h p : List Nat) : Prop where
  wh : IsWord h
  wp : IsWord p
  pr : Prim p
  cr : CR p
  red : RedS (h ++ (p ++ invL h))
theorem Sh.rp {h p : List Nat} (s : Sh h p) : RedS p := redS_take (RedS.drop s.red)
/-- Powers of the loop between the handle and its inverse have no neighbours that undo each other. -/
theorem Sh.reds {h p : List Nat} (s : Sh h p) (j : Nat) : RedS (h ++ (pw p (j + 1) ++ invL h)) := by
  have hp := s.pr.1
  have hpj := pw_ne hp j
  have h1 : RedS (h ++ p) := by have := s.red; rw [← List.append_assoc] at this; exact redS_take this
  have h2 : RedS (p ++ invL h) := RedS.drop s.red
  have rj := redS_pw hp s.rp s.cr s.wp (j + 1)
  refine redS_mid hpj ?_ ?_
  · exact redS_append (redS_take h1) rj fun x _ y _ hx hy => by
      rw [head_pw p j hp] at hy
      exact redS_junction h1 hx hy
  · exact redS_append rj (RedS.drop h2) fun x _ y _ hx hy => by
      rw [last_pw p j hp] at hx
      exact redS_junction h2 hx hy
theorem Sh.word {h p : List Nat} (s : Sh h p) (j : Nat) : IsWord (h ++ (pw p j ++ invL h)) := s.wh.append ((pw_word s.wp j).append (invL_word s.wh))
theorem lr_unique {w : List Nat} {d e : Nat} (h : IsLR w d) (g : IsLR w e) : d = e := by
  rcases Nat.lt_trichotomy d e with hl | rfl | hl
  · exact absurd h.2.2.1 (g.2.2.2 d h.1 hl)
  · rfl
  · exact absurd g.2.2.1 (h.2.2.2 e g.1 hl)
/-- What the program finds of such a word. -/
theorem Sh.parts {h p : List Nat} (s : Sh h p) (j : Nat) : Looped (h ++ (pw p (j + 1) ++ invL h)) ∧ handleL (h ++ (pw p (j + 1) ++ invL h)) = h ∧ loopL (h ++ (pw p (j + 1) ++ invL h)) = pw p (j + 1) ∧ perL (h ++ (pw p (j + 1) ++ invL h)) = p.length ∧ rootL (h ++ (pw p (j + 1) ++ invL h)) = h ++ (p ++ invL h) ∧ powL (h ++ (pw p (j + 1) ++ invL h)) = j + 1 := by
  have hp := s.pr.1
  have lp := List.length_pos_iff.2 hp
  have hcr : CR (pw p (j + 1)) := CR.pw (k := 0) hp (by rw [pw_one]; exact s.cr) j
  obtain ⟨e1, e2⟩ := split_of s.wh (pw_ne hp j) hcr
  have hw := s.word (j + 1)
  generalize h ++ (pw p (j + 1) ++ invL h) = a at *
  obtain ⟨hlo, hlr⟩ := per_lr hw (by rw [e2]; exact pw_ne hp j)
  rw [e2] at hlr
  have hd := lr_unique hlr (prim_lr s.pr j)
  refine ⟨hlo, e1, e2, hd, ?_, ?_⟩
  · unfold rootL
    rw [e1, e2, hd, pw_succ, List.take_left]
    exact (redS_word (s.wh.append (s.wp.append (invL_word s.wh)))).2 s.red
  · unfold powL
    rw [e2, hd, pw_length]
    exact Nat.mul_div_cancel _ lp
theorem Sh.inv {h p : List Nat} (s : Sh h p) : Sh h (invL p) := by
  have hp := s.pr.1
  have iw := invL_word s.wp
  refine ⟨s.wh, iw, ⟨?_, fun q i e => ?_⟩, ?_, ?_⟩
  · intro e
    have := congrArg List.length e
    rw [invL_length] at this
    exact hp (List.length_eq_zero_iff.1 this)
  · refine s.pr.2 (invL q) i ?_
    rw [← pw_inv, ← e, invL_invL s.wp]
  · intro x y hx hy e
    unfold invL at hx hy
    rw [List.head?_reverse, List.getLast?_map] at hx
    rw [List.getLast?_reverse, List.head?_map] at hy
    cases hl : p.getLast? with
    | none => rw [hl] at hx; cases hx
    | some u =>
      cases hh : p.head? with
      | none => rw [hh] at hy; cases hy
      | some v =>
        rw [hl] at hx
        rw [hh] at hy
        cases hx
        cases hy
        have hu : Lt u := s.wp u (List.mem_of_getLast? hl)
        have hv : Lt v := s.wp v (List.mem_of_head? hh)
        refine s.cr v u hh hl ?_
        rw [inv_inv hv] at e
        exact e.symm
  · have hw : IsWord (h ++ (p ++ invL h)) := s.wh.append (s.wp.append (invL_word s.wh))
    have := redS_inv hw s.red
    rw [invL_append, invL_append, invL_invL s.wh, List.append_assoc] at this
    exact this
/-- Every reduced word that is not empty is a handle, a power, and the inverse of the handle. -/
theorem sh_of {a : List Nat} (hw : IsWord a) (hr : redL a = a) (hne : a ≠ []) : ∃ h p k, Sh h p ∧ a = h ++ (pw p (k + 1) ++ invL h) := by
  have hl := loop_ne hw hr hne
  have hcr := loop_cr hl
  obtain ⟨_, hlr⟩ := per_lr hw hl
  obtain ⟨hp, k, e⟩ := lr_prim hlr
  have ha := split_eq hw
  have hra := redS_self hw hr
  have wl := loop_word hw
  generalize (loopL a).take (perL a) = p at *
  rw [e] at ha hcr wl
  have wp : IsWord p := fun c hc => wl c (by rw [pw_succ]; exact List.mem_append_left _ hc)
  have cp : CR p := by have := CR.pw hp.1 hcr 0; rwa [pw_one] at this
  refine ⟨handleL a, p, k, ⟨handle_word hw, wp, hp, cp, ?_⟩, ha⟩
  rw [ha] at hra
  generalize handleL a = h at *
  have h1 : RedS (h ++ pw p (k + 1)) := by rw [← List.append_assoc] at hra; exact redS_take hra
  have h2 : RedS (pw p (k + 1) ++ invL h) := RedS.drop hra
  have rp : RedS p := by have := RedS.drop h1; rw [pw_succ] at this; exact redS_take this
  refine redS_mid hp.1 ?_ ?_
  · exact redS_append (redS_take h1) rp fun x _ y _ hx hy => by
      rw [← head_pw p k hp.1] at hy
      exact redS_junction h1 hx hy
  · exact redS_append rp (RedS.drop h2) fun x _ y _ hx hy => by
      rw [← last_pw p k hp.1] at hx
      exact redS_junction h2 hx hy
end Go.Proofs.Ytojjpbeaifiejaa

namespace Go.Proofs.Ytojjpbeaifiejaa

theorem conj_mul {h x y : List Nat} (wh : IsWord h) (wx : IsWord x) (wy : IsWord y) : Eqv ((h ++ (x ++ invL h)) ++ (h ++ (y ++ invL h))) (h ++ ((x ++ y) ++ invL h)) := by
  have ih := invL_word wh
  have e1 : (h ++ (x ++ invL h)) ++ (h ++ (y ++ invL h)) = (h ++ x) ++ (invL h ++ (h ++ (y ++ invL h))) := by simp only [List.append_assoc]
  have e2 : h ++ ((x ++ y) ++ invL h) = (h ++ x) ++ (y ++ invL h) := by simp only [List.append_assoc]
  rw [e1, e2]
  exact Eqv.left (wh.append wx) (ih.append (wh.append (wy.append ih))) (wy.append ih) (eqv_cancel_left wh (wy.append ih))
theorem conj_back {h b : List Nat} (wh : IsWord h) (wb : IsWord b) : Eqv (h ++ ((invL h ++ (b ++ h)) ++ invL h)) b := by
  have ih := invL_word wh
  have e1 : h ++ ((invL h ++ (b ++ h)) ++ invL h) = h ++ (invL h ++ (b ++ (h ++ invL h))) := by simp only [List.append_assoc]
  rw [e1]
  refine (eqv_cancel_right wh (wb.append (wh.append ih))).trans ?_
  have := Eqv.left wb (wh.append ih) IsWord.nil (eqv_inv_right wh)
  rwa [List.append_nil] at this
theorem conj_strip {h l : List Nat} (wh : IsWord h) (wl : IsWord l) : Eqv (invL h ++ ((h ++ (l ++ invL h)) ++ h)) l := by
  have ih := invL_word wh
  have e1 : invL h ++ ((h ++ (l ++ invL h)) ++ h) = invL h ++ (h ++ (l ++ (invL h ++ h))) := by simp only [List.append_assoc]
  rw [e1]
  refine (eqv_cancel_left wh (wl.append (ih.append wh))).trans ?_
  have := Eqv.left wl (ih.append wh) IsWord.nil (eqv_inv_left wh)
  rwa [List.append_nil] at this
theorem conj_two {h x y : List Nat} (wh : IsWord h) (wx : IsWord x) (wy : IsWord y) : Eqv ((invL h ++ (x ++ h)) ++ (invL h ++ (y ++ h))) (invL h ++ ((x ++ y) ++ h)) := by
  have ih := invL_word wh
  have e1 : (invL h ++ (x ++ h)) ++ (invL h ++ (y ++ h)) = (invL h ++ x) ++ (h ++ (invL h ++ (y ++ h))) := by simp only [List.append_assoc]
  have e2 : invL h ++ ((x ++ y) ++ h) = (invL h ++ x) ++ (y ++ h) := by simp only [List.append_assoc]
  rw [e1, e2]
  exact Eqv.left (ih.append wx) (wh.append (ih.append (wy.append wh))) (wy.append wh) (eqv_cancel_right wh (wy.append wh))

theorem pw_of_comm {p c : List Nat} {k : Nat} (hp : Prim p) (h : c ++ pw p (k + 1) = pw p (k + 1) ++ c) : ∃ j, c = pw p j := by
  obtain ⟨s, x, y, e1, e2⟩ := comm_words _ c (pw p (k + 1)) (Nat.le_refl _) h
  obtain ⟨hs, y, rfl⟩ := pos_of_pw e2 (pw_ne hp.1 k)
  obtain ⟨b, rfl⟩ := prim_comm hp (pw_comm e2)
  exact ⟨b * x, by rw [e1, pw_mul]⟩

/-- What commutes with a word is a power of its root, or of the root's inverse. -/
theorem commute_shape {h p b : List Nat} (s : Sh h p) (k : Nat) (wb : IsWord b) (rb : redL b = b) (nb : b ≠ [])
    (hc : Eqv ((h ++ (pw p (k + 1) ++ invL h)) ++ b) (b ++ (h ++ (pw p (k + 1) ++ invL h)))) : ∃ j, b = h ++ (pw p (j + 1) ++ invL h) ∨ b = h ++ (pw (invL p) (j + 1) ++ invL h) := by
  have wh := s.wh
  have ih := invL_word wh
  have wl := pw_word s.wp (k + 1)
  have wa := s.word (k + 1)
  have wX : IsWord (invL h ++ (b ++ h)) := ih.append (wb.append wh)
  have wY : IsWord (invL h ++ ((h ++ (pw p (k + 1) ++ invL h)) ++ h)) := ih.append (wa.append wh)
  have hY := conj_strip wh wl
  have h1 : Eqv ((invL h ++ (b ++ h)) ++ (invL h ++ ((h ++ (pw p (k + 1) ++ invL h)) ++ h))) ((invL h ++ ((h ++ (pw p (k + 1) ++ invL h)) ++ h)) ++ (invL h ++ (b ++ h))) := by
    refine (conj_two wh wb wa).trans (Eqv.trans ?_ (conj_two wh wa wb).symm)
    exact Eqv.left ih ((wb.append wa).append wh) ((wa.append wb).append wh) (Eqv.right (wb.append wa) (wa.append wb) wh hc.symm)
  have hX := eqv_red wX
  have wc := red_word wX
  have rc := redS_self wc (red_red wX)
  have hback := conj_back wh wb
  generalize redL (invL h ++ (b ++ h)) = c at *
  have h2 : Eqv (c ++ pw p (k + 1)) (pw p (k + 1) ++ c) :=
    ((Eqv.append wc wX wl wY hX hY.symm).trans h1).trans (Eqv.append wY wl wX wc hY hX.symm)
  have hb : Eqv (h ++ (c ++ invL h)) b := (Eqv.left wh (wc.append ih) (wX.append ih) (Eqv.right wc wX ih hX)).trans hback
  have nc : c ≠ [] := by
    rintro rfl
    have e := hb.symm.trans (eqv_inv_right wh)
    unfold Eqv at e
    rw [rb] at e
    exact nb e
  have fin : ∀ (q : List Nat) (j : Nat), Sh h q → c = pw q j → ∃ i, b = h ++ (pw q (i + 1) ++ invL h) := by
    intro q j sq e
    obtain ⟨_, i, rfl⟩ := pos_of_pw e nc
    refine ⟨i, ?_⟩
    rw [e] at hb
    have r := (redS_word (sq.word (i + 1))).2 (sq.reds i)
    have e2 : redL (h ++ (pw q (i + 1) ++ invL h)) = redL b := hb
    rw [r, rb] at e2
    exact e2.symm
  have rl : RedS (pw p (k + 1)) := redS_pw s.pr.1 s.rp s.cr s.wp _
  have cl : CR (pw p (k + 1)) := CR.pw (k := 0) s.pr.1 (by rw [pw_one]; exact s.cr) k
  rcases comm_loop wc wl rc rl (pw_ne s.pr.1 k) cl h2 with h3 | h3
  · obtain ⟨j, e⟩ := pw_of_comm s.pr h3
    obtain ⟨i, e2⟩ := fin p j s e
    exact ⟨i, Or.inl e2⟩
  · obtain ⟨j, e⟩ := pw_of_comm s.pr h3.symm
    obtain ⟨i, e2⟩ := fin (invL p) j s.inv (by rw [← pw_inv, ← e, invL_invL wc])
    exact ⟨i, Or.inr e2⟩

theorem Eqv.pw {h p : List Nat} (wh : IsWord h) (wp : IsWord p) : ∀ n, Eqv (Go.Proofs.Ytojjpbeaifiejaa.pw (h ++ (p ++ invL h)) n) (h ++ (Go.Proofs.Ytojjpbeaifiejaa.pw p n ++ invL h))
  | 0 => (eqv_inv_right wh).symm
  | n + 1 => by
    have ih := invL_word wh
    have w1 : IsWord (h ++ (p ++ invL h)) := wh.append (wp.append ih)
    rw [pw_succ, pw_succ]
    exact (Eqv.left w1 (pw_word w1 n) (wh.append ((pw_word wp n).append ih)) (Eqv.pw wh wp n)).trans (conj_mul wh wp (pw_word wp n))
theorem comm_pw {x y : List Nat} (wx : IsWord x) (wy : IsWord y) (h : Eqv (x ++ y) (y ++ x)) : ∀ n, Eqv (x ++ Go.Proofs.Ytojjpbeaifiejaa.pw y n) (Go.Proofs.Ytojjpbeaifiejaa.pw y n ++ x)
  | 0 => by rw [pw_zero, List.append_nil]; exact Eqv.refl x
  | n + 1 => by
    have wn := pw_word wy n
    rw [pw_succ, ← List.append_assoc, List.append_assoc y]
    refine (Eqv.right (wx.append wy) (wy.append wx) wn h).trans ?_
    rw [List.append_assoc]
    exact Eqv.left wy (wx.append wn) (wn.append wx) (comm_pw wx wy h n)
theorem inv_root {h p : List Nat} (wh : IsWord h) : invL (h ++ (p ++ invL h)) = h ++ (invL p ++ invL h) := by
  rw [invL_append, invL_append, invL_invL wh, List.append_assoc]
/-- A reduced word is the power of its root. -/
theorem root_pow {a : List Nat} (hw : IsWord a) (hr : redL a = a) (hne : a ≠ []) : Looped a ∧ IsWord (rootL a) ∧ redL (rootL a) = rootL a ∧ 0 < powL a ∧ Eqv (pw (rootL a) (powL a)) a ∧ rootL a ≠ [] ∧ rootL (rootL a) = rootL a ∧ powL (rootL a) = 1 := by
  obtain ⟨h, p, k, s, rfl⟩ := sh_of hw hr hne
  obtain ⟨h1, _, _, _, h5, h6⟩ := s.parts k
  have h0 := s.parts 0
  rw [Nat.zero_add, pw_one] at h0
  obtain ⟨_, _, _, _, g5, g6⟩ := h0
  rw [h5, h6, g5, g6]
  have w1 : IsWord (h ++ (p ++ invL h)) := s.wh.append (s.wp.append (invL_word s.wh))
  refine ⟨h1, w1, (redS_word w1).2 s.red, by omega, Eqv.pw s.wh s.wp (k + 1), ?_, rfl, rfl⟩
  intro e
  have := List.append_eq_nil_iff.1 e
  exact s.pr.1 (List.append_eq_nil_iff.1 this.2).1
/-- Two reduced words that are not empty commute just if their roots are equal or inverses. -/
theorem commute_iff {a b : List Nat} (wa : IsWord a) (ra : redL a = a) (na : a ≠ []) (wb : IsWord b) (rb : redL b = b) (nb : b ≠ []) :
    redL (a ++ b) = redL (b ++ a) ↔ (rootL b = rootL a ∨ rootL b = invL (rootL a)) := by
  constructor
  · intro hc
    obtain ⟨h, p, k, s, rfl⟩ := sh_of wa ra na
    obtain ⟨j, e | e⟩ := commute_shape s k wb rb nb hc
    · left
      rw [e, (s.parts j).2.2.2.2.1, (s.parts k).2.2.2.2.1]
    · right
      rw [e, (s.inv.parts j).2.2.2.2.1, (s.parts k).2.2.2.2.1, inv_root s.wh]
  · intro hroot
    obtain ⟨_, w1, _, _, e1, _⟩ := root_pow wa ra na
    obtain ⟨_, w2, _, _, e2, _⟩ := root_pow wb rb nb
    have base : Eqv (rootL a ++ rootL b) (rootL b ++ rootL a) := by
      rcases hroot with e | e
      · rw [e]; exact Eqv.refl _
      · rw [e]; exact (eqv_inv_right w1).trans (eqv_inv_left w1).symm
    have g1 := comm_pw w1 w2 base (powL b)
    have g2 := comm_pw (pw_word w2 (powL b)) w1 g1.symm (powL a)
    have x1 := pw_word w1 (powL a)
    have x2 := pw_word w2 (powL b)
    exact ((Eqv.append wa x1 wb x2 e1.symm e2.symm).trans g2.symm).trans (Eqv.append x2 wb x1 wa e2 e1)
end Go.Proofs.Ytojjpbeaifiejaa
