/-
  Mathematics of words: letters and their inverses, reduction with a stack, and what reduction keeps when the letters of some nails are left out.
-/
namespace Go.Proofs.YtkdalgdckgmccaaGreatDoor

/-- A letter. -/
def Lt (c : Nat) : Prop := (65 ≤ c ∧ c ≤ 90) ∨ (97 ≤ c ∧ c ≤ 122)
instance (c : Nat) : Decidable (Lt c) := by unfold Lt; infer_instance
def IsWord (l : List Nat) : Prop := ∀ c ∈ l, Lt c
instance (l : List Nat) : Decidable (IsWord l) := by unfold IsWord; infer_instance
/-- The inverse of a letter. -/
def inv (c : Nat) : Nat := if 97 ≤ c then c - 32 else c + 32
/-- The number of a letter's nail. -/
def nailN (c : Nat) : Nat := if 97 ≤ c then c - 97 else c - 65

theorem inv_inv {c : Nat} (h : Lt c) : inv (inv c) = c := by
  unfold Lt at h; unfold inv; split <;> split <;> omega
theorem inv_ne (c : Nat) : inv c ≠ c := by unfold inv; split <;> omega
theorem Lt.inv {c : Nat} (h : Lt c) : Lt (inv c) := by
  unfold Lt at *; unfold Go.Proofs.YtkdalgdckgmccaaGreatDoor.inv; split <;> omega
theorem nail_inv {c : Nat} (h : Lt c) : nailN (inv c) = nailN c := by
  unfold Lt at h; unfold inv nailN; split <;> split <;> omega
theorem nail_lt {c : Nat} (h : Lt c) : nailN c < 26 := by
  unfold Lt at h; unfold nailN; split <;> omega
theorem inv_inj {c d : Nat} (hc : Lt c) (hd : Lt d) (h : inv c = inv d) : c = d := by
  rw [← inv_inv hc, h, inv_inv hd]
theorem IsWord.nil : IsWord [] := fun _ h => by cases h
theorem IsWord.cons {c : Nat} {l : List Nat} (h : Lt c) (k : IsWord l) : IsWord (c :: l) := by
  intro x hx
  rcases List.mem_cons.1 hx with rfl | hx
  · exact h
  · exact k x hx
theorem IsWord.head {c : Nat} {l : List Nat} (h : IsWord (c :: l)) : Lt c := h c (List.mem_cons_self ..)
theorem IsWord.tail {c : Nat} {l : List Nat} (h : IsWord (c :: l)) : IsWord l := fun x hx => h x (List.mem_cons_of_mem _ hx)
theorem IsWord.append {l m : List Nat} (h : IsWord l) (k : IsWord m) : IsWord (l ++ m) := by
  intro x hx
  rcases List.mem_append.1 hx with hx | hx
  · exact h x hx
  · exact k x hx
theorem IsWord.filter {l : List Nat} (h : IsWord l) (P : Nat → Bool) : IsWord (l.filter P) := fun x hx => h x (List.mem_filter.1 hx).1
theorem IsWord.reverse {l : List Nat} (h : IsWord l) : IsWord l.reverse := fun x hx => h x (List.mem_reverse.1 hx)
theorem IsWord.of_sub {l m : List Nat} (h : IsWord l) (k : ∀ x ∈ m, x ∈ l) : IsWord m := fun x hx => h x (k x hx)

/-- One more letter on a stack whose top is its first element. -/
def push (st : List Nat) (c : Nat) : List Nat :=
  match st with
  | [] => [c]
  | x :: r => if x = inv c then r else c :: x :: r
/-- Letters, one after the other, on a stack. -/
def runS (st w : List Nat) : List Nat := w.foldl push st
/-- A stack without neighbours that are inverses. -/
def RedS : List Nat → Prop
  | x :: y :: r => y ≠ inv x ∧ RedS (y :: r)
  | _ => True
/-- The reduced form of a word. -/
def redL (w : List Nat) : List Nat := (runS [] w).reverse

theorem runS_nil (st : List Nat) : runS st [] = st := rfl
theorem runS_cons (st : List Nat) (c : Nat) (w : List Nat) : runS st (c :: w) = runS (push st c) w := rfl
theorem runS_append (st u v : List Nat) : runS st (u ++ v) = runS (runS st u) v := List.foldl_append ..
theorem runS_snoc (st w : List Nat) (c : Nat) : runS st (w ++ [c]) = push (runS st w) c := by rw [runS_append]; rfl

theorem RedS.tail {x : Nat} {r : List Nat} (h : RedS (x :: r)) : RedS r := by
  cases r with
  | nil => trivial
  | cons y r => exact h.2
theorem push_red {st : List Nat} {c : Nat} (h : RedS st) : RedS (push st c) := by
  cases st with
  | nil => trivial
  | cons x r =>
    unfold push
    dsimp only
    split
    · exact h.tail
    · rename_i hx
      exact ⟨hx, h⟩
theorem push_word {st : List Nat} {c : Nat} (h : IsWord st) (hc : Lt c) : IsWord (push st c) := by
  cases st with
  | nil => exact IsWord.cons hc IsWord.nil
  | cons x r =>
    unfold push
    dsimp only
    split
    · exact h.tail
    · exact IsWord.cons hc h
theorem push_push {st : List Nat} {c : Nat} (h : RedS st) (hw : IsWord st) (hc : Lt c) : push (push st c) (inv c) = st := by
  cases st with
  | nil => unfold push; simp [inv_inv hc]
  | cons x r =>
    by_cases hx : x = inv c
    · have e : push (x :: r) c = r := by unfold push; simp [hx]
      rw [e]
      cases r with
      | nil => unfold push; rw [hx]
      | cons y r =>
        have hy : y ≠ inv (inv c) := by rw [← hx]; exact h.1
        unfold push
        simp [hy, hx]
    · have e : push (x :: r) c = c :: x :: r := by unfold push; simp [hx]
      rw [e]
      unfold push
      simp [inv_inv hc]
theorem runS_red {w : List Nat} : ∀ {st : List Nat}, RedS st → IsWord w → RedS (runS st w) := by
  induction w with
  | nil => exact fun h _ => h
  | cons c w ih => exact fun h hw => ih (push_red h) hw.tail
theorem runS_word {w : List Nat} : ∀ {st : List Nat}, IsWord st → IsWord w → IsWord (runS st w) := by
  induction w with
  | nil => exact fun h _ => h
  | cons c w ih => exact fun h hw => ih (push_word h hw.head) hw.tail

/-- What a stack gives, run on from s with the letters that P keeps. -/
def over (P : Nat → Bool) (s st : List Nat) : List Nat := runS s (st.reverse.filter P)
theorem over_cons (P : Nat → Bool) (s st : List Nat) (c : Nat) : over P s (c :: st) = if P c = true then push (over P s st) c else over P s st := by
  unfold over
  rw [List.reverse_cons, List.filter_append, runS_append]
  by_cases h : P c = true
  · rw [if_pos h, List.filter_cons_of_pos h]; rfl
  · rw [if_neg h, List.filter_cons_of_neg h]; rfl
theorem over_push (P : Nat → Bool) (hP : ∀ c, Lt c → P (inv c) = P c) (s st : List Nat) (c : Nat) (hs : RedS s) (hsw : IsWord s) (hst : IsWord st) (hc : Lt c) :
    over P s (push st c) = if P c = true then push (over P s st) c else over P s st := by
  cases st with
  | nil => exact over_cons P s [] c
  | cons x r =>
    by_cases hx : x = inv c
    · have e : push (x :: r) c = r := by unfold push; simp [hx]
      rw [e, over_cons, hx, hP c hc]
      by_cases h : P c = true
      · rw [if_pos h, if_pos h]
        have := push_push (st := over P s r) (c := inv c) (runS_red hs (hst.tail.reverse.filter P)) (runS_word hsw (hst.tail.reverse.filter P)) hc.inv
        rw [inv_inv hc] at this
        exact this.symm
      · rw [if_neg h, if_neg h]
    · have e : push (x :: r) c = c :: x :: r := by unfold push; simp [hx]
      rw [e]
      exact over_cons P s (x :: r) c
theorem over_run (P : Nat → Bool) (hP : ∀ c, Lt c → P (inv c) = P c) {s : List Nat} (hs : RedS s) (hsw : IsWord s) {w : List Nat} : ∀ {st : List Nat}, IsWord st → IsWord w →
    over P s (runS st w) = runS (over P s st) (w.filter P) := by
  induction w with
  | nil => intro _ _ _; rfl
  | cons c w ih =>
    intro st hst hw
    rw [runS_cons, ih (push_word hst hw.head) hw.tail, over_push P hP s st c hs hsw hst hw.head]
    by_cases h : P c = true
    · rw [if_pos h, List.filter_cons_of_pos h]; rfl
    · rw [if_neg h, List.filter_cons_of_neg h]

/-- Reducing first changes nothing. -/
theorem run_red {s w : List Nat} (hs : RedS s) (hsw : IsWord s) (hw : IsWord w) : runS s (redL w) = runS s w := by
  have := over_run (fun _ => true) (fun _ _ => rfl) hs hsw IsWord.nil hw
  unfold over at this
  have e : ∀ l : List Nat, l.filter (fun _ => true) = l := fun l => List.filter_eq_self.2 (fun _ _ => rfl)
  rw [e, e, e] at this
  exact this
theorem red_filter (P : Nat → Bool) (hP : ∀ c, Lt c → P (inv c) = P c) {w : List Nat} (hw : IsWord w) : redL ((redL w).filter P) = redL (w.filter P) := by
  have := over_run P hP (s := []) trivial IsWord.nil IsWord.nil hw
  unfold over at this
  unfold redL
  rw [this]
  rfl
theorem red_word {w : List Nat} (hw : IsWord w) : IsWord (redL w) := (runS_word IsWord.nil hw).reverse
theorem red_red {w : List Nat} (hw : IsWord w) : redL (redL w) = redL w := by
  unfold redL
  congr 1
  exact run_red trivial IsWord.nil hw
theorem red_append {u v : List Nat} (hu : IsWord u) (hv : IsWord v) : redL (redL u ++ redL v) = redL (u ++ v) := by
  unfold redL
  congr 1
  have e1 : runS [] ((runS [] u).reverse) = runS [] u := run_red trivial IsWord.nil hu
  rw [runS_append, runS_append, e1]
  exact run_red (runS_red trivial hu) (runS_word IsWord.nil hu) hv
theorem red_append_left {u v : List Nat} (hu : IsWord u) : redL (redL u ++ v) = redL (u ++ v) := by
  unfold redL
  congr 1
  have e1 : runS [] ((runS [] u).reverse) = runS [] u := run_red trivial IsWord.nil hu
  rw [runS_append, runS_append, e1]
theorem red_append_right {u v : List Nat} (hu : IsWord u) (hv : IsWord v) : redL (u ++ redL v) = redL (u ++ v) := by
  unfold redL
  congr 1
  rw [runS_append, runS_append]
  exact run_red (runS_red trivial hu) (runS_word IsWord.nil hu) hv

/-- The inverse of a word. -/
def invL (w : List Nat) : List Nat := (w.map inv).reverse
theorem invL_nil : invL [] = [] := rfl
theorem invL_cons (c : Nat) (w : List Nat) : invL (c :: w) = invL w ++ [inv c] := by simp [invL]
theorem invL_append (u v : List Nat) : invL (u ++ v) = invL v ++ invL u := by simp [invL]
theorem invL_length (w : List Nat) : (invL w).length = w.length := by simp [invL]
theorem invL_word {w : List Nat} (hw : IsWord w) : IsWord (invL w) := by
  intro x hx
  obtain ⟨y, hy, rfl⟩ := List.mem_map.1 (List.mem_reverse.1 hx)
  exact (hw y hy).inv
theorem invL_invL {w : List Nat} (hw : IsWord w) : invL (invL w) = w := by
  induction w with
  | nil => rfl
  | cons c w ih => rw [invL_cons, invL_append, ih hw.tail]; simp [invL, inv_inv hw.head]
/-- A word and its inverse undo each other. -/
theorem run_inv {w : List Nat} : ∀ {s : List Nat}, RedS s → IsWord s → IsWord w → runS s (w ++ invL w) = s := by
  induction w with
  | nil => intro _ _ _ _; rfl
  | cons c w ih =>
    intro s hs hsw hw
    rw [invL_cons, ← List.append_assoc, List.cons_append, List.cons_append, runS_cons, runS_snoc, ih (push_red hs) (push_word hsw hw.head) hw.tail]
    exact push_push hs hsw hw.head
theorem red_inv {w : List Nat} (hw : IsWord w) : redL (w ++ invL w) = [] := by
  unfold redL
  rw [run_inv (s := []) trivial IsWord.nil hw]; rfl
theorem filter_invL (P : Nat → Bool) (hP : ∀ c, Lt c → P (inv c) = P c) {w : List Nat} (hw : IsWord w) : (invL w).filter P = invL (w.filter P) := by
  induction w with
  | nil => rfl
  | cons c w ih =>
    rw [invL_cons, List.filter_append, ih hw.tail]
    by_cases h : P c = true
    · rw [List.filter_cons_of_pos h, invL_cons, List.filter_cons_of_pos (by rw [hP c hw.head]; exact h)]; rfl
    · rw [List.filter_cons_of_neg h, List.filter_cons_of_neg (by rw [hP c hw.head]; exact h)]; simp
/-- A word falls just if its inverse does. -/
theorem red_nil_inv {w : List Nat} (hw : IsWord w) (h : redL w = []) : redL (invL w) = [] := by
  have h1 := red_append_left (v := invL w) hw
  rw [h, red_inv hw] at h1
  simpa using h1

/-- More pulled: what fell falls. -/
theorem red_nil_more {P Q : Nat → Bool} (hQ : ∀ c, Lt c → Q (inv c) = Q c) (hPQ : ∀ c, Q c = true → P c = true) {w : List Nat} (hw : IsWord w) (h : redL (w.filter P) = []) : redL (w.filter Q) = [] := by
  have e : (w.filter P).filter Q = w.filter Q := by
    rw [List.filter_filter]
    apply List.filter_congr
    intro x _
    by_cases hx : Q x = true
    · simp [hx, hPQ x hx]
    · simp [hx]
  have h1 := red_filter Q hQ (hw.filter P)
  rw [h, e] at h1
  rw [← h1]; rfl

/-- The stack as a row: its last element is the top. -/
def thenL (out : List Nat) (c : Nat) : List Nat := if 0 < out.length ∧ out.getD (out.length - 1) 0 = inv c then out.take (out.length - 1) else out ++ [c]
theorem thenL_push (st : List Nat) (c : Nat) : thenL st.reverse c = (push st c).reverse := by
  cases st with
  | nil => rfl
  | cons x r =>
    unfold thenL push
    dsimp only
    have e : (x :: r).reverse.getD ((x :: r).reverse.length - 1) 0 = x := by
      simp [List.getD_eq_getElem?_getD]
    rw [e]
    by_cases hx : x = inv c
    · rw [if_pos ⟨by simp, hx⟩, if_pos hx]; simp
    · rw [if_neg (fun h => hx h.2), if_neg hx]; simp
theorem foldl_thenL (w : List Nat) : ∀ st : List Nat, w.foldl thenL st.reverse = (runS st w).reverse := by
  induction w with
  | nil => intro _; rfl
  | cons c w ih =>
    intro st
    rw [List.foldl_cons, thenL_push, ih]; rfl
theorem redL_eq (w : List Nat) : redL w = w.foldl thenL [] := (foldl_thenL w []).symm
theorem thenL_length (out : List Nat) (c : Nat) : (thenL out c).length ≤ out.length + 1 := by
  unfold thenL; split
  · rw [List.length_take]; omega
  · simp
theorem redL_length (w : List Nat) : (redL w).length ≤ w.length := by
  rw [redL_eq]
  have : ∀ (w out : List Nat), (w.foldl thenL out).length ≤ out.length + w.length := by
    intro w
    induction w with
    | nil => intro out; simp
    | cons c w ih =>
      intro out
      have := ih (thenL out c)
      have := thenL_length out c
      simp only [List.foldl_cons, List.length_cons]
      omega
  simpa using this w []

end Go.Proofs.YtkdalgdckgmccaaGreatDoor
