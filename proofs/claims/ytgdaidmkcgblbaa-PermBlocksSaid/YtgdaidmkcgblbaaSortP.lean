/-
  A stack that sorts: its states, one after the other.
-/
import Derived.Test.YtgdaidmkcgblbaaPure
namespace Go.Proofs.Ytgdaidmkcgblbaa

/-- How many values were put, the stack, what comes off next, the run. -/
structure SS where
  i : Nat
  st : List Nat
  nx : Nat
  run : List Nat

/-- Nothing can be taken off. -/
def calm (st : List Nat) (nx : Nat) : Bool := decide (st.length = 0) || decide (st.getD (st.length - 1) 0 ≠ nx)
def stepS (p : List Nat) (s : SS) : SS :=
  if calm s.st s.nx = true then (if s.i < p.length then ⟨s.i + 1, s.st ++ [p.getD s.i 0], s.nx, s.run ++ [105]⟩ else s)
  else ⟨s.i, s.st.take (s.st.length - 1), s.nx + 1, s.run ++ [111]⟩
def iterS (p : List Nat) : Nat → SS
  | 0 => ⟨0, [], 0, []⟩
  | k + 1 => stepS p (iterS p k)

/-- A state under way. -/
structure Sorting (p : List Nat) (i : Nat) (st : List Nat) (nx : Nat) (run : List Nat) : Prop where
  it : iterS p (i + nx) = ⟨i, st, nx, run⟩
  top : i ≤ p.length
  st : st.length + nx = i
  run : run.length = i + nx

theorem Sorting.start (p : List Nat) : Sorting p 0 [] 0 [] := ⟨rfl, Nat.zero_le _, rfl, rfl⟩

theorem Sorting.put {p : List Nat} {i nx : Nat} {st run : List Nat} (h : Sorting p i st nx run) (hc : calm st nx = true) (hi : i < p.length) :
    Sorting p (i + 1) (st ++ [p.getD i 0]) nx (run ++ [105]) := by
  have h1 := h.st
  have h2 := h.run
  refine ⟨?_, hi, by rw [List.length_append, List.length_singleton]; omega, by rw [List.length_append, List.length_singleton]; omega⟩
  rw [show i + 1 + nx = i + nx + 1 by omega]
  unfold iterS stepS
  rw [h.it]
  simp [hc, hi]

theorem calm_false {st : List Nat} {nx : Nat} (hc : calm st nx = false) : 0 < st.length ∧ st.getD (st.length - 1) 0 = nx := by
  simp only [calm, Bool.or_eq_false_iff, decide_eq_false_iff_not, ne_eq, Decidable.not_not] at hc
  exact ⟨by omega, hc.2⟩

theorem Sorting.take {p : List Nat} {i nx : Nat} {st run : List Nat} (h : Sorting p i st nx run) (hc : calm st nx = false) :
    Sorting p i (st.take (st.length - 1)) (nx + 1) (run ++ [111]) := by
  have h1 := h.st
  have h2 := h.run
  have h3 := (calm_false hc).1
  refine ⟨?_, h.top, by rw [List.length_take]; omega, by rw [List.length_append, List.length_singleton]; omega⟩
  rw [show i + (nx + 1) = i + nx + 1 by omega]
  unfold iterS stepS
  rw [h.it]
  simp [hc]

theorem iterS_still {p : List Nat} {k : Nat} (h : stepS p (iterS p k) = iterS p k) : ∀ m, iterS p (k + m) = iterS p k
  | 0 => rfl
  | m + 1 => by
    show stepS p (iterS p (k + m)) = _
    rw [iterS_still h m, h]

/-- The state at the end. -/
def finS (p : List Nat) : SS := iterS p (2 * p.length)

theorem Sorting.fin {p : List Nat} {i nx : Nat} {st run : List Nat} (h : Sorting p i st nx run) (hc : calm st nx = true) (hi : i = p.length) : finS p = ⟨i, st, nx, run⟩ := by
  have h1 := h.st
  have hs : stepS p (iterS p (i + nx)) = iterS p (i + nx) := by
    rw [h.it]; unfold stepS; simp [hc, hi]
  have := iterS_still hs (2 * p.length - (i + nx))
  rw [show i + nx + (2 * p.length - (i + nx)) = 2 * p.length by omega] at this
  unfold finS
  rw [this, h.it]

/-- Whether a stack sorts p, and by which run. -/
def sortsB (p : List Nat) : Bool := decide (p.length ≤ (finS p).nx)
def sortRun (p : List Nat) : List Nat := if sortsB p = true then (finS p).run else []

end Go.Proofs.Ytgdaidmkcgblbaa
