/-
  Plain numbers: binomial numbers in rows and one by one, Baxter numbers, great Schroeder numbers in two ways; that the ways agree up to 20, and that none of their steps leaves 63 bits.
-/
import Derived.KernelRfl
namespace Go.Proofs.Ytgdaidmkcgblbaa

/-- One row of binomial numbers after another. -/
def stepL (r : List Nat) : List Nat := (List.range r.length).map fun k => if k = 0 then r.getD 0 0 else r.getD k 0 + r.getD (k - 1) 0
def binL (n : Nat) : Nat → List Nat
  | 0 => 1 :: List.replicate n 0
  | t + 1 => stepL (binL n t)

theorem stepL_length (r : List Nat) : (stepL r).length = r.length := by simp [stepL]
theorem binL_length (n : Nat) : ∀ t, (binL n t).length = n + 1
  | 0 => by simp [binL]
  | t + 1 => by unfold binL; rw [stepL_length, binL_length n t]
theorem stepL_get (r : List Nat) (k : Nat) (h : k < r.length) : (stepL r).getD k 0 = if k = 0 then r.getD 0 0 else r.getD k 0 + r.getD (k - 1) 0 := by
  simp [stepL, List.getD_eq_getElem?_getD, h]
theorem binL_le (n : Nat) : ∀ t k, (binL n t).getD k 0 ≤ 2 ^ t
  | 0, k => by
    unfold binL
    cases k with
    | zero => simp
    | succ k =>
      simp only [List.getD_eq_getElem?_getD, List.getElem?_cons_succ, List.getElem?_replicate]
      split <;> simp
  | t + 1, k => by
    unfold binL
    by_cases h : k < (binL n t).length
    · rw [stepL_get _ k h]
      have h1 := binL_le n t k
      have h2 := binL_le n t (k - 1)
      have h3 := binL_le n t 0
      rw [Nat.pow_succ]
      split <;> omega
    · rw [List.getD_eq_getElem?_getD, List.getElem?_eq_none (by rw [stepL_length]; omega)]
      simp

/-- The sum of the products, up to k. -/
def baxTo (row : List Nat) : Nat → Nat
  | 0 => 0
  | k + 1 => baxTo row k + row.getD k 0 * row.getD (k + 1) 0 * row.getD (k + 2) 0
def baxN (n : Nat) : Nat := baxTo (binL (n + 1) (n + 1)) n / ((binL (n + 1) (n + 1)).getD 1 0 * (binL (n + 1) (n + 1)).getD 2 0)

/-- A binomial number, step by step. -/
def chooseTo (n k : Nat) : Nat → Nat
  | 0 => 1
  | i + 1 => chooseTo n k i * (n - k + (i + 1)) / (i + 1)
def chooseN (n k : Nat) : Nat := chooseTo n k k
def rbaxTo (n : Nat) : Nat → Nat
  | 0 => 0
  | k + 1 => rbaxTo n k + chooseN (n + 1) k * chooseN (n + 1) (k + 1) * chooseN (n + 1) (k + 2) / (chooseN (n + 1) 1 * chooseN (n + 1) 2)

/-- The next of the great Schroeder numbers, up to k products. -/
def nextTo (l : List Nat) : Nat → Nat
  | 0 => l.getD (l.length - 1) 0
  | k + 1 => nextTo l k + l.getD k 0 * l.getD (l.length - 1 - k) 0
def sepL : Nat → List Nat
  | 0 => [1]
  | m + 1 => sepL m ++ [nextTo (sepL m) (m + 1)]
theorem sepL_length : ∀ m, (sepL m).length = m + 1
  | 0 => rfl
  | m + 1 => by unfold sepL; rw [List.length_append, sepL_length m]; rfl

/-- All, and those that are a Plus, or one alone: the first k of them, as rows with 0 ahead. -/
def plusTo (s part : List Nat) (k : Nat) : Nat → Nat
  | 0 => 0
  | f + 1 => plusTo s part k f + part.getD (f + 1) 0 * s.getD (k - (f + 1)) 0
def rsep : Nat → List Nat × List Nat
  | 0 => ([0], [0])
  | 1 => ([0, 1], [0, 1])
  | k + 2 => ((rsep (k + 1)).1 ++ [2 * plusTo (rsep (k + 1)).1 (rsep (k + 1)).2 (k + 2) (k + 1)], (rsep (k + 1)).2 ++ [plusTo (rsep (k + 1)).1 (rsep (k + 1)).2 (k + 2) (k + 1)])
theorem rsep_length : ∀ k, (rsep k).1.length = k + 1 ∧ (rsep k).2.length = k + 1
  | 0 => ⟨rfl, rfl⟩
  | 1 => ⟨rfl, rfl⟩
  | k + 2 => by
    unfold rsep
    rw [List.length_append, List.length_append, (rsep_length (k + 1)).1, (rsep_length (k + 1)).2]
    exact ⟨rfl, rfl⟩

/-- All that is reckoned below, as one test. -/
def small63 (x : Nat) : Bool := Nat.blt x 9223372036854775807
def baxOk (n : Nat) : Bool :=
  let row := binL (n + 1) (n + 1)
  (List.range n).all (fun k => small63 (row.getD k 0 * row.getD (k + 1) 0) && small63 (row.getD k 0 * row.getD (k + 1) 0 * row.getD (k + 2) 0) && small63 (baxTo row (k + 1))) && Nat.blt 0 (row.getD 1 0 * row.getD 2 0) && small63 (row.getD 1 0 * row.getD 2 0)
def chooseOk (n : Nat) : Bool := (List.range (n + 1)).all fun k => (List.range k).all fun i => small63 (chooseTo n k i * (n - k + (i + 1))) && small63 (chooseTo n k (i + 1))
def rbaxOk (n : Nat) : Bool :=
  (List.range n).all (fun k => small63 (chooseN (n + 1) k * chooseN (n + 1) (k + 1)) && small63 (chooseN (n + 1) k * chooseN (n + 1) (k + 1) * chooseN (n + 1) (k + 2)) && small63 (rbaxTo n (k + 1))) && Nat.blt 0 (chooseN (n + 1) 1 * chooseN (n + 1) 2) && small63 (chooseN (n + 1) 1 * chooseN (n + 1) 2) && Nat.beq (baxN n) (rbaxTo n n)
def sepOk (n : Nat) : Bool :=
  let l := sepL n
  (List.range (n + 1)).all (fun k => small63 (l.getD k 0 * l.getD (l.length - 1 - k) 0) && small63 (nextTo l (k + 1))) && small63 (nextTo l 0)
def rsepOk (k : Nat) : Bool :=
  let s := rsep (k + 1)
  (List.range (k + 1)).all (fun f => small63 (s.2.getD (f + 1) 0 * s.1.getD (k + 2 - (f + 1)) 0) && small63 (plusTo s.1 s.2 (k + 2) (f + 1))) && small63 (2 * plusTo s.1 s.2 (k + 2) (k + 1))

theorem bax_ok : (List.range 20).all (fun n => baxOk (n + 1)) = true := by kernel_rfl
theorem choose_ok : (List.range 22).all chooseOk = true := by kernel_rfl
theorem rbax_ok : (List.range 20).all (fun n => rbaxOk (n + 1)) = true := by kernel_rfl
theorem sep_ok : (List.range 20).all sepOk = true := by kernel_rfl
theorem rsep_ok : (List.range 20).all rsepOk = true := by kernel_rfl
theorem sep_same : (List.range 20).all (fun n => Nat.beq ((sepL n).getD n 0) ((rsep (n + 1)).1.getD (n + 1) 0)) = true := by kernel_rfl

theorem of_blt {a b : Nat} (h : Nat.blt a b = true) : a < b := by rwa [Nat.blt_eq] at h
theorem of_small {x : Nat} (h : small63 x = true) : x < 9223372036854775807 := by
  unfold small63 at h
  exact of_blt h
theorem of_all {n : Nat} {f : Nat → Bool} (h : (List.range n).all f = true) (k : Nat) (hk : k < n) : f k = true := List.all_eq_true.1 h k (List.mem_range.2 hk)

theorem bax_facts (n k : Nat) (h1 : 1 ≤ n) (h2 : n ≤ 20) (hk : k < n) :
    (binL (n + 1) (n + 1)).getD k 0 * (binL (n + 1) (n + 1)).getD (k + 1) 0 < 9223372036854775807 ∧
    (binL (n + 1) (n + 1)).getD k 0 * (binL (n + 1) (n + 1)).getD (k + 1) 0 * (binL (n + 1) (n + 1)).getD (k + 2) 0 < 9223372036854775807 ∧ baxTo (binL (n + 1) (n + 1)) (k + 1) < 9223372036854775807 := by
  have h := of_all bax_ok (n - 1) (by omega)
  rw [show n - 1 + 1 = n by omega] at h
  simp only [baxOk, Bool.and_eq_true] at h
  have := of_all h.1.1 k hk
  simp only [Bool.and_eq_true] at this
  exact ⟨of_small this.1.1, of_small this.1.2, of_small this.2⟩
theorem bax_end (n : Nat) (h1 : 1 ≤ n) (h2 : n ≤ 20) :
    0 < (binL (n + 1) (n + 1)).getD 1 0 * (binL (n + 1) (n + 1)).getD 2 0 ∧ (binL (n + 1) (n + 1)).getD 1 0 * (binL (n + 1) (n + 1)).getD 2 0 < 9223372036854775807 := by
  have h := of_all bax_ok (n - 1) (by omega)
  rw [show n - 1 + 1 = n by omega] at h
  simp only [baxOk, Bool.and_eq_true] at h
  exact ⟨of_blt h.1.2, of_small h.2⟩
theorem choose_facts (n k i : Nat) (h1 : n ≤ 21) (hk : k ≤ n) (hi : i < k) : chooseTo n k i * (n - k + (i + 1)) < 9223372036854775807 ∧ chooseTo n k (i + 1) < 9223372036854775807 := by
  have h := of_all choose_ok n (by omega)
  have := of_all (of_all h k (by omega)) i hi
  simp only [Bool.and_eq_true] at this
  exact ⟨of_small this.1, of_small this.2⟩
theorem rbax_facts (n k : Nat) (h1 : 1 ≤ n) (h2 : n ≤ 20) (hk : k < n) :
    chooseN (n + 1) k * chooseN (n + 1) (k + 1) < 9223372036854775807 ∧ chooseN (n + 1) k * chooseN (n + 1) (k + 1) * chooseN (n + 1) (k + 2) < 9223372036854775807 ∧ rbaxTo n (k + 1) < 9223372036854775807 := by
  have h := of_all rbax_ok (n - 1) (by omega)
  rw [show n - 1 + 1 = n by omega] at h
  simp only [rbaxOk, Bool.and_eq_true] at h
  have := of_all h.1.1.1 k hk
  simp only [Bool.and_eq_true] at this
  exact ⟨of_small this.1.1, of_small this.1.2, of_small this.2⟩
theorem rbax_end (n : Nat) (h1 : 1 ≤ n) (h2 : n ≤ 20) :
    0 < chooseN (n + 1) 1 * chooseN (n + 1) 2 ∧ chooseN (n + 1) 1 * chooseN (n + 1) 2 < 9223372036854775807 ∧ baxN n = rbaxTo n n := by
  have h := of_all rbax_ok (n - 1) (by omega)
  rw [show n - 1 + 1 = n by omega] at h
  simp only [rbaxOk, Bool.and_eq_true] at h
  exact ⟨of_blt h.1.1.2, of_small h.1.2, Nat.eq_of_beq_eq_true h.2⟩
theorem sep_facts (n k : Nat) (h2 : n < 20) (hk : k < n + 1) : (sepL n).getD k 0 * (sepL n).getD (n - k) 0 < 9223372036854775807 ∧ nextTo (sepL n) (k + 1) < 9223372036854775807 ∧ nextTo (sepL n) 0 < 9223372036854775807 := by
  have h := of_all sep_ok n h2
  simp only [sepOk, Bool.and_eq_true] at h
  have := of_all h.1 k hk
  simp only [Bool.and_eq_true] at this
  have h3 := of_small this.1
  rw [sepL_length, Nat.add_sub_cancel] at h3
  exact ⟨h3, of_small this.2, of_small h.2⟩
theorem rsep_facts (k f : Nat) (h2 : k < 20) (hf : f < k + 1) : (rsep (k + 1)).2.getD (f + 1) 0 * (rsep (k + 1)).1.getD (k + 2 - (f + 1)) 0 < 9223372036854775807 ∧ plusTo (rsep (k + 1)).1 (rsep (k + 1)).2 (k + 2) (f + 1) < 9223372036854775807 ∧
    2 * plusTo (rsep (k + 1)).1 (rsep (k + 1)).2 (k + 2) (k + 1) < 9223372036854775807 := by
  have h := of_all rsep_ok k h2
  simp only [rsepOk, Bool.and_eq_true] at h
  have := of_all h.1 f hf
  simp only [Bool.and_eq_true] at this
  exact ⟨of_small this.1, of_small this.2, of_small h.2⟩
theorem sep_eq (n : Nat) (h : n < 20) : (sepL n).getD n 0 = (rsep (n + 1)).1.getD (n + 1) 0 := Nat.eq_of_beq_eq_true (of_all sep_same n h)

end Go.Proofs.Ytgdaidmkcgblbaa
