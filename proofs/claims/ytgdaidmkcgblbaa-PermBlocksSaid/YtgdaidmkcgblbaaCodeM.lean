/-
  Plain numbers: factorials, ranks by codes in two ways, codes by ranks in two ways, lists by codes.
-/
import Derived.Test.YtgdaidmkcgblbaaNum
import Derived.Test.YtgdaidmkcgblbaaPure
namespace Go.Proofs.Ytgdaidmkcgblbaa

def facN : Nat → Nat
  | 0 => 1
  | n + 1 => facN n * (n + 1)
theorem facN_pos : ∀ n, 0 < facN n
  | 0 => Nat.one_pos
  | n + 1 => Nat.mul_pos (facN_pos n) (Nat.succ_pos n)
theorem fac_all : (List.range 21).all (fun n => small63 (facN n)) = true := by kernel_rfl
theorem facN_small (n : Nat) (h : n ≤ 20) : facN n < 9223372036854775807 := of_small (of_all fac_all n (by omega))

def sumTo (l : List Nat) : Nat → Nat
  | 0 => 0
  | k + 1 => sumTo l k + l.getD k 0
def hornTo (c : List Nat) : Nat → Nat
  | 0 => 0
  | k + 1 => hornTo c k * (c.length - k) + c.getD k 0
def rankTo (c : List Nat) : Nat → Nat
  | 0 => 0
  | k + 1 => rankTo c k + c.getD k 0 * facN (c.length - 1 - k)

/-- A code. -/
def ValidC (c : List Nat) : Prop := ∀ i, i < c.length → c.getD i 0 + i < c.length

theorem horn_rank (c : List Nat) : ∀ k, k ≤ c.length → hornTo c k * facN (c.length - k) = rankTo c k
  | 0, _ => by simp [hornTo, rankTo]
  | k + 1, h => by
    have ih := horn_rank c k (by omega)
    have e : c.length - k = (c.length - 1 - k) + 1 := by omega
    have ef : facN (c.length - k) = facN (c.length - 1 - k) * (c.length - k) := by
      rw [e]
      show facN (c.length - 1 - k) * (c.length - 1 - k + 1) = _
      rw [← e]
    unfold hornTo rankTo
    rw [← ih, ef, show c.length - (k + 1) = c.length - 1 - k by omega, Nat.add_mul]
    congr 1
    rw [Nat.mul_assoc, Nat.mul_comm (c.length - k)]
theorem rank_bound {c : List Nat} (hv : ValidC c) : ∀ k, k ≤ c.length → rankTo c k + facN (c.length - k) ≤ facN c.length
  | 0, _ => by simp [rankTo]
  | k + 1, h => by
    have ih := rank_bound hv k (by omega)
    have e : c.length - k = (c.length - 1 - k) + 1 := by omega
    have ef : facN (c.length - k) = facN (c.length - 1 - k) * (c.length - 1 - k + 1) := by
      conv => lhs; rw [e]
      rfl
    have hk := hv k (by omega)
    unfold rankTo
    rw [show c.length - (k + 1) = c.length - 1 - k by omega]
    have h1 : c.getD k 0 * facN (c.length - 1 - k) + facN (c.length - 1 - k) = facN (c.length - 1 - k) * (c.getD k 0 + 1) := by
      rw [Nat.mul_add, Nat.mul_one, Nat.mul_comm]
    have h2 : facN (c.length - 1 - k) * (c.getD k 0 + 1) ≤ facN (c.length - 1 - k) * (c.length - 1 - k + 1) := Nat.mul_le_mul_left _ (by omega)
    omega
theorem rank_lt {c : List Nat} (hv : ValidC c) (k : Nat) (h : k ≤ c.length) : rankTo c k < facN c.length := by
  have := rank_bound hv k h
  have := facN_pos (c.length - k)
  omega
theorem horn_lt {c : List Nat} (hv : ValidC c) (k : Nat) (h : k ≤ c.length) : hornTo c k < facN c.length := by
  have h1 := rank_lt hv k h
  rw [← horn_rank c k h] at h1
  have h2 : hornTo c k * 1 ≤ hornTo c k * facN (c.length - k) := Nat.mul_le_mul_left _ (facN_pos _)
  omega
theorem horn_end (c : List Nat) : hornTo c c.length = rankTo c c.length := by
  have := horn_rank c c.length (Nat.le_refl _)
  rwa [Nat.sub_self, show facN 0 = 1 from rfl, Nat.mul_one] at this

/-- What is left of the numbers below n behind k steps of a code. -/
def leftL (n : Nat) (c : List Nat) : Nat → List Nat
  | 0 => List.range n
  | k + 1 => (leftL n c k).take (c.getD k 0) ++ (leftL n c k).drop (c.getD k 0 + 1)
theorem leftL_length {c : List Nat} (hv : ValidC c) : ∀ k, k ≤ c.length → (leftL c.length c k).length = c.length - k
  | 0, _ => by simp [leftL]
  | k + 1, h => by
    have ih := leftL_length hv k (by omega)
    have := hv k (by omega)
    unfold leftL
    rw [List.length_append, List.length_take, List.length_drop]
    omega
/-- The permutation with a code. -/
def outL (c : List Nat) : List Nat := (List.range c.length).map fun i => (leftL c.length c i).getD (c.getD i 0) 0
theorem outL_length (c : List Nat) : (outL c).length = c.length := by simp [outL]
theorem outL_get (c : List Nat) (i : Nat) (h : i < c.length) : (outL c).getD i 0 = (leftL c.length c i).getD (c.getD i 0) 0 := by
  simp [outL, List.getD_eq_getElem?_getD, h]

/-- The code of a rank. -/
def digL (n r : Nat) : List Nat := (List.range n).map fun i => r / facN (n - 1 - i) % (n - i)
theorem digL_length (n r : Nat) : (digL n r).length = n := by simp [digL]
theorem digL_get (n r i : Nat) (h : i < n) : (digL n r).getD i 0 = r / facN (n - 1 - i) % (n - i) := by
  simp [digL, List.getD_eq_getElem?_getD, h]
theorem digL_valid (n r : Nat) : ValidC (digL n r) := by
  intro i hi
  rw [digL_length] at hi ⊢
  rw [digL_get n r i hi]
  have := Nat.mod_lt (r / facN (n - 1 - i)) (show n - i > 0 by omega)
  omega
theorem fac_step (n i : Nat) (h : i < n) : facN (n - i) = facN (n - 1 - i) * (n - i) := by
  have e : n - i = (n - 1 - i) + 1 := by omega
  rw [e]
  show facN (n - 1 - i) * (n - 1 - i + 1) = _
  rfl
theorem digit_up (n r i : Nat) (h : i < n) : r / facN (n - 1 - i) / (n - i) = r / facN (n - i) := by
  rw [Nat.div_div_eq_div_mul, ← fac_step n i h]
theorem digit_down (n r i : Nat) (h : i < n) : r % facN (n - i) / facN (n - 1 - i) = r / facN (n - 1 - i) % (n - i) := by
  rw [fac_step n i h, Nat.mod_mul_right_div_self]
theorem rest_down (n r i : Nat) (h : i < n) : r % facN (n - i) % facN (n - 1 - i) = r % facN (n - 1 - i) := by
  rw [fac_step n i h]
  exact Nat.mod_mod_of_dvd r (Nat.dvd_mul_right _ _)

/-- Each value's position. -/
def invL (p : List Nat) : List Nat := (List.range p.length).map fun v => p.findIdx fun x => decide (x = v)

end Go.Proofs.Ytgdaidmkcgblbaa
