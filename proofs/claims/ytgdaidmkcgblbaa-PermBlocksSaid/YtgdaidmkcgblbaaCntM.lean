/-
  All permutations of few elements are counted, by their ranks: plain numbers, by the kernel.
-/
import Derived.Test.YtgdaidmkcgblbaaSimp
import Derived.Test.YtgdaidmkcgblbaaRCode
import Derived.Test.YtgdaidmkcgblbaaPBaxters
namespace Go.Proofs.Ytgdaidmkcgblbaa

/-- Whether nothing rules a Baxter permutation out. -/
def noneB (p : List Nat) : Bool := (List.range p.length).all fun a => (List.range p.length).all fun j => (List.range p.length).all fun b => !(decide (a < j) && decide (j + 2 ≤ b) && bad p a j b)
theorem noneB_iff (p : List Nat) : noneB p = true ↔ None' p := by
  unfold noneB None'
  simp only [List.all_eq_true, List.mem_range, Bool.not_eq_true', Bool.and_eq_false_iff, decide_eq_false_iff_not]
  constructor
  · intro h a j b h1 h2 h3
    rcases h a (by omega) j (by omega) b h3 with (h | h) | h
    · exact absurd h1 h
    · exact absurd h2 h
    · exact h
  · intro h a _ j _ b hb
    by_cases h1 : a < j
    · by_cases h2 : j + 2 ≤ b
      · exact .inr (h a j b h1 h2 hb)
      · exact .inl (.inr h2)
    · exact .inl (.inl h1)
theorem baxIs_none {p : List Nat} {ok : Bool} {l : List Nat} (h : BaxIs p ok l) : ok = noneB p := by
  rcases h with ⟨rfl, a, j, b, hf, _⟩ | ⟨rfl, hn, _⟩
  · cases e : noneB p with
    | false => rfl
    | true => exact (hf.not_none ((noneB_iff p).1 e)).elim
  · exact ((noneB_iff p).2 hn).symm

/-- The permutation of k elements with a rank. -/
def unrL (k r : Nat) : List Nat := outL (digL k r)
/-- Baxter permutations, and those without a node of the kind 3, with the first ranks. -/
def baxCnt (k : Nat) : Nat → Nat
  | 0 => 0
  | r + 1 => baxCnt k r + if noneB (unrL k r) = true then 1 else 0
def sepCnt (k : Nat) : Nat → Nat
  | 0 => 0
  | r + 1 => sepCnt k r + if simpT k (treeF k (unrL k r)) = true then 0 else 1
def okK (k : Nat) : Bool :=
  (List.range (facN k)).all (fun r => permB (unrL k r) && Nat.beq (rankTo (codeL (unrL k r)) k) r) && Nat.beq (baxCnt k (facN k)) (baxN k) && Nat.beq (sepCnt k (facN k)) ((sepL (k - 1)).getD (k - 1) 0)
theorem ok_one : okK 1 = true := by kernel_rfl
theorem ok_two : okK 2 = true := by kernel_rfl
theorem ok_three : okK 3 = true := by kernel_rfl
theorem ok_four : okK 4 = true := by kernel_rfl
theorem ok_five : okK 5 = true := by kernel_rfl
theorem ok_upto (k : Nat) (h1 : 1 ≤ k) (h2 : k ≤ 5) : okK k = true := by
  rcases (show k = 1 ∨ k = 2 ∨ k = 3 ∨ k = 4 ∨ k = 5 by omega) with rfl | rfl | rfl | rfl | rfl
  · exact ok_one
  · exact ok_two
  · exact ok_three
  · exact ok_four
  · exact ok_five
theorem unrL_length (k r : Nat) : (unrL k r).length = k := by unfold unrL; rw [outL_length, digL_length]
theorem cnt_facts {k r : Nat} (h1 : 1 ≤ k) (h2 : k ≤ 5) (hr : r < facN k) : IsPerm (unrL k r) ∧ rankTo (codeL (unrL k r)) k = r := by
  have h := ok_upto k h1 h2
  simp only [okK, Bool.and_eq_true] at h
  have := of_all h.1.1 r hr
  rw [Bool.and_eq_true] at this
  exact ⟨isPerm_of this.1, Nat.eq_of_beq_eq_true this.2⟩
theorem cnt_ends {k : Nat} (h1 : 1 ≤ k) (h2 : k ≤ 5) : baxCnt k (facN k) = baxN k ∧ sepCnt k (facN k) = (sepL (k - 1)).getD (k - 1) 0 := by
  have h := ok_upto k h1 h2
  simp only [okK, Bool.and_eq_true] at h
  exact ⟨Nat.eq_of_beq_eq_true h.1.2, Nat.eq_of_beq_eq_true h.2⟩
theorem baxCnt_le (k : Nat) : ∀ r, baxCnt k r ≤ r
  | 0 => Nat.le_refl _
  | r + 1 => by unfold baxCnt; have := baxCnt_le k r; split <;> omega
theorem sepCnt_le (k : Nat) : ∀ r, sepCnt k r ≤ r
  | 0 => Nat.le_refl _
  | r + 1 => by unfold sepCnt; have := sepCnt_le k r; split <;> omega

end Go.Proofs.Ytgdaidmkcgblbaa
