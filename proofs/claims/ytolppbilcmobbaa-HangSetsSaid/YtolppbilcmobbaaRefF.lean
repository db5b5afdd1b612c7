/-
  The walk of the reference's subset.
-/
import Derived.Test.YtolppbilcmobbaaRefE
namespace Go.Proofs.Ytolppbilcmobbaa
open Go.RowKit Go.Shelf

theorem selL_take : ∀ (l : List Nat) (i j : Nat), i < l.length → selL (l.take (i + 1)) j = selL (l.take i) j ++ (if (j / 2 ^ i) % 2 = 1 then [l.getD i 0] else [])
  | [], i, _, h => absurd h (by simp)
  | k :: l, 0, j, _ => by
    rw [List.take_succ_cons, List.take_zero, List.take_zero]
    show (if j % 2 = 1 then k :: [] else []) = [] ++ _
    rw [Nat.pow_zero, Nat.div_one]
    rfl
  | k :: l, i + 1, j, h => by
    rw [List.take_succ_cons, List.take_succ_cons]
    have ih := selL_take l i (j / 2) (by simpa using h)
    have e : j / 2 / 2 ^ i = j / 2 ^ (i + 1) := by rw [Nat.div_div_eq_div_mul, Nat.pow_succ, Nat.mul_comm]
    rw [e] at ih
    show (if j % 2 = 1 then k :: selL (l.take (i + 1)) (j / 2) else selL (l.take (i + 1)) (j / 2)) = (if j % 2 = 1 then k :: selL (l.take i) (j / 2) else selL (l.take i) (j / 2)) ++ _
    rw [ih]
    have e2 : (k :: l).getD (i + 1) 0 = l.getD i 0 := rfl
    rw [e2]
    split <;> rfl
theorem selL_len (l : List Nat) (j : Nat) : (selL l j).length ≤ l.length := by
  induction l generalizing j with
  | nil => exact Nat.le_refl _
  | cons k l ih =>
    unfold selL
    have := ih (j / 2)
    split
    · rw [List.length_cons, List.length_cons]; omega
    · rw [List.length_cons]; omega
theorem tmod_bit (j i : Nat) : ((j : Int) / 2 ^ i).tmod 2 = (((j / 2 ^ i) % 2 : Nat) : Int) := by
  have e : (j : Int) / 2 ^ i = ((j / 2 ^ i : Nat) : Int) := by
    rw [Int.natCast_ediv, Int.natCast_pow]; rfl
  rw [e, Int.tmod_eq_emod_of_nonneg (Int.natCast_nonneg _)]
  rfl
theorem letter_one {s : ByteArray} {l : List Nat} (hs : s = strL l) (h8 : ∀ c ∈ l, c < 256) {i : Nat} (hi : i < l.length) : s.extract i (i + 1) = strL [l.getD i 0] := by
  have h1 : lettersOf (s.extract i (i + 1)) = [l.getD i 0] := by
    rw [letters_extract, hs, letters_strL h8, List.take_succ_eq_append_getElem hi, List.drop_append_of_le_length (by rw [List.length_take]; omega), List.drop_of_length_le (by rw [List.length_take]; omega), List.getD_eq_getElem?_getD, List.getElem?_eq_getElem hi]
    rfl
  rw [← strL_letters (s.extract i (i + 1)), h1]

set_option maxRecDepth 100000 in
set_option maxHeartbeats 1000000 in
theorem subset_any (l : List Nat) (j : Nat) (w : World) (h8 : ∀ c ∈ l, c < 256) (hl : l.length ≤ 26) (hj : j ≤ 1000000) :
    Calls Try.prog 51 #[.string (strL l), .int .i64 (j : Nat)] w fun e w' => e = .returned (.string (strL (selL l j))) ∧ w' = w := by
  obtain ⟨s, hs⟩ : ∃ s, s = strL l := ⟨_, rfl⟩
  have hsz : s.size = l.length := by rw [hs, strL_size]
  have Hone : Hid (∀ i, i < l.length → s.extract i (i + 1) = strL [l.getD i 0]) := fun i hi => letter_one hs h8 hi
  rw [← hs]
  clear hs h8
  go_enter Try.func51, Try.ntmps51
  go_wp2_with fail
  go_loopw [5, 6] (fun v iv wr => ∃ i : Nat, i ≤ l.length ∧ iv = .int .i64 i ∧ v = .string (strL (selL (l.take i) j)) ∧ wr = w) (fun _ iv _ => l.length - (intOf iv).toNat)
  case atStart => exact ⟨0, Nat.zero_le _, rfl, rfl, rfl⟩
  case round =>
    obtain ⟨i, hi, rfl, rfl, rfl⟩ := hrel
    by_cases hlt : i < l.length
    · have hlti : (i : Int) < (l.length : Int) := by omega
      have Hst := Lib.hid (selL_take l i j hlt)
      have hxl := selL_len (l.take i) j
      have hxl2 : (l.take i).length ≤ 26 := by rw [List.length_take]; omega
      have hone := Hone.out i hlt
      generalize l.getD i 0 = c at *
      have hslice : ∀ W, (Instr.slice 9 (.string s) (some (.int .i64 (i : Nat))) (some (.int .i64 ((i : Nat) + 1))) none).run Try.prog W = .ok (.string (strL [c])) W := fun W => by
        rw [run_slice_string W 9 s .i64 .i64 (i : Nat) ((i : Nat) + 1) Try.underlying9 (by omega) (by omega) (by omega), ← hone]
        rfl
      have htm := tmod_bit j i
      obtain ⟨r, hr⟩ : ∃ r, (j / 2 ^ i) % 2 = r := ⟨_, rfl⟩
      have hr2 : r < 2 := by rw [← hr]; exact Nat.mod_lt _ (by omega)
      rw [hr] at htm Hst
      generalize selL (l.take i) j = X at *
      have hXs : (strL X).size ≤ 26 := by rw [strL_size]; omega
      have hcat := strL_append X [c]
      have h1s : (strL [c]).size = 1 := by rw [strL_size]; rfl
      have hrr : r = 0 ∨ r = 1 := by omega
      clear hr hr2 hxl hxl2
      rcases hrr with rfl | rfl
      · go_wp2_with fail
        refine ⟨⟨i + 1, by omega, by go_num, by rw [Hst.out, if_neg (by decide), List.append_nil], by trivial⟩, by simp [intOf]; omega⟩
      · go_wp2_with fail
        refine ⟨⟨i + 1, by omega, by go_num, by rw [Hst.out, if_pos rfl], by trivial⟩, by simp [intOf]; omega⟩
    · obtain rfl : i = l.length := by omega
      rw [List.take_length]
      go_wp2_with fail
      go_ret
      exact ⟨rfl, rfl⟩

end Go.Proofs.Ytolppbilcmobbaa
