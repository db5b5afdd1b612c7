/-
  The walk of the reference's Nails, of one word.
  The walk of the reference's subset.
-/
import Derived.Test.YtojjpbeaifiejaaTenM
namespace Go.Proofs.Ytojjpbeaifiejaa
open Go.RowKit Go.Shelf

theorem encode_small : ∀ j : Nat, j < 26 → Utf8.encode (97 + (j : Int)) = strL [97 + j] := by decide +kernel
theorem has_both {l : List Nat} (hw : IsWord l) {j : Nat} (hj : j < 26) : (hasL l (97 + j) || hasL l (65 + j)) = nailsL l j := by
  apply Bool.eq_iff_iff.2
  rw [Bool.or_eq_true, hasL_iff, hasL_iff]
  have e1 : nailN (97 + j) = j := by unfold nailN; rw [if_pos (by omega)]; omega
  have e2 : nailN (65 + j) = j := by unfold nailN; rw [if_neg (by omega)]; omega
  constructor
  · rintro (h | h)
    · have := nails_mem h
      rwa [e1] at this
    · have := nails_mem h
      rwa [e2] at this
  · intro h
    obtain ⟨c, hc, e⟩ := nails_of h
    have hl := hw c hc
    unfold Lt at hl
    unfold nailN at e
    split at e
    · exact .inl (by rwa [show 97 + j = c by omega])
    · exact .inr (by rwa [show 65 + j = c by omega])
/-- The nails of a set up to some letter. -/
def upTo (S : Nat → Bool) (j : Nat) : List Nat := ((r26.take j).filter S).map fun k => 97 + k
theorem upTo_step {S : Nat → Bool} {j : Nat} (h : j < 26) : upTo S (j + 1) = upTo S j ++ (if S j = true then [97 + j] else []) := by
  unfold upTo
  rw [r26_take h, List.filter_append, List.map_append]
  congr 1
  by_cases g : S j = true
  · rw [if_pos g, List.filter_cons_of_pos g]; rfl
  · rw [if_neg g, List.filter_cons_of_neg g]; rfl
theorem upTo_end (S : Nat → Bool) : upTo S 26 = nameL S := by unfold upTo nameL; rw [r26_all]
theorem upTo_length (S : Nat → Bool) (j : Nat) : (upTo S j).length ≤ 26 := by
  unfold upTo
  rw [List.length_map]
  have h1 := List.length_filter_le S (r26.take j)
  rw [List.length_take] at h1
  have e : r26.length = 26 := by decide
  omega

set_option maxRecDepth 100000 in
set_option maxHeartbeats 1000000 in
theorem rnails_any (s : ByteArray) (g : Nat) (w : World) (hw : IsWord (lettersOf s)) (hsz : s.size ≤ 1000000000) (hcell : w.cell? ⟨g, 0, none⟩ = some (.string s)) :
    Calls Try.prog 24 #[.slice (some ⟨g, 0, none⟩) 1 1] w fun e w' => e = .returned (.string (strL (nameL (nailsL (lettersOf s))))) ∧ w' = w := by
  have Hh1 : Hid (∀ j : Nat, Calls Try.prog 49 #[.string s, .int .u8 (97 + (j : Nat))] w fun e w' => e = .returned (.bool (hasL (lettersOf s) (97 + j))) ∧ w' = w) := fun j => by
    have h := has_any s (97 + j) w hsz
    rw [Int.natCast_add] at h
    exact h
  have Hh2 : Hid (∀ j : Nat, Calls Try.prog 49 #[.string s, .int .u8 (97 + (j : Int) - 32)] w fun e w' => e = .returned (.bool (hasL (lettersOf s) (65 + j))) ∧ w' = w) := fun j => by
    have h := has_any s (65 + j) w hsz
    rw [Int.natCast_add] at h
    rw [show (97 + (j : Int) - 32) = (65 : Nat) + (j : Int) by omega]
    exact h
  have Hboth : Hid (∀ j, j < 26 → (hasL (lettersOf s) (97 + j) || hasL (lettersOf s) (65 + j)) = nailsL (lettersOf s) j) := fun j hj => has_both hw hj
  have Hend := Lib.hid (upTo_end (nailsL (lettersOf s)))
  rw [← Hend.out]
  generalize nailsL (lettersOf s) = S at *
  clear hw
  go_enter Try.func24, Try.ntmps24
  go_wp2_with fail
  go_loopw [3, 4] (fun v cv wr => ∃ j : Nat, j ≤ 26 ∧ cv = .int .i32 (97 + (j : Nat)) ∧ v = .string (strL (upTo S j)) ∧ wr = w) (fun _ cv _ => 123 - (intOf cv).toNat)
  case atStart => exact ⟨0, Nat.zero_le _, rfl, rfl, rfl⟩
  case round =>
    obtain ⟨j, hj, rfl, rfl, rfl⟩ := hrel
    by_cases hlt : j < 26
    · have hle : (97 : Int) + (j : Int) ≤ 122 := by omega
      have Hst := Lib.hid (upTo_step (S := S) hlt)
      have hul := upTo_length S j
      generalize upTo S j = X at *
      have hb := Hboth.out j hlt
      generalize S j = b at *
      have H1 := Lib.hid (Hh1.out j)
      have H2 := Lib.hid (Hh2.out j)
      generalize hasL (lettersOf s) (97 + j) = p at *
      generalize hasL (lettersOf s) (65 + j) = q at *
      have HB := Lib.hid hb
      clear hb
      have h97 : (97 + (j : Int)) % 256 = 97 + (j : Int) := by omega
      have h65 : (97 + (j : Int) - 32) % 256 = 97 + (j : Int) - 32 := by omega
      go_wp2_with fail
      go_loopw [5, 6] (fun fv iv wx => ∃ i : Nat, i ≤ 1 ∧ iv = .int .i64 i ∧ fv = .bool (decide (i = 1) && b) ∧ wx = wr) (fun _ iv _ => 1 - (intOf iv).toNat)
      case atStart => exact ⟨0, by omega, rfl, rfl, rfl⟩
      case round =>
        obtain ⟨i, hi1, rfl, rfl, rfl⟩ := hrel
        have hi2 : i = 0 ∨ i = 1 := by omega
        rcases hi2 with rfl | rfl
        · cases p
          · go_wp2_with (first
              | (go_at_call 49; refine H1.out.mono ?_; clear H1; rintro e w2 ⟨rfl, rfl⟩))
            refine H2.out.mono ?_
            rintro e w3 ⟨rfl, rfl⟩
            go_wp2_with fail
            go_roundw
            case rel => exact ⟨1, by omega, by go_num, by rw [← HB.out]; rfl, (by trivial)⟩
            case measure => simp [intOf]
          · go_wp2_with (first
              | (go_at_call 49; refine H1.out.mono ?_; clear H1; rintro e w2 ⟨rfl, rfl⟩))
            go_roundw
            case rel => exact ⟨1, by omega, by go_num, by rw [← HB.out]; rfl, (by trivial)⟩
            case measure => simp [intOf]
        · cases b
          · go_wp2_with fail
            go_roundw
            case rel => exact ⟨j + 1, by omega, by go_num, by rw [Hst.out, if_neg (by decide), List.append_nil], (by trivial)⟩
            case measure => simp [intOf]; omega
          · have hxs : (strL X).size ≤ 26 := by rw [strL_size]; exact hul
            obtain ⟨Y, hY⟩ : ∃ Y, Y = strL [97 + j] := ⟨_, rfl⟩
            have henc : Utf8.encode (97 + (j : Int)) = Y := by rw [hY]; exact encode_small j hlt
            have hcat : strL X ++ Y = strL (upTo S (j + 1)) := by rw [hY, Hst.out, if_pos rfl]; exact strL_append X [97 + j]
            have h1s : Y.size = 1 := by rw [hY, strL_size]; rfl
            obtain ⟨Z, hZ⟩ : ∃ Z, Z = strL (upTo S (j + 1)) := ⟨_, rfl⟩
            rw [← hZ] at hcat
            have HZ := Lib.hid hZ
            obtain ⟨x, hx⟩ : ∃ x : Int, x = 97 + (j : Int) := ⟨_, rfl⟩
            have hx1 : 0 ≤ x := by omega
            have hx2 : x ≤ 122 := by omega
            rw [← hx] at henc
            have Hx := Lib.hid hx
            rw [← hx]
            clear hY hZ hx h97 h65 hle
            go_wp2_with fail
            go_roundw
            case rel => exact ⟨j + 1, by omega, by rw [Hx.out]; go_num, by rw [HZ.out], (by trivial)⟩
            case measure => have := Hx.out; simp [intOf]; omega
    · obtain rfl : j = 26 := by omega
      go_wp2_with fail
      go_ret
      exact ⟨rfl, rfl⟩

end Go.Proofs.Ytojjpbeaifiejaa

namespace Go.Proofs.Ytojjpbeaifiejaa
open Go.RowKit Go.Shelf

theorem selL_take : ∀ (l : List Nat) (i j : Nat), i < l.length → selL (l.take (i + 1)) j = selL (l.take i) j ++ (if (j / 2 ^ i) % 2 = 1 then [l.getD i 0] else [])
  | [], i, _, h => absurd h (by simp)
  | k :: l, 0, j, _ => by
    rw [List.take_succ_cons, List.take_zero, List.take_zero]
    show (if j % 2 = 1 then k :: [] else []) = [] ++ _
    rw [Nat.pow_zero, Nat.div_one]
    rfl
  | k :: l, i + 1, j, h => by
    rw [List.take_succ_cons, List.take_succ_cons]
    have ih := selL_take l i (j / 2) (by simpa using h)
    have e : j / 2 / 2 ^ i = j / 2 ^ (i + 1) := by rw [Nat.div_div_eq_div_mul, Nat.pow_succ, Nat.mul_comm]
    rw [e] at ih
    show (if j % 2 = 1 then k :: selL (l.take (i + 1)) (j / 2) else selL (l.take (i + 1)) (j / 2)) = (if j % 2 = 1 then k :: selL (l.take i) (j / 2) else selL (l.take i) (j / 2)) ++ _
    rw [ih]
    have e2 : (k :: l).getD (i + 1) 0 = l.getD i 0 := rfl
    rw [e2]
    split <;> rfl
theorem selL_len (l : List Nat) (j : Nat) : (selL l j).length ≤ l.length := by
  induction l generalizing j with
  | nil => exact Nat.le_refl _
  | cons k l ih =>
    unfold selL
    have := ih (j / 2)
    split
    · rw [List.length_cons, List.length_cons]; omega
    · rw [List.length_cons]; omega
theorem tmod_bit (j i : Nat) : ((j : Int) / 2 ^ i).tmod 2 = (((j / 2 ^ i) % 2 : Nat) : Int) := by
  have e : (j : Int) / 2 ^ i = ((j / 2 ^ i : Nat) : Int) := by
    rw [Int.natCast_ediv, Int.natCast_pow]; rfl
  rw [e, Int.tmod_eq_emod_of_nonneg (Int.natCast_nonneg _)]
  rfl
theorem letter_one {s : ByteArray} {l : List Nat} (hs : s = strL l) (h8 : ∀ c ∈ l, c < 256) {i : Nat} (hi : i < l.length) : s.extract i (i + 1) = strL [l.getD i 0] := by
  have h1 : lettersOf (s.extract i (i + 1)) = [l.getD i 0] := by
    rw [letters_extract, hs, letters_strL h8, List.take_succ_eq_append_getElem hi, List.drop_append_of_le_length (by rw [List.length_take]; omega), List.drop_of_length_le (by rw [List.length_take]; omega), List.getD_eq_getElem?_getD, List.getElem?_eq_getElem hi]
    rfl
  rw [← strL_letters (s.extract i (i + 1)), h1]

set_option maxRecDepth 100000 in
set_option maxHeartbeats 1000000 in
theorem subset_any (l : List Nat) (j : Nat) (w : World) (h8 : ∀ c ∈ l, c < 256) (hl : l.length ≤ 26) (hj : j ≤ 1000000) :
    Calls Try.prog 51 #[.string (strL l), .int .i64 (j : Nat)] w fun e w' => e = .returned (.string (strL (selL l j))) ∧ w' = w := by
  obtain ⟨s, hs⟩ : ∃ s, s = strL l := ⟨_, rfl⟩
  have hsz : s.size = l.length := by rw [hs, strL_size]
  have Hone : Hid (∀ i, i < l.length → s.extract i (i + 1) = strL [l.getD i 0]) := fun i hi => letter_one hs h8 hi
  rw [← hs]
  clear hs h8
  go_enter Try.func51, Try.ntmps51
  go_wp2_with fail
  go_loopw [5, 6] (fun v iv wr => ∃ i : Nat, i ≤ l.length ∧ iv = .int .i64 i ∧ v = .string (strL (selL (l.take i) j)) ∧ wr = w) (fun _ iv _ => l.length - (intOf iv).toNat)
  case atStart => exact ⟨0, Nat.zero_le _, rfl, rfl, rfl⟩
  case round =>
    obtain ⟨i, hi, rfl, rfl, rfl⟩ := hrel
    by_cases hlt : i < l.length
    · have hlti : (i : Int) < (l.length : Int) := by omega
      have Hst := Lib.hid (selL_take l i j hlt)
      have hxl := selL_len (l.take i) j
      have hxl2 : (l.take i).length ≤ 26 := by rw [List.length_take]; omega
      have hone := Hone.out i hlt
      generalize l.getD i 0 = c at *
      have hslice : ∀ W, (Instr.slice 9 (.string s) (some (.int .i64 (i : Nat))) (some (.int .i64 ((i : Nat) + 1))) none).run Try.prog W = .ok (.string (strL [c])) W := fun W => by
        rw [run_slice_string W 9 s .i64 .i64 (i : Nat) ((i : Nat) + 1) Try.underlying9 (by omega) (by omega) (by omega), ← hone]
        rfl
      have htm := tmod_bit j i
      obtain ⟨r, hr⟩ : ∃ r, (j / 2 ^ i) % 2 = r := ⟨_, rfl⟩
      have hr2 : r < 2 := by rw [← hr]; exact Nat.mod_lt _ (by omega)
      rw [hr] at htm Hst
      generalize selL (l.take i) j = X at *
      have hXs : (strL X).size ≤ 26 := by rw [strL_size]; omega
      have hcat := strL_append X [c]
      have h1s : (strL [c]).size = 1 := by rw [strL_size]; rfl
      have hrr : r = 0 ∨ r = 1 := by omega
      clear hr hr2 hxl hxl2
      rcases hrr with rfl | rfl
      · go_wp2_with fail
        refine ⟨⟨i + 1, by omega, by go_num, by rw [Hst.out, if_neg (by decide), List.append_nil], by trivial⟩, by simp [intOf]; omega⟩
      · go_wp2_with fail
        refine ⟨⟨i + 1, by omega, by go_num, by rw [Hst.out, if_pos rfl], by trivial⟩, by simp [intOf]; omega⟩
    · obtain rfl : i = l.length := by omega
      rw [List.take_length]
      go_wp2_with fail
      go_ret
      exact ⟨rfl, rfl⟩

end Go.Proofs.Ytojjpbeaifiejaa
