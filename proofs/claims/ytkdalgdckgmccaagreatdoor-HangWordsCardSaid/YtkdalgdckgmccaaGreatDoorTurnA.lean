/-
  The walk of the reference's Inverse, and what Reduce, Inverse and Root return of no word.
  The walks of checkAll of two words, and of the reference's Same, IsTurned, core and Turns.
-/
import Derived.Test.YtkdalgdckgmccaaGreatDoorRefC
import Derived.Test.YtkdalgdckgmccaaGreatDoorSplit
import Derived.Test.YtkdalgdckgmccaaGreatDoorCheck
namespace Go.Proofs.YtkdalgdckgmccaaGreatDoor
open Go.RowKit Go.Shelf

theorem inv_drop {l : List Nat} {n k : Nat} (hl : l.length = n) (h : k < n) : invL (l.drop (n - (k + 1))) = invL (l.drop (n - k)) ++ [inv (l.getD (n - 1 - k) 0)] := by
  have e : l.drop (n - (k + 1)) = l.getD (n - 1 - k) 0 :: l.drop (n - k) := by
    rw [List.getD_eq_getElem?_getD, List.getElem?_eq_getElem (by omega), show n - (k + 1) = n - 1 - k by omega, List.drop_eq_getElem_cons (by omega), show n - 1 - k + 1 = n - k by omega]
    rfl
  rw [e, invL_cons]

set_option maxRecDepth 100000 in
set_option maxHeartbeats 2000000 in
theorem rinverse_any (s : ByteArray) (w : World) (hword : IsWord (lettersOf s)) (hsz : s.size ≤ 1000000) :
    Calls Tryz.prog 11 #[.string s] w fun e w' => e = .returned (.string (strL (invL (lettersOf s)))) ∧ Below w.heap.size w w' := by
  obtain ⟨i0, hi, hz0, hz1, hz2⟩ := info_parts info_u8
  have hlen := lettersOf_length s
  have Hword := Lib.hid hword
  clear hword
  have hmk := run_make (P := Tryz.prog) w 43 5 i0 (.int .u8 0) Tryz.underlying43 hi hz0 .i64 .i64 0 (s.size : Nat) (by omega) (by omega) (by rw [hz2]; omega) (by omega)
  rw [hz1, Nat.mul_one, Int.toNat_natCast, show (0 : Int).toNat = 0 from rfl, show madeCells (Value.int .u8 0).cells s.size = cellsOf .u8 (List.replicate s.size 0) from cellsOf_made .u8 s.size] at hmk
  have hown0 := own_made w 5 (cellsOf .u8 (List.replicate s.size 0)) (by simp [cellsOf, maxLen]; omega)
  rw [show (cellsOf .u8 (List.replicate s.size 0)).size = s.size by simp [cellsOf]] at hown0
  have hbel0 := below_new' w (.cells (cellsOf .u8 (List.replicate s.size 0)) 5)
  generalize cellsOf .u8 (List.replicate s.size 0) = Z at *
  go_enter Tryz.func11, Tryz.ntmps11
  go_wp2_with fail
  have hsz1 : w.heap.size ≤ (w.alloc (.cells Z 5)).heap.size := hbel0.size
  generalize w.alloc (.cells Z 5) = W0 at *
  generalize hg : w.heap.size = g at *
  have Hg := Lib.hid hg
  have Hl := Lib.hid hlen
  clear hg hmk hlen
  go_loopw [3, 4] (fun v iv wr => ∃ k : Nat, k ≤ s.size ∧ iv = .int .i64 ((s.size : Int) - 1 - k) ∧ wr.ownsRow g 5 1 v k (nums .u8 (invL ((lettersOf s).drop (s.size - k)))) ∧ Below g w wr) (fun _ iv _ => (intOf iv + 1).toNat)
  case atStart =>
    refine ⟨0, Nat.zero_le _, by simp, ?_, hbel0⟩
    rw [Nat.sub_zero, List.drop_of_length_le (by have := Hl.out; omega)]
    exact hown0
  case round =>
    obtain ⟨k, hk, rfl, hown, hbel⟩ := hrel
    by_cases hlt : k < s.size
    · have h0 : (0 : Int) ≤ (s.size : Int) - 1 - k := by omega
      obtain ⟨j, hj⟩ : ∃ j : Nat, s.size - 1 - k = j := ⟨_, rfl⟩
      have hji : (s.size : Int) - 1 - k = (j : Int) := by omega
      have hjs : j < s.size := by omega
      have hcc : (s[j]'hjs).toNat = (lettersOf s).getD j 0 := (lettersOf_get s j hjs).symm
      have hc : Lt ((lettersOf s).getD j 0) := by
        rw [List.getD_eq_getElem?_getD, List.getElem?_eq_getElem (by have := Hl.out; omega)]
        exact Hword.out _ (List.getElem_mem _)
      have Hnext := Lib.hid (inv_drop (l := lettersOf s) (n := s.size) (k := k) Hl.out hlt)
      rw [hj] at Hnext
      generalize invL ((lettersOf s).drop (s.size - k)) = xs at *
      generalize (lettersOf s).getD j 0 = c at *
      have Hoth := Lib.hid (fun W => rother_any c hc W)
      have hinv : inv c < 256 := by have := hc.inv.lt; omega
      generalize inv c = d at *
      have hjsi : (j : Int) < (s.size : Int) := by omega
      have hgs : g ≤ wr.heap.size := by have := hbel.size; have := Hg.out; omega
      have Hj := Lib.hid hj
      have Hji := Lib.hid hji
      have Hk := Lib.hid hlt
      rw [hji]
      clear hj hji h0 hlt hc
      go_wp2_with (first
        | (go_at_call 26; refine (Hoth.out _).mono ?_; clear Hoth; rintro e w2 ⟨rfl, rfl⟩)
        | (at_builtin; refine wpList_append_lies _ rfl _ _ 43 rfl g 5 i0 (.int .u8 0) 1 1 Tryz.underlying43 hi hz0 hz1 hz2 rfl (by decide) _ k (nums .u8 xs) rfl (hown.alloc _) ⟨w2.heap.size, 0, none⟩ 1 1 [.int .u8 d] rfl rfl ?c1 ?c2 ?c3 ?c4 ?c5 ?c6 (w2.heap.size + 1) (size_new'' _ _) ?_))
      case c1 => exact cell_one_new _ _ _
      case c2 => exact one_cell _ rfl
      case c3 => exact Nat.one_pos
      case c4 => unfold maxLen; omega
      case c5 => omega
      case c6 => rw [World.size_alloc]; omega
      intro gr cr w4 hown4 hgrow4 hat4 hlt4
      have hbel4 : Below g w w4 := hbel.trans ((own_below hown hgs hgrow4).mono (Nat.le_refl _))
      go_wp2_with fail
      go_roundw
      case rel => exact ⟨k + 1, Hk.out, by have := Hji.out; congr 1; omega, by rw [Hnext.out, ← nums_snoc]; exact hown4, hbel4⟩
      case measure => simp [intOf]
    · obtain rfl : k = s.size := by omega
      have h0 : ¬ (0 : Int) ≤ (s.size : Int) - 1 - (s.size : Nat) := by omega
      rw [Nat.sub_self, List.drop_zero] at hown
      have hll : (invL (lettersOf s)).length = s.size := by rw [invL_length, Hl.out]
      rw [← hll] at hown
      have hconv := own_string (t := 43) Tryz.underlying43 hown
      have Hbel := Lib.hid hbel
      clear hown hbel hll
      go_wp2_with fail
      go_ret
      exact ⟨rfl, by rw [Hg.out]; exact Hbel.out⟩

set_option maxRecDepth 100000 in
theorem reduce_bad (s : ByteArray) (w : World) (hsz : s.size ≤ 9223372036854775807) (hc : checkN (lettersOf s) ≠ 0) :
    Calls Tryz.prog 6 #[.string s] w fun e w' => e = .returned (.tuple #[.string ⟨#[]⟩, .int .i64 (checkN (lettersOf s))]) ∧ Below w.heap.size w w' := by
  have Hchk := Lib.hid (check_any s w (by omega))
  obtain ⟨z, hz⟩ : ∃ z : Int, z = (checkN (lettersOf s) : Nat) := ⟨_, rfl⟩
  have hz0 : ¬ z = 0 := by omega
  have hzb : (z == 0) = false := by simpa using hz0
  rw [← hz] at Hchk ⊢
  clear hz hc
  go_enter Tryz.func6, Tryz.ntmps6
  go_wp2_with (go_at_call 5; refine Hchk.out.mono ?_; clear Hchk; rintro e w1 ⟨rfl, hb1⟩)
  go_ret2
  exact ⟨rfl, hb1⟩
set_option maxRecDepth 100000 in
theorem inverse_bad (s : ByteArray) (w : World) (hsz : s.size ≤ 9223372036854775807) (hc : checkN (lettersOf s) ≠ 0) :
    Calls Tryz.prog 7 #[.string s] w fun e w' => e = .returned (.tuple #[.string ⟨#[]⟩, .int .i64 (checkN (lettersOf s))]) ∧ Below w.heap.size w w' := by
  have Hchk := Lib.hid (check_any s w (by omega))
  obtain ⟨z, hz⟩ : ∃ z : Int, z = (checkN (lettersOf s) : Nat) := ⟨_, rfl⟩
  have hz0 : ¬ z = 0 := by omega
  have hzb : (z == 0) = false := by simpa using hz0
  rw [← hz] at Hchk ⊢
  clear hz hc
  go_enter Tryz.func7, Tryz.ntmps7
  go_wp2_with (go_at_call 5; refine Hchk.out.mono ?_; clear Hchk; rintro e w1 ⟨rfl, hb1⟩)
  go_ret2
  exact ⟨rfl, hb1⟩
set_option maxRecDepth 100000 in
theorem root_bad (s : ByteArray) (w : World) (hsz : s.size ≤ 1000000000) (hc : checkN (lettersOf s) ≠ 0) :
    Calls Tryz.prog 31 #[.string s] w fun e w' => e = .returned (.tuple #[.string ⟨#[]⟩, .int .i64 0, .int .i64 (checkN (lettersOf s))]) ∧ Below w.heap.size w w' := by
  have Hchk := Lib.hid (check_any s w (by omega))
  obtain ⟨z, hz⟩ : ∃ z : Int, z = (checkN (lettersOf s) : Nat) := ⟨_, rfl⟩
  have hz0 : ¬ z = 0 := by omega
  have hzb : (z == 0) = false := by simpa using hz0
  rw [← hz] at Hchk ⊢
  clear hz hc
  go_enter Tryz.func31, Tryz.ntmps31
  go_wp2_with (go_at_call 5; refine Hchk.out.mono ?_; clear Hchk; rintro e w1 ⟨rfl, hb1⟩)
  go_ret3
  exact ⟨rfl, hb1⟩

end Go.Proofs.YtkdalgdckgmccaaGreatDoor

namespace Go.Proofs.YtkdalgdckgmccaaGreatDoor
open Go.RowKit Go.Shelf

/-- What checkAll returns of two words. -/
def chk2 (u v : List Nat) : Nat := if checkN u = 0 then checkN v else checkN u

end Go.Proofs.YtkdalgdckgmccaaGreatDoor
