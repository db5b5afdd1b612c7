/-
  The walks of Reduce and Inverse, of a word.
-/
import Derived.Test.YtkdalgdckgmccaaGreatDoorText
import Derived.Test.YtkdalgdckgmccaaGreatDoorTied
import Derived.Test.YtkdalgdckgmccaaGreatDoorCheck
namespace Go.Proofs.YtkdalgdckgmccaaGreatDoor
open Go.RowKit Go.Shelf

set_option maxRecDepth 100000 in
set_option maxHeartbeats 2000000 in
theorem reduce_any (s : ByteArray) (w : World) (hsz : s.size ≤ 1000000000) (hc : checkN (lettersOf s) = 0) :
    Calls Tryz.prog 6 #[.string s] w fun e w' => e = .returned (.tuple #[.string (strL (redL (lettersOf s))), .int .i64 0]) ∧ Below w.heap.size w w' := by
  obtain ⟨hword, hlen⟩ := checkN_zero hc
  have hl := lettersOf_length s
  have Hchk := Lib.hid (check_any s w (by omega))
  rw [hc] at Hchk
  have Hred := Lib.hid (fun W => reduced_any s W hword (by omega))
  clear hword hlen hl hc
  go_enter Tryz.func6, Tryz.ntmps6
  go_wp2_with (first
    | (go_at_call 5; refine Hchk.out.mono ?_; clear Hchk; rintro e w1 ⟨rfl, hb1⟩)
    | (go_at_call 20; refine (Hred.out _).mono ?_; clear Hred; rintro e w2 ⟨v2, rfl, hW2, hb2⟩; have hconv := wire_string hW2))
  go_ret2
  exact ⟨rfl, hb1.trans (hb2.mono hb1.size)⟩

set_option maxRecDepth 100000 in
set_option maxHeartbeats 2000000 in
theorem inverseOf_any (s : ByteArray) (w : World) (hsz : s.size ≤ 1000000000) (hc : checkN (lettersOf s) = 0) :
    Calls Tryz.prog 7 #[.string s] w fun e w' => e = .returned (.tuple #[.string (strL (invL (lettersOf s))), .int .i64 0]) ∧ Below w.heap.size w w' := by
  obtain ⟨hword, hlen⟩ := checkN_zero hc
  have hl := lettersOf_length s
  have Hchk := Lib.hid (check_any s w (by omega))
  rw [hc] at Hchk
  have hs1 : s.size ≤ 30000 := by omega
  have Hword := Lib.hid hword
  clear hword hlen hl hc
  go_enter Tryz.func7, Tryz.ntmps7
  go_wp2_with (first
    | (go_at_call 5; refine Hchk.out.mono ?_; clear Hchk; rintro e w1 ⟨rfl, hb1⟩; have hcv := run_bytes_of_string w1 9 44 5 s Tryz.underlying9 Tryz.underlying44 Tryz.underlying5 (P := Tryz.prog); have hS := sl_converted s w1.drew (grownCap w1 s.size 0 5) 5 ((bytesRow s (grownCap w1 s.size 0 5)).size, (bytesRow s (grownCap w1 s.size 0 5)).size + 1) (by omega); have Hinv := Lib.hid (inverse_any _ s.size (grownCap w1 s.size 0 5) (lettersOf s) _ hS Hword.out (by omega)); clear hS)
    | (go_at_call 21; refine Hinv.out.mono ?_; clear Hinv; rintro e w2 ⟨v2, rfl, hW2, hb2⟩; have hcv2 := wire_string hW2))
  go_ret2
  exact ⟨rfl, hb1.trans ((((Below.refl _ w1).drew.alloc (Nat.le_refl _) _).trans (hb2.mono (by simp))).mono hb1.size)⟩

end Go.Proofs.YtkdalgdckgmccaaGreatDoor
