/-
  The walk of Baxters of the reference.
-/
import Derived.Test.YtgdaidmkcgblbaaBaxs
namespace Go.Proofs.Ytgdaidmkcgblbaa
open Go.RowKit

theorem rbax_val (s a b c d m : Nat) (h1 : a * b < 9223372036854775807) (h2 : a * b * c < 9223372036854775807) (h3 : s + a * b * c / m < 9223372036854775807) (hm : d = m) :
    wrap64 ((s : Int) + wrap64 ((wrap64 (wrap64 ((a : Int) * (b : Int)) * (c : Int))).tdiv (d : Int))) = ((s + a * b * c / m : Nat) : Int) := by
  subst hm
  have e1 : wrap64 ((a : Int) * (b : Int)) = ((a * b : Nat) : Int) := by
    rw [show (a : Int) * (b : Int) = ((a * b : Nat) : Int) by simp]
    exact IntWalk.wrap64_in _ (by omega)
  have e2 : wrap64 (((a * b : Nat) : Int) * (c : Int)) = ((a * b * c : Nat) : Int) := by
    rw [show ((a * b : Nat) : Int) * (c : Int) = ((a * b * c : Nat) : Int) by simp]
    exact IntWalk.wrap64_in _ (by omega)
  have h4 : a * b * c / d ≤ a * b * c := Nat.div_le_self _ _
  rw [e1, e2, Int.tdiv_eq_ediv_of_nonneg (by omega), div_val _ _ h2]
  generalize a * b * c / d = q at *
  exact IntWalk.wrap64_in _ (by omega)

theorem choose_int (N K : Int) (w : World) (h0 : 0 ≤ K) (h1 : K ≤ N) (h2 : N ≤ 21) :
    Calls Try.prog 93 #[.int .i64 N, .int .i64 K] w fun e w' => e = .returned (.int .i64 (chooseN N.toNat K.toNat)) ∧ w = w' := by
  obtain ⟨n, rfl⟩ : ∃ n : Nat, N = n := ⟨N.toNat, by omega⟩
  obtain ⟨k, rfl⟩ : ∃ k : Nat, K = k := ⟨K.toNat, by omega⟩
  exact choose_any n k w (by omega) (by omega)

set_option maxRecDepth 100000 in
set_option maxHeartbeats 1000000 in
theorem rbaxters_any (n : Nat) (w : World) (h1 : 1 ≤ n) (h2 : n ≤ 20) :
    Calls Try.prog 60 #[.int .i64 n] w fun e w' => e = .returned (.int .i64 (baxN n)) ∧ w = w' := by
  have Hfacts := Lib.hid (fun k hk => rbax_facts n k h1 h2 hk)
  have Hend := Lib.hid (rbax_end n h1 h2)
  go_enter Try.func60, Try.ntmps60
  go_wp2
  go_loop [3, 4] (fun t i => ∃ k : Nat, k ≤ n ∧ i = .int .i64 (k + 1 : Nat) ∧ t = .int .i64 (rbaxTo n k)) (fun _ i => n + 1 - (intOf i).toNat)
  case atStart => exact ⟨0, Nat.zero_le _, rfl, rfl⟩
  case round =>
    obtain ⟨k, hk, rfl, rfl⟩ := hrel
    by_cases hlt : k < n
    · have hf := Hfacts.out k hlt
      have Hto := Lib.hid (show rbaxTo n (k + 1) = rbaxTo n k + chooseN (n + 1) k * chooseN (n + 1) (k + 1) * chooseN (n + 1) (k + 2) / (chooseN (n + 1) 1 * chooseN (n + 1) 2) from rfl)
      rw [Hto.out] at hf
      have he := Hend.out
      have Hf := Lib.hid hf
      clear hf
      have i1 : (chooseN (n + 1) 1 : Int) * (chooseN (n + 1) 2 : Int) = ((chooseN (n + 1) 1 * chooseN (n + 1) 2 : Nat) : Int) := by simp
      have i2 : ((chooseN (n + 1) 1 * chooseN (n + 1) 2 : Nat) : Int) ≤ 9223372036854775807 := by omega
      have i3 : 0 < ((chooseN (n + 1) 1 * chooseN (n + 1) 2 : Nat) : Int) := by omega
      generalize hm : (chooseN (n + 1) 1 * chooseN (n + 1) 2 : Nat) = m at i1 i2 i3
      have Hm := Lib.hid hm
      clear hm he
      go_wp2_with (go_at_call 93; refine (choose_int _ _ _ (by omega) (by omega) (by omega)).mono ?_; rintro e w' ⟨rfl, rfl⟩)
      go_round
      case rel =>
        refine ⟨k + 1, by omega, by go_num, ?_⟩
        rw [Hto.out]
        have hf := Hf.out
        exact congrArg (Value.int .i64) (rbax_val _ _ _ _ m _ hf.1 hf.2.1 hf.2.2 Hm.out.symm)
      case measure => simp [intOf]; omega
    · obtain rfl : k = n := by omega
      go_wp2
      go_ret
      exact ⟨ret_int (by rw [← Hend.out.2.2]), rfl⟩

end Go.Proofs.Ytgdaidmkcgblbaa
