/-
  The walks of Separables, and of Separables of the reference.
-/
import Derived.Test.YtgdaidmkcgblbaaBaxs
import Derived.Test.YtgdaidmkcgblbaaOwn
namespace Go.Proofs.Ytgdaidmkcgblbaa
open Go.RowKit

theorem separables_no (n : Int) (w : World) (h : n < 1 ∨ 20 < n) :
    Calls Try.prog 59 #[.int .i64 n] w fun e w' => e = .returned (.tuple #[.int .i64 0, .int .i64 1]) ∧ w = w' := by
  rcases h with h | h
  · have h1 : decide (n < 1) = true := decide_eq_true h
    go_enter Try.func59, Try.ntmps59
    go_wp2
    go_ret2
    exact ⟨rfl, rfl⟩
  · have h1 : decide (n < 1) = false := decide_eq_false (by omega)
    have h2 : decide (20 < n) = true := decide_eq_true h
    go_enter Try.func59, Try.ntmps59
    go_wp2
    go_ret2
    exact ⟨rfl, rfl⟩

theorem sum_val (s a b : Nat) (h1 : a * b < 9223372036854775807) (h2 : s + a * b < 9223372036854775807) : IntKind.i64.wrap ((s : Int) + (a : Int) * (b : Int)) = ((s : Int) + (a : Int) * (b : Int)) ∧ IntKind.i64.wrap ((a : Int) * (b : Int)) = (a : Int) * (b : Int) := by
  have e : (a : Int) * (b : Int) = ((a * b : Nat) : Int) := by simp
  exact ⟨by rw [e]; exact i64_add h2, i64_mul h1⟩

set_option maxRecDepth 100000 in
set_option maxHeartbeats 1000000 in
theorem separables_yes (n : Nat) (w : World) (h1 : 1 ≤ n) (h2 : n ≤ 20) :
    Calls Try.prog 59 #[.int .i64 n] w fun e w' => e = .returned (.tuple #[.int .i64 ((sepL (n - 1)).getD (n - 1) 0 : Nat), .int .i64 0]) ∧ Below w.heap.size w w' := by
  have d1 : decide ((n : Int) < 1) = false := decide_eq_false (by omega)
  have d2 : decide ((20 : Int) < (n : Int)) = false := decide_eq_false (by omega)
  obtain ⟨i0, hi, hz0, hz1, hz2⟩ := info_parts info_i64
  have Hfacts := Lib.hid (fun m k hm hk => sep_facts m k hm hk)
  go_enter Try.func59, Try.ntmps59
  go_wp2
  go_loopw [4, 5] (fun t i wr => ∃ m : Nat, m < n ∧ i = .int .i64 (m + 1 : Nat) ∧ (∃ g cap, t = .slice (some ⟨g, 0, none⟩) (m + 1) cap ∧ wr.ownsRow w.heap.size 2 1 t (m + 1) (nums .i64 (sepL m))) ∧ Below w.heap.size w wr) (fun _ i _ => n - (intOf i).toNat)
  case atStart => exact ⟨0, by omega, rfl, ⟨w.heap.size, 1, rfl, own_lit w 2 [.int .i64 1] (by decide)⟩, (Below.refl _ _).alloc (Nat.le_refl _) _⟩
  case round =>
    obtain ⟨m, hm, rfl, ⟨g, cap, rfl, hown⟩, hbel⟩ := hrel
    have hl := own_num hown
    have hll := sepL_length m
    by_cases hlt : m + 1 < n
    · have hcm := hl m (by omega)
      have hN0 : nextTo (sepL m) 0 = (sepL m).getD m 0 := by show (sepL m).getD ((sepL m).length - 1) 0 = _; rw [hll]; rfl
      have HN0 := Lib.hid hN0
      have Hll := Lib.hid hll
      have Hl := Lib.hid hl
      clear hN0 hll hl
      have i4 : IntKind.i64.wrap (((m + 1 : Nat) : Int) - 1) = (m : Int) := by rw [IntWalk.i64_in _ (by omega)]; omega
      generalize hx0 : (sepL m).getD m 0 = x0 at *
      have Hx0 := Lib.hid hx0
      clear hx0
      go_wp2
      obtain ⟨wo, rfl⟩ : ∃ wo : World, wo = wr := ⟨_, rfl⟩
      go_loopw [6, 26] (fun t i wr => ∃ k : Nat, k ≤ m + 1 ∧ i = .int .i64 k ∧ t = .int .i64 (nextTo (sepL m) k : Nat) ∧ Drew wo wr) (fun _ i _ => m + 1 - (intOf i).toNat)
      case atStart => exact ⟨0, Nat.zero_le _, rfl, by rw [HN0.out], Drew.refl _⟩
      case round =>
        obtain ⟨k, hk, rfl, rfl, q, rfl⟩ := hrel
        by_cases hkm : k < m + 1
        · have hc1 := Hl.out k (by omega)
          have hc2 := Hl.out (m - k) (by omega)
          have hf := Hfacts.out m k (by omega) (by omega)
          have Hto := Lib.hid (show nextTo (sepL m) (k + 1) = nextTo (sepL m) k + (sepL m).getD k 0 * (sepL m).getD (m - k) 0 by
            show _ + _ * (sepL m).getD ((sepL m).length - 1 - k) 0 = _
            rw [Hll.out]; rfl)
          rw [Hto.out] at hf
          generalize (sepL m).getD k 0 = x at *
          generalize (sepL m).getD (m - k) 0 = y at *
          generalize nextTo (sepL m) k = s at *
          have hv := sum_val s x y hf.1 hf.2.1
          have i1 := hv.1
          have i2 := hv.2
          have i5 : IntKind.i64.wrap (IntKind.i64.wrap (((m + 1 : Nat) : Int) - 1) - (k : Int)) = ((m - k : Nat) : Int) := by rw [i4, IntWalk.i64_in _ (by omega)]; omega
          have i6 : (m : Int) - (k : Int) = ((m - k : Nat) : Int) := by omega
          clear hf hv
          go_wp2
          go_quiet (fail)
          go_wp2
          go_roundw
          case rel =>
            refine ⟨k + 1, by omega, by go_num, ?_, by exact ⟨_, rfl⟩⟩
            rw [Hto.out]
            simp
          case measure => simp [intOf]; omega
        · obtain rfl : k = m + 1 := by omega
          have hown2 : (wo.drewN q).ownsRow w.heap.size 2 1 (.slice (some ⟨g, 0, none⟩) (m + 1) cap) (m + 1) (nums .i64 (sepL m)) := hown
          have hsz : w.heap.size ≤ (wo.drewN q).heap.size := hbel.size
          have Hnext := Lib.hid (show sepL (m + 1) = sepL m ++ [nextTo (sepL m) (m + 1)] from rfl)
          have hbel2 : Below w.heap.size w (wo.drewN q) := below_drewN hbel q
          generalize nextTo (sepL m) (m + 1) = s at *
          clear hown hbel
          generalize wo.drewN q = X at *
          have hc : (X.alloc (.cells #[.int .i64 (s : Nat)] 2)).cell? ⟨X.heap.size, 0, none⟩ = some (.int .i64 (s : Nat)) := (Blk.new X 2 #[.int .i64 (s : Nat)]).cell 0
          have hmx := own_max hown2
          go_wp2_with (at_builtin; refine wpList_append_own _ rfl _ _ 112 rfl w.heap.size 2 i0 (.int .i64 0) 1 8 Try.underlying112 hi hz0 hz1 hz2 rfl (by decide) _ _ _ rfl (hown2.alloc _) ⟨X.heap.size, 0, none⟩ 1 1 [.int .i64 (s : Nat)] rfl rfl ?c1 ?c2 ?c3 ?c4 ?c5 ?_)
          case c1 => exact cell_one_new _ _ _
          case c2 => simp [Value.oneCell']
          case c3 => unfold maxLen; omega
          case c4 => omega
          case c5 => simp; omega
          intro v' w1 hown' hgrow _
          obtain ⟨g', cap', rfl⟩ := ownsRow_succ hown'
          have hb' := hbel2.trans ((own_below hown2 hsz hgrow))
          rw [nums_snoc, ← Hnext.out] at hown'
          go_wp2
          go_roundw
          case rel => exact ⟨m + 1, by omega, by go_num, ⟨g', cap', rfl, hown'⟩, hb'⟩
          case measure => simp [intOf]; omega
    · obtain rfl : n = m + 1 := by omega
      have hcm := hl m (by omega)
      have i4 : IntKind.i64.wrap (((m + 1 : Nat) : Int) - 1) = (m : Int) := by rw [IntWalk.i64_in _ (by omega)]; omega
      clear hl hll hown
      generalize hx0 : (sepL m).getD m 0 = x0 at *
      have Hx0 := Lib.hid hx0
      clear hx0
      go_wp2
      go_ret2
      exact ⟨by rw [Nat.add_sub_cancel, Hx0.out]; rfl, hbel⟩

end Go.Proofs.Ytgdaidmkcgblbaa
