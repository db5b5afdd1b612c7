/-
  The walk of Check on a permutation.
-/
import Derived.Test.YtgdaidmkcgblbaaSame
namespace Go.Proofs.Ytgdaidmkcgblbaa
open Go.RowKit

/-- Flags as cells. -/
def flags (f : Nat → Bool) : Array Value := ((List.range 60).map fun i => Value.bool (f i)).toArray
theorem flags_get (f : Nat → Bool) (i : Nat) (h : i < 60) : (flags f)[i]? = some (.bool (f i)) := by simp [flags, h]
theorem flags_set (f : Nat → Bool) (i : Nat) : (flags f).setIfInBounds i (.bool true) = flags fun k => decide (k = i) || f k := by
  apply Array.ext
  · simp [flags]
  · intro j h1 h2
    simp only [flags, List.setIfInBounds_toArray, List.getElem_toArray, List.getElem_set, List.getElem_map, List.getElem_range]
    by_cases e : i = j
    · subst e; simp
    · simp [e]; intro h; exact absurd h.symm e

set_option maxRecDepth 100000 in
theorem check_perm (b off n cap : Nat) (p : List Nat) (w : World) (hS : Sl .i64 w (some ⟨b, off, none⟩) n p) (hp : IsPerm p) (hn : n ≤ 60) (h0 : 0 < n) :
    Calls Try.prog 16 #[.slice (some ⟨b, off, none⟩) n cap] w fun e w' => e = .returned (.int .i64 0) ∧ Below w.heap.size w w' := by
  have hl := hS.len
  subst hl
  obtain ⟨b', off', e, hs, hc⟩ := hS.at h0
  injection e with e
  injection e with e1 e2
  subst e1 e2
  have hb1 : decide ((p.length : Int) < 1) = false := decide_eq_false (by omega)
  have hb2 : decide ((60 : Int) < (p.length : Int)) = false := decide_eq_false (by omega)
  go_enter Try.func16, Try.ntmps16
  go_wp2
  go_loopw [16] (fun i wr => ∃ k : Nat, k ≤ p.length ∧ i = .int .i64 k ∧ ∃ f : Nat → Bool, Blk wr w.heap.size 81 (flags f) ∧ (∀ v, f v = true → ∃ j, j < k ∧ p.getD j 0 = v) ∧ Below w.heap.size w wr) (fun i _ => p.length - (intOf i).toNat)
  case atStart =>
    refine ⟨0, Nat.zero_le _, rfl, fun _ => false, ?_, fun v h => absurd h (by simp), (Below.refl _ _).alloc (Nat.le_refl _) _⟩
    exact (heap_alloc_new w _).trans (congrArg (fun x => some (Obj.cells x 81 (0, 0))) (by rfl))
  case round =>
    obtain ⟨k, hk, rfl, f, hblk, hf, hbel⟩ := hrel
    have Hf := Lib.hid hf
    clear hf
    by_cases hlt : k < p.length
    · have hca := (hbel.cell (p := ⟨b, off + k, none⟩) hs).trans (hc k hlt)
      have hv : p.getD k 0 < p.length := hp.lt hlt
      have hfv : f (p.getD k 0) = false := by
        by_cases e : f (p.getD k 0) = true
        · obtain ⟨j, hj, ej⟩ := Hf.out _ e
          have := hp.inj (by omega) hlt ej
          omega
        · simpa using e
      have hcf : wr.cell? ⟨w.heap.size, p.getD k 0, none⟩ = some (.bool false) := by rw [hblk.cell, flags_get f _ (by omega), hfv]
      have hff := hblk.free (p.getD k 0)
      have Hput := Lib.hid ((flags_set f (p.getD k 0)) ▸ hblk.store (p.getD k 0) (.bool true))
      have Hk := Lib.hid (show ∀ v, (decide (v = p.getD k 0) || f v) = true → ∃ j, j < k + 1 ∧ p.getD j 0 = v by
        intro v h
        rcases Bool.or_eq_true_iff.1 h with h | h
        · exact ⟨k, by omega, (of_decide_eq_true h).symm⟩
        · obtain ⟨j, hj, ej⟩ := Hf.out v h
          exact ⟨j, by omega, ej⟩)
      clear hc hfv hp hS
      generalize p.getD k 0 = v at *
      have hv60 : v < 60 := by omega
      go_wp2
      go_roundw
      case rel => exact ⟨k + 1, by omega, by go_num, _, Hput.out, Hk.out, hbel.setCell (Nat.le_refl _) _⟩
      case measure => simp [intOf]; omega
    · obtain rfl : k = p.length := by omega
      go_wp2
      go_ret
      exact ⟨rfl, hbel⟩

end Go.Proofs.Ytgdaidmkcgblbaa
