/-
  The walks of Inverse, of both sides.
-/
import Derived.Test.YtgdaidmkcgblbaaAwake
import Derived.Test.YtgdaidmkcgblbaaCodeM
namespace Go.Proofs.Ytgdaidmkcgblbaa
open Go.RowKit

/-- Positions laid where the values say, the first k. -/
def invF (p : List Nat) : Nat → List Nat
  | 0 => List.replicate p.length 0
  | k + 1 => (invF p k).set (p.getD k 0) k
theorem invF_length (p : List Nat) : ∀ k, (invF p k).length = p.length
  | 0 => by simp [invF]
  | k + 1 => by unfold invF; rw [List.length_set]; exact invF_length p k

set_option maxRecDepth 100000 in
set_option maxHeartbeats 1000000 in
theorem inverse_any (b off n cap : Nat) (p : List Nat) (w : World) (hS : Sl .i64 w (some ⟨b, off, none⟩) n p) (hp : IsPerm p) (hn : n ≤ 60) (h0 : 0 < n) :
    Calls Try.prog 24 #[.slice (some ⟨b, off, none⟩) n cap] w (RetRowE (invF p n) w) := by
  have hl := hS.len
  subst hl
  have Hchk := Lib.hid (check_perm b off p.length cap p w hS hp hn h0)
  have hmk : ∀ W : World, (Instr.makeSlice 22 (.int .i64 (p.length : Nat)) (.int .i64 (p.length : Nat))).run Try.prog W = .ok (.slice (some ⟨W.heap.size, 0, none⟩) p.length p.length) (W.alloc (.cells (cellsOf .i64 (List.replicate p.length 0)) 3)) :=
    fun W => run_makeInts Try.underlying22 info_int (by omega) .i64 .i64 p.length (by omega) W
  obtain ⟨b', off', e, hs, hc⟩ := hS.at h0
  injection e with e
  injection e with e1 e2
  subst e1 e2
  have Hc := Lib.hid hc
  clear hc hS
  go_enter Try.func24, Try.ntmps24
  go_wp2_with (go_at_call 16; refine Hchk.out.mono ?_; rintro e w1 ⟨rfl, hb1⟩)
  go_loopw [18] (fun i wr => ∃ k : Nat, k ≤ p.length ∧ i = .int .i64 k ∧ Blk wr w1.heap.size 3 (cellsOf .i64 (invF p k)) ∧ Below w1.heap.size w1 wr) (fun i _ => p.length - (intOf i).toNat)
  case atStart => exact ⟨0, Nat.zero_le _, rfl, Blk.new w1 _ _, (Below.refl _ _).alloc (Nat.le_refl _) _⟩
  case round =>
    obtain ⟨k, hk, rfl, hblk, hbel⟩ := hrel
    clear hmk
    by_cases hlt : k < p.length
    · have hcp := ((hb1.trans (hbel.mono hb1.size)).cell (p := ⟨b, off + k, none⟩) hs).trans (Hc.out k hlt)
      have hv : p.getD k 0 < p.length := hp.lt hlt
      have ho := hblk.num (p.getD k 0) (by rw [invF_length]; exact hv)
      have hf := hblk.free (p.getD k 0)
      have Hput := Lib.hid (show Blk (wr.setCell ⟨w1.heap.size, p.getD k 0, none⟩ (.int .i64 (k : Nat))) w1.heap.size 3 (cellsOf .i64 (invF p (k + 1))) from hblk.put (p.getD k 0) k rfl)
      generalize (invF p k).getD (p.getD k 0) 0 = y at *
      generalize p.getD k 0 = v at *
      clear hblk
      go_wp2
      go_roundw
      case rel => exact ⟨k + 1, by omega, by go_num, Hput.out, hbel.setCell (Nat.le_refl _) _⟩
      case measure => simp [intOf]; omega
    · obtain rfl : k = p.length := by omega
      go_wp2
      go_ret2
      exact ⟨w1.heap.size, by rw [invF_length]; rfl, hb1.size, hblk, hb1.trans (hbel.mono hb1.size)⟩

set_option maxRecDepth 100000 in
set_option maxHeartbeats 1000000 in
theorem rinverse_any (b off n cap : Nat) (p : List Nat) (w : World) (hS : Sl .i64 w (some ⟨b, off, none⟩) n p) (hp : IsPerm p) (hn : n ≤ 60) (h0 : 0 < n) :
    Calls Try.prog 34 #[.slice (some ⟨b, off, none⟩) n cap] w (RetRow (invF p n) w) := by
  have hl := hS.len
  subst hl
  have hmk : ∀ W : World, (Instr.makeSlice 22 (.int .i64 (p.length : Nat)) (.int .i64 (p.length : Nat))).run Try.prog W = .ok (.slice (some ⟨W.heap.size, 0, none⟩) p.length p.length) (W.alloc (.cells (cellsOf .i64 (List.replicate p.length 0)) 3)) :=
    fun W => run_makeInts Try.underlying22 info_int (by omega) .i64 .i64 p.length (by omega) W
  obtain ⟨b', off', e, hs, hc⟩ := hS.at h0
  injection e with e
  injection e with e1 e2
  subst e1 e2
  have Hc := Lib.hid hc
  clear hc hS
  go_enter Try.func34, Try.ntmps34
  go_wp2
  go_loopw [4] (fun i wr => ∃ k : Nat, k ≤ p.length ∧ i = .int .i64 k ∧ Blk wr w.heap.size 3 (cellsOf .i64 (invF p k)) ∧ Below w.heap.size w wr) (fun i _ => p.length - (intOf i).toNat)
  case atStart => exact ⟨0, Nat.zero_le _, rfl, Blk.new w _ _, (Below.refl _ _).alloc (Nat.le_refl _) _⟩
  case round =>
    obtain ⟨k, hk, rfl, hblk, hbel⟩ := hrel
    clear hmk
    by_cases hlt : k < p.length
    · have hcp := (hbel.cell (p := ⟨b, off + k, none⟩) hs).trans (Hc.out k hlt)
      have hv : p.getD k 0 < p.length := hp.lt hlt
      have ho := hblk.num (p.getD k 0) (by rw [invF_length]; exact hv)
      have hf := hblk.free (p.getD k 0)
      have Hput := Lib.hid (show Blk (wr.setCell ⟨w.heap.size, p.getD k 0, none⟩ (.int .i64 (k : Nat))) w.heap.size 3 (cellsOf .i64 (invF p (k + 1))) from hblk.put (p.getD k 0) k rfl)
      generalize (invF p k).getD (p.getD k 0) 0 = y at *
      generalize p.getD k 0 = v at *
      clear hblk
      go_wp2
      go_roundw
      case rel => exact ⟨k + 1, by omega, by go_num, Hput.out, hbel.setCell (Nat.le_refl _) _⟩
      case measure => simp [intOf]; omega
    · obtain rfl : k = p.length := by omega
      go_wp2
      go_ret
      exact ⟨w.heap.size, by rw [invF_length]; rfl, Nat.le_refl _, hblk, hbel⟩

end Go.Proofs.Ytgdaidmkcgblbaa
