/-
  The walks of binomials and Baxters.
-/
import Derived.Test.YtcklgdcjedikoaaSame
import Derived.Test.YtcklgdcjedikoaaNum
import Derived.RegionTactic
import Derived.ChangeAlike
namespace Go.Proofs.Ytcklgdcjedikoaa
open Go.RowKit

theorem info_i64 : (Try.prog.info? 2).map (fun i => (i.zero, i.size, i.bytes)) = some (some (.int .i64 0), 1, 8) := by kernel_rfl

/-- A row of n numbers in a block of its own. -/
def RetNums (t : TypeId) (n : Nat) (l : List Nat) (w : World) (e : Ending) (w' : World) : Prop :=
  ∃ g, e = .returned (.slice (some ⟨g, 0, none⟩) n n) ∧ w.heap.size ≤ g ∧ Blk w' g t (cellsOf .i64 l) ∧ Below w.heap.size w w'

set_option maxRecDepth 100000 in
set_option maxHeartbeats 1000000 in
theorem binomials_any (n : Nat) (w : World) (hn : n ≤ 21) :
    Calls Try.prog 92 #[.int .i64 n] w (RetNums 2 (n + 1) (binL n n) w) := by
  have hmk : ∀ W : World, (Instr.makeSlice 112 (.int .i64 ((n : Int) + 1)) (.int .i64 ((n : Int) + 1))).run Try.prog W = .ok (.slice (some ⟨W.heap.size, 0, none⟩) (n + 1) (n + 1)) (W.alloc (.cells (cellsOf .i64 (List.replicate (n + 1) 0)) 2)) :=
    fun W => run_makeInts Try.underlying112 info_i64 (by omega) .i64 .i64 (n + 1) (by omega) W
  go_enter Try.func92, Try.ntmps92
  go_wp2
  go_loopw [11] (fun i wr => ∃ t : Nat, t ≤ n ∧ i = .int .i64 t ∧ Blk wr w.heap.size 2 (cellsOf .i64 (binL n t)) ∧ Below w.heap.size w wr) (fun i _ => n - (intOf i).toNat)
  case atStart =>
    refine ⟨0, Nat.zero_le _, rfl, ?_, (Below.refl _ _).alloc (Nat.le_refl _) _⟩
    have h := cellsOf_set .i64 (List.replicate (n + 1) 0) 0 1
    rw [show (List.replicate (n + 1) 0).set 0 1 = binL n 0 by simp [binL, List.replicate_succ]] at h
    rw [← h]
    exact Blk.new _ _ _
  case round =>
    obtain ⟨t, ht, rfl, hblk, hbel⟩ := hrel
    by_cases hlt : t < n
    · go_wp2
      obtain ⟨wo, rfl⟩ : ∃ wo : World, wo = wr := ⟨_, rfl⟩
      go_loopw [4] (fun i wr => ∃ (k : Nat) (xs : List Nat), k ≤ n ∧ i = .int .i64 k ∧ Blk wr w.heap.size 2 (cellsOf .i64 xs) ∧ xs.length = n + 1 ∧ (∀ j, j ≤ k → xs.getD j 0 = (binL n t).getD j 0) ∧ (∀ j, k < j → j ≤ n → xs.getD j 0 = (stepL (binL n t)).getD j 0) ∧ Below w.heap.size w wr) (fun i _ => (intOf i).toNat)
      case atStart => exact ⟨n, binL n t, Nat.le_refl _, rfl, hblk, binL_length n t, fun _ _ => rfl, fun j h1 h2 => absurd h2 (by omega), hbel⟩
      case round =>
        obtain ⟨k, xs, hk, rfl, hb, hxl, hlo, hhi, hbel2⟩ := hrel
        have Hxl := Lib.hid hxl
        have Hlo := Lib.hid hlo
        have Hhi := Lib.hid hhi
        clear hxl hlo hhi hmk
        by_cases hk0 : 0 < k
        · have hc1 := hb.num k (by rw [Hxl.out]; omega)
          have hc2 := hb.num (k - 1) (by rw [Hxl.out]; omega)
          have hf := hb.free k
          have e1 := Lib.hid (Hlo.out k (Nat.le_refl _))
          have e2 := Lib.hid (Hlo.out (k - 1) (by omega))
          have l1 := binL_le n t k
          have l2 := binL_le n t (k - 1)
          have l3 : 2 ^ t ≤ 2 ^ 21 := Nat.pow_le_pow_right (by omega) (by omega)
          rw [← e1.out] at l1
          rw [← e2.out] at l2
          have Hput := Lib.hid (fun z h => hb.put k (xs.getD k 0 + xs.getD (k - 1) 0) (z := z) h)
          generalize hx : xs.getD k 0 = x at *
          generalize hy : xs.getD (k - 1) 0 = y at *
          have hx9 : x ≤ 2097152 := by omega
          have hy9 : y ≤ 2097152 := by omega
          clear l1 l2 l3 hx hy
          have hkm : (((k - 1 : Nat) : Int)) = (k : Int) - 1 := by omega
          have i1 : IntKind.i64.wrap ((k : Int) - 1) = (k : Int) - 1 := IntWalk.i64_in _ (by omega)
          have i2 : IntKind.i64.wrap ((x : Int) + y) = (x : Int) + y := IntWalk.i64_in _ (by omega)
          have i3 : ((k : Int) - 1).toNat = k - 1 := by omega
          go_wp2
          go_region
          go_wp2
          go_roundw
          case rel =>
            refine ⟨k - 1, xs.set k (x + y), by omega, by rw [hkm], Hput.out _ (by omega), by rw [List.length_set]; exact Hxl.out, fun j hj => ?_, fun j hj hjn => ?_, (hbel2.setCell (Nat.le_refl _) _).drew⟩
            · rw [getD_set _ _ _ _ (by rw [Hxl.out]; omega), if_neg (by omega)]
              exact Hlo.out j (by omega)
            · rw [getD_set _ _ _ _ (by rw [Hxl.out]; omega)]
              by_cases e : k = j
              · subst e
                rw [if_pos rfl, stepL_get _ _ (by rw [binL_length]; omega), if_neg (by omega), ← e1.out, ← e2.out]
              · rw [if_neg e]
                exact Hhi.out j (by omega) hjn
          case measure => simp [intOf]; omega
        · obtain rfl : k = 0 := by omega
          have hx : xs = binL n (t + 1) := by
            apply List.ext_getElem
            · rw [Hxl.out, binL_length]
            · intro j h1 h2
              have hj : j < n + 1 := by rw [← Hxl.out]; exact h1
              have e : xs.getD j 0 = (stepL (binL n t)).getD j 0 := by
                by_cases h0 : j = 0
                · subst h0
                  rw [Hlo.out 0 (Nat.le_refl _), stepL_get _ _ (by rw [binL_length]; omega), if_pos rfl]
                · exact Hhi.out j (by omega) (by omega)
              rw [List.getD_eq_getElem?_getD, List.getD_eq_getElem?_getD, List.getElem?_eq_getElem h1, List.getElem?_eq_getElem (by rw [stepL_length, binL_length]; exact hj)] at e
              exact e
          have Hx := Lib.hid hx
          clear hx
          go_wp2
          go_roundw
          case rel => exact ⟨t + 1, by omega, by go_num, by rw [← Hx.out]; exact hb, hbel2⟩
          case measure => simp [intOf]; omega
    · obtain rfl : t = n := by omega
      go_wp2
      go_ret
      exact ⟨_, rfl, Nat.le_refl _, hblk, hbel⟩

end Go.Proofs.Ytcklgdcjedikoaa
