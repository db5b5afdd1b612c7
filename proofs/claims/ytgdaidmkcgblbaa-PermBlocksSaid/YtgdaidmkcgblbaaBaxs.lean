/-
  The walks of binomials and Baxters.
  The walks of Baxters, and of choose and Baxters of the reference.
-/
import Derived.Test.YtgdaidmkcgblbaaSame
import Derived.Test.YtgdaidmkcgblbaaNum
import Derived.RegionTactic
import Derived.ChangeAlike
namespace Go.Proofs.Ytgdaidmkcgblbaa
open Go.RowKit

theorem info_i64 : (Try.prog.info? 2).map (fun i => (i.zero, i.size, i.bytes)) = some (some (.int .i64 0), 1, 8) := by kernel_rfl

/-- A row of n numbers in a block of its own. -/
def RetNums (t : TypeId) (n : Nat) (l : List Nat) (w : World) (e : Ending) (w' : World) : Prop :=
  ∃ g, e = .returned (.slice (some ⟨g, 0, none⟩) n n) ∧ w.heap.size ≤ g ∧ Blk w' g t (cellsOf .i64 l) ∧ Below w.heap.size w w'

set_option maxRecDepth 100000 in
set_option maxHeartbeats 1000000 in
theorem binomials_any (n : Nat) (w : World) (hn : n ≤ 21) :
    Calls Try.prog 92 #[.int .i64 n] w (RetNums 2 (n + 1) (binL n n) w) := by
  have hmk : ∀ W : World, (Instr.makeSlice 112 (.int .i64 ((n : Int) + 1)) (.int .i64 ((n : Int) + 1))).run Try.prog W = .ok (.slice (some ⟨W.heap.size, 0, none⟩) (n + 1) (n + 1)) (W.alloc (.cells (cellsOf .i64 (List.replicate (n + 1) 0)) 2)) :=
    fun W => run_makeInts Try.underlying112 info_i64 (by omega) .i64 .i64 (n + 1) (by omega) W
  go_enter Try.func92, Try.ntmps92
  go_wp2
  go_loopw [11] (fun i wr => ∃ t : Nat, t ≤ n ∧ i = .int .i64 t ∧ Blk wr w.heap.size 2 (cellsOf .i64 (binL n t)) ∧ Below w.heap.size w wr) (fun i _ => n - (intOf i).toNat)
  case atStart =>
    refine ⟨0, Nat.zero_le _, rfl, ?_, (Below.refl _ _).alloc (Nat.le_refl _) _⟩
    have h := cellsOf_set .i64 (List.replicate (n + 1) 0) 0 1
    rw [show (List.replicate (n + 1) 0).set 0 1 = binL n 0 by simp [binL, List.replicate_succ]] at h
    rw [← h]
    exact Blk.new _ _ _
  case round =>
    obtain ⟨t, ht, rfl, hblk, hbel⟩ := hrel
    by_cases hlt : t < n
    · go_wp2
      obtain ⟨wo, rfl⟩ : ∃ wo : World, wo = wr := ⟨_, rfl⟩
      go_loopw [4] (fun i wr => ∃ (k : Nat) (xs : List Nat), k ≤ n ∧ i = .int .i64 k ∧ Blk wr w.heap.size 2 (cellsOf .i64 xs) ∧ xs.length = n + 1 ∧ (∀ j, j ≤ k → xs.getD j 0 = (binL n t).getD j 0) ∧ (∀ j, k < j → j ≤ n → xs.getD j 0 = (stepL (binL n t)).getD j 0) ∧ Below w.heap.size w wr) (fun i _ => (intOf i).toNat)
      case atStart => exact ⟨n, binL n t, Nat.le_refl _, rfl, hblk, binL_length n t, fun _ _ => rfl, fun j h1 h2 => absurd h2 (by omega), hbel⟩
      case round =>
        obtain ⟨k, xs, hk, rfl, hb, hxl, hlo, hhi, hbel2⟩ := hrel
        have Hxl := Lib.hid hxl
        have Hlo := Lib.hid hlo
        have Hhi := Lib.hid hhi
        clear hxl hlo hhi hmk
        by_cases hk0 : 0 < k
        · have hc1 := hb.num k (by rw [Hxl.out]; omega)
          have hc2 := hb.num (k - 1) (by rw [Hxl.out]; omega)
          have hf := hb.free k
          have e1 := Lib.hid (Hlo.out k (Nat.le_refl _))
          have e2 := Lib.hid (Hlo.out (k - 1) (by omega))
          have l1 := binL_le n t k
          have l2 := binL_le n t (k - 1)
          have l3 : 2 ^ t ≤ 2 ^ 21 := Nat.pow_le_pow_right (by omega) (by omega)
          rw [← e1.out] at l1
          rw [← e2.out] at l2
          have Hput := Lib.hid (fun z h => hb.put k (xs.getD k 0 + xs.getD (k - 1) 0) (z := z) h)
          generalize hx : xs.getD k 0 = x at *
          generalize hy : xs.getD (k - 1) 0 = y at *
          have hx9 : x ≤ 2097152 := by omega
          have hy9 : y ≤ 2097152 := by omega
          clear l1 l2 l3 hx hy
          have hkm : (((k - 1 : Nat) : Int)) = (k : Int) - 1 := by omega
          have i1 : IntKind.i64.wrap ((k : Int) - 1) = (k : Int) - 1 := IntWalk.i64_in _ (by omega)
          have i2 : IntKind.i64.wrap ((x : Int) + y) = (x : Int) + y := IntWalk.i64_in _ (by omega)
          have i3 : ((k : Int) - 1).toNat = k - 1 := by omega
          go_wp2
          go_region
          go_wp2
          go_roundw
          case rel =>
            refine ⟨k - 1, xs.set k (x + y), by omega, by rw [hkm], Hput.out _ (by omega), by rw [List.length_set]; exact Hxl.out, fun j hj => ?_, fun j hj hjn => ?_, (hbel2.setCell (Nat.le_refl _) _).drew⟩
            · rw [getD_set _ _ _ _ (by rw [Hxl.out]; omega), if_neg (by omega)]
              exact Hlo.out j (by omega)
            · rw [getD_set _ _ _ _ (by rw [Hxl.out]; omega)]
              by_cases e : k = j
              · subst e
                rw [if_pos rfl, stepL_get _ _ (by rw [binL_length]; omega), if_neg (by omega), ← e1.out, ← e2.out]
              · rw [if_neg e]
                exact Hhi.out j (by omega) hjn
          case measure => simp [intOf]; omega
        · obtain rfl : k = 0 := by omega
          have hx : xs = binL n (t + 1) := by
            apply List.ext_getElem
            · rw [Hxl.out, binL_length]
            · intro j h1 h2
              have hj : j < n + 1 := by rw [← Hxl.out]; exact h1
              have e : xs.getD j 0 = (stepL (binL n t)).getD j 0 := by
                by_cases h0 : j = 0
                · subst h0
                  rw [Hlo.out 0 (Nat.le_refl _), stepL_get _ _ (by rw [binL_length]; omega), if_pos rfl]
                · exact Hhi.out j (by omega) (by omega)
              rw [List.getD_eq_getElem?_getD, List.getD_eq_getElem?_getD, List.getElem?_eq_getElem h1, List.getElem?_eq_getElem (by rw [stepL_length, binL_length]; exact hj)] at e
              exact e
          have Hx := Lib.hid hx
          clear hx
          go_wp2
          go_roundw
          case rel => exact ⟨t + 1, by omega, by go_num, by rw [← Hx.out]; exact hb, hbel2⟩
          case measure => simp [intOf]; omega
    · obtain rfl : t = n := by omega
      go_wp2
      go_ret
      exact ⟨_, rfl, Nat.le_refl _, hblk, hbel⟩

end Go.Proofs.Ytgdaidmkcgblbaa

namespace Go.Proofs.Ytgdaidmkcgblbaa
open Go.RowKit

theorem i64_mul {a b : Nat} (h : a * b < 9223372036854775807) : IntKind.i64.wrap ((a : Int) * (b : Int)) = (a : Int) * b := by
  have e : ((a : Int) * b) = ((a * b : Nat) : Int) := by simp
  rw [e]
  exact IntWalk.i64_in _ (by omega)
theorem i64_add {a b : Nat} (h : a + b < 9223372036854775807) : IntKind.i64.wrap ((a : Int) + (b : Int)) = (a : Int) + b := IntWalk.i64_in _ (by omega)

theorem choose_val (c a j m : Nat) (hm : m = a + (j + 1)) (h : c * m < 9223372036854775807) :
    wrap64 ((wrap64 ((c : Int) * ((a : Int) + ((j : Int) + 1)))).tdiv ((j : Int) + 1)) = ((c * m / (j + 1) : Nat) : Int) := by
  have e1 : (c : Int) * ((a : Int) + ((j : Int) + 1)) = ((c * m : Nat) : Int) := by subst hm; simp
  have e2 : wrap64 ((c * m : Nat) : Int) = ((c * m : Nat) : Int) := IntWalk.wrap64_in _ (by omega)
  have e3 : ((j : Int) + 1) = ((j + 1 : Nat) : Int) := by simp
  have e4 : c * m / (j + 1) ≤ c * m := Nat.div_le_self _ _
  rw [e1, e2, e3, ← Int.ofNat_tdiv]
  generalize c * m / (j + 1) = q at *
  generalize c * m = r at *
  exact IntWalk.wrap64_in _ (by omega)
theorem div_val (s m : Nat) (h : s < 9223372036854775807) : wrap64 ((s : Int) / (m : Int)) = ((s / m : Nat) : Int) := by
  have e4 : s / m ≤ s := Nat.div_le_self _ _
  rw [← Int.natCast_ediv]
  generalize s / m = q at *
  exact IntWalk.wrap64_in _ (by omega)

set_option maxRecDepth 100000 in
theorem baxters_no (n : Int) (w : World) (h : n < 1 ∨ 20 < n) :
    Calls Try.prog 58 #[.int .i64 n] w fun e w' => e = .returned (.tuple #[.int .i64 0, .int .i64 1]) ∧ w = w' := by
  rcases h with h | h
  · have h1 : decide (n < 1) = true := decide_eq_true h
    go_enter Try.func58, Try.ntmps58
    go_wp2
    go_ret2
    exact ⟨rfl, rfl⟩
  · have h1 : decide (n < 1) = false := decide_eq_false (by omega)
    have h2 : decide (20 < n) = true := decide_eq_true h
    go_enter Try.func58, Try.ntmps58
    go_wp2
    go_ret2
    exact ⟨rfl, rfl⟩

set_option maxRecDepth 100000 in
set_option maxHeartbeats 1000000 in
theorem baxters_yes (n : Nat) (w : World) (h1 : 1 ≤ n) (h2 : n ≤ 20) :
    Calls Try.prog 58 #[.int .i64 n] w fun e w' => e = .returned (.tuple #[.int .i64 (baxN n), .int .i64 0]) ∧ Below w.heap.size w w' := by
  have d1 : decide ((n : Int) < 1) = false := decide_eq_false (by omega)
  have d2 : decide ((20 : Int) < (n : Int)) = false := decide_eq_false (by omega)
  have Hrow := Lib.hid (binL_length (n + 1) (n + 1))
  have HN := Lib.hid (show baxN n = baxTo (binL (n + 1) (n + 1)) n / ((binL (n + 1) (n + 1)).getD 1 0 * (binL (n + 1) (n + 1)).getD 2 0) from rfl)
  have Hfacts := Lib.hid (fun k hk => bax_facts n k h1 h2 hk)
  have Hend := Lib.hid (bax_end n h1 h2)
  generalize hrow : binL (n + 1) (n + 1) = row at *
  have Hr := Lib.hid hrow
  clear hrow
  go_enter Try.func58, Try.ntmps58
  go_wp2_with (go_at_call 92; refine (binomials_any (n + 1) _ (by omega)).mono ?_; rintro e w1 ⟨g, rfl, hg, hblk, hbel⟩)
  rw [Hr.out] at hblk
  have hs : w.heap.size ≤ w1.heap.size := hbel.size
  go_loopw [5, 6] (fun t i wr => ∃ k : Nat, k ≤ n ∧ i = .int .i64 (k + 1 : Nat) ∧ t = .int .i64 (baxTo row k) ∧ Drew w1 wr) (fun _ i _ => n + 1 - (intOf i).toNat)
  case atStart => exact ⟨0, Nat.zero_le _, rfl, rfl, Drew.refl _⟩
  case round =>
    obtain ⟨k, hk, rfl, rfl, q, rfl⟩ := hrel
    by_cases hlt : k < n
    · have hc0 := hblk.num k (by rw [Hrow.out]; omega)
      have hc1 := hblk.num (k + 1) (by rw [Hrow.out]; omega)
      have hc2 := hblk.num (k + 2) (by rw [Hrow.out]; omega)
      have hf := Hfacts.out k hlt
      have Hto := Lib.hid (show baxTo row (k + 1) = baxTo row k + row.getD k 0 * row.getD (k + 1) 0 * row.getD (k + 2) 0 from rfl)
      rw [Hto.out] at hf
      generalize row.getD k 0 = x at *
      generalize row.getD (k + 1) 0 = y at *
      generalize row.getD (k + 2) 0 = z at *
      generalize baxTo row k = s at *
      have i1 := i64_mul hf.1
      have i2 : IntKind.i64.wrap ((x : Int) * (y : Int) * (z : Int)) = (x : Int) * y * z := by
        have := i64_mul hf.2.1
        simpa using this
      have i3 : IntKind.i64.wrap ((s : Int) + (x : Int) * (y : Int) * (z : Int)) = (s : Int) + (x : Int) * y * z := by
        have := i64_add hf.2.2
        simpa using this
      have i4 : IntKind.i64.wrap (((k + 1 : Nat) : Int) - 1) = (k : Int) := by rw [IntWalk.i64_in _ (by omega)]; omega
      have i5 : IntKind.i64.wrap (((k + 1 : Nat) : Int) + 1) = ((k + 2 : Nat) : Int) := by rw [IntWalk.i64_in _ (by omega)]; omega
      clear hf
      go_wp2
      go_quiet (fail)
      go_wp2
      go_roundw
      case rel =>
        refine ⟨k + 1, by omega, by go_num, ?_, by exact ⟨_, rfl⟩⟩
        rw [Hto.out]
        simp
      case measure => simp [intOf]; omega
    · obtain rfl : k = n := by omega
      have hc1 := hblk.num 1 (by rw [Hrow.out]; omega)
      have hc2 := hblk.num 2 (by rw [Hrow.out]; omega)
      have he := Hend.out
      have hs9 : baxTo row k < 9223372036854775807 := by
        have := Hfacts.out (k - 1) (by omega)
        rw [show k - 1 + 1 = k by omega] at this
        exact this.2.2
      generalize row.getD 1 0 = x at *
      generalize row.getD 2 0 = y at *
      generalize baxTo row k = s at *
      obtain ⟨m, hm⟩ : ∃ m, m = x * y := ⟨_, rfl⟩
      have HN' : Hid (baxN k = s / m) := by show baxN k = s / m; rw [HN.out, hm]
      rw [← hm] at he
      have i1 : IntKind.i64.wrap ((x : Int) * (y : Int)) = (m : Nat) := by
        rw [i64_mul (by rw [← hm]; exact he.2), hm]; simp
      have hm0 : 0 < m := he.1
      clear hm he
      go_wp2
      go_quiet (fail)
      have Hv := Lib.hid (div_val s m hs9)
      clear hs9
      go_wp2
      go_ret2
      exact ⟨by rw [HN'.out, ← Hv.out]; rfl, (hbel.trans ((Drew.drewN ⟨q, rfl⟩ nq : Drew w1 _).below))⟩

theorem choose_any (n k : Nat) (w : World) (hn : n ≤ 21) (hk : k ≤ n) :
    Calls Try.prog 93 #[.int .i64 n, .int .i64 k] w fun e w' => e = .returned (.int .i64 (chooseN n k)) ∧ w = w' := by
  have d1 : decide ((k : Int) < 0) = false := decide_eq_false (by omega)
  have d2 : decide ((n : Int) < (k : Int)) = false := decide_eq_false (by omega)
  have d3 : decide (n < k) = false := decide_eq_false (by omega)
  have Hf := Lib.hid (fun i hi => choose_facts n k i hn hk hi)
  have HN := Lib.hid (show chooseN n k = chooseTo n k k from rfl)
  go_enter Try.func93, Try.ntmps93
  go_wp2
  go_loop [5, 6] (fun t i => ∃ j : Nat, j ≤ k ∧ i = .int .i64 (j + 1 : Nat) ∧ t = .int .i64 (chooseTo n k j)) (fun _ i => k + 1 - (intOf i).toNat)
  case atStart => exact ⟨0, Nat.zero_le _, rfl, rfl⟩
  case round =>
    obtain ⟨j, hj, rfl, rfl⟩ := hrel
    by_cases hlt : j < k
    · have hf := Hf.out j hlt
      have Hto := Lib.hid (show chooseTo n k (j + 1) = chooseTo n k j * (n - k + (j + 1)) / (j + 1) from rfl)
      rw [Hto.out] at hf
      generalize chooseTo n k j = c at *
      have i0 : IntKind.i64.wrap ((n : Int) - (k : Int)) = ((n - k : Nat) : Int) := by rw [IntWalk.i64_in _ (by omega)]; omega
      have Hv := Lib.hid (choose_val c (n - k) j _ rfl hf.1)
      clear hf
      go_wp2
      go_round
      case rel => exact ⟨j + 1, by omega, by go_num, by rw [Hto.out]; exact congrArg (Value.int .i64) Hv.out⟩
      case measure => simp [intOf]; omega
    · obtain rfl : j = k := by omega
      go_wp2
      go_ret
      exact ⟨ret_int (by rw [HN.out]), rfl⟩

end Go.Proofs.Ytgdaidmkcgblbaa
