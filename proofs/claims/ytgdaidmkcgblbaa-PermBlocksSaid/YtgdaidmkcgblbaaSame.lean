/-
  The walks of same, rulesOut and Check.
-/
import Derived.Test.YtgdaidmkcgblbaaBase
import Derived.Test.YtgdaidmkcgblbaaPure
namespace Go.Proofs.Ytgdaidmkcgblbaa
open Go.RowKit

theorem take_snoc (l : List Nat) (k : Nat) (h : k < l.length) : l.take (k + 1) = l.take k ++ [l.getD k 0] := by
  rw [List.take_succ_eq_append_getElem h, List.getD_eq_getElem?_getD, List.getElem?_eq_getElem h]; rfl

set_option maxHeartbeats 400000 in
theorem same_any (A B : Option Addr) (n m ca cb : Nat) (a b : List Nat) (w : World) (ha : Sl .i64 w A n a) (hb : Sl .i64 w B m b) :
    Calls Try.prog 33 #[.slice A n ca, .slice B m cb] w fun e w' => e = .returned (.bool (decide (a = b))) ∧ Drew w w' := by
  have la := ha.len
  have lb := hb.len
  have hmax := ha.max
  by_cases hnm : n = m
  · subst hnm
    have La := Lib.hid la
    have Lb := Lib.hid lb
    clear la lb
    go_enter Try.func33, Try.ntmps33
    go_wp2
    go_loopw [5] (fun i wr => Drew w wr ∧ ∃ k : Nat, k ≤ n ∧ i = .int .i64 k ∧ a.take k = b.take k) (fun i _ => n - (intOf i).toNat)
    case atStart => exact ⟨⟨0, rfl⟩, 0, Nat.zero_le _, rfl, rfl⟩
    case round =>
      obtain ⟨⟨q, rfl⟩, k, hk, rfl, hz⟩ := hrel
      have Hz := Lib.hid hz
      clear hz
      by_cases hlt : k < n
      · obtain ⟨b1, o1, rfl, -, hc1⟩ := ha.at (by omega)
        obtain ⟨b2, o2, rfl, -, hc2⟩ := hb.at (by omega)
        have hca := hc1 k hlt
        have hcb := hc2 k hlt
        have Ha := Lib.hid (take_snoc a k (by rw [La.out]; exact hlt))
        have Hb := Lib.hid (take_snoc b k (by rw [Lb.out]; exact hlt))
        have Hka := Lib.hid (show k < a.length by rw [La.out]; exact hlt)
        clear hc1 hc2 ha hb
        generalize hx : a.getD k 0 = x at *
        generalize hy : b.getD k 0 = y at *
        have Hx := Lib.hid hx
        have Hy := Lib.hid hy
        clear hx hy
        by_cases hxy : x = y
        · subst hxy
          go_wp2
          go_quiet (fail)
          go_wp2
          go_roundw
          case rel => exact ⟨(by exact ⟨_, rfl⟩), k + 1, by omega, by go_num, by rw [Ha.out, Hb.out, Hz.out]⟩
          case measure => simp [intOf]; omega
        · have hne : ((x : Int) != (y : Int)) = true := by rw [bne_iff_ne]; omega
          have hd : Hid (decide (a = b) = false) := by
            show decide (a = b) = false
            rw [decide_eq_false_iff_not]
            rintro rfl
            exact hxy (Hx.out.symm.trans Hy.out)
          clear hxy
          go_wp2
          go_quiet (fail)
          go_wp2
          go_ret
          exact ⟨ret_bool hd.out.symm, by repeat (first | exact Drew.refl _ | refine Drew.drewN ?_ _)⟩
      · obtain rfl : k = n := by omega
        have hd : Hid (decide (a = b) = true) := by
          show decide (a = b) = true
          rw [decide_eq_true_iff]
          have := Hz.out
          rw [List.take_of_length_le (by rw [La.out]; omega), List.take_of_length_le (by rw [Lb.out]; omega)] at this
          exact this
        go_wp2
        go_ret
        exact ⟨ret_bool hd.out.symm, q, rfl⟩
  · have hne : ((n : Int) != (m : Int)) = true := by rw [bne_iff_ne]; omega
    have hd : Hid (decide (a = b) = false) := by
      show decide (a = b) = false
      rw [decide_eq_false_iff_not]
      rintro rfl
      exact hnm (la.symm.trans lb)
    clear hnm la lb
    go_enter Try.func33, Try.ntmps33
    go_wp2
    go_ret
    exact ⟨ret_bool hd.out.symm, 0, rfl⟩

/-- Whether four values rule a Baxter permutation out. -/
def badV (a j x b : Nat) : Bool := decide (x < a) && decide (a < b) && decide (b < j) || decide (j < b) && decide (b < a) && decide (a < x)

theorem rulesOut_any (a j x b : Nat) (w : World) :
    Calls Try.prog 77 #[.int .i64 a, .int .i64 j, .int .i64 x, .int .i64 b] w fun e w' => e = .returned (.bool (badV a j x b)) ∧ w = w' := by
  by_cases h1 : x < a <;> by_cases h2 : a < b <;> by_cases h3 : b < j <;> by_cases h4 : j < b <;> by_cases h5 : b < a <;> by_cases h6 : a < x
  all_goals first
    | (exfalso; omega)
    | (have hd : badV a j x b = true := by simp [badV, h1, h2, h3, h4, h5, h6]
       have Hd := Lib.hid hd
       clear hd
       go_enter Try.func77, Try.ntmps77
       go_wp2
       go_ret
       exact ⟨ret_bool Hd.out.symm, rfl⟩)
    | (have hd : badV a j x b = false := by simp [badV, h1, h2, h3, h4, h5, h6]
       have Hd := Lib.hid hd
       clear hd
       go_enter Try.func77, Try.ntmps77
       go_wp2
       go_ret
       exact ⟨ret_bool Hd.out.symm, rfl⟩)

end Go.Proofs.Ytgdaidmkcgblbaa
