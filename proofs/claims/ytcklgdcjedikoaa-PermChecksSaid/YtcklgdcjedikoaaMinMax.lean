/-
  The walks of slices.Max and slices.Min of numbers, and of less, greater and gap.
-/
import Derived.Test.YtcklgdcjedikoaaOwn
namespace Go.Proofs.Ytcklgdcjedikoaa
open Go.RowKit

def maxTo (l : List Nat) : Nat → Nat
  | 0 => l.getD 0 0
  | k + 1 => max (maxTo l k) (l.getD k 0)
def minTo (l : List Nat) : Nat → Nat
  | 0 => l.getD 0 0
  | k + 1 => min (minTo l k) (l.getD k 0)
def maxL (l : List Nat) : Nat := maxTo l l.length
def minL (l : List Nat) : Nat := minTo l l.length

theorem max_any (A : Option Addr) (n cap : Nat) (l : List Nat) (w : World) (h : Sl .i64 w A n l) (h0 : 0 < n) :
    Calls Try.prog 115 #[.slice A n cap] w fun e w' => e = .returned (.int .i64 (maxL l)) ∧ w = w' := by
  have hl := h.len
  have hmax := h.max
  obtain ⟨b, off, rfl, hb, hc⟩ := h.at h0
  have HL := Lib.hid (show maxL l = maxTo l n by unfold maxL; rw [hl])
  have c0 : w.cell? ⟨b, off, none⟩ = some (.int .i64 (l.getD 0 0 : Nat)) := hc 0 h0
  have d1 : decide ((n : Int) < 1) = false := decide_eq_false (by omega)
  have H1 := Lib.hid (show maxTo l 1 = l.getD 0 0 by show max (l.getD 0 0) (l.getD 0 0) = _; omega)
  clear hl h
  generalize hx0 : l.getD 0 0 = x0 at *
  clear hx0
  go_enter Try.func115, Try.ntmps115
  go_wp2
  go_loop [3, 4] (fun m i => ∃ k : Nat, 1 ≤ k ∧ k ≤ n ∧ i = .int .i64 k ∧ m = .int .i64 (maxTo l k : Nat)) (fun _ i => n - (intOf i).toNat)
  case atStart => exact ⟨1, by omega, by omega, rfl, by rw [H1.out]⟩
  case round =>
    obtain ⟨k, hk1, hk2, rfl, rfl⟩ := hrel
    by_cases hlt : k < n
    · have ck := hc k hlt
      have Hs := Lib.hid (show maxTo l (k + 1) = max (maxTo l k) (l.getD k 0) from rfl)
      clear hc
      generalize l.getD k 0 = x at *
      generalize maxTo l k = m at *
      by_cases hmx : m ≤ x
      · have Hv := Lib.hid (show max m x = x by omega)
        by_cases hme : m = x
        · subst hme
          go_wp2
          all_goals
            go_round
            case rel => exact ⟨k + 1, by omega, by omega, by go_num, by rw [Hs.out, Hv.out]⟩
            case measure => simp [intOf]; omega
        · have hlt2 : m < x := by omega
          go_wp2
          all_goals
            go_round
            case rel => exact ⟨k + 1, by omega, by omega, by go_num, by rw [Hs.out, Hv.out]⟩
            case measure => simp [intOf]; omega
      · have Hv := Lib.hid (show max m x = m by omega)
        have hlt2 : x < m := by omega
        go_wp2
        all_goals
          go_round
          case rel => exact ⟨k + 1, by omega, by omega, by go_num, by rw [Hs.out, Hv.out]⟩
          case measure => simp [intOf]; omega
    · obtain rfl : k = n := by omega
      go_wp2
      go_ret
      exact ⟨ret_int (by rw [HL.out]), rfl⟩

theorem min_any (A : Option Addr) (n cap : Nat) (l : List Nat) (w : World) (h : Sl .i64 w A n l) (h0 : 0 < n) :
    Calls Try.prog 116 #[.slice A n cap] w fun e w' => e = .returned (.int .i64 (minL l)) ∧ w = w' := by
  have hl := h.len
  have hmax := h.max
  obtain ⟨b, off, rfl, hb, hc⟩ := h.at h0
  have HL := Lib.hid (show minL l = minTo l n by unfold minL; rw [hl])
  have c0 : w.cell? ⟨b, off, none⟩ = some (.int .i64 (l.getD 0 0 : Nat)) := hc 0 h0
  have d1 : decide ((n : Int) < 1) = false := decide_eq_false (by omega)
  have H1 := Lib.hid (show minTo l 1 = l.getD 0 0 by show min (l.getD 0 0) (l.getD 0 0) = _; omega)
  clear hl h
  generalize hx0 : l.getD 0 0 = x0 at *
  clear hx0
  go_enter Try.func116, Try.ntmps116
  go_wp2
  go_loop [3, 4] (fun m i => ∃ k : Nat, 1 ≤ k ∧ k ≤ n ∧ i = .int .i64 k ∧ m = .int .i64 (minTo l k : Nat)) (fun _ i => n - (intOf i).toNat)
  case atStart => exact ⟨1, by omega, by omega, rfl, by rw [H1.out]⟩
  case round =>
    obtain ⟨k, hk1, hk2, rfl, rfl⟩ := hrel
    by_cases hlt : k < n
    · have ck := hc k hlt
      have Hs := Lib.hid (show minTo l (k + 1) = min (minTo l k) (l.getD k 0) from rfl)
      clear hc
      generalize l.getD k 0 = x at *
      generalize minTo l k = m at *
      by_cases hmx : m ≤ x
      · have Hv := Lib.hid (show min m x = m by omega)
        by_cases hme : m = x
        · subst hme
          go_wp2
          all_goals
            go_round
            case rel => exact ⟨k + 1, by omega, by omega, by go_num, by rw [Hs.out, Hv.out]⟩
            case measure => simp [intOf]; omega
        · have hlt2 : m < x := by omega
          go_wp2
          all_goals
            go_round
            case rel => exact ⟨k + 1, by omega, by omega, by go_num, by rw [Hs.out, Hv.out]⟩
            case measure => simp [intOf]; omega
      · have Hv := Lib.hid (show min m x = x by omega)
        have hlt2 : x < m := by omega
        go_wp2
        all_goals
          go_round
          case rel => exact ⟨k + 1, by omega, by omega, by go_num, by rw [Hs.out, Hv.out]⟩
          case measure => simp [intOf]; omega
    · obtain rfl : k = n := by omega
      go_wp2
      go_ret
      exact ⟨ret_int (by rw [HL.out]), rfl⟩

theorem less_any (A B : Option Addr) (n m ca cb : Nat) (l r : List Nat) (w : World) (h : Sl .i64 w A n l) (k : Sl .i64 w B m r) (h0 : 0 < n) (k0 : 0 < m) :
    Calls Try.prog 111 #[.slice A n ca, .slice B m cb] w fun e w' => e = .returned (.bool (decide (maxL l < minL r))) ∧ w = w' := by
  have Hm := Lib.hid (max_any A n ca l w h h0)
  have Hn := Lib.hid (min_any B m cb r w k k0)
  go_enter Try.func111, Try.ntmps111
  go_wp2_with (first | (go_at_call 115; refine Hm.out.mono ?_; rintro e w' ⟨rfl, rfl⟩) | (go_at_call 116; refine Hn.out.mono ?_; rintro e w' ⟨rfl, rfl⟩))
  go_ret
  exact ⟨ret_bool (by simp), rfl⟩

theorem greater_any (A B : Option Addr) (n m ca cb : Nat) (l r : List Nat) (w : World) (h : Sl .i64 w A n l) (k : Sl .i64 w B m r) (h0 : 0 < n) (k0 : 0 < m) :
    Calls Try.prog 112 #[.slice A n ca, .slice B m cb] w fun e w' => e = .returned (.bool (decide (maxL r < minL l))) ∧ w = w' := by
  have Hm := Lib.hid (max_any B m cb r w k k0)
  have Hn := Lib.hid (min_any A n ca l w h h0)
  go_enter Try.func112, Try.ntmps112
  go_wp2_with (first | (go_at_call 115; refine Hm.out.mono ?_; rintro e w' ⟨rfl, rfl⟩) | (go_at_call 116; refine Hn.out.mono ?_; rintro e w' ⟨rfl, rfl⟩))
  go_ret
  exact ⟨ret_bool (by simp), rfl⟩

theorem minTo_le (l : List Nat) : ∀ k, minTo l k ≤ maxTo l k
  | 0 => Nat.le_refl _
  | k + 1 => by have := minTo_le l k; simp only [minTo, maxTo]; omega
theorem minL_le (l : List Nat) : minL l ≤ maxL l := minTo_le l _

theorem gap_any (A : Option Addr) (n ca : Nat) (l : List Nat) (w : World) (h : Sl .i64 w A n l) (h0 : 0 < n) (hx : maxL l ≤ 1000000) :
    Calls Try.prog 117 #[.slice A n ca] w fun e w' => e = .returned (.bool (decide (n ≤ maxL l - minL l))) ∧ w = w' := by
  have Hm := Lib.hid (max_any A n ca l w h h0)
  have Hn := Lib.hid (min_any A n ca l w h h0)
  have hle := minL_le l
  have hmax := h.max
  generalize maxL l = x at *
  generalize minL l = y at *
  have i1 : IntKind.i64.wrap ((x : Int) - (y : Int)) = ((x - y : Nat) : Int) := by rw [IntWalk.i64_in _ (by omega)]; omega
  have i2 : (x : Int) - (y : Int) = ((x - y : Nat) : Int) := by omega
  clear h hle
  go_enter Try.func117, Try.ntmps117
  go_wp2_with (first | (go_at_call 115; refine Hm.out.mono ?_; rintro e w' ⟨rfl, rfl⟩) | (go_at_call 116; refine Hn.out.mono ?_; rintro e w' ⟨rfl, rfl⟩))
  go_ret
  exact ⟨ret_bool (by simp), rfl⟩

end Go.Proofs.Ytcklgdcjedikoaa
