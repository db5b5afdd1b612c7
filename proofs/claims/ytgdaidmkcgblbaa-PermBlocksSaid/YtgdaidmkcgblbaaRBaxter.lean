/-
  The walk of Baxter of the reference.
-/
import Derived.Test.YtgdaidmkcgblbaaSame
import Derived.WalkLawsBesides
namespace Go.Proofs.Ytgdaidmkcgblbaa
open Go.RowKit

/-- Either the first positions that rule p out, as a row in new memory and yes, or nothing and no. -/
def RetRBax (p : List Nat) (w : World) (e : Ending) (w' : World) : Prop :=
  ((∃ a j b g, First p a j b ∧ e = .returned (.tuple #[.slice (some ⟨g, 0, none⟩) 4 4, .bool true]) ∧ w.heap.size ≤ g ∧ Sl .i64 w' (some ⟨g, 0, none⟩) 4 [a, j, j + 1, b]) ∨
    (None' p ∧ e = .returned (.tuple #[.slice none 0 0, .bool false]))) ∧ Below w.heap.size w w'

theorem sl_four (w : World) (t : TypeId) (a b c d : Nat) : Sl .i64 (w.alloc (.cells #[.int .i64 (a : Nat), .int .i64 (b : Nat), .int .i64 (c : Nat), .int .i64 (d : Nat)] t)) (some ⟨w.heap.size, 0, none⟩) 4 [a, b, c, d] :=
  Sl.of_blk (t := t) (l := [a, b, c, d]) (Blk.new w t _) rfl (by omega)

theorem dlt {x v : Nat} (h : x < v) : decide ((x : Int) < (v : Int)) = true := decide_eq_true (by omega)
theorem dnlt {x v : Nat} (h : ¬ x < v) : decide ((x : Int) < (v : Int)) = false := decide_eq_false (by omega)

set_option maxRecDepth 100000 in
set_option maxHeartbeats 4000000 in
theorem rbaxter_any (b0 off n cap : Nat) (p : List Nat) (w : World) (hS : Sl .i64 w (some ⟨b0, off, none⟩) n p) (h0 : 0 < n) (hn : n ≤ 60) :
    Calls Try.prog 57 #[.slice (some ⟨b0, off, none⟩) n cap] w (RetRBax p w) := by
  have hl := hS.len
  subst hl
  obtain ⟨b', off', e, hs, hc⟩ := hS.at h0
  injection e with e
  injection e with e1 e2
  subst e1 e2
  have HC := Lib.hid hc
  clear hc hS
  go_enter Try.func57, Try.ntmps57
  go_wp2
  go_loopw [4] (fun i wr => Drew w wr ∧ ∃ a : Nat, a ≤ p.length ∧ i = .int .i64 a ∧ Clear p a 0 0) (fun i _ => p.length - (intOf i).toNat)
  case atStart => exact ⟨Drew.refl _, 0, Nat.zero_le _, rfl, Clear.zero p⟩
  case round =>
    obtain ⟨⟨q1, rfl⟩, a, ha, rfl, hcl⟩ := hrel
    have Hcl := Lib.hid hcl
    clear hcl
    by_cases hlt : a < p.length
    · go_wp2
      go_loopw [5] (fun i wr => Drew w wr ∧ ∃ j : Nat, a + 1 ≤ j ∧ j ≤ p.length ∧ i = .int .i64 j ∧ Clear p a j 0) (fun i _ => p.length - (intOf i).toNat)
      case atStart => exact ⟨⟨_, rfl⟩, a + 1, Nat.le_refl _, by omega, rfl, fun a' j' b' h1 h2 h3 h4 => Hcl.out a' j' b' h1 h2 h3 (by omega)⟩
      case round =>
        obtain ⟨⟨q2, rfl⟩, j, hj1, hj2, rfl, hclj⟩ := hrel
        have Hclj := Lib.hid hclj
        clear hclj
        by_cases hltj : j + 1 < p.length
        · go_wp2
          go_loopw [6] (fun i wr => Drew w wr ∧ ∃ b : Nat, j + 2 ≤ b ∧ b ≤ p.length ∧ i = .int .i64 b ∧ Clear p a j b) (fun i _ => p.length - (intOf i).toNat)
          case atStart => exact ⟨⟨_, rfl⟩, j + 2, Nat.le_refl _, by omega, by go_num, fun a' j' b' h1 h2 h3 h4 => Hclj.out a' j' b' h1 h2 h3 (by omega)⟩
          case round =>
            obtain ⟨⟨q3, rfl⟩, b, hb1, hb2, rfl, hclb⟩ := hrel
            have Hclb := Lib.hid hclb
            clear hclb
            by_cases hltb : b < p.length
            · have ca := HC.out a (by omega)
              have cj := HC.out j (by omega)
              have cx := HC.out (j + 1) (by omega)
              have cb := HC.out b (by omega)
              have HB := Lib.hid (show bad p a j b = (decide (p.getD (j + 1) 0 < p.getD a 0) && decide (p.getD a 0 < p.getD b 0) && decide (p.getD b 0 < p.getD j 0) || decide (p.getD j 0 < p.getD b 0) && decide (p.getD b 0 < p.getD a 0) && decide (p.getD a 0 < p.getD (j + 1) 0)) from rfl)
              generalize p.getD (j + 1) 0 = x at *
              generalize p.getD a 0 = v at *
              generalize p.getD b 0 = u at *
              generalize p.getD j 0 = y at *
              by_cases c1 : x < v
              · have Dc1 := dlt c1
                by_cases c2 : v < u
                · have Dc2 := dlt c2
                  by_cases c3 : u < y
                  · have Dc3 := dlt c3
                    have hbad : bad p a j b = true := by rw [HB.out]; simp [*]
                    have hend := Lib.hid (show First p a j b from ⟨by omega, by omega, hltb, hbad, Hclb.out⟩)
                    clear hbad
                    go_wp2
                    go_quiet (fail)
                    go_wp2
                    go_ret2
                    exact ⟨Or.inl ⟨a, j, b, w.heap.size, hend.out, rfl, Nat.le_refl _, sl_four _ _ a j (j + 1) b⟩, (below_drewN (Below.refl w.heap.size w) _).alloc (Nat.le_refl _) _⟩
                  · have Dc3 := dnlt c3
                    by_cases d1 : y < u
                    · have Dd1 := dlt d1
                      have d2 : ¬ u < v := by omega
                      have Dd2 := dnlt d2
                      have hbad : bad p a j b = false := by rw [HB.out]; simp [*]
                      have hend := Lib.hid (Hclb.out.b hbad)
                      clear hbad
                      go_wp2
                      go_quiet (fail)
                      go_wp2
                      go_roundw
                      case rel => exact ⟨(by exact ⟨_, rfl⟩), b + 1, by omega, by omega, by go_num, hend.out⟩
                      case measure => simp [intOf]; omega
                    · have Dd1 := dnlt d1
                      have hbad : bad p a j b = false := by rw [HB.out]; simp [*]
                      have hend := Lib.hid (Hclb.out.b hbad)
                      clear hbad
                      go_wp2
                      go_quiet (fail)
                      go_wp2
                      go_roundw
                      case rel => exact ⟨(by exact ⟨_, rfl⟩), b + 1, by omega, by omega, by go_num, hend.out⟩
                      case measure => simp [intOf]; omega
                · have Dc2 := dnlt c2
                  by_cases d1 : y < u
                  · have Dd1 := dlt d1
                    by_cases d2 : u < v
                    · have Dd2 := dlt d2
                      have d3 : ¬ v < x := by omega
                      have Dd3 := dnlt d3
                      have hbad : bad p a j b = false := by rw [HB.out]; simp [*]
                      have hend := Lib.hid (Hclb.out.b hbad)
                      clear hbad
                      go_wp2
                      go_quiet (fail)
                      go_wp2
                      go_roundw
                      case rel => exact ⟨(by exact ⟨_, rfl⟩), b + 1, by omega, by omega, by go_num, hend.out⟩
                      case measure => simp [intOf]; omega
                    · have Dd2 := dnlt d2
                      have hbad : bad p a j b = false := by rw [HB.out]; simp [*]
                      have hend := Lib.hid (Hclb.out.b hbad)
                      clear hbad
                      go_wp2
                      go_quiet (fail)
                      go_wp2
                      go_roundw
                      case rel => exact ⟨(by exact ⟨_, rfl⟩), b + 1, by omega, by omega, by go_num, hend.out⟩
                      case measure => simp [intOf]; omega
                  · have Dd1 := dnlt d1
                    have hbad : bad p a j b = false := by rw [HB.out]; simp [*]
                    have hend := Lib.hid (Hclb.out.b hbad)
                    clear hbad
                    go_wp2
                    go_quiet (fail)
                    go_wp2
                    go_roundw
                    case rel => exact ⟨(by exact ⟨_, rfl⟩), b + 1, by omega, by omega, by go_num, hend.out⟩
                    case measure => simp [intOf]; omega
              · have Dc1 := dnlt c1
                by_cases d1 : y < u
                · have Dd1 := dlt d1
                  by_cases d2 : u < v
                  · have Dd2 := dlt d2
                    by_cases d3 : v < x
                    · have Dd3 := dlt d3
                      have hbad : bad p a j b = true := by rw [HB.out]; simp [*]
                      have hend := Lib.hid (show First p a j b from ⟨by omega, by omega, hltb, hbad, Hclb.out⟩)
                      clear hbad
                      go_wp2
                      go_quiet (fail)
                      go_wp2
                      go_ret2
                      exact ⟨Or.inl ⟨a, j, b, w.heap.size, hend.out, rfl, Nat.le_refl _, sl_four _ _ a j (j + 1) b⟩, (below_drewN (Below.refl w.heap.size w) _).alloc (Nat.le_refl _) _⟩
                    · have Dd3 := dnlt d3
                      have hbad : bad p a j b = false := by rw [HB.out]; simp [*]
                      have hend := Lib.hid (Hclb.out.b hbad)
                      clear hbad
                      go_wp2
                      go_quiet (fail)
                      go_wp2
                      go_roundw
                      case rel => exact ⟨(by exact ⟨_, rfl⟩), b + 1, by omega, by omega, by go_num, hend.out⟩
                      case measure => simp [intOf]; omega
                  · have Dd2 := dnlt d2
                    have hbad : bad p a j b = false := by rw [HB.out]; simp [*]
                    have hend := Lib.hid (Hclb.out.b hbad)
                    clear hbad
                    go_wp2
                    go_quiet (fail)
                    go_wp2
                    go_roundw
                    case rel => exact ⟨(by exact ⟨_, rfl⟩), b + 1, by omega, by omega, by go_num, hend.out⟩
                    case measure => simp [intOf]; omega
                · have Dd1 := dnlt d1
                  have hbad : bad p a j b = false := by rw [HB.out]; simp [*]
                  have hend := Lib.hid (Hclb.out.b hbad)
                  clear hbad
                  go_wp2
                  go_quiet (fail)
                  go_wp2
                  go_roundw
                  case rel => exact ⟨(by exact ⟨_, rfl⟩), b + 1, by omega, by omega, by go_num, hend.out⟩
                  case measure => simp [intOf]; omega
            · have hend := Lib.hid (Hclb.out.j (by omega) 0 (Nat.zero_le _))
              go_wp2
              go_roundw
              case rel => exact ⟨⟨_, rfl⟩, j + 1, by omega, by omega, by go_num, hend.out⟩
              case measure => simp [intOf]; omega
        · have hend := Lib.hid (Hclj.out.a (by omega) 0 0 (Nat.zero_le _) (Nat.zero_le _))
          go_wp2
          go_roundw
          case rel => exact ⟨⟨_, rfl⟩, a + 1, by omega, by go_num, hend.out⟩
          case measure => simp [intOf]; omega
    · have hend := Lib.hid (Hcl.out.none (by omega))
      go_wp2
      go_ret2
      exact ⟨Or.inr ⟨hend.out, rfl⟩, below_drewN (Below.refl _ _) _⟩

end Go.Proofs.Ytgdaidmkcgblbaa
