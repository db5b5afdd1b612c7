/-
  The walk of divide.
-/
import Derived.Test.YtcklgdcjedikoaaPat
namespace Go.Proofs.Ytcklgdcjedikoaa
open Go.RowKit

def lessL (p : List Nat) : List (Nat × Nat) := cutL (fun l r => decide (maxL l < minL r)) p
def greatL (p : List Nat) : List (Nat × Nat) := cutL (fun l r => decide (maxL r < minL l)) p
/-- The kind of a node, and its parts. -/
def divL (p : List Nat) : Nat × List (Nat × Nat) := if 1 < (lessL p).length then (1, lessL p) else if 1 < (greatL p).length then (2, greatL p) else (3, longL p)

theorem own_base {w : World} {B B' size n : Nat} {e : TypeId} {v : Value} {xs : List Value} (h : w.ownsRow B e size v n xs) (hB : B' ≤ B) : w.ownsRow B' e size v n xs := by
  obtain ⟨hl, h1 | ⟨g, cap, cur, e1, hb, rest⟩⟩ := h
  · exact ⟨hl, .inl h1⟩
  · exact ⟨hl, .inr ⟨g, cap, cur, e1, Nat.le_trans hB hb, rest⟩⟩

/-- A kind and parts, in new memory. -/
def RetDiv (b off cap kind : Nat) (rows : List (Nat × Nat)) (w : World) (e : Ending) (w' : World) : Prop :=
  ∃ g c, e = .returned (.tuple #[.int .i64 kind, .slice (some ⟨g, 0, none⟩) rows.length c]) ∧ w'.ownsRow w.heap.size 22 1 (.slice (some ⟨g, 0, none⟩) rows.length c) rows.length (rows.map (partV b off cap)) ∧ Below w.heap.size w w'

set_option maxRecDepth 100000 in
theorem divide_any (b off n cap : Nat) (p : List Nat) (w : World) (hS : Sl .i64 w (some ⟨b, off, none⟩) n p) (h0 : 2 ≤ n) (hcap : n ≤ cap) (hn : n ≤ 60) (hc9 : cap ≤ 9223372036854775807) (hB : ∀ i, p.getD i 0 ≤ 1000) :
    Calls Try.prog 100 #[.slice (some ⟨b, off, none⟩) n cap] w (RetDiv b off cap (divL p).1 (divL p).2 w) := by
  have H1 := Lib.hid (fun W hW => cut_less b off n cap p W hW (by omega) hcap hn hc9)
  have H2 := Lib.hid (fun W hW => cut_greater b off n cap p W hW (by omega) hcap hn hc9)
  have H3 := Lib.hid (fun W hW => longest_any b off n cap p W hW h0 hcap hn hc9 hB)
  by_cases h1 : 1 < (lessL p).length
  · have Hd := Lib.hid (show divL p = (1, lessL p) by unfold divL; rw [if_pos h1])
    rw [Hd.out]
    dsimp only
    unfold lessL at *
    generalize cutL (fun l r => decide (maxL l < minL r)) p = rows at *
    have d1 : decide ((1 : Int) < (rows.length : Int)) = true := decide_eq_true (by omega)
    go_enter Try.func100, Try.ntmps100
    go_wp2_with (go_at_call 110; refine (H1.out _ hS).mono ?_; rintro e w1 ⟨g, c, rfl, hown, hb⟩)
    go_ret2
    exact ⟨g, c, rfl, hown, hb⟩
  · by_cases h2 : 1 < (greatL p).length
    · have Hd := Lib.hid (show divL p = (2, greatL p) by unfold divL; rw [if_neg h1, if_pos h2])
      rw [Hd.out]
      dsimp only
      unfold lessL at h1
      unfold greatL at *
      generalize cutL (fun l r => decide (maxL l < minL r)) p = rows1 at *
      generalize cutL (fun l r => decide (maxL r < minL l)) p = rows at *
      have d1 : decide ((1 : Int) < (rows1.length : Int)) = false := decide_eq_false (by omega)
      have d2 : decide ((1 : Int) < (rows.length : Int)) = true := decide_eq_true (by omega)
      clear Hd
      go_enter Try.func100, Try.ntmps100
      go_wp2_with (go_at_call 110; first | (refine (H1.out _ hS).mono ?_; clear H1; rintro e w1 ⟨g1, c1, rfl, -, hb1⟩; have hS1 := hS.below hb1) | (refine (H2.out _ hS1).mono ?_; rintro e w2 ⟨g, c, rfl, hown, hb⟩))
      go_ret2
      exact ⟨g, c, rfl, own_base hown hb1.size, hb1.trans (hb.mono hb1.size)⟩
    · have Hd := Lib.hid (show divL p = (3, longL p) by unfold divL; rw [if_neg h1, if_neg h2])
      rw [Hd.out]
      dsimp only
      unfold lessL at h1
      unfold greatL at h2
      generalize cutL (fun l r => decide (maxL l < minL r)) p = rows1 at *
      generalize cutL (fun l r => decide (maxL r < minL l)) p = rows2 at *
      generalize longL p = rows at *
      have d1 : decide ((1 : Int) < (rows1.length : Int)) = false := decide_eq_false (by omega)
      have d2 : decide ((1 : Int) < (rows2.length : Int)) = false := decide_eq_false (by omega)
      clear Hd
      go_enter Try.func100, Try.ntmps100
      go_wp2_with (first | (go_at_call 110; first | (refine (H1.out _ hS).mono ?_; clear H1; rintro e w1 ⟨g1, c1, rfl, -, hb1⟩; have hS1 := hS.below hb1) | (refine (H2.out _ hS1).mono ?_; rintro e w2 ⟨g2, c2, rfl, -, hb2⟩; have hS2 := hS1.below hb2)) | (go_at_call 113; refine (H3.out _ hS2).mono ?_; rintro e w3 ⟨g, c, rfl, hown, hb⟩))
      go_ret2
      exact ⟨g, c, rfl, own_base hown (Nat.le_trans hb1.size hb2.size), (hb1.trans (hb2.mono hb1.size)).trans (hb.mono (Nat.le_trans hb1.size hb2.size))⟩

end Go.Proofs.Ytcklgdcjedikoaa
