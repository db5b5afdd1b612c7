/-
  The walks of the commutator, and of a wire that falls with each single one of its nails.
-/
import Derived.Test.YtkdalgdckgmccaaGreatDoorJoin
namespace Go.Proofs.YtkdalgdckgmccaaGreatDoor
open Go.RowKit

theorem wire_sl {B : Nat} {l : List Nat} {w : World} {v : Value} (h : Wire B l w v) (hl : l.length ≤ 4611686018427387904) : ∃ A c, v = .slice A l.length c ∧ Sl .u8 w A l.length l := by
  rcases Nat.eq_zero_or_pos l.length with h0 | h0
  · have e : l = [] := List.eq_nil_of_length_eq_zero h0
    subst e
    obtain ⟨A, c, e⟩ := own_slice' h.own
    exact ⟨A, c, e, Sl.nil⟩
  · obtain ⟨g, cap, e⟩ := own_pos h.own h0
    have hown := h.own
    rw [e] at hown
    exact ⟨_, cap, e, own_sl hown hl⟩

theorem parts_cons {w : World} {g off : Nat} {l : List Nat} {ls : List (List Nat)} {A : Option Addr} {c : Nat} (hg : g < w.heap.size) (h0 : w.cell? ⟨g, off, none⟩ = some (.slice A l.length c)) (hS : Sl .u8 w A l.length l) (h : Parts w g (off + 1) ls) : Parts w g off (l :: ls) := by
  refine ⟨fun _ => hg, fun i hi => ?_⟩
  cases i with
  | zero => exact ⟨A, c, h0, hS⟩
  | succ i =>
    obtain ⟨A', c', h1, h2⟩ := h.2 i (by simpa using hi)
    exact ⟨A', c', by rw [show off + (i + 1) = off + 1 + i by omega]; exact h1, h2⟩
theorem parts_nil (w : World) (g off : Nat) : Parts w g off [] := ⟨fun h => absurd h (by simp), fun _ hi => absurd hi (by simp)⟩

/-- The letters of the commutator of two words. -/
def commL (a b : List Nat) : List Nat := redL (a ++ (b ++ (invL a ++ invL b)))

set_option maxRecDepth 100000 in
set_option maxHeartbeats 1000000 in
theorem commutator_any (A B : Option Addr) (n m ca cb : Nat) (a b : List Nat) (w : World) (ha : Sl .u8 w A n a) (hb : Sl .u8 w B m b) (hwa : IsWord a) (hwb : IsWord b) (hn : n ≤ 1000000) (hm : m ≤ 1000000) :
    Calls Tryz.prog 71 #[.slice A n ca, .slice B m cb] w (RetWire (commL a b) w) := by
  have la := ha.len
  have lb := hb.len
  have Hinv := Lib.hid (fun W (hW : Below w.heap.size w W) => inverse_any A n ca a W (ha.below hW) hwa hn)
  have Hinv2 := Lib.hid (fun W (hW : Below w.heap.size w W) => inverse_any B m cb b W (hb.below hW) hwb hm)
  have Ha := Lib.hid (fun W (hW : Below w.heap.size w W) => ha.below hW)
  have Hb := Lib.hid (fun W (hW : Below w.heap.size w W) => hb.below hW)
  have La := Lib.hid la
  have Lb := Lib.hid lb
  have Hwa := Lib.hid hwa
  have Hwb := Lib.hid hwb
  clear ha hb la lb hwa hwb
  go_enter Tryz.func71, Tryz.ntmps71
  go_wp2_with fail
  refine (Hinv.out _ (Below.refl _ _)).mono ?_
  rintro e w1 ⟨v1, rfl, hW1, hb1⟩
  go_wp2_with fail
  refine (Hinv2.out _ hb1).mono ?_
  rintro e w2 ⟨v2, rfl, hW2, hb2⟩
  have hb12 : Below w.heap.size w w2 := hb1.trans (hb2.mono hb1.size)
  have hlen1 : (invL a).length = n := by rw [invL_length, La.out]
  have hlen2 : (invL b).length = m := by rw [invL_length, Lb.out]
  obtain ⟨A1, c1, rfl, hS1⟩ := wire_sl (wire_keep hW1 hb2) (by omega)
  obtain ⟨A2, c2, rfl, hS2⟩ := wire_sl hW2 (by omega)
  have ha2 := Ha.out _ hb12
  have hb2' := Hb.out _ hb12
  rw [hlen1] at hS1
  rw [hlen2] at hS2
  rw [hlen1, hlen2]
  have HS1 := Lib.hid hS1
  have HS2 := Lib.hid hS2
  have HA2 := Lib.hid ha2
  have HB2 := Lib.hid hb2'
  have Hlen1 := Lib.hid hlen1
  have Hlen2 := Lib.hid hlen2
  clear hS1 hS2 ha2 hb2' hlen1 hlen2 hW1 hW2
  go_wp2_with fail
  have hb3 := below_new' w2 (.cells #[.slice A n ca, .slice B m cb, .slice A1 n c1, .slice A2 m c2] 44)
  have hblk := Blk.new w2 44 #[.slice A n ca, .slice B m cb, .slice A1 n c1, .slice A2 m c2]
  have hP : Parts (w2.alloc (.cells #[.slice A n ca, .slice B m cb, .slice A1 n c1, .slice A2 m c2] 44)) w2.heap.size 0 [a, b, invL a, invL b] := by
    refine parts_cons (A := A) (c := ca) hblk.lt ((hblk.cell 0).trans (by rw [La.out]; rfl)) ?_ (parts_cons (A := B) (c := cb) hblk.lt ((hblk.cell 1).trans (by rw [Lb.out]; rfl)) ?_ (parts_cons (A := A1) (c := c1) hblk.lt ((hblk.cell 2).trans (by rw [Hlen1.out]; rfl)) ?_ (parts_cons (A := A2) (c := c2) hblk.lt ((hblk.cell 3).trans (by rw [Hlen2.out]; rfl)) ?_ (parts_nil _ _ _))))
    · rw [La.out]; exact HA2.out.below hb3
    · rw [Lb.out]; exact HB2.out.below hb3
    · rw [Hlen1.out]; exact HS1.out.below hb3
    · rw [Hlen2.out]; exact HS2.out.below hb3
  have hflat : [a, b, invL a, invL b].flatten = a ++ (b ++ (invL a ++ invL b)) := by simp
  have hj := joined_any w2.heap.size 0 4 4 [a, b, invL a, invL b] _ rfl hP (by
    intro l hl
    simp only [List.mem_cons, List.not_mem_nil, or_false] at hl
    rcases hl with rfl | rfl | rfl | rfl
    · exact Hwa.out
    · exact Hwb.out
    · exact invL_word Hwa.out
    · exact invL_word Hwb.out) (by rw [hflat]; simp only [List.length_append, Hlen1.out, Hlen2.out, La.out, Lb.out]; omega) (by omega)
  rw [hflat] at hj
  refine hj.mono ?_
  rintro e w4 ⟨v4, rfl, hW4, hb4⟩
  have hbel : Below w.heap.size w w4 := hb12.trans ((hb3.mono hb12.size).trans (hb4.mono (Nat.le_trans hb12.size hb3.size)))
  go_wp2_with fail
  go_ret
  exact ⟨v4, rfl, wire_mono hW4 (Nat.le_trans hb12.size hb3.size), hbel⟩

end Go.Proofs.YtkdalgdckgmccaaGreatDoor
