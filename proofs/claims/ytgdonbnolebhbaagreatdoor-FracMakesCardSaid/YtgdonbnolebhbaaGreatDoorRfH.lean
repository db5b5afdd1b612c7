/-
  The walks of the reference's Form, and of the law's whole and is.
-/
import Derived.Test.YtgdonbnolebhbaaGreatDoorRfG
import Derived.Test.YtgdonbnolebhbaaGreatDoorRfS
import Derived.Test.YtgdonbnolebhbaaGreatDoorStr
set_option linter.unusedVariables false
namespace Go.Proofs.YtgdonbnolebhbaaGreatDoor
open Go.RowKit

theorem strL_append (a b : List Nat) : strL (a ++ b) = strL a ++ strL b := by
  apply ByteArray.ext
  apply Array.ext'
  rw [ByteArray.data_append, Array.toList_append]
  unfold strL
  rw [strOfNums_data, strOfNums_data, strOfNums_data, List.map_append, List.map_append]
theorem strL_slash : strL [47] = { data := #[47] } := by kernel_rfl
theorem decZ_le (z : Int) (n : Nat) (h : limbs z.natAbs = n) : (decZ z).length ≤ 9 * n + 2 := by
  have h1 := dn_le z.natAbs
  unfold decZ
  rw [List.length_append, decL_length]
  rw [h] at h1
  split <;> simp <;> omega

set_option maxRecDepth 100000 in
set_option maxHeartbeats 1600000 in
theorem rform_any (r : Rat) (A B : Option Addr) (n m c d : Nat) (w : World) (h : Nd w A n c r.num.natAbs) (k : Nd w B m d r.den) (hn9 : n ≤ 100000) (hm9 : m ≤ 100000) :
    Calls Tryz.prog 26 #[.agg #[.bool (decide (r.num < 0)), .slice A n c, .bool false, .slice B m d]] w (fun e w' => e = .returned (.string (strL (decQ r))) ∧ Below w.heap.size w w') := by
  obtain ⟨W, hW⟩ : ∃ W, W = w.alloc (.cells #[.bool (decide (r.num < 0)), .slice A n c, .bool false, .slice B m d] 45) := ⟨_, rfl⟩
  have hb0 : Blk W w.heap.size 45 #[.bool (decide (r.num < 0)), .slice A n c, .bool false, .slice B m d] := by rw [hW]; exact Blk.new _ _ _
  have hbel : Below w.heap.size w W := by rw [hW]; exact below_new _ _
  have hx := h.below hbel
  have hy := k.below hbel
  have hdn : decide (((r.den : Nat) : Int) < 0) = false := decide_eq_false (by omega)
  have hof := fun X => rof_any 1 X (by omega) (by omega)
  have hcm := fun X A1 n1 c1 (hX : Below W.heap.size W X) (h1 : Nd X A1 n1 c1 1) (hn1 : n1 ≤ 1000000000) => rcmpZ_differ (r.den : Int) 1 B A1 m n1 d c1 X (hy.below hX) h1 (by rw [hdn]; decide) (by omega) hn1
  have hs1 := fun X (hX : Below W.heap.size W X) => rstring_any r.num A n c X (hx.below hX) hn9
  have hs2 := fun X (hX : Below W.heap.size W X) => rstring_any (r.den : Int) B m d X (hy.below hX) hm9
  have hcell := fun X (hX : Below W.heap.size W X) => show X.cell? ⟨w.heap.size, 0, none⟩ = some (.bool (decide (r.num < 0))) ∧ X.cell? ⟨w.heap.size, 1, none⟩ = some (.slice A n c) ∧ X.cell? ⟨w.heap.size, 2, none⟩ = some (.bool false) ∧ X.cell? ⟨w.heap.size, 3, none⟩ = some (.slice B m d) from
    ⟨(hb0.keep hX).cell 0, (hb0.keep hX).cell 1, (hb0.keep hX).cell 2, (hb0.keep hX).cell 3⟩
  unfold RetZ zV at *
  rw [hdn] at hs2
  simp only [hdn] at hcm
  obtain ⟨sg, hsg⟩ : ∃ sg, ((r.den : Int) - 1).sign = sg := ⟨_, rfl⟩
  simp only [hsg] at hcm
  have Hsg := Lib.hid hsg
  clear hsg
  have z1 : (strL (decZ r.num)).size ≤ 1000000 := by
    have := decZ_le r.num n h.len
    rw [strL_size]
    omega
  have z2 : (strL (decZ (r.den : Int))).size ≤ 1000000 := by
    have := decZ_le (r.den : Int) m k.len
    rw [strL_size]
    omega
  have Hof := Lib.hid hof
  have Hcm := Lib.hid hcm
  have Hs1 := Lib.hid hs1
  have Hs2 := Lib.hid hs2
  have HW := Lib.hid hW
  have Hbel := Lib.hid hbel
  have Hcell := Lib.hid hcell
  have hB := Below.refl W.heap.size W
  obtain ⟨c0, c1, c2, c3⟩ := hcell _ hB
  clear hof hcm hs1 hs2 hW hbel h k hx hy hdn hcell hb0
  go_enter Tryz.func26, Tryz.ntmps26
  go_upto_region 1 with fail
  rw [← HW.out]
  clear HW
  go_region_held3 (fun w' => w'.cell? ⟨w.heap.size, 0, none⟩ = some (.bool (decide (r.num < 0))) ∧ w'.cell? ⟨w.heap.size, 1, none⟩ = some (.slice A n c) ∧ w'.cell? ⟨w.heap.size, 2, none⟩ = some (.bool false) ∧ w'.cell? ⟨w.heap.size, 3, none⟩ = some (.slice B m d))
    (first | exact Hcell.out _ hB | exact Hcell.out _ (Below.drew hB))
    (first
    | (go_at_call 6; refine (Hof.out _).mono ?_; rintro e w2 ⟨A1, n1, c1', rfl, hN, hb2'⟩; (first | (have hB := Below.and (Below.drew hB) hb2') | (have hB := Below.and hB hb2')))
    | (go_at_call 47; refine (Hcm.out _ _ _ _ hB hN (by rw [show n1 = 1 from (Nd.len hN).symm.trans (by kernel_rfl)]; omega)).mono ?_; rintro e w3 ⟨rfl, hb3⟩; have hB := Below.and hB hb3))
  all_goals
    have hB := hB
    clear c0 c1 c2 c3
    obtain ⟨c0, c1, c2, c3⟩ := Hcell.out _ hB
    have Hs1a := Lib.hid (Hs1.out _ hB)
    by_cases h0 : sg = 0
    · have h1 : r.den = 1 := by
        have := Hsg.out
        rw [h0, Int.sign_eq_zero_iff_zero] at this
        omega
      have hq : decQ r = decZ r.num := by unfold decQ; rw [if_pos h1, List.append_nil]
      have Hq := Lib.hid hq
      subst h0
      clear h1 hq
      go_wp2_with fail
      refine Hs1a.out.mono ?_
      rintro e w4 ⟨rfl, hb4⟩
      go_wp2_with fail
      go_ret
      exact ⟨by rw [Hq.out]; rfl, Hbel.out.and (hB.and hb4)⟩
    · have h1 : r.den ≠ 1 := by
        have := Hsg.out
        intro h
        rw [h] at this
        exact h0 this.symm
      have hq : strL (decQ r) = strL (decZ r.num) ++ ({ data := #[47] } ++ strL (decZ (r.den : Int))) := by
        rw [← strL_slash, ← strL_append, ← strL_append]
        unfold decQ
        rw [if_neg h1]
        unfold decZ
        rw [if_neg (show ¬ (((r.den : Nat) : Int) < 0) by omega)]
        rfl
      have Hq := Lib.hid hq
      clear h1 hq
      generalize strL (decZ r.num) = s1 at *
      generalize strL (decZ (r.den : Int)) = s2 at *
      have g1 : ¬ (9223372036854775807 < s1.size + 1) := by omega
      have g2 : ¬ (9223372036854775807 < s1.size + 1 + s2.size) := by omega
      go_upto_region 3 with fail
      go_region_held3 (fun w' => w'.cell? ⟨w.heap.size, 0, none⟩ = some (.bool (decide (r.num < 0))) ∧ w'.cell? ⟨w.heap.size, 1, none⟩ = some (.slice A n c) ∧ w'.cell? ⟨w.heap.size, 2, none⟩ = some (.bool false) ∧ w'.cell? ⟨w.heap.size, 3, none⟩ = some (.slice B m d))
        (first | exact Hcell.out _ hB | exact Hcell.out _ (Below.drew hB))
        (first
        | (go_at_call_of 9 (Value.slice B m d); refine (Hs2.out _ hB).mono ?_; rintro e w5 ⟨rfl, hb5⟩; have hB := Below.and hB hb5)
        | (go_at_call_of 9 (Value.slice A n c); refine (Hs1.out _ ?_).mono ?_; (first | exact Below.drew hB | exact hB); rintro e w4 ⟨rfl, hb4⟩; (first | (have hB := Below.and (Below.drew hB) hb4) | (have hB := Below.and hB hb4))))
      all_goals
        go_wp2_with fail
        go_ret
        exact ⟨by rw [Hq.out, ← ByteArray.append_assoc]; rfl, Hbel.out.and hB⟩

set_option maxRecDepth 100000 in
theorem lawWhole_any (z : Int) (A B : Option Addr) (n m d : Nat) (w : World) (h : Dg w A n z.natAbs) (k : Nd w B m d z.natAbs) (hn9 : n ≤ 100000) (hm9 : m ≤ 100000) :
    Calls Tryz.prog 4 #[intV z A n, zV z B m d] w (fun e w' => e = .returned (.bool true) ∧ Below w.heap.size w w') := by
  obtain ⟨W, hW, hb0, hb1, hbel⟩ := two_newZ w #[.bool (decide (z < 0)), .slice A n n] #[.bool (decide (z < 0)), .slice B m d] 26 31
  have hx := h.below hbel
  have hy := k.below hbel
  have Hs1 := Lib.hid (fun X (hX : Below W.heap.size W X) => intString_any z A n X (hx.below hX) (by omega))
  have Hs2 := Lib.hid (fun X (hX : Below W.heap.size W X) => rstring_any z B m d X (hy.below hX) hm9)
  have Hcell := Lib.hid (fun X (hX : Below W.heap.size W X) => show X.cell? ⟨w.heap.size, 0, none⟩ = some (.bool (decide (z < 0))) ∧ X.cell? ⟨w.heap.size, 1, none⟩ = some (.slice A n n) ∧ X.cell? ⟨w.heap.size + 1, 0, none⟩ = some (.bool (decide (z < 0))) ∧ X.cell? ⟨w.heap.size + 1, 1, none⟩ = some (.slice B m d) from
    ⟨(hb0.keep hX).cell 0, (hb0.keep hX).cell 1, (hb1.keep hX).cell 0, (hb1.keep hX).cell 1⟩)
  have HW := Lib.hid hW
  have Hbel := Lib.hid hbel
  have hB := Below.refl W.heap.size W
  obtain ⟨c0, c1, d0, d1⟩ := Hcell.out _ hB
  clear hW hbel h k hx hy hb0 hb1
  unfold intV zV at *
  generalize strL (decZ z) = s at *
  generalize decide (z < 0) = b at *
  go_enter Tryz.func4, Tryz.ntmps4
  go_upto_region 1 with fail
  rw [← HW.out]
  clear HW
  go_region_held3 (fun w' => w'.cell? ⟨w.heap.size, 0, none⟩ = some (.bool b) ∧ w'.cell? ⟨w.heap.size, 1, none⟩ = some (.slice A n n) ∧ w'.cell? ⟨w.heap.size + 1, 0, none⟩ = some (.bool b) ∧ w'.cell? ⟨w.heap.size + 1, 1, none⟩ = some (.slice B m d))
    (first | exact Hcell.out _ hB | exact Hcell.out _ (Below.drew hB))
    (first
    | (go_at_call 15; refine (Hs1.out _ ?_).mono ?_; (first | exact Below.drew hB | exact hB); rintro e w2 ⟨rfl, hb2'⟩; (first | (have hB := Below.and (Below.drew hB) hb2') | (have hB := Below.and hB hb2')))
    | (go_at_call 9; refine (Hs2.out _ hB).mono ?_; rintro e w3 ⟨rfl, hb3⟩; have hB := Below.and hB hb3))
  all_goals
    go_wp2_with fail
    go_ret
    exact ⟨by simp, Hbel.out.and hB⟩

set_option maxRecDepth 100000 in
theorem is_any (r : Rat) (A B : Option Addr) (n m : Nat) (A' B' : Option Addr) (n' c' m' d' : Nat) (w : World) (h : Rg w A n B m r) (k : Nd w A' n' c' r.num.natAbs) (k' : Nd w B' m' d' r.den) (hn9 : n ≤ 100000) (hm9 : m ≤ 100000) (hn9' : n' ≤ 100000) (hm9' : m' ≤ 100000) :
    Calls Tryz.prog 13 #[ratV r A n B m, .agg #[.bool (decide (r.num < 0)), .slice A' n' c', .bool false, .slice B' m' d']] w (fun e w' => e = .returned (.bool true) ∧ Below w.heap.size w w') := by
  obtain ⟨W, hW, hb0, hb1, hbel⟩ := two_newZ w (ratC r A n B m) #[.bool (decide (r.num < 0)), .slice A' n' c', .bool false, .slice B' m' d'] 34 45
  have hx := h.below hbel
  have hy := k.below hbel
  have hy' := k'.below hbel
  have Hs1 := Lib.hid (fun X (hX : Below W.heap.size W X) => ratString_any r A B n m X (hx.below hX) hn9 (by omega))
  have Hs2 := Lib.hid (fun X (hX : Below W.heap.size W X) => rform_any r A' B' n' m' c' d' X (hy.below hX) (hy'.below hX) hn9' hm9')
  have Hcell := Lib.hid (fun X (hX : Below W.heap.size W X) => show (X.cell? ⟨w.heap.size, 0, none⟩ = some (.bool (decide (r.num < 0))) ∧ X.cell? ⟨w.heap.size, 1, none⟩ = some (.slice A n n) ∧ X.cell? ⟨w.heap.size, 2, none⟩ = some (.slice B m m)) ∧ X.cell? ⟨w.heap.size + 1, 0, none⟩ = some (.bool (decide (r.num < 0))) ∧ X.cell? ⟨w.heap.size + 1, 1, none⟩ = some (.slice A' n' c') ∧
      X.cell? ⟨w.heap.size + 1, 2, none⟩ = some (.bool false) ∧ X.cell? ⟨w.heap.size + 1, 3, none⟩ = some (.slice B' m' d') from
    ⟨⟨(hb0.keep hX).cell 0, (hb0.keep hX).cell 1, (hb0.keep hX).cell 2⟩, (hb1.keep hX).cell 0, (hb1.keep hX).cell 1, (hb1.keep hX).cell 2, (hb1.keep hX).cell 3⟩)
  have HW := Lib.hid hW
  have Hbel := Lib.hid hbel
  have hB := Below.refl W.heap.size W
  obtain ⟨⟨c0, c1, c2⟩, d0, d1, d2, d3⟩ := Hcell.out _ hB
  clear hW hbel h k hx hy hy' k' hb0 hb1
  unfold ratC at HW
  unfold ratV at *
  generalize strL (decQ r) = s at *
  generalize decide (r.num < 0) = b at *
  go_enter Tryz.func13, Tryz.ntmps13
  go_upto_region 1 with fail
  rw [← HW.out]
  clear HW
  go_region_held3 (fun w' => (w'.cell? ⟨w.heap.size, 0, none⟩ = some (.bool b) ∧ w'.cell? ⟨w.heap.size, 1, none⟩ = some (.slice A n n) ∧ w'.cell? ⟨w.heap.size, 2, none⟩ = some (.slice B m m)) ∧ w'.cell? ⟨w.heap.size + 1, 0, none⟩ = some (.bool b) ∧ w'.cell? ⟨w.heap.size + 1, 1, none⟩ = some (.slice A' n' c') ∧ w'.cell? ⟨w.heap.size + 1, 2, none⟩ = some (.bool false) ∧ w'.cell? ⟨w.heap.size + 1, 3, none⟩ = some (.slice B' m' d'))
    (first | exact Hcell.out _ hB | exact Hcell.out _ (Below.drew hB))
    (first
    | (go_at_call 8; refine (Hs1.out _ ?_).mono ?_; (first | exact Below.drew hB | exact hB); rintro e w2 ⟨rfl, hb2'⟩; (first | (have hB := Below.and (Below.drew hB) hb2') | (have hB := Below.and hB hb2')))
    | (go_at_call 26; refine (Hs2.out _ hB).mono ?_; rintro e w3 ⟨rfl, hb3⟩; have hB := Below.and hB hb3))
  all_goals
    go_wp2_with fail
    go_ret
    exact ⟨by simp, Hbel.out.and hB⟩
end Go.Proofs.YtgdonbnolebhbaaGreatDoor
