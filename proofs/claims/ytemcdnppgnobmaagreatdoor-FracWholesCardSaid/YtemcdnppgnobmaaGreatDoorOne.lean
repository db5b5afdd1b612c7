/-
  The walk of the law's one; and of frac's Div by 0.
  The walk of the law's whole.
  The walk of frac's Cmp of integers.
-/
import Derived.Test.YtemcdnppgnobmaaGreatDoorPrI
import Derived.Test.YtemcdnppgnobmaaGreatDoorRfL
import Derived.Test.YtemcdnppgnobmaaGreatDoorRfN
import Derived.Test.YtemcdnppgnobmaaGreatDoorRfS
import Derived.Test.YtemcdnppgnobmaaGreatDoorStr
import Derived.Test.YtemcdnppgnobmaaGreatDoorInt4
set_option linter.unusedVariables false
namespace Go.Proofs.YtemcdnppgnobmaaGreatDoor
open Go.RowKit

set_option maxRecDepth 100000 in
theorem intDiv_zero (A B : Option Addr) (n m : Nat) (y : Int) (w : World) (k : Dg w B m (0 : Int).natAbs) :
    Calls Tryz.prog 16 #[intV y A n, intV 0 B m] w (fun e w' => e = .returned (.tuple #[intV 0 none 0, intV 0 none 0, .int .i64 6]) ∧ Below w.heap.size w w') := by
  obtain ⟨W, hW, hb0, hb1, hr0, hr1, hbel⟩ := four_new w 25 25 25 25 #[.bool (decide (y < 0)), .slice A n n] #[.bool (decide ((0 : Int) < 0)), .slice B m m] intZ intZ
  have Hze := Lib.hid (zero_any B m 0 W (k.below hbel))
  obtain ⟨e0, e1, ef0, ef1⟩ := hb1.two
  have Hbel := Lib.hid hbel
  have HW := Lib.hid hW
  have Hr0 := Lib.hid hr0
  have Hr1 := Lib.hid hr1
  clear hW hbel k hr0 hr1 hb0 hb1
  unfold intZ at HW
  unfold intV at *
  go_enter Tryz.func16, Tryz.ntmps16
  go_upto_region 1 with fail
  have hd : decide ((0 : Int) < 0) = false := by decide
  rw [hd] at HW Hze e0
  rw [← HW.out]
  clear HW
  go_wp2_with fail
  refine Hze.out.mono ?_
  rintro e w1 ⟨rfl, hb1'⟩
  have u0 := Hr0.out.keep hb1'
  have u1 := Hr1.out.keep hb1'
  obtain ⟨p0, p1, p2, p3⟩ := u0.two
  obtain ⟨v0, v1, v2, v3⟩ := u1.two
  have Hfin := Lib.hid (Hbel.out.and hb1')
  go_wp2_with fail
  exact ret_two_stored (q := 0) (r := 0) (A := none) (B := none) (n := 0) (m := 0) (v := .int .i64 6) rfl rfl rfl rfl rfl u0 u1 Sl.nil Sl.nil Hfin.out (by omega) (by omega) (by omega) rfl rfl (fun w' h1 h2 h3 => ⟨rfl, h3⟩)

/-- The same integer of the program and of the reference, not long. -/
def RetOne (w : World) (e : Ending) (w' : World) : Prop :=
  ∃ z A n B b d, e = .returned (.tuple #[intV z A n, zV z B b d]) ∧ Dg w' A n z.natAbs ∧ Nd w' B b d z.natAbs ∧ limbs z.natAbs ≤ 701 ∧ Below w.heap.size w w'

theorem ret_one_stored {fn : Func} {R : Ending → World → Prop} {a : Act} {w1 : World} {s s' g g' n b d : Nat} {A B : Option Addr} {z : Int}
    (hf : fn.results = #[.cell s 25, .cell s' 29]) (h4 : a.tmps[s]? = some (.pointer (some ⟨g, 0, none⟩))) (h5 : a.tmps[s']? = some (.pointer (some ⟨g', 0, none⟩))) (hd : a.defers = [])
    (hb : Blk w1 g 25 #[.bool (decide (z < 0)), .slice A n n]) (hb' : Blk w1 g' 29 #[.bool (decide (z < 0)), .slice B b d])
    (hR : R (.returned (.tuple #[intV z A n, zV z B b d])) w1) :
    bodyPost Tryz.prog fn R .ret a w1 := by
  have c0 := hb.cell 0
  have c1 := hb.cell 1
  have d0 := hb'.cell 0
  have d1 := hb'.cell 1
  exact bodyPost_ret (v := .tuple #[intV z A n, zV z B b d]) (by simp [results, hf, go_sem, c0, c1, d0, d1, h4, h5, intV, zV]) hd hR

theorem one_cells {Y : World} {g g' n b d : Nat} {A B : Option Addr} {z : Int} {bz : Bool} (hbz : decide (z < 0) = bz) (u0 : Blk Y g 25 intZ) (u1 : Blk Y g' 29 intZ) (hne : g ≠ g') (hd : Dg Y A n z.natAbs) (hn : Nd Y B b d z.natAbs) :
    ∀ Y', Y' = (((Y.setCell ⟨g, 0, none⟩ (.bool bz)).setCell ⟨g, 1, none⟩ (.slice A n n)).setCell ⟨g', 0, none⟩ (.bool bz)).setCell ⟨g', 1, none⟩ (.slice B b d) ∨ Y' = (((Y.setCell ⟨g', 0, none⟩ (.bool bz)).setCell ⟨g', 1, none⟩ (.slice B b d)).setCell ⟨g, 0, none⟩ (.bool bz)).setCell ⟨g, 1, none⟩ (.slice A n n) →
      Blk Y' g 25 #[.bool (decide (z < 0)), .slice A n n] ∧ Blk Y' g' 29 #[.bool (decide (z < 0)), .slice B b d] ∧ Dg Y' A n z.natAbs ∧ Nd Y' B b d z.natAbs ∧ ∀ k, k ≤ g → k ≤ g' → Below k Y Y' := by
  subst hbz
  rintro Y' (rfl | rfl)
  · have o1 := ((Only.refl g Y).setCell 0 (.bool (decide (z < 0)))).setCell 1 (.slice A n n)
    have k1 := Blk.set2 u0 (.bool (decide (z < 0))) (.slice A n n)
    have k2 := o1.blk (Ne.symm hne) u1
    have hd1 := hd.only o1 u0 intZ_free
    have hn1 := hn.only o1 u0 (zz_free _ _ _ _)
    have o2 := ((Only.refl g' ((Y.setCell ⟨g, 0, none⟩ (.bool (decide (z < 0)))).setCell ⟨g, 1, none⟩ (.slice A n n))).setCell 0 (.bool (decide (z < 0)))).setCell 1 (.slice B b d)
    exact ⟨o2.blk hne k1, Blk.set2 k2 _ _, hd1.only o2 k2 intZ_free, hn1.only o2 k2 (zz_free _ _ _ _), fun k h1 h2 => (o1.below h1).trans (o2.below h2)⟩
  · have o1 := ((Only.refl g' Y).setCell 0 (.bool (decide (z < 0)))).setCell 1 (.slice B b d)
    have k1 := Blk.set2 u1 (.bool (decide (z < 0))) (.slice B b d)
    have k2 := o1.blk hne u0
    have hd1 := hd.only o1 u1 intZ_free
    have hn1 := hn.only o1 u1 (zz_free _ _ _ _)
    have o2 := ((Only.refl g ((Y.setCell ⟨g', 0, none⟩ (.bool (decide (z < 0)))).setCell ⟨g', 1, none⟩ (.slice B b d))).setCell 0 (.bool (decide (z < 0)))).setCell 1 (.slice A n n)
    exact ⟨Blk.set2 k2 _ _, o2.blk (Ne.symm hne) k1, hd1.only o2 k2 intZ_free, hn1.only o2 k2 (zz_free _ _ _ _), fun k h1 h2 => (o1.below h2).trans (o2.below h1)⟩

theorem rof_one (X : World) : Calls Tryz.prog 22 #[.int .i64 1] X (fun e w' => ∃ A n c, e = .returned (.agg #[.bool false, .slice A n c]) ∧ Nd w' A n c 1 ∧ Below X.heap.size X w') :=
  rof_any 1 X (by omega) (by omega)

set_option maxRecDepth 100000 in
set_option maxHeartbeats 1600000 in
theorem one_any (s : ByteArray) (w : World) (hs : s.size ≤ 140737488351232) :
    Calls Tryz.prog 4 #[.string s, .int .i64 700] w (RetOne w) := by
  obtain ⟨W, hW, hr0, hr1, hbel⟩ := two_newZ w intZ intZ 25 29
  have Hpa := Lib.hid (rparse_any s W hs)
  have HW := Lib.hid hW
  have Hr0 := Lib.hid hr0
  have Hr1 := Lib.hid hr1
  have Hbel := Lib.hid hbel
  have Hwsz := Lib.hid (show w.heap.size + 2 ≤ W.heap.size by rw [hW]; simp)
  clear hW hr0 hr1 hbel
  unfold intZ at HW
  go_enter Tryz.func4, Tryz.ntmps4
  go_upto_region 1 with fail
  rw [← HW.out]
  clear HW
  go_wp2_with fail
  refine Hpa.out.mono ?_
  rintro e w1 (⟨rfl, hb1⟩ | ⟨z, B, b, d, rfl, hN, hbl, hb1⟩)
  · unfold zV
    have hz0 : decide ((0 : Int) < 0) = false := by decide
    rw [hz0]
    go_upto_region 2 with fail
    obtain ⟨g6, hg6e⟩ : ∃ g6, g6 = w1.heap.size := ⟨_, rfl⟩
    have h6 : W.heap.size ≤ g6 := by rw [hg6e]; exact hb1.size
    obtain ⟨W1, hW1⟩ : ∃ W1, W1 = w1.alloc (.cells #[.bool false, .slice none 0 0] 29) := ⟨_, rfl⟩
    have hk1 : Blk W1 g6 29 #[.bool false, .slice none 0 0] := by rw [hW1, hg6e]; exact Blk.new _ _ _
    have hB1 : Below W.heap.size W W1 := by rw [hW1]; exact hb1.more _
    rw [← hW1, ← hg6e]
    obtain ⟨q0, q1, q2, q3⟩ := hk1.two
    clear q0 q1 q2 q3 hg6e hb1
    clear hW1
    go_wp2_with fail
    refine (rof_one _).mono ?_
    rintro e w2 ⟨B, b, d, rfl, hN2, hb2⟩
    have hk2 := hk1.keep hb2
    obtain ⟨q0, q1, q2, q3⟩ := hk2.two
    go_upto_region 4 with fail
    obtain ⟨X, hX⟩ : ∃ X, X = (w2.setCell ⟨g6, 0, none⟩ (.bool false)).setCell ⟨g6, 1, none⟩ (.slice B b d) := ⟨_, rfl⟩
    have ho := ((Only.refl g6 w2).setCell 0 (.bool false)).setCell 1 (.slice B b d)
    have hk : Blk X g6 29 #[.bool false, .slice B b d] := by rw [hX]; exact Blk.set2 hk2 _ _
    obtain ⟨z, hz⟩ : ∃ z : Int, z = 1 := ⟨_, rfl⟩
    have hN : Nd X B b d z.natAbs := by rw [hX, hz]; exact hN2.only ho hk2 (zz_free _ _ _ _)
    have hl : limbs z.natAbs ≤ 701 := by rw [hz]; show limbs 1 ≤ 701; rw [show limbs 1 = 1 by kernel_rfl]; omega
    have hbz : decide (z < 0) = false := by rw [hz]; decide
    have hB : Below W.heap.size W X := by rw [hX]; exact (hB1.and hb2).trans (ho.below h6)
    rw [← hX]
    clear hX ho hk2 hN2 hz q0 q1 q2 q3 hk1 hb2 hB1
    have Hstr := Lib.hid (rstring_any z B b d X hN (by rw [← hN.len]; omega))
    have Hpi := Lib.hid (fun Y => parseInt_any z Y (by omega))
    have Hl := Lib.hid hl
    unfold zV at Hstr
    rw [hbz] at Hstr
    obtain ⟨c0, c1, -, -⟩ := hk.two
    clear hl
    go_wp2_with fail
    refine Hstr.out.mono ?_
    rintro e w5 ⟨rfl, hb5⟩
    go_wp2_with fail
    refine (Hpi.out _).mono ?_
    rintro e w6 ⟨A, n, rfl, hd6, hb6⟩
    unfold intV
    rw [hbz]
    go_upto_region 5 with fail
    obtain ⟨W6, hW6⟩ : ∃ W6, W6 = w6.alloc (.cells #[.bool false, .slice A n n] 25) := ⟨_, rfl⟩
    have hk8 : Blk W6 w6.heap.size 25 #[.bool false, .slice A n n] := by rw [hW6]; exact Blk.new _ _ _
    have hb6' : Below w6.heap.size w6 W6 := by rw [hW6]; exact below_new _ _
    rw [← hW6]
    have hX6 := (hb5.and hb6).and hb6'
    have hk6 := hk.keep hX6
    have hN6 := hN.below hX6
    have hD6 := hd6.below hb6'
    have hBW := hB.and hX6
    have u0 := Hr0.out.keep hBW
    have u1 := Hr1.out.keep hBW
    have hg6 : W.heap.size ≤ g6 := h6
    have hg8 : W.heap.size ≤ w6.heap.size := by have := (hB.and (hb5.and hb6)).size; exact this
    have hws := Hwsz.out
    obtain ⟨g8, hg8e⟩ : ∃ g8, g8 = w6.heap.size := ⟨_, rfl⟩
    rw [← hg8e] at hk8 hg8 ⊢
    clear c0 c1 hk hN hd6 hb5 hb6 hb6' hX6 hB hW6 hg8e
    have Hcell := Lib.hid (fun Y (hY : Below W6.heap.size W6 Y) => show Y.cell? ⟨g8, 0, none⟩ = some (.bool false) ∧ Y.cell? ⟨g8, 1, none⟩ = some (.slice A n n) ∧ Y.cell? ⟨g6, 0, none⟩ = some (.bool false) ∧ Y.cell? ⟨g6, 1, none⟩ = some (.slice B b d) from
      ⟨(hk8.keep hY).cell 0, (hk8.keep hY).cell 1, (hk6.keep hY).cell 0, (hk6.keep hY).cell 1⟩)
    have HstA := Lib.hid (fun Y Y1 Y2 (hY : Below W6.heap.size W6 Y) (h1 : Only w.heap.size Y Y1) (h2 : Only (w.heap.size + 1) Y1 Y2) => show Y2.cell? ⟨g8, 0, none⟩ = some (.bool false) ∧ Y2.cell? ⟨g8, 1, none⟩ = some (.slice A n n) ∧ Y2.cell? ⟨g6, 0, none⟩ = some (.bool false) ∧ Y2.cell? ⟨g6, 1, none⟩ = some (.slice B b d) from
      ⟨(h2.blk (by omega) (h1.blk (by omega) (hk8.keep hY))).cell 0, (h2.blk (by omega) (h1.blk (by omega) (hk8.keep hY))).cell 1, (h2.blk (by omega) (h1.blk (by omega) (hk6.keep hY))).cell 0, (h2.blk (by omega) (h1.blk (by omega) (hk6.keep hY))).cell 1⟩)
    have HstB := Lib.hid (fun Y Y1 Y2 (hY : Below W6.heap.size W6 Y) (h1 : Only (w.heap.size + 1) Y Y1) (h2 : Only w.heap.size Y1 Y2) => show Y2.cell? ⟨g8, 0, none⟩ = some (.bool false) ∧ Y2.cell? ⟨g8, 1, none⟩ = some (.slice A n n) ∧ Y2.cell? ⟨g6, 0, none⟩ = some (.bool false) ∧ Y2.cell? ⟨g6, 1, none⟩ = some (.slice B b d) from
      ⟨(h2.blk (by omega) (h1.blk (by omega) (hk8.keep hY))).cell 0, (h2.blk (by omega) (h1.blk (by omega) (hk8.keep hY))).cell 1, (h2.blk (by omega) (h1.blk (by omega) (hk6.keep hY))).cell 0, (h2.blk (by omega) (h1.blk (by omega) (hk6.keep hY))).cell 1⟩)
    have Hbz := Lib.hid hbz
    have Hfin := Lib.hid (fun Y (hY : Below W6.heap.size W6 Y) Y' hY' => one_cells (Y := Y) Hbz.out (u0.keep hY) (u1.keep hY) (by omega) (hD6.below hY) (hN6.below hY) Y' hY')
    have HbW := Lib.hid (Hbel.out.and hBW)
    have hY := Below.refl W6.heap.size W6
    have hYd := Below.drew hY
    obtain ⟨p0, p1, p2, p3⟩ := u0.two
    obtain ⟨v0, v1, v2, v3⟩ := u1.two
    obtain ⟨a0, a1, a2, a3⟩ := Hcell.out _ hY
    clear hk8 hk6 hbz hBW hD6 hN6
    go_region_held3 (fun w' => w'.cell? ⟨g8, 0, none⟩ = some (.bool false) ∧ w'.cell? ⟨g8, 1, none⟩ = some (.slice A n n) ∧ w'.cell? ⟨g6, 0, none⟩ = some (.bool false) ∧ w'.cell? ⟨g6, 1, none⟩ = some (.slice B b d))
      (first | exact Hcell.out _ hY | exact Hcell.out _ hYd | exact HstA.out _ _ _ hYd (Only.setCell (Only.setCell (Only.refl _ _) 0 _) 1 _) (Only.refl _ _) | exact HstA.out _ _ _ hYd (Only.setCell (Only.setCell (Only.refl _ _) 0 _) 1 _) (Only.setCell (Only.setCell (Only.refl _ _) 0 _) 1 _) | exact HstB.out _ _ _ hYd (Only.setCell (Only.setCell (Only.refl _ _) 0 _) 1 _) (Only.refl _ _) | exact HstB.out _ _ _ hYd (Only.setCell (Only.setCell (Only.refl _ _) 0 _) 1 _) (Only.setCell (Only.setCell (Only.refl _ _) 0 _) 1 _) | exact HstA.out _ _ _ hY (Only.setCell (Only.setCell (Only.refl _ _) 0 _) 1 _) (Only.refl _ _) | exact HstB.out _ _ _ hY (Only.setCell (Only.setCell (Only.refl _ _) 0 _) 1 _) (Only.refl _ _))
      (fail)
    all_goals
      go_wp2_with fail
      obtain ⟨Y', hY'⟩ : ∃ Y', Y' = (((W6.setCell ⟨w.heap.size, 0, none⟩ (.bool false)).setCell ⟨w.heap.size, 1, none⟩ (.slice A n n)).setCell ⟨w.heap.size + 1, 0, none⟩ (.bool false)).setCell ⟨w.heap.size + 1, 1, none⟩ (.slice B b d) := ⟨_, rfl⟩
      obtain ⟨k0, k1, k2, k3, k4⟩ := Hfin.out _ hY Y' (Or.inl hY')
      rw [← hY']
      have hdr := Below.drew (Below.refl Y'.heap.size Y')
      exact ret_one_stored rfl rfl rfl rfl (k0.keep hdr) (k1.keep hdr) ⟨z, A, n, B, b, d, rfl, k2.below hdr, k3.below hdr, Hl.out, Below.drew (HbW.out.trans (k4 _ (Nat.le_refl _) (by omega)))⟩
  · have HN := Lib.hid (hN.below (below_new w1 (.cells #[.bool (decide (z < 0)), .slice B b d] 29)))
    have hl0 := hN.len
    unfold zV
    obtain ⟨bz, hbz⟩ : ∃ bz, decide (z < 0) = bz := ⟨_, rfl⟩
    rw [hbz] at HN ⊢
    clear hN
    go_upto_region 2 with fail
    obtain ⟨g6, hg6e⟩ : ∃ g6, g6 = w1.heap.size := ⟨_, rfl⟩
    have h6 : W.heap.size ≤ g6 := by rw [hg6e]; exact hb1.size
    obtain ⟨W1, hW1⟩ : ∃ W1, W1 = w1.alloc (.cells #[.bool bz, .slice B b d] 29) := ⟨_, rfl⟩
    have hk1 : Blk W1 g6 29 #[.bool bz, .slice B b d] := by rw [hW1, hg6e]; exact Blk.new _ _ _
    have hB1 : Below W.heap.size W W1 := by rw [hW1]; exact hb1.more _
    rw [← hW1, ← hg6e]
    obtain ⟨q0, q1, q2, q3⟩ := hk1.two
    clear q0 q1 q2 q3 hg6e hb1
    by_cases hlong : 700 < s.size
    · clear HN hW1 hbz hl0
      go_wp2_with fail
      refine (rof_one _).mono ?_
      rintro e w2 ⟨B, b, d, rfl, hN2, hb2⟩
      have hk2 := hk1.keep hb2
      obtain ⟨q0, q1, q2, q3⟩ := hk2.two
      go_upto_region 4 with fail
      obtain ⟨X, hX⟩ : ∃ X, X = (w2.setCell ⟨g6, 0, none⟩ (.bool false)).setCell ⟨g6, 1, none⟩ (.slice B b d) := ⟨_, rfl⟩
      have ho := ((Only.refl g6 w2).setCell 0 (.bool false)).setCell 1 (.slice B b d)
      have hk : Blk X g6 29 #[.bool false, .slice B b d] := by rw [hX]; exact Blk.set2 hk2 _ _
      obtain ⟨z, hz⟩ : ∃ z : Int, z = 1 := ⟨_, rfl⟩
      have hN : Nd X B b d z.natAbs := by rw [hX, hz]; exact hN2.only ho hk2 (zz_free _ _ _ _)
      have hl : limbs z.natAbs ≤ 701 := by rw [hz]; show limbs 1 ≤ 701; rw [show limbs 1 = 1 by kernel_rfl]; omega
      have hbz : decide (z < 0) = false := by rw [hz]; decide
      have hB : Below W.heap.size W X := by rw [hX]; exact (hB1.and hb2).trans (ho.below h6)
      rw [← hX]
      clear hX ho hk2 hN2 hz q0 q1 q2 q3 hk1 hb2 hB1
      have Hstr := Lib.hid (rstring_any z B b d X hN (by rw [← hN.len]; omega))
      have Hpi := Lib.hid (fun Y => parseInt_any z Y (by omega))
      have Hl := Lib.hid hl
      unfold zV at Hstr
      rw [hbz] at Hstr
      obtain ⟨c0, c1, -, -⟩ := hk.two
      clear hl
      go_wp2_with fail
      refine Hstr.out.mono ?_
      rintro e w5 ⟨rfl, hb5⟩
      go_wp2_with fail
      refine (Hpi.out _).mono ?_
      rintro e w6 ⟨A, n, rfl, hd6, hb6⟩
      unfold intV
      rw [hbz]
      go_upto_region 5 with fail
      obtain ⟨W6, hW6⟩ : ∃ W6, W6 = w6.alloc (.cells #[.bool false, .slice A n n] 25) := ⟨_, rfl⟩
      have hk8 : Blk W6 w6.heap.size 25 #[.bool false, .slice A n n] := by rw [hW6]; exact Blk.new _ _ _
      have hb6' : Below w6.heap.size w6 W6 := by rw [hW6]; exact below_new _ _
      rw [← hW6]
      have hX6 := (hb5.and hb6).and hb6'
      have hk6 := hk.keep hX6
      have hN6 := hN.below hX6
      have hD6 := hd6.below hb6'
      have hBW := hB.and hX6
      have u0 := Hr0.out.keep hBW
      have u1 := Hr1.out.keep hBW
      have hg6 : W.heap.size ≤ g6 := h6
      have hg8 : W.heap.size ≤ w6.heap.size := by have := (hB.and (hb5.and hb6)).size; exact this
      have hws := Hwsz.out
      obtain ⟨g8, hg8e⟩ : ∃ g8, g8 = w6.heap.size := ⟨_, rfl⟩
      rw [← hg8e] at hk8 hg8 ⊢
      clear c0 c1 hk hN hd6 hb5 hb6 hb6' hX6 hB hW6 hg8e
      have Hcell := Lib.hid (fun Y (hY : Below W6.heap.size W6 Y) => show Y.cell? ⟨g8, 0, none⟩ = some (.bool false) ∧ Y.cell? ⟨g8, 1, none⟩ = some (.slice A n n) ∧ Y.cell? ⟨g6, 0, none⟩ = some (.bool false) ∧ Y.cell? ⟨g6, 1, none⟩ = some (.slice B b d) from
        ⟨(hk8.keep hY).cell 0, (hk8.keep hY).cell 1, (hk6.keep hY).cell 0, (hk6.keep hY).cell 1⟩)
      have HstA := Lib.hid (fun Y Y1 Y2 (hY : Below W6.heap.size W6 Y) (h1 : Only w.heap.size Y Y1) (h2 : Only (w.heap.size + 1) Y1 Y2) => show Y2.cell? ⟨g8, 0, none⟩ = some (.bool false) ∧ Y2.cell? ⟨g8, 1, none⟩ = some (.slice A n n) ∧ Y2.cell? ⟨g6, 0, none⟩ = some (.bool false) ∧ Y2.cell? ⟨g6, 1, none⟩ = some (.slice B b d) from
        ⟨(h2.blk (by omega) (h1.blk (by omega) (hk8.keep hY))).cell 0, (h2.blk (by omega) (h1.blk (by omega) (hk8.keep hY))).cell 1, (h2.blk (by omega) (h1.blk (by omega) (hk6.keep hY))).cell 0, (h2.blk (by omega) (h1.blk (by omega) (hk6.keep hY))).cell 1⟩)
      have HstB := Lib.hid (fun Y Y1 Y2 (hY : Below W6.heap.size W6 Y) (h1 : Only (w.heap.size + 1) Y Y1) (h2 : Only w.heap.size Y1 Y2) => show Y2.cell? ⟨g8, 0, none⟩ = some (.bool false) ∧ Y2.cell? ⟨g8, 1, none⟩ = some (.slice A n n) ∧ Y2.cell? ⟨g6, 0, none⟩ = some (.bool false) ∧ Y2.cell? ⟨g6, 1, none⟩ = some (.slice B b d) from
        ⟨(h2.blk (by omega) (h1.blk (by omega) (hk8.keep hY))).cell 0, (h2.blk (by omega) (h1.blk (by omega) (hk8.keep hY))).cell 1, (h2.blk (by omega) (h1.blk (by omega) (hk6.keep hY))).cell 0, (h2.blk (by omega) (h1.blk (by omega) (hk6.keep hY))).cell 1⟩)
      have Hbz := Lib.hid hbz
      have Hfin := Lib.hid (fun Y (hY : Below W6.heap.size W6 Y) Y' hY' => one_cells (Y := Y) Hbz.out (u0.keep hY) (u1.keep hY) (by omega) (hD6.below hY) (hN6.below hY) Y' hY')
      have HbW := Lib.hid (Hbel.out.and hBW)
      have hY := Below.refl W6.heap.size W6
      have hYd := Below.drew hY
      obtain ⟨p0, p1, p2, p3⟩ := u0.two
      obtain ⟨v0, v1, v2, v3⟩ := u1.two
      obtain ⟨a0, a1, a2, a3⟩ := Hcell.out _ hY
      clear hk8 hk6 hbz hBW hD6 hN6
      go_region_held3 (fun w' => w'.cell? ⟨g8, 0, none⟩ = some (.bool false) ∧ w'.cell? ⟨g8, 1, none⟩ = some (.slice A n n) ∧ w'.cell? ⟨g6, 0, none⟩ = some (.bool false) ∧ w'.cell? ⟨g6, 1, none⟩ = some (.slice B b d))
        (first | exact Hcell.out _ hY | exact Hcell.out _ hYd | exact HstA.out _ _ _ hYd (Only.setCell (Only.setCell (Only.refl _ _) 0 _) 1 _) (Only.refl _ _) | exact HstA.out _ _ _ hYd (Only.setCell (Only.setCell (Only.refl _ _) 0 _) 1 _) (Only.setCell (Only.setCell (Only.refl _ _) 0 _) 1 _) | exact HstB.out _ _ _ hYd (Only.setCell (Only.setCell (Only.refl _ _) 0 _) 1 _) (Only.refl _ _) | exact HstB.out _ _ _ hYd (Only.setCell (Only.setCell (Only.refl _ _) 0 _) 1 _) (Only.setCell (Only.setCell (Only.refl _ _) 0 _) 1 _) | exact HstA.out _ _ _ hY (Only.setCell (Only.setCell (Only.refl _ _) 0 _) 1 _) (Only.refl _ _) | exact HstB.out _ _ _ hY (Only.setCell (Only.setCell (Only.refl _ _) 0 _) 1 _) (Only.refl _ _))
        (fail)
      all_goals
        go_wp2_with fail
        obtain ⟨Y', hY'⟩ : ∃ Y', Y' = (((W6.setCell ⟨w.heap.size, 0, none⟩ (.bool false)).setCell ⟨w.heap.size, 1, none⟩ (.slice A n n)).setCell ⟨w.heap.size + 1, 0, none⟩ (.bool false)).setCell ⟨w.heap.size + 1, 1, none⟩ (.slice B b d) := ⟨_, rfl⟩
        obtain ⟨k0, k1, k2, k3, k4⟩ := Hfin.out _ hY Y' (Or.inl hY')
        rw [← hY']
        have hdr := Below.drew (Below.refl Y'.heap.size Y')
        exact ret_one_stored rfl rfl rfl rfl (k0.keep hdr) (k1.keep hdr) ⟨z, A, n, B, b, d, rfl, k2.below hdr, k3.below hdr, Hl.out, Below.drew (HbW.out.trans (k4 _ (Nat.le_refl _) (by omega)))⟩
    · have hN : Nd W1 B b d z.natAbs := by rw [hW1]; exact HN.out
      have hl : limbs z.natAbs ≤ 701 := by omega
      obtain ⟨X, hX⟩ : ∃ X, X = W1 := ⟨_, rfl⟩
      rw [← hX] at hN hk1 hB1 ⊢
      have hk := hk1
      have hB := hB1
      clear HN hX hW1 hl0 hk1 hB1
      go_upto_region 4 with fail
      have Hstr := Lib.hid (rstring_any z B b d X hN (by rw [← hN.len]; omega))
      have Hpi := Lib.hid (fun Y => parseInt_any z Y (by omega))
      have Hl := Lib.hid hl
      unfold zV at Hstr
      rw [hbz] at Hstr
      obtain ⟨c0, c1, -, -⟩ := hk.two
      clear hl
      go_wp2_with fail
      refine Hstr.out.mono ?_
      rintro e w5 ⟨rfl, hb5⟩
      go_wp2_with fail
      refine (Hpi.out _).mono ?_
      rintro e w6 ⟨A, n, rfl, hd6, hb6⟩
      unfold intV
      rw [hbz]
      go_upto_region 5 with fail
      obtain ⟨W6, hW6⟩ : ∃ W6, W6 = w6.alloc (.cells #[.bool bz, .slice A n n] 25) := ⟨_, rfl⟩
      have hk8 : Blk W6 w6.heap.size 25 #[.bool bz, .slice A n n] := by rw [hW6]; exact Blk.new _ _ _
      have hb6' : Below w6.heap.size w6 W6 := by rw [hW6]; exact below_new _ _
      rw [← hW6]
      have hX6 := (hb5.and hb6).and hb6'
      have hk6 := hk.keep hX6
      have hN6 := hN.below hX6
      have hD6 := hd6.below hb6'
      have hBW := hB.and hX6
      have u0 := Hr0.out.keep hBW
      have u1 := Hr1.out.keep hBW
      have hg6 : W.heap.size ≤ g6 := h6
      have hg8 : W.heap.size ≤ w6.heap.size := by have := (hB.and (hb5.and hb6)).size; exact this
      have hws := Hwsz.out
      obtain ⟨g8, hg8e⟩ : ∃ g8, g8 = w6.heap.size := ⟨_, rfl⟩
      rw [← hg8e] at hk8 hg8 ⊢
      clear c0 c1 hk hN hd6 hb5 hb6 hb6' hX6 hB hW6 hg8e
      have Hcell := Lib.hid (fun Y (hY : Below W6.heap.size W6 Y) => show Y.cell? ⟨g8, 0, none⟩ = some (.bool bz) ∧ Y.cell? ⟨g8, 1, none⟩ = some (.slice A n n) ∧ Y.cell? ⟨g6, 0, none⟩ = some (.bool bz) ∧ Y.cell? ⟨g6, 1, none⟩ = some (.slice B b d) from
        ⟨(hk8.keep hY).cell 0, (hk8.keep hY).cell 1, (hk6.keep hY).cell 0, (hk6.keep hY).cell 1⟩)
      have HstA := Lib.hid (fun Y Y1 Y2 (hY : Below W6.heap.size W6 Y) (h1 : Only w.heap.size Y Y1) (h2 : Only (w.heap.size + 1) Y1 Y2) => show Y2.cell? ⟨g8, 0, none⟩ = some (.bool bz) ∧ Y2.cell? ⟨g8, 1, none⟩ = some (.slice A n n) ∧ Y2.cell? ⟨g6, 0, none⟩ = some (.bool bz) ∧ Y2.cell? ⟨g6, 1, none⟩ = some (.slice B b d) from
        ⟨(h2.blk (by omega) (h1.blk (by omega) (hk8.keep hY))).cell 0, (h2.blk (by omega) (h1.blk (by omega) (hk8.keep hY))).cell 1, (h2.blk (by omega) (h1.blk (by omega) (hk6.keep hY))).cell 0, (h2.blk (by omega) (h1.blk (by omega) (hk6.keep hY))).cell 1⟩)
      have HstB := Lib.hid (fun Y Y1 Y2 (hY : Below W6.heap.size W6 Y) (h1 : Only (w.heap.size + 1) Y Y1) (h2 : Only w.heap.size Y1 Y2) => show Y2.cell? ⟨g8, 0, none⟩ = some (.bool bz) ∧ Y2.cell? ⟨g8, 1, none⟩ = some (.slice A n n) ∧ Y2.cell? ⟨g6, 0, none⟩ = some (.bool bz) ∧ Y2.cell? ⟨g6, 1, none⟩ = some (.slice B b d) from
        ⟨(h2.blk (by omega) (h1.blk (by omega) (hk8.keep hY))).cell 0, (h2.blk (by omega) (h1.blk (by omega) (hk8.keep hY))).cell 1, (h2.blk (by omega) (h1.blk (by omega) (hk6.keep hY))).cell 0, (h2.blk (by omega) (h1.blk (by omega) (hk6.keep hY))).cell 1⟩)
      have Hbz := Lib.hid hbz
      have Hfin := Lib.hid (fun Y (hY : Below W6.heap.size W6 Y) Y' hY' => one_cells (Y := Y) Hbz.out (u0.keep hY) (u1.keep hY) (by omega) (hD6.below hY) (hN6.below hY) Y' hY')
      have HbW := Lib.hid (Hbel.out.and hBW)
      have hY := Below.refl W6.heap.size W6
      have hYd := Below.drew hY
      obtain ⟨p0, p1, p2, p3⟩ := u0.two
      obtain ⟨v0, v1, v2, v3⟩ := u1.two
      obtain ⟨a0, a1, a2, a3⟩ := Hcell.out _ hY
      clear hk8 hk6 hbz hBW hD6 hN6
      go_region_held3 (fun w' => w'.cell? ⟨g8, 0, none⟩ = some (.bool bz) ∧ w'.cell? ⟨g8, 1, none⟩ = some (.slice A n n) ∧ w'.cell? ⟨g6, 0, none⟩ = some (.bool bz) ∧ w'.cell? ⟨g6, 1, none⟩ = some (.slice B b d))
        (first | exact Hcell.out _ hY | exact Hcell.out _ hYd | exact HstA.out _ _ _ hYd (Only.setCell (Only.setCell (Only.refl _ _) 0 _) 1 _) (Only.refl _ _) | exact HstA.out _ _ _ hYd (Only.setCell (Only.setCell (Only.refl _ _) 0 _) 1 _) (Only.setCell (Only.setCell (Only.refl _ _) 0 _) 1 _) | exact HstB.out _ _ _ hYd (Only.setCell (Only.setCell (Only.refl _ _) 0 _) 1 _) (Only.refl _ _) | exact HstB.out _ _ _ hYd (Only.setCell (Only.setCell (Only.refl _ _) 0 _) 1 _) (Only.setCell (Only.setCell (Only.refl _ _) 0 _) 1 _) | exact HstA.out _ _ _ hY (Only.setCell (Only.setCell (Only.refl _ _) 0 _) 1 _) (Only.refl _ _) | exact HstB.out _ _ _ hY (Only.setCell (Only.setCell (Only.refl _ _) 0 _) 1 _) (Only.refl _ _))
        (fail)
      all_goals
        go_wp2_with fail
        obtain ⟨Y', hY'⟩ : ∃ Y', Y' = (((W6.setCell ⟨w.heap.size, 0, none⟩ (.bool bz)).setCell ⟨w.heap.size, 1, none⟩ (.slice A n n)).setCell ⟨w.heap.size + 1, 0, none⟩ (.bool bz)).setCell ⟨w.heap.size + 1, 1, none⟩ (.slice B b d) := ⟨_, rfl⟩
        obtain ⟨k0, k1, k2, k3, k4⟩ := Hfin.out _ hY Y' (Or.inl hY')
        rw [← hY']
        have hdr := Below.drew (Below.refl Y'.heap.size Y')
        exact ret_one_stored rfl rfl rfl rfl (k0.keep hdr) (k1.keep hdr) ⟨z, A, n, B, b, d, rfl, k2.below hdr, k3.below hdr, Hl.out, Below.drew (HbW.out.trans (k4 _ (Nat.le_refl _) (by omega)))⟩
end Go.Proofs.YtemcdnppgnobmaaGreatDoor

set_option linter.unusedVariables false
namespace Go.Proofs.YtemcdnppgnobmaaGreatDoor
open Go.RowKit

set_option maxRecDepth 100000 in
theorem lawWhole_any (z : Int) (A B : Option Addr) (n m d : Nat) (w : World) (h : Dg w A n z.natAbs) (k : Nd w B m d z.natAbs) (hn9 : n ≤ 100000) (hm9 : m ≤ 100000) :
    Calls Tryz.prog 8 #[intV z A n, zV z B m d] w (fun e w' => e = .returned (.bool true) ∧ Below w.heap.size w w') := by
  obtain ⟨W, hW, hb0, hb1, hbel⟩ := two_newZ w #[.bool (decide (z < 0)), .slice A n n] #[.bool (decide (z < 0)), .slice B m d] 25 29
  have hx := h.below hbel
  have hy := k.below hbel
  have Hs1 := Lib.hid (fun X (hX : Below W.heap.size W X) => intString_any z A n X (hx.below hX) (by omega))
  have Hs2 := Lib.hid (fun X (hX : Below W.heap.size W X) => rstring_any z B m d X (hy.below hX) hm9)
  have Hcell := Lib.hid (fun X (hX : Below W.heap.size W X) => show X.cell? ⟨w.heap.size, 0, none⟩ = some (.bool (decide (z < 0))) ∧ X.cell? ⟨w.heap.size, 1, none⟩ = some (.slice A n n) ∧ X.cell? ⟨w.heap.size + 1, 0, none⟩ = some (.bool (decide (z < 0))) ∧ X.cell? ⟨w.heap.size + 1, 1, none⟩ = some (.slice B m d) from
    ⟨(hb0.keep hX).cell 0, (hb0.keep hX).cell 1, (hb1.keep hX).cell 0, (hb1.keep hX).cell 1⟩)
  have HW := Lib.hid hW
  have Hbel := Lib.hid hbel
  have hB := Below.refl W.heap.size W
  obtain ⟨c0, c1, d0, d1⟩ := Hcell.out _ hB
  clear hW hbel h k hx hy hb0 hb1
  unfold intV zV at *
  generalize strL (decZ z) = s at *
  generalize decide (z < 0) = b at *
  go_enter Tryz.func8, Tryz.ntmps8
  go_upto_region 1 with fail
  rw [← HW.out]
  clear HW
  go_region_held3 (fun w' => w'.cell? ⟨w.heap.size, 0, none⟩ = some (.bool b) ∧ w'.cell? ⟨w.heap.size, 1, none⟩ = some (.slice A n n) ∧ w'.cell? ⟨w.heap.size + 1, 0, none⟩ = some (.bool b) ∧ w'.cell? ⟨w.heap.size + 1, 1, none⟩ = some (.slice B m d))
    (first | exact Hcell.out _ hB | exact Hcell.out _ (Below.drew hB))
    (first
    | (go_at_call 33; refine (Hs1.out _ ?_).mono ?_; (first | exact Below.drew hB | exact hB); rintro e w2 ⟨rfl, hb2'⟩; (first | (have hB := Below.and (Below.drew hB) hb2') | (have hB := Below.and hB hb2')))
    | (go_at_call 24; refine (Hs2.out _ hB).mono ?_; rintro e w3 ⟨rfl, hb3⟩; have hB := Below.and hB hb3))
  all_goals
    go_wp2_with fail
    go_ret
    exact ⟨by simp, Hbel.out.and hB⟩
end Go.Proofs.YtemcdnppgnobmaaGreatDoor

namespace Go.Proofs.YtemcdnppgnobmaaGreatDoor
open Go.RowKit

theorem cmp_any (A B : Option Addr) (n m : Nat) (y z : Int) (w : World) (h : Dg w A n y.natAbs) (k : Dg w B m z.natAbs) :
    Calls Tryz.prog 12 #[intV y A n, intV z B m] w (fun e w' => e = .returned (.int .i64 (y - z).sign) ∧ Below w.heap.size w w') := by
  have hb0 := Blk.new w 25 #[.bool (decide (y < 0)), .slice A n n]
  have hb1 := Blk.new (w.alloc (.cells #[.bool (decide (y < 0)), .slice A n n] 25)) 25 #[.bool (decide (z < 0)), .slice B m m]
  have hb0' := hb0.keep (below_new _ (.cells #[.bool (decide (z < 0)), .slice B m m] 25))
  rw [size_new] at hb1
  have hbel := (below_new w (.cells #[.bool (decide (y < 0)), .slice A n n] 25)).more (.cells #[.bool (decide (z < 0)), .slice B m m] 25)
  obtain ⟨c0, c1, f0, f1⟩ := hb0'.two
  obtain ⟨d0, d1, e0, e1⟩ := hb1.two
  have hc1 := compare_dg A B n m n m y.natAbs z.natAbs _ (h.below hbel) (k.below hbel)
  have hc2 := compare_dg B A m n m n z.natAbs y.natAbs _ (k.below hbel) (h.below hbel)
  have Hc1 := Lib.hid hc1
  have Hc2 := Lib.hid hc2
  have Hbel := Lib.hid hbel
  clear hc1 hc2 hbel hb0 hb0' hb1 h k
  unfold intV
  rcases Int.lt_or_le y 0 with hy | hy <;> rcases Int.lt_or_le z 0 with hz | hz
  · rw [decide_eq_true hy, decide_eq_true hz] at *
    have hres : cmpN z.natAbs y.natAbs = (y - z).sign := cmpN_sign (by omega)
    have Hres := Lib.hid hres
    clear hy hz hres
    go_enter Tryz.func12, Tryz.ntmps12
    go_wp2_with fail
    refine Hc2.out.mono ?_
    rintro e w1 ⟨rfl, q, rfl⟩
    go_wp2_with fail
    go_ret
    exact ⟨ret_int Hres.out, below_drewN Hbel.out q⟩
  · rw [decide_eq_true hy, decide_eq_false (show ¬ z < 0 by omega)] at *
    have hres : -1 = (y - z).sign := (Int.sign_eq_neg_one_of_neg (by omega)).symm
    have Hres := Lib.hid hres
    clear hy hz hres
    go_enter Tryz.func12, Tryz.ntmps12
    go_wp2_with fail
    go_ret
    exact ⟨ret_int Hres.out, Hbel.out⟩
  · rw [decide_eq_true hz, decide_eq_false (show ¬ y < 0 by omega)] at *
    have hres : 1 = (y - z).sign := (Int.sign_eq_one_of_pos (by omega)).symm
    have Hres := Lib.hid hres
    clear hy hz hres
    go_enter Tryz.func12, Tryz.ntmps12
    go_wp2_with fail
    go_ret
    exact ⟨ret_int Hres.out, Hbel.out⟩
  · rw [decide_eq_false (show ¬ y < 0 by omega), decide_eq_false (show ¬ z < 0 by omega)] at *
    have hres : cmpN y.natAbs z.natAbs = (y - z).sign := cmpN_sign (by omega)
    have Hres := Lib.hid hres
    clear hy hz hres
    go_enter Tryz.func12, Tryz.ntmps12
    go_wp2_with fail
    refine Hc1.out.mono ?_
    rintro e w1 ⟨rfl, q, rfl⟩
    go_wp2_with fail
    go_ret
    exact ⟨ret_int Hres.out, below_drewN Hbel.out q⟩

end Go.Proofs.YtemcdnppgnobmaaGreatDoor
