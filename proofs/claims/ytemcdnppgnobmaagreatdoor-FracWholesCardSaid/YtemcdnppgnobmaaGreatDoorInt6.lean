/-
  The walk of frac's plus of integers.
-/
import Derived.Test.YtemcdnppgnobmaaGreatDoorRat4
import Derived.Test.YtemcdnppgnobmaaGreatDoorRat3
import Derived.Deep.DeepCutAuto
set_option linter.unusedVariables false
namespace Go.Proofs.YtemcdnppgnobmaaGreatDoor
open Go.RowKit

/-- The world in a function of two integers: both in their blocks, the result's block, the digits. -/
structure I2 (w : World) (y z : Int) (A B : Option Addr) (n m : Nat) (X : World) : Prop where
  b0 : Blk X w.heap.size 25 #[.bool (decide (y < 0)), .slice A n n]
  b1 : Blk X (w.heap.size + 1) 25 #[.bool (decide (z < 0)), .slice B m m]
  b2 : Blk X (w.heap.size + 1 + 1) 25 intZ
  r0 : Dg X A n y.natAbs
  r1 : Dg X B m z.natAbs
  bel : Below w.heap.size w X

theorem I2.keep {w X Y : World} {y z : Int} {A B : Option Addr} {n m : Nat} (h : I2 w y z A B n m X) (hb : Below X.heap.size X Y) : I2 w y z A B n m Y :=
  ⟨h.b0.keep hb, h.b1.keep hb, h.b2.keep hb, h.r0.below hb, h.r1.below hb, h.bel.and hb⟩
theorem I2.drew {w X : World} {y z : Int} {A B : Option Addr} {n m : Nat} (h : I2 w y z A B n m X) : I2 w y z A B n m X.drew := h.keep (Below.refl _ _).drew
theorem I2.cells {w X : World} {y z : Int} {A B : Option Addr} {n m : Nat} (h : I2 w y z A B n m X) :
    X.cell? ⟨w.heap.size, 0, none⟩ = some (.bool (decide (y < 0))) ∧ X.cell? ⟨w.heap.size, 1, none⟩ = some (.slice A n n) ∧
    X.cell? ⟨w.heap.size + 1, 0, none⟩ = some (.bool (decide (z < 0))) ∧ X.cell? ⟨w.heap.size + 1, 1, none⟩ = some (.slice B m m) :=
  ⟨h.b0.cell 0, h.b0.cell 1, h.b1.cell 0, h.b1.cell 1⟩
theorem I2.cellsOnly {w X Y : World} {y z : Int} {A B : Option Addr} {n m : Nat} (h : I2 w y z A B n m X) (ho : Only (w.heap.size + 1 + 1) X Y) :
    Y.cell? ⟨w.heap.size, 0, none⟩ = some (.bool (decide (y < 0))) ∧ Y.cell? ⟨w.heap.size, 1, none⟩ = some (.slice A n n) ∧
    Y.cell? ⟨w.heap.size + 1, 0, none⟩ = some (.bool (decide (z < 0))) ∧ Y.cell? ⟨w.heap.size + 1, 1, none⟩ = some (.slice B m m) := by
  obtain ⟨c0, c1, d0, d1⟩ := h.cells
  exact ⟨(ho.cell (p := ⟨w.heap.size, 0, none⟩) (by show w.heap.size ≠ _; omega)).trans c0, (ho.cell (p := ⟨w.heap.size, 1, none⟩) (by show w.heap.size ≠ _; omega)).trans c1, (ho.cell (p := ⟨w.heap.size + 1, 0, none⟩) (by show w.heap.size + 1 ≠ _; omega)).trans d0, (ho.cell (p := ⟨w.heap.size + 1, 1, none⟩) (by show w.heap.size + 1 ≠ _; omega)).trans d1⟩

theorem plus_sign {y z : Int} (h : decide (y < 0) = decide (z < 0)) : y + z = if decide (y < 0) then -((y.natAbs + z.natAbs : Nat) : Int) else ((y.natAbs + z.natAbs : Nat) : Int) := by
  rw [decide_eq_decide] at h
  by_cases hy : y < 0
  · rw [decide_eq_true hy, if_pos rfl]; have := h.1 hy; omega
  · rw [decide_eq_false hy, if_neg (by decide)]; have : ¬ z < 0 := fun e => hy (h.2 e); omega
theorem plus_diff {y z : Int} (h : decide (y < 0) ≠ decide (z < 0)) (hle : z.natAbs ≤ y.natAbs) : y + z = if decide (y < 0) then -((y.natAbs - z.natAbs : Nat) : Int) else ((y.natAbs - z.natAbs : Nat) : Int) := by
  rw [ne_eq, decide_eq_decide] at h
  by_cases hy : y < 0
  · rw [decide_eq_true hy, if_pos rfl]
    have : ¬ z < 0 := fun e => h ⟨fun _ => e, fun _ => hy⟩
    omega
  · rw [decide_eq_false hy, if_neg (by decide)]
    have : z < 0 := by
      rcases Int.lt_or_le z 0 with e | e
      · exact e
      · exact absurd ⟨fun h1 => absurd h1 hy, fun h1 => by omega⟩ h
    omega

set_option maxRecDepth 100000 in
set_option maxHeartbeats 800000 in
theorem plus_same (A B : Option Addr) (n m : Nat) (y z : Int) (w : World) (h : Dg w A n y.natAbs) (k : Dg w B m z.natAbs) (hn9 : n ≤ 100000000000) (hm9 : m ≤ 100000000000)
    (hs : decide (y < 0) = decide (z < 0)) :
    Calls Tryz.prog 27 #[intV y A n, intV z B m] w (RetInt (y + z) w) := by
  obtain ⟨W, hW, hb0, hb1, hres, hbel⟩ := three_new w 25 25 25 #[.bool (decide (y < 0)), .slice A n n] #[.bool (decide (z < 0)), .slice B m m] #[.bool false, .slice none 0 0]
  have hT : I2 w y z A B n m W := ⟨hb0, hb1, hres, h.below hbel, k.below hbel, hbel⟩
  have hps := plus_sign hs
  have hm := fun X (hX : I2 w y z A B n m X) => add_any A B n m n m y.natAbs z.natAbs X hX.r0 hX.r1 hn9 hm9
  have hsi := fun (C : Option Addr) (c : Nat) X (hc : Dg X C c (y.natAbs + z.natAbs)) => signed_any (decide (y < 0)) C c (y.natAbs + z.natAbs) (y + z) X hc hps
  have hcs := hT.cells
  have HT := Lib.hid hT
  have Hm := Lib.hid hm
  have Hs := Lib.hid hsi
  have HW := Lib.hid hW
  clear hm hsi hbel h k hps hW hb0 hb1 hres hcs
  unfold intV
  unfold intV at Hs
  obtain ⟨c0, c1, d0, d1⟩ := hT.cells
  have hT' := hT
  clear hT
  have hbb : (decide (y < 0) == decide (z < 0)) = true := by rw [hs]; simp
  clear hs
  go_enter Tryz.func27, Tryz.ntmps27
  go_upto_region 1 with fail
  rw [← HW.out]
  clear HW
  go_upto_region 2 with fail
  go_region_held3 (fun w' => w'.cell? ⟨w.heap.size, 0, none⟩ = some (.bool (decide (y < 0))) ∧ w'.cell? ⟨w.heap.size, 1, none⟩ = some (.slice A n n) ∧ w'.cell? ⟨w.heap.size + 1, 0, none⟩ = some (.bool (decide (z < 0))) ∧ w'.cell? ⟨w.heap.size + 1, 1, none⟩ = some (.slice B m m))
    (first | exact I2.cells hT' | exact I2.cells (I2.drew hT') | exact I2.cells hT2 | exact I2.cells hT3 | exact I2.cellsOnly hT3 (((Only.refl _ w3).setCell 0 _).setCell 1 _))
    (first
    | (go_at_call 46; refine (Hm.out _ ?_).mono ?_; exact I2.drew hT'; rintro e w2 ⟨C, c, rfl, hd2, hb2, ho2⟩; have hT2 := I2.keep (I2.drew hT') hb2)
    | (go_at_call 41; refine (Hs.out C c _ hd2).mono ?_; rintro e w3 ⟨rfl, hd3, hb3⟩; have hT3 := I2.keep hT2 hb3; obtain ⟨r0, r1, s0, s1⟩ := hT3.b2.two))
  go_wp2_with fail
  exact ret_int_stored rfl rfl rfl hT3.b2 hd3 hT3.bel (by omega) rfl (fun w' h1 h2 => ⟨C, c, rfl, h1, h2⟩)

/-- Two integers change their blocks. -/
theorem I2.swap {w X : World} {y z : Int} {A B : Option Addr} {n m : Nat} (h : I2 w y z A B n m X) :
    I2 w z y B A m n ((((X.setCell ⟨w.heap.size, 0, none⟩ (.bool (decide (z < 0)))).setCell ⟨w.heap.size, 1, none⟩ (.slice B m m)).setCell ⟨w.heap.size + 1, 0, none⟩ (.bool (decide (y < 0)))).setCell ⟨w.heap.size + 1, 1, none⟩ (.slice A n n)) := by
  have ho := ((Only.refl w.heap.size X).setCell 0 (.bool (decide (z < 0)))).setCell 1 (.slice B m m)
  have b0 := Blk.set2 h.b0 (.bool (decide (z < 0))) (.slice B m m)
  have b1 := ho.blk (k := w.heap.size + 1) (by omega) h.b1
  have b2 := ho.blk (k := w.heap.size + 1 + 1) (by omega) h.b2
  have r0 := h.r0.only ho h.b0 (int_free _ _ _ _)
  have r1 := h.r1.only ho h.b0 (int_free _ _ _ _)
  have be := h.bel.trans (ho.below (Nat.le_refl _))
  generalize (X.setCell ⟨w.heap.size, 0, none⟩ (.bool (decide (z < 0)))).setCell ⟨w.heap.size, 1, none⟩ (.slice B m m) = Y at *
  have ho2 := ((Only.refl (w.heap.size + 1) Y).setCell 0 (.bool (decide (y < 0)))).setCell 1 (.slice A n n)
  exact ⟨ho2.blk (by omega) b0, Blk.set2 b1 _ _, ho2.blk (by omega) b2, r1.only ho2 b1 (int_free _ _ _ _), r0.only ho2 b1 (int_free _ _ _ _), be.trans (ho2.below (by omega))⟩

set_option maxRecDepth 100000 in
set_option maxHeartbeats 1600000 in
theorem plus_differ (A B : Option Addr) (n m : Nat) (y z : Int) (w : World) (h : Dg w A n y.natAbs) (k : Dg w B m z.natAbs) (hn9 : n ≤ 100000000000) (hm9 : m ≤ 100000000000)
    (hs : decide (y < 0) ≠ decide (z < 0)) :
    Calls Tryz.prog 27 #[intV y A n, intV z B m] w (RetInt (y + z) w) := by
  obtain ⟨W, hW, hb0, hb1, hres, hbel⟩ := three_new w 25 25 25 #[.bool (decide (y < 0)), .slice A n n] #[.bool (decide (z < 0)), .slice B m m] #[.bool false, .slice none 0 0]
  have hT : I2 w y z A B n m W := ⟨hb0, hb1, hres, h.below hbel, k.below hbel, hbel⟩
  have hc := fun X (hX : I2 w y z A B n m X) => compare_dg A B n m n m y.natAbs z.natAbs X hX.r0 hX.r1
  have Hc := Lib.hid hc
  have HW := Lib.hid hW
  have hbb : (decide (y < 0) == decide (z < 0)) = false := by rw [beq_eq_false_iff_ne]; exact hs
  clear hc hbel h k hW hb0 hb1 hres
  unfold intV
  obtain ⟨c0, c1, d0, d1⟩ := hT.cells
  by_cases hle : z.natAbs ≤ y.natAbs
  · have hps := plus_diff hs hle
    have hcv : 0 ≤ cmpN y.natAbs z.natAbs := by unfold cmpN; rw [if_neg (by omega)]; split <;> omega
    have hm := fun X (hX : I2 w y z A B n m X) => subtract_any A B n m n m y.natAbs z.natAbs X hX.r0 hX.r1 hle hn9
    have hsi := fun (C : Option Addr) (c : Nat) X (hc : Dg X C c (y.natAbs - z.natAbs)) => signed_any (decide (y < 0)) C c (y.natAbs - z.natAbs) (y + z) X hc hps
    have Hm := Lib.hid hm
    have Hs := Lib.hid hsi
    clear hm hsi hps hs hle
    unfold intV at Hs
    generalize cmpN y.natAbs z.natAbs = cv at *
    go_enter Tryz.func27, Tryz.ntmps27
    go_upto_region 1 with fail
    rw [← HW.out]
    clear HW
    go_upto_region 3 with fail
    go_wp2_with fail
    refine (Hc.out _ hT).mono ?_
    rintro e w1 ⟨rfl, q, hq⟩
    have hT1 : I2 w y z A B n m w1 := by rw [hq]; exact hT.keep (below_drewN (Below.refl _ _) q)
    clear hq c0 c1 d0 d1
    obtain ⟨c0, c1, d0, d1⟩ := hT1.cells
    go_upto_region 5 with fail
    go_region_held3 (fun w' => w'.cell? ⟨w.heap.size, 0, none⟩ = some (.bool (decide (y < 0))) ∧ w'.cell? ⟨w.heap.size, 1, none⟩ = some (.slice A n n) ∧ w'.cell? ⟨w.heap.size + 1, 0, none⟩ = some (.bool (decide (z < 0))) ∧ w'.cell? ⟨w.heap.size + 1, 1, none⟩ = some (.slice B m m))
      (first | exact I2.cells hT1 | exact I2.cells (I2.drew hT1) | exact I2.cells hT2 | exact I2.cells hT3 | exact I2.cellsOnly hT3 (((Only.refl _ w3).setCell 0 _).setCell 1 _))
      (first
      | (go_at_call 47; refine (Hm.out _ ?_).mono ?_; exact I2.drew hT1; rintro e w2 ⟨C, c, rfl, hd2, hb2, ho2⟩; have hT2 := I2.keep (I2.drew hT1) hb2)
      | (go_at_call 41; refine (Hs.out C c _ hd2).mono ?_; rintro e w3 ⟨rfl, hd3, hb3⟩; have hT3 := I2.keep hT2 hb3; obtain ⟨r0, r1, s0, s1⟩ := hT3.b2.two))
    go_wp2_with fail
    exact ret_int_stored rfl rfl rfl hT3.b2 hd3 hT3.bel (by omega) rfl (fun w' h1 h2 => ⟨C, c, rfl, h1, h2⟩)
  · have hps := plus_diff (y := z) (z := y) (Ne.symm hs) (by omega)
    rw [Int.add_comm] at hps
    have hcv : cmpN y.natAbs z.natAbs = -1 := if_pos (by omega)
    have hm := fun X (hX : I2 w z y B A m n X) => subtract_any B A m n m n z.natAbs y.natAbs X hX.r0 hX.r1 (by omega) hm9
    have hsi := fun (C : Option Addr) (c : Nat) X (hc : Dg X C c (z.natAbs - y.natAbs)) => signed_any (decide (z < 0)) C c (z.natAbs - y.natAbs) (y + z) X hc hps
    have Hm := Lib.hid hm
    have Hs := Lib.hid hsi
    rw [hcv] at Hc
    clear hm hsi hps hs hle hcv
    unfold intV at Hs
    go_enter Tryz.func27, Tryz.ntmps27
    go_upto_region 1 with fail
    rw [← HW.out]
    clear HW
    go_upto_region 3 with fail
    go_wp2_with fail
    refine (Hc.out _ hT).mono ?_
    rintro e w1 ⟨rfl, q, hq⟩
    have hT0 : I2 w y z A B n m w1 := by rw [hq]; exact hT.keep (below_drewN (Below.refl _ _) q)
    clear hq c0 c1 d0 d1
    obtain ⟨c0, c1, f0, f1⟩ := hT0.b0.two
    obtain ⟨d0, d1, g0, g1⟩ := hT0.b1.two
    have hne1 : w.heap.size ≠ w.heap.size + 1 := by omega
    have hne2 : w.heap.size + 1 ≠ w.heap.size := by omega
    have hT1' := hT0.swap
    go_upto_region 5 with fail
    generalize hw9 : (((w1.setCell ⟨w.heap.size, 0, none⟩ (.bool (decide (z < 0)))).setCell ⟨w.heap.size, 1, none⟩ (.slice B m m)).setCell ⟨w.heap.size + 1, 0, none⟩ (.bool (decide (y < 0)))).setCell ⟨w.heap.size + 1, 1, none⟩ (.slice A n n) = w9 at *
    clear hw9 c0 c1 d0 d1 f0 f1 g0 g1
    have hT1 := hT1'
    obtain ⟨c0, c1, d0, d1⟩ := hT1.cells
    go_region_held3 (fun w' => w'.cell? ⟨w.heap.size, 0, none⟩ = some (.bool (decide (z < 0))) ∧ w'.cell? ⟨w.heap.size, 1, none⟩ = some (.slice B m m) ∧ w'.cell? ⟨w.heap.size + 1, 0, none⟩ = some (.bool (decide (y < 0))) ∧ w'.cell? ⟨w.heap.size + 1, 1, none⟩ = some (.slice A n n))
      (first | exact I2.cells hT1 | exact I2.cells (I2.drew hT1) | exact I2.cells hT2 | exact I2.cells hT3 | exact I2.cellsOnly hT3 (((Only.refl _ w3).setCell 0 _).setCell 1 _))
      (first
      | (go_at_call 47; refine (Hm.out _ ?_).mono ?_; exact I2.drew hT1; rintro e w2 ⟨C, c, rfl, hd2, hb2, ho2⟩; have hT2 := I2.keep (I2.drew hT1) hb2)
      | (go_at_call 41; refine (Hs.out C c _ hd2).mono ?_; rintro e w3 ⟨rfl, hd3, hb3⟩; have hT3 := I2.keep hT2 hb3; obtain ⟨r0, r1, s0, s1⟩ := hT3.b2.two))
    go_wp2_with fail
    exact ret_int_stored rfl rfl rfl hT3.b2 hd3 hT3.bel (by omega) rfl (fun w' h1 h2 => ⟨C, c, rfl, h1, h2⟩)

theorem plus_any (A B : Option Addr) (n m : Nat) (y z : Int) (w : World) (h : Dg w A n y.natAbs) (k : Dg w B m z.natAbs) (hn9 : n ≤ 100000000000) (hm9 : m ≤ 100000000000) :
    Calls Tryz.prog 27 #[intV y A n, intV z B m] w (RetInt (y + z) w) := by
  by_cases hs : decide (y < 0) = decide (z < 0)
  · exact plus_same A B n m y z w h k hn9 hm9 hs
  · exact plus_differ A B n m y z w h k hn9 hm9 hs
end Go.Proofs.YtemcdnppgnobmaaGreatDoor
