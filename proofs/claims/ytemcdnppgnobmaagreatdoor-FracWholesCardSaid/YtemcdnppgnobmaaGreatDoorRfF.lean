/-
  The walks of the reference's Add of integers of different signs, Sub, Cmp and Form.
-/
import Derived.Test.YtemcdnppgnobmaaGreatDoorRfS
import Derived.Test.YtemcdnppgnobmaaGreatDoorInt6
import Derived.Deep.DeepCutAuto
set_option linter.unusedVariables false
namespace Go.Proofs.YtemcdnppgnobmaaGreatDoor
open Go.RowKit

set_option maxRecDepth 100000 in
set_option maxHeartbeats 1600000 in
theorem radd_ge (y z : Int) (A B : Option Addr) (n m c d : Nat) (w : World) (h : Nd w A n c y.natAbs) (k : Nd w B m d z.natAbs) (hs : decide (y < 0) ≠ decide (z < 0)) (hle : z.natAbs ≤ y.natAbs) (hn9 : n ≤ 1000000000) (hm9 : m ≤ 1000000000) :
    Calls Tryz.prog 9 #[zV y A n c, zV z B m d] w (RetZ (y + z) w) := by
  obtain ⟨W, hW, hb0, hb1, hb2, hbel⟩ := three_new w 29 29 29 #[.bool (decide (y < 0)), .slice A n c] #[.bool (decide (z < 0)), .slice B m d] intZ
  have hx := h.below hbel
  have hy := k.below hbel
  have Hcm := Lib.hid (rcmp_any A B n m c d _ _ W hx hy)
  obtain ⟨cc, hcc⟩ : ∃ cc, cc = cmpN y.natAbs z.natAbs := ⟨_, rfl⟩
  have hc0 : 0 ≤ cc := by rw [hcc]; unfold cmpN; rw [if_neg (by omega)]; split <;> omega
  rw [← hcc] at Hcm
  have Hsb := Lib.hid (fun X (hX : Below W.heap.size W X) => rsubN_any A B n m c d _ _ X (hx.below hX) (hy.below hX) hle (by omega))
  have hsum := plus_diff hs hle
  have Hin := Lib.hid (fun X P p cp (hP : Nd X P p cp (y.natAbs - z.natAbs)) => rint_any (decide (y < 0)) P p cp _ (y + z) X hP hsum)
  have Hcells := Lib.hid (fun X (hX : Below W.heap.size W X) => show X.cell? ⟨w.heap.size, 0, none⟩ = some (.bool (decide (y < 0))) ∧ X.cell? ⟨w.heap.size, 1, none⟩ = some (.slice A n c) ∧ X.cell? ⟨w.heap.size + 1, 0, none⟩ = some (.bool (decide (z < 0))) ∧ X.cell? ⟨w.heap.size + 1, 1, none⟩ = some (.slice B m d) from ⟨(hb0.keep hX).cell 0, (hb0.keep hX).cell 1, (hb1.keep hX).cell 0, (hb1.keep hX).cell 1⟩)
  have Hst := Lib.hid (fun X Y (hX : Below W.heap.size W X) (hY : Only (w.heap.size + 1 + 1) X Y) => show Y.cell? ⟨w.heap.size, 0, none⟩ = some (.bool (decide (y < 0))) ∧ Y.cell? ⟨w.heap.size, 1, none⟩ = some (.slice A n c) ∧ Y.cell? ⟨w.heap.size + 1, 0, none⟩ = some (.bool (decide (z < 0))) ∧ Y.cell? ⟨w.heap.size + 1, 1, none⟩ = some (.slice B m d) from
    ⟨(hY.blk (by omega) (hb0.keep hX)).cell 0, (hY.blk (by omega) (hb0.keep hX)).cell 1, (hY.blk (by omega) (hb1.keep hX)).cell 0, (hY.blk (by omega) (hb1.keep hX)).cell 1⟩)
  have HW := Lib.hid hW
  have Hbel := Lib.hid hbel
  obtain ⟨c0, c1, d0, d1⟩ := Hcells.out _ (Below.refl _ _)
  have hne : (decide (y < 0) == decide (z < 0)) = false := by rw [beq_eq_false_iff_ne]; exact hs
  clear hsum hcc hW hbel h k hx hy hs hle hb0 hb1
  unfold intZ at HW
  unfold zV at *
  generalize y + z = s at *
  generalize decide (y < 0) = b at *
  generalize decide (z < 0) = b' at *
  go_enter Tryz.func9, Tryz.ntmps9
  go_upto_region 1 with fail
  rw [← HW.out]
  clear HW
  go_wp2_with fail
  refine Hcm.out.mono ?_
  rintro e w1 ⟨rfl, hdr⟩
  have hB := hdr.below (B := W.heap.size)
  clear c0 c1 d0 d1 Hcm
  obtain ⟨c0, c1, d0, d1⟩ := Hcells.out _ hB
  go_wp2_with fail
  go_region_held3 (fun w' => w'.cell? ⟨w.heap.size, 0, none⟩ = some (.bool b) ∧ w'.cell? ⟨w.heap.size, 1, none⟩ = some (.slice A n c) ∧ w'.cell? ⟨w.heap.size + 1, 0, none⟩ = some (.bool b') ∧ w'.cell? ⟨w.heap.size + 1, 1, none⟩ = some (.slice B m d))
    (first | exact Hcells.out _ hB | exact Hcells.out _ (Below.drew hB) | exact Hst.out _ _ hB (Only.setCell (Only.setCell (Only.refl _ _) 0 _) 1 _))
    (first
    | (go_at_call 37; refine (Hsb.out _ ?_).mono ?_; (first | exact Below.drew hB | exact hB); rintro e w2 ⟨P, p, cp, rfl, hP, hb2', -⟩; (first | (have hB := Below.and (Below.drew hB) hb2') | (have hB := Below.and hB hb2')))
    | (go_at_call 34; refine (Hin.out _ _ _ _ hP).mono ?_; rintro e w3 ⟨rfl, hd3, hb3⟩; have hB := Below.and hB hb3; have hr := Blk.keep hb2 hB; obtain ⟨z0, z1, y0, y1⟩ := hr.two))
  all_goals
    go_wp2_with fail
    exact ret_z_stored (z := s) rfl rfl rfl hr hd3 (Hbel.out.and hB) (by omega) rfl (fun w' h1 h2 => ⟨P, p, cp, rfl, h1, h2⟩)

set_option maxRecDepth 100000 in
set_option maxHeartbeats 1600000 in
theorem radd_lt (y z : Int) (A B : Option Addr) (n m c d : Nat) (w : World) (h : Nd w A n c y.natAbs) (k : Nd w B m d z.natAbs) (hs : decide (y < 0) ≠ decide (z < 0)) (hle : y.natAbs < z.natAbs) (hn9 : n ≤ 1000000000) (hm9 : m ≤ 1000000000) :
    Calls Tryz.prog 9 #[zV y A n c, zV z B m d] w (RetZ (y + z) w) := by
  obtain ⟨W, hW, hb0, hb1, hb2, hbel⟩ := three_new w 29 29 29 #[.bool (decide (y < 0)), .slice A n c] #[.bool (decide (z < 0)), .slice B m d] intZ
  have hx := h.below hbel
  have hy := k.below hbel
  have Hcm := Lib.hid (rcmp_any A B n m c d _ _ W hx hy)
  obtain ⟨cc, hcc⟩ : ∃ cc, cc = cmpN y.natAbs z.natAbs := ⟨_, rfl⟩
  have hc0 : cc < 0 := by rw [hcc]; unfold cmpN; rw [if_pos hle]; omega
  rw [← hcc] at Hcm
  have Hsb := Lib.hid (fun X (hX : Below W.heap.size W X) => rsubN_any B A m n d c _ _ X (hy.below hX) (hx.below hX) (Nat.le_of_lt hle) (by omega))
  have hsum := plus_diff (Ne.symm hs) (Nat.le_of_lt hle)
  rw [Int.add_comm] at hsum
  have Hin := Lib.hid (fun X P p cp (hP : Nd X P p cp (z.natAbs - y.natAbs)) => rint_any (decide (z < 0)) P p cp _ (y + z) X hP hsum)
  have Hcells := Lib.hid (fun X (hX : Below W.heap.size W X) => show X.cell? ⟨w.heap.size, 0, none⟩ = some (.bool (decide (y < 0))) ∧ X.cell? ⟨w.heap.size, 1, none⟩ = some (.slice A n c) ∧ X.cell? ⟨w.heap.size + 1, 0, none⟩ = some (.bool (decide (z < 0))) ∧ X.cell? ⟨w.heap.size + 1, 1, none⟩ = some (.slice B m d) from ⟨(hb0.keep hX).cell 0, (hb0.keep hX).cell 1, (hb1.keep hX).cell 0, (hb1.keep hX).cell 1⟩)
  have Hst := Lib.hid (fun X Y (hX : Below W.heap.size W X) (hY : Only (w.heap.size + 1 + 1) X Y) => show Y.cell? ⟨w.heap.size, 0, none⟩ = some (.bool (decide (y < 0))) ∧ Y.cell? ⟨w.heap.size, 1, none⟩ = some (.slice A n c) ∧ Y.cell? ⟨w.heap.size + 1, 0, none⟩ = some (.bool (decide (z < 0))) ∧ Y.cell? ⟨w.heap.size + 1, 1, none⟩ = some (.slice B m d) from
    ⟨(hY.blk (by omega) (hb0.keep hX)).cell 0, (hY.blk (by omega) (hb0.keep hX)).cell 1, (hY.blk (by omega) (hb1.keep hX)).cell 0, (hY.blk (by omega) (hb1.keep hX)).cell 1⟩)
  have HW := Lib.hid hW
  have Hbel := Lib.hid hbel
  obtain ⟨c0, c1, d0, d1⟩ := Hcells.out _ (Below.refl _ _)
  have hne : (decide (y < 0) == decide (z < 0)) = false := by rw [beq_eq_false_iff_ne]; exact hs
  clear hsum hcc hW hbel h k hx hy hs hle hb0 hb1
  unfold intZ at HW
  unfold zV at *
  generalize y + z = s at *
  generalize decide (y < 0) = b at *
  generalize decide (z < 0) = b' at *
  go_enter Tryz.func9, Tryz.ntmps9
  go_upto_region 1 with fail
  rw [← HW.out]
  clear HW
  go_wp2_with fail
  refine Hcm.out.mono ?_
  rintro e w1 ⟨rfl, hdr⟩
  have hB := hdr.below (B := W.heap.size)
  clear c0 c1 d0 d1 Hcm
  obtain ⟨c0, c1, d0, d1⟩ := Hcells.out _ hB
  go_wp2_with fail
  go_region_held3 (fun w' => w'.cell? ⟨w.heap.size, 0, none⟩ = some (.bool b) ∧ w'.cell? ⟨w.heap.size, 1, none⟩ = some (.slice A n c) ∧ w'.cell? ⟨w.heap.size + 1, 0, none⟩ = some (.bool b') ∧ w'.cell? ⟨w.heap.size + 1, 1, none⟩ = some (.slice B m d))
    (first | exact Hcells.out _ hB | exact Hcells.out _ (Below.drew hB) | exact Hst.out _ _ hB (Only.setCell (Only.setCell (Only.refl _ _) 0 _) 1 _))
    (first
    | (go_at_call 37; refine (Hsb.out _ ?_).mono ?_; (first | exact Below.drew hB | exact hB); rintro e w2 ⟨P, p, cp, rfl, hP, hb2', -⟩; (first | (have hB := Below.and (Below.drew hB) hb2') | (have hB := Below.and hB hb2')))
    | (go_at_call 34; refine (Hin.out _ _ _ _ hP).mono ?_; rintro e w3 ⟨rfl, hd3, hb3⟩; have hB := Below.and hB hb3; have hr := Blk.keep hb2 hB; obtain ⟨z0, z1, y0, y1⟩ := hr.two))
  all_goals
    go_wp2_with fail
    exact ret_z_stored (z := s) rfl rfl rfl hr hd3 (Hbel.out.and hB) (by omega) rfl (fun w' h1 h2 => ⟨P, p, cp, rfl, h1, h2⟩)

theorem radd_differ (y z : Int) (A B : Option Addr) (n m c d : Nat) (w : World) (h : Nd w A n c y.natAbs) (k : Nd w B m d z.natAbs) (hs : decide (y < 0) ≠ decide (z < 0)) (hn9 : n ≤ 1000000000) (hm9 : m ≤ 1000000000) :
    Calls Tryz.prog 9 #[zV y A n c, zV z B m d] w (RetZ (y + z) w) := by
  rcases Nat.lt_or_ge y.natAbs z.natAbs with e | e
  · exact radd_lt y z A B n m c d w h k hs e hn9 hm9
  · exact radd_ge y z A B n m c d w h k hs e hn9 hm9

set_option maxRecDepth 100000 in
set_option maxHeartbeats 1600000 in
theorem rsub_differ (y z : Int) (A B : Option Addr) (n m c d : Nat) (w : World) (h : Nd w A n c y.natAbs) (k : Nd w B m d z.natAbs) (hs : decide (y < 0) ≠ decide (-z < 0)) (hn9 : n ≤ 1000000000) (hm9 : m ≤ 1000000000) :
    Calls Tryz.prog 10 #[zV y A n c, zV z B m d] w (RetZ (y - z) w) := by
  obtain ⟨W, hW, hb0, hb1, hb2, hbel⟩ := three_new w 29 29 29 #[.bool (decide (y < 0)), .slice A n c] #[.bool (decide (z < 0)), .slice B m d] intZ
  have hx := h.below hbel
  have hy := k.below hbel
  have Hne := Lib.hid (fun X (hX : Below W.heap.size W X) => rneg_any z B m d X (hy.below hX))
  have Had := Lib.hid (fun X (hX : Below W.heap.size W X) (hN : Nd X B m d (-z).natAbs) => radd_differ y (-z) A B n m c d X (hx.below hX) hN hs hn9 hm9)
  have Hcells := Lib.hid (fun X (hX : Below W.heap.size W X) => show X.cell? ⟨w.heap.size, 0, none⟩ = some (.bool (decide (y < 0))) ∧ X.cell? ⟨w.heap.size, 1, none⟩ = some (.slice A n c) ∧ X.cell? ⟨w.heap.size + 1, 0, none⟩ = some (.bool (decide (z < 0))) ∧ X.cell? ⟨w.heap.size + 1, 1, none⟩ = some (.slice B m d) from ⟨(hb0.keep hX).cell 0, (hb0.keep hX).cell 1, (hb1.keep hX).cell 0, (hb1.keep hX).cell 1⟩)
  have Hst := Lib.hid (fun X Y (hX : Below W.heap.size W X) (hY : Only (w.heap.size + 1 + 1) X Y) => show Y.cell? ⟨w.heap.size, 0, none⟩ = some (.bool (decide (y < 0))) ∧ Y.cell? ⟨w.heap.size, 1, none⟩ = some (.slice A n c) ∧ Y.cell? ⟨w.heap.size + 1, 0, none⟩ = some (.bool (decide (z < 0))) ∧ Y.cell? ⟨w.heap.size + 1, 1, none⟩ = some (.slice B m d) from
    ⟨(hY.blk (by omega) (hb0.keep hX)).cell 0, (hY.blk (by omega) (hb0.keep hX)).cell 1, (hY.blk (by omega) (hb1.keep hX)).cell 0, (hY.blk (by omega) (hb1.keep hX)).cell 1⟩)
  have HW := Lib.hid hW
  have Hbel := Lib.hid hbel
  obtain ⟨c0, c1, d0, d1⟩ := Hcells.out _ (Below.refl _ _)
  have hB := Below.refl W.heap.size W
  clear hW hbel h k hx hy hs hb0 hb1
  unfold intZ at HW
  unfold zV at *
  rw [Int.sub_eq_add_neg]
  generalize y + -z = s at *
  generalize decide (y < 0) = b at *
  generalize decide (z < 0) = b' at *
  obtain ⟨bn, hbn⟩ : ∃ bn, decide (-z < 0) = bn := ⟨_, rfl⟩
  rw [hbn] at Hne Had
  clear hbn
  go_enter Tryz.func10, Tryz.ntmps10
  go_upto_region 1 with fail
  rw [← HW.out]
  clear HW
  go_region_held3 (fun w' => w'.cell? ⟨w.heap.size, 0, none⟩ = some (.bool b) ∧ w'.cell? ⟨w.heap.size, 1, none⟩ = some (.slice A n c) ∧ w'.cell? ⟨w.heap.size + 1, 0, none⟩ = some (.bool b') ∧ w'.cell? ⟨w.heap.size + 1, 1, none⟩ = some (.slice B m d))
    (first | exact Hcells.out _ hB | exact Hcells.out _ (Below.drew hB) | exact Hst.out _ _ hB (Only.setCell (Only.setCell (Only.refl _ _) 0 _) 1 _))
    (first
    | (go_at_call 38; refine (Hne.out _ ?_).mono ?_; (first | exact Below.drew hB | exact hB); rintro e w2 ⟨rfl, hN, hb2'⟩; (first | (have hB := Below.and (Below.drew hB) hb2') | (have hB := Below.and hB hb2')))
    | (go_at_call 9; refine (Had.out _ hB hN).mono ?_; rintro e w3 ⟨P, p, cp, rfl, hd3, hb3⟩; unfold zV; have hB := Below.and hB hb3; have hr := Blk.keep hb2 hB; obtain ⟨z0, z1, y0, y1⟩ := hr.two))
  all_goals
    go_wp2_with fail
    exact ret_z_stored (z := s) rfl rfl rfl hr hd3 (Hbel.out.and hB) (by omega) rfl (fun w' h1 h2 => ⟨P, p, cp, rfl, h1, h2⟩)

set_option maxRecDepth 100000 in
theorem rcmpZ_differ (y z : Int) (A B : Option Addr) (n m c d : Nat) (w : World) (h : Nd w A n c y.natAbs) (k : Nd w B m d z.natAbs) (hs : decide (y < 0) ≠ decide (-z < 0)) (hn9 : n ≤ 1000000000) (hm9 : m ≤ 1000000000) :
    Calls Tryz.prog 13 #[zV y A n c, zV z B m d] w (fun e w' => e = .returned (.int .i64 (y - z).sign) ∧ Below w.heap.size w w') := by
  obtain ⟨W, hW, hb0, hb1, hbel⟩ := two_newZ w #[.bool (decide (y < 0)), .slice A n c] #[.bool (decide (z < 0)), .slice B m d] 29 29
  have Hsu := Lib.hid (rsub_differ y z A B n m c d W (h.below hbel) (k.below hbel) hs hn9 hm9)
  have Hsi := Lib.hid (fun X P p cp hP => rsign_any (y - z) P p cp X hP)
  obtain ⟨c0, c1, f0, f1⟩ := hb0.zz
  obtain ⟨d0, d1, e0, e1⟩ := hb1.zz
  have HW := Lib.hid hW
  have Hbel := Lib.hid hbel
  clear hW hbel h k hs
  unfold zV at *
  generalize (y - z).sign = sg at *
  go_enter Tryz.func13, Tryz.ntmps13
  go_upto_region 1 with fail
  rw [← HW.out]
  clear HW
  go_wp2_with fail
  refine Hsu.out.mono ?_
  rintro e w1 ⟨P, p, cp, rfl, hP, hb⟩
  have Hsi1 := Lib.hid (Hsi.out _ _ _ _ hP)
  clear Hsi
  unfold zV
  go_wp2_with fail
  refine Hsi1.out.mono ?_
  rintro e w2 ⟨rfl, hb2⟩
  go_wp2_with fail
  go_ret
  exact ⟨rfl, Hbel.out.and (hb.and hb2)⟩
end Go.Proofs.YtemcdnppgnobmaaGreatDoor
