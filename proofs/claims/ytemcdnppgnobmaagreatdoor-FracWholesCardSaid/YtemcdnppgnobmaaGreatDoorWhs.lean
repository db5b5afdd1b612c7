/-
  FracWholes: the walk of the statement's function.
-/
import Derived.Test.YtemcdnppgnobmaaGreatDoorOne
import Derived.Test.YtemcdnppgnobmaaGreatDoorAwk
set_option linter.unusedVariables false
namespace Go.Proofs.YtemcdnppgnobmaaGreatDoor
open Go.RowKit

theorem limbs_sum (y z : Int) (hy : limbs y.natAbs ≤ 701) (hz : limbs z.natAbs ≤ 701) : limbs (y + z).natAbs ≤ 702 ∧ limbs (y - z).natAbs ≤ 702 ∧ limbs (y * z).natAbs ≤ 1402 := by
  have h := limbs_add_le y.natAbs z.natAbs
  have h1 := limbs_mono (Int.natAbs_add_le y z)
  have h2 := limbs_mono (show (y - z).natAbs ≤ y.natAbs + z.natAbs by omega)
  have h3 := limbs_mul_le y.natAbs z.natAbs
  rw [Int.natAbs_mul]
  omega

theorem limbs_div (y z : Int) : limbs (y / z).natAbs ≤ limbs y.natAbs := limbs_mono (Int.natAbs_ediv_le_natAbs y z)
theorem limbs_mod (y z : Int) (hz : z ≠ 0) : limbs (y % z).natAbs ≤ limbs z.natAbs := limbs_mono (by
  have h1 := Int.emod_nonneg y hz
  have h2 := Int.emod_lt y hz
  omega)
theorem gcd_le_sum (a b : Nat) : Nat.gcd a b ≤ a + b := by
  rcases Nat.eq_zero_or_pos a with h | h
  · subst h; rw [Nat.gcd_zero_left]; omega
  · have := Nat.gcd_le_left b h; omega

set_option maxRecDepth 100000 in
set_option maxHeartbeats 6400000 in
theorem fracWholes_walk (s t : ByteArray) (tt : TypeId) (fr : Nat × Nat) (w : World) (hg : w.heap[1]? = some (.cells gapC tt fr)) (hs : s.size ≤ 140737488351232) (ht : t.size ≤ 140737488351232) :
    Calls Tryz.prog 3 #[.string s, .string t] w (fun e w' => e = .returned (.bool true) ∧ Below w.heap.size w w') := by
  have l1 : 1 < w.heap.size := (Array.getElem?_eq_some_iff.1 hg).1
  have Haw := Lib.hid (fun X (hX : Below w.heap.size w X) => awake_any tt fr X ((hX.block 1 l1).trans hg))
  have Ho1 := Lib.hid (fun X => one_any s X hs)
  have Ho2 := Lib.hid (fun X => one_any t X ht)
  clear hg hs ht l1
  go_enter Tryz.func3, Tryz.ntmps3
  go_wp2_with fail
  refine (Ho1.out _).mono ?_
  rintro e w1 ⟨y, A, n, P, p, cp, rfl, hdy, hny, hly, hb1⟩
  unfold intV zV
  go_upto_region 2 with fail
  obtain ⟨by_, hby⟩ : ∃ b, decide (y < 0) = b := ⟨_, rfl⟩
  rw [hby]
  obtain ⟨W1, hW1, hk5, hk6, hbW1⟩ := two_newZ w1 #[.bool by_, .slice A n n] #[.bool by_, .slice P p cp] 25 29
  rw [← hW1]
  have hdy1 := hdy.below hbW1
  have hny1 := hny.below hbW1
  have hB1 := hb1.and hbW1
  obtain ⟨g5, hg5⟩ : ∃ g, w1.heap.size = g := ⟨_, rfl⟩
  rw [hg5] at hk5 hk6 ⊢
  clear hW1 hbW1 hdy hny hb1 hg5 Ho1
  go_wp2_with fail
  refine (Ho2.out _).mono ?_
  rintro e w2 ⟨z, B, m, Q, q, cq, rfl, hdz, hnz, hlz, hb2⟩
  unfold intV zV
  go_upto_region 3 with fail
  obtain ⟨bz_, hbz⟩ : ∃ b, decide (z < 0) = b := ⟨_, rfl⟩
  rw [hbz]
  obtain ⟨W2, hW2, hk7, hk8, hbW2⟩ := two_newZ w2 #[.bool bz_, .slice B m m] #[.bool bz_, .slice Q q cq] 25 29
  rw [← hW2]
  have hdz2 := hdz.below hbW2
  have hnz2 := hnz.below hbW2
  have hb12 := hb2.and hbW2
  have hdy2 := hdy1.below hb12
  have hny2 := hny1.below hb12
  have hk5 := hk5.keep hb12
  have hk6 := hk6.keep hb12
  have hB2 := hB1.and hb12
  obtain ⟨g7, hg7⟩ : ∃ g, w2.heap.size = g := ⟨_, rfl⟩
  rw [hg7] at hk7 hk8 ⊢
  clear hW2 hbW2 hdz hnz hb2 hg7 Ho2 hb12 hdy1 hny1 hB1
  obtain ⟨l1, l2, l3⟩ := limbs_sum y z hly hlz
  have hn := hdy2.len
  have hm := hdz2.len
  have hp := hny2.len
  have hq := hnz2.len
  have hn9 : n ≤ 701 := by omega
  have hm9 : m ≤ 701 := by omega
  have hp9 : p ≤ 701 := by omega
  have hq9 : q ≤ 701 := by omega
  have Hly := Lib.hid hly
  have Hlz := Lib.hid hlz
  clear hn hm hp hq hly hlz
  have Had := Lib.hid (fun X (hX : Below W2.heap.size W2 X) => intAdd_any A B n m y z X (hdy2.below hX) (hdz2.below hX) (by omega) (by omega) (by omega))
  have Hsu := Lib.hid (fun X (hX : Below W2.heap.size W2 X) => intSub_any A B n m y z X (hdy2.below hX) (hdz2.below hX) (by omega) (by omega) (by omega))
  have Hmu := Lib.hid (fun X (hX : Below W2.heap.size W2 X) => intMul_any A B n m y z X (hdy2.below hX) (hdz2.below hX) (by omega) (by omega) (by omega))
  have Hra := Lib.hid (fun X (hX : Below W2.heap.size W2 X) => radd_any y z P Q p q cp cq X (hny2.below hX) (hnz2.below hX) (by omega) (by omega))
  have Hrs := Lib.hid (fun X (hX : Below W2.heap.size W2 X) => rsub_any y z P Q p q cp cq X (hny2.below hX) (hnz2.below hX) (by omega) (by omega))
  have Hrm := Lib.hid (fun X (hX : Below W2.heap.size W2 X) => rmul_any y z P Q p q cp cq X (hny2.below hX) (hnz2.below hX) (by omega) (by omega))
  have Hcm := Lib.hid (fun X (hX : Below W2.heap.size W2 X) => cmp_any A B n m y z X (hdy2.below hX) (hdz2.below hX))
  have Hrc := Lib.hid (fun X (hX : Below W2.heap.size W2 X) => rcmpZ_any y z P Q p q cp cq X (hny2.below hX) (hnz2.below hX) (by omega) (by omega))
  have Hgc := Lib.hid (fun X (hX : Below W2.heap.size W2 X) => intGcd_any y z A B n m X (hdy2.below hX) (hdz2.below hX) (by omega) (by omega))
  have Hrg := Lib.hid (fun X (hX : Below W2.heap.size W2 X) => rgcd_any y z P Q p q cp cq X (hny2.below hX) (hnz2.below hX) (by omega) (by omega))
  have Hrsg := Lib.hid (fun X (hX : Below W2.heap.size W2 X) => rsign_any z Q q cq X (hnz2.below hX))
  have Hdv := Lib.hid (fun X (hX : Below W2.heap.size W2 X) (hz : z ≠ 0) => intDiv_any A B n m y z X (hdy2.below hX) (hdz2.below hX) hz (by omega) (by omega))
  have Hdz := Lib.hid (fun X (hX : Below W2.heap.size W2 X) (hz : z = 0) => intDiv_zero A B n m y X (by have := hdz2.below hX; rwa [hz] at this))
  have Hrd := Lib.hid (fun X (hX : Below W2.heap.size W2 X) (hz : z ≠ 0) => rdivZ_any y z P Q p q cp cq X (hny2.below hX) (hnz2.below hX) hz (by omega) (by omega))
  have Hlw := Lib.hid (fun (v : Int) (hv : limbs v.natAbs ≤ 100000) A B (a b b' : Nat) X (h : Dg X A a v.natAbs) (k : Nd X B b b' v.natAbs) => lawWhole_any v A B a b b' X h k (by rw [← h.len]; omega) (by rw [← k.len]; omega))
  have Hc2 := Lib.hid (fun X (hX : Below W2.heap.size W2 X) => show (X.cell? ⟨g5, 0, none⟩ = some (.bool by_) ∧ X.cell? ⟨g5, 1, none⟩ = some (.slice A n n)) ∧ (X.cell? ⟨g5 + 1, 0, none⟩ = some (.bool by_) ∧ X.cell? ⟨g5 + 1, 1, none⟩ = some (.slice P p cp)) ∧ (X.cell? ⟨g7, 0, none⟩ = some (.bool bz_) ∧ X.cell? ⟨g7, 1, none⟩ = some (.slice B m m)) ∧ (X.cell? ⟨g7 + 1, 0, none⟩ = some (.bool bz_) ∧ X.cell? ⟨g7 + 1, 1, none⟩ = some (.slice Q q cq)) from
    ⟨⟨(hk5.keep hX).cell 0, (hk5.keep hX).cell 1⟩, ⟨(hk6.keep hX).cell 0, (hk6.keep hX).cell 1⟩, ⟨(hk7.keep hX).cell 0, (hk7.keep hX).cell 1⟩, ⟨(hk8.keep hX).cell 0, (hk8.keep hX).cell 1⟩⟩)
  have Hl1 := Lib.hid l1
  have Hl2 := Lib.hid l2
  have Hl3 := Lib.hid l3
  have Hlg : Hid (limbs ((Nat.gcd y.natAbs z.natAbs : Nat) : Int).natAbs ≤ 1402) := Lib.hid (by
    have h1 := limbs_mono (show Nat.gcd y.natAbs z.natAbs ≤ y.natAbs + z.natAbs from gcd_le_sum _ _)
    have h2 := limbs_add_le y.natAbs z.natAbs
    have h3 := hdy2.len
    have h4 := hdz2.len
    rw [Int.natAbs_natCast]
    omega)
  have HB2 := Lib.hid hB2
  have hB := Below.refl W2.heap.size W2
  clear hdy2 hny2 hdz2 hnz2 hk5 hk6 hk7 hk8 hB2 l1 l2 l3
  have Hw3 := Lib.hid (Hlw.out (y + z) (by have := Hl1.out; omega))
  have Hw4 := Lib.hid (Hlw.out (y - z) (by have := Hl2.out; omega))
  have Hw5 := Lib.hid (Hlw.out (y * z) (by have := Hl3.out; omega))
  have Hwg := Lib.hid (Hlw.out (Nat.gcd y.natAbs z.natAbs : Nat) (by have := Hlg.out; omega))
  have Hwq := Lib.hid (fun (hz : z ≠ 0) => Hlw.out (y / z) (by have := limbs_div y z; have := Hly.out; omega))
  have Hwr := Lib.hid (fun (hz : z ≠ 0) => Hlw.out (y % z) (by have := limbs_mod y z hz; have := Hlz.out; omega))
  clear Hlw
  have Hsi0 := Lib.hid (fun X => sign_any none 0 0 X Sl.nil)
  have Hbz0 := Lib.hid (fun hz : z = 0 => show bz_ = false from by rw [← hbz, hz]; rfl)
  unfold RetZ RetInt RetIntOk RetTwo RetTwoZ at *
  unfold intV zV at *
  rw [hby, hbz] at *
  rw [show decide ((0 : Int) < 0) = false by decide] at Hdz Hsi0
  rw [show (0 : Int).sign = 0 by decide] at Hsi0
  obtain ⟨sz, hsz⟩ : ∃ b, z.sign = b := ⟨_, rfl⟩
  rw [hsz] at Hrsg
  have Hsz := Lib.hid hsz
  clear hsz
  obtain ⟨f3, hf3⟩ : ∃ b, decide (y + z < 0) = b := ⟨_, rfl⟩
  rw [hf3] at Had Hra Hw3
  clear hf3
  obtain ⟨f4, hf4⟩ : ∃ b, decide (y - z < 0) = b := ⟨_, rfl⟩
  rw [hf4] at Hsu Hrs Hw4
  clear hf4
  obtain ⟨f5, hf5⟩ : ∃ b, decide (y * z < 0) = b := ⟨_, rfl⟩
  rw [hf5] at Hmu Hrm Hw5
  clear hf5
  obtain ⟨fg, hfg⟩ : ∃ b, decide (((Nat.gcd y.natAbs z.natAbs : Nat) : Int) < 0) = b := ⟨_, rfl⟩
  rw [hfg] at Hgc Hrg Hwg
  clear hfg
  obtain ⟨fq, hfq⟩ : ∃ b, decide (y / z < 0) = b := ⟨_, rfl⟩
  rw [hfq] at Hdv Hrd Hwq
  clear hfq
  obtain ⟨fr, hfr⟩ : ∃ b, decide (y % z < 0) = b := ⟨_, rfl⟩
  rw [hfr] at Hdv Hrd Hwr
  clear hfr
  obtain ⟨sg, hsg⟩ : ∃ b, (y - z).sign = b := ⟨_, rfl⟩
  rw [hsg] at Hcm Hrc
  clear hsg
  obtain ⟨⟨a0, a1⟩, ⟨b0, b1⟩, ⟨c0, c1⟩, ⟨d0, d1⟩⟩ := Hc2.out _ hB
  go_wp2_with fail
  refine (Had.out _ hB).mono ?_
  rintro e v3 ⟨A3, n3, rfl, hd3, hb3⟩
  clear a0 a1 b0 b1 c0 c1 d0 d1
  go_upto_region 4 with fail
  obtain ⟨V3, hV3⟩ : ∃ X, X = v3.alloc (.cells #[.bool f3, .slice A3 n3 n3] 25) := ⟨_, rfl⟩
  have hk3 : Blk V3 v3.heap.size 25 #[.bool f3, .slice A3 n3 n3] := by rw [hV3]; exact Blk.new _ _ _
  have hb3' : Below v3.heap.size v3 V3 := by rw [hV3]; exact below_new _ _
  rw [← hV3]
  have hd3' := hd3.below hb3'
  obtain ⟨g9, hg9⟩ : ∃ g, v3.heap.size = g := ⟨_, rfl⟩
  rw [hg9] at hk3 ⊢
  have hB := hB.and (hb3.and hb3')
  have hbs3 := hb3.and hb3'
  clear hV3 hb3' hb3 hd3 hg9
  obtain ⟨⟨a0, a1⟩, ⟨b0, b1⟩, ⟨c0, c1⟩, ⟨d0, d1⟩⟩ := Hc2.out _ hB
  go_wp2_with fail
  refine (Hsu.out _ hB).mono ?_
  rintro e v4 ⟨A4, n4, rfl, hd4, hb4⟩
  clear a0 a1 b0 b1 c0 c1 d0 d1
  go_upto_region 5 with fail
  obtain ⟨V4, hV4⟩ : ∃ X, X = v4.alloc (.cells #[.bool f4, .slice A4 n4 n4] 25) := ⟨_, rfl⟩
  have hk4 : Blk V4 v4.heap.size 25 #[.bool f4, .slice A4 n4 n4] := by rw [hV4]; exact Blk.new _ _ _
  have hb4' : Below v4.heap.size v4 V4 := by rw [hV4]; exact below_new _ _
  rw [← hV4]
  have hd4' := hd4.below hb4'
  obtain ⟨g11, hg11⟩ : ∃ g, v4.heap.size = g := ⟨_, rfl⟩
  rw [hg11] at hk4 ⊢
  have hB := hB.and (hb4.and hb4')
  have hbs4 := hb4.and hb4'
  clear hV4 hb4' hb4 hd4 hg11
  have hk3 := hk3.keep hbs4
  have hd3' := hd3'.below hbs4
  obtain ⟨⟨a0, a1⟩, ⟨b0, b1⟩, ⟨c0, c1⟩, ⟨d0, d1⟩⟩ := Hc2.out _ hB
  go_wp2_with fail
  refine (Hmu.out _ hB).mono ?_
  rintro e v5 ⟨A5, n5, rfl, hd5, hb5⟩
  clear a0 a1 b0 b1 c0 c1 d0 d1
  go_upto_region 6 with fail
  obtain ⟨V5, hV5⟩ : ∃ X, X = v5.alloc (.cells #[.bool f5, .slice A5 n5 n5] 25) := ⟨_, rfl⟩
  have hk5 : Blk V5 v5.heap.size 25 #[.bool f5, .slice A5 n5 n5] := by rw [hV5]; exact Blk.new _ _ _
  have hb5' : Below v5.heap.size v5 V5 := by rw [hV5]; exact below_new _ _
  rw [← hV5]
  have hd5' := hd5.below hb5'
  obtain ⟨g13, hg13⟩ : ∃ g, v5.heap.size = g := ⟨_, rfl⟩
  rw [hg13] at hk5 ⊢
  have hB := hB.and (hb5.and hb5')
  have hbs5 := hb5.and hb5'
  clear hV5 hb5' hb5 hd5 hg13
  have hk3 := hk3.keep hbs5
  have hd3' := hd3'.below hbs5
  have hk4 := hk4.keep hbs5
  have hd4' := hd4'.below hbs5
  have HB := Lib.hid (hB)
  have Hc6 := Lib.hid (fun X (hX : Below V5.heap.size V5 X) => show ((X.cell? ⟨g5, 0, none⟩ = some (.bool by_) ∧ X.cell? ⟨g5, 1, none⟩ = some (.slice A n n)) ∧ (X.cell? ⟨g5 + 1, 0, none⟩ = some (.bool by_) ∧ X.cell? ⟨g5 + 1, 1, none⟩ = some (.slice P p cp)) ∧ (X.cell? ⟨g7, 0, none⟩ = some (.bool bz_) ∧ X.cell? ⟨g7, 1, none⟩ = some (.slice B m m)) ∧ (X.cell? ⟨g7 + 1, 0, none⟩ = some (.bool bz_) ∧ X.cell? ⟨g7 + 1, 1, none⟩ = some (.slice Q q cq))) ∧
      (X.cell? ⟨g9, 0, none⟩ = some (.bool f3) ∧ X.cell? ⟨g9, 1, none⟩ = some (.slice A3 n3 n3)) ∧ (X.cell? ⟨g11, 0, none⟩ = some (.bool f4) ∧ X.cell? ⟨g11, 1, none⟩ = some (.slice A4 n4 n4)) ∧ (X.cell? ⟨g13, 0, none⟩ = some (.bool f5) ∧ X.cell? ⟨g13, 1, none⟩ = some (.slice A5 n5 n5)) from
    ⟨Hc2.out X (HB.out.and hX), ⟨(hk3.keep hX).cell 0, (hk3.keep hX).cell 1⟩, ⟨(hk4.keep hX).cell 0, (hk4.keep hX).cell 1⟩, ⟨(hk5.keep hX).cell 0, (hk5.keep hX).cell 1⟩⟩)
  have hE := Below.refl V5.heap.size V5
  clear hB hk3 hk4 hk5
  obtain ⟨⟨⟨a0, a1⟩, ⟨b0, b1⟩, ⟨c0, c1⟩, ⟨d0, d1⟩⟩, ⟨e0, e1⟩, ⟨h0, h1⟩, ⟨i0, i1⟩⟩ := Hc6.out _ hE
  go_cut [100] (fun v X => v = .bool false ∧ Below V5.heap.size V5 X)
  case first =>
    go_region_held3 (fun X => ((X.cell? ⟨g5, 0, none⟩ = some (.bool by_) ∧ X.cell? ⟨g5, 1, none⟩ = some (.slice A n n)) ∧ (X.cell? ⟨g5 + 1, 0, none⟩ = some (.bool by_) ∧ X.cell? ⟨g5 + 1, 1, none⟩ = some (.slice P p cp)) ∧ (X.cell? ⟨g7, 0, none⟩ = some (.bool bz_) ∧ X.cell? ⟨g7, 1, none⟩ = some (.slice B m m)) ∧ (X.cell? ⟨g7 + 1, 0, none⟩ = some (.bool bz_) ∧ X.cell? ⟨g7 + 1, 1, none⟩ = some (.slice Q q cq))) ∧ (X.cell? ⟨g9, 0, none⟩ = some (.bool f3) ∧ X.cell? ⟨g9, 1, none⟩ = some (.slice A3 n3 n3)) ∧ (X.cell? ⟨g11, 0, none⟩ = some (.bool f4) ∧ X.cell? ⟨g11, 1, none⟩ = some (.slice A4 n4 n4)) ∧ (X.cell? ⟨g13, 0, none⟩ = some (.bool f5) ∧ X.cell? ⟨g13, 1, none⟩ = some (.slice A5 n5 n5)))
      (first | exact Hc6.out _ hE | exact Hc6.out _ (Below.drew hE))
      (first
      | (go_at_call 9; refine (Hra.out _ (Below.and HB.out ?_)).mono ?_; (first | exact Below.drew hE | exact hE); rintro e x1 ⟨R1, r1, k1, rfl, hr1, he1⟩; (first | (have hE := Below.and (Below.drew hE) he1) | (have hE := Below.and hE he1)))
      | (go_at_call_of 8 (Value.slice A3 n3 n3); refine (Hw3.out _ _ _ _ _ _ (Dg.below hd3' hE) hr1).mono ?_; rintro e x2 ⟨rfl, he2⟩; have hE := Below.and hE he2)
      | (go_at_call 10; refine (Hrs.out _ (Below.and HB.out hE)).mono ?_; rintro e x3 ⟨R3, r3, k3, rfl, hr3, he3⟩; have hE := Below.and hE he3)
      | (go_at_call_of 8 (Value.slice A4 n4 n4); refine (Hw4.out _ _ _ _ _ _ (Dg.below hd4' hE) hr3).mono ?_; rintro e x4 ⟨rfl, he4⟩; have hE := Below.and hE he4)
      | (go_at_call 11; refine (Hrm.out _ (Below.and HB.out hE)).mono ?_; rintro e x5 ⟨R5, r5, k5, rfl, hr5, he5⟩; have hE := Below.and hE he5)
      | (go_at_call_of 8 (Value.slice A5 n5 n5); refine (Hw5.out _ _ _ _ _ _ (Dg.below hd5' hE) hr5).mono ?_; rintro e x6 ⟨rfl, he6⟩; have hE := Below.and hE he6)
      | (go_at_call 12; refine (Hcm.out _ (Below.and HB.out hE)).mono ?_; rintro e x7 ⟨rfl, he7⟩; have hE := Below.and hE he7)
      | (go_at_call 13; refine (Hrc.out _ (Below.and HB.out hE)).mono ?_; rintro e x8 ⟨rfl, he8⟩; have hE := Below.and hE he8)
      | (go_at_call 14; refine (Hgc.out _ (Below.and HB.out hE)).mono ?_; rintro e x9 ⟨A9, n9, rfl, hd9, he9⟩; have hE := Below.and hE he9)
      | (go_at_call 15; refine (Hrg.out _ (Below.and HB.out hE)).mono ?_; rintro e x10 ⟨R10, r10, k10, rfl, hr10, he10⟩; have hE := Below.and hE he10)
      | (go_at_call_of 8 (Value.slice A9 n9 n9); refine (Hwg.out _ _ _ _ _ _ (Dg.below hd9 he10) hr10).mono ?_; rintro e x11 ⟨rfl, he11⟩; have hE := Below.and hE he11))
    all_goals
      go_wp2_with fail
      go_meet
      exact ⟨rfl, hE⟩
  case rest =>
    clear hE
    obtain ⟨rfl, hE⟩ := hcut
    go_upto_region 8 with fail
    have hBX := HB.out.and hE
    clear a0 a1 b0 b1 c0 c1 d0 d1 e0 e1 h0 h1 i0 i1
    obtain ⟨⟨a0, a1⟩, ⟨b0, b1⟩, ⟨c0, c1⟩, ⟨d0, d1⟩⟩ := Hc2.out _ hBX
    clear Hc6 Hra Hrs Hrm Hcm Hrc Hgc Hrg Hw3 Hw4 Hw5 Hwg Had Hsu Hmu hE
    by_cases hz : z = 0
    · have Hd1 := Lib.hid (Hdz.out _ hBX hz)
      have hbz0 := Hbz0.out hz
      have hs0 : sz = 0 := by rw [← Hsz.out, hz]; rfl
      clear hz Hdv Hrd Hwq Hwr Hdz Hbz0
      subst hs0
      subst hbz0
      go_wp2_with fail
      refine Hd1.out.mono ?_
      rintro e y1 ⟨rfl, hy1⟩
      go_upto_region 9 with fail
      obtain ⟨Y1, hY1, hk15, hk16, hbY1⟩ := two_newZ y1 #[.bool false, .slice none 0 0] #[.bool false, .slice none 0 0] 25 25
      rw [← hY1]
      have hBY := hBX.and (hy1.and hbY1)
      clear a0 a1 b0 b1 c0 c1 d0 d1
      obtain ⟨⟨a0, a1⟩, ⟨b0, b1⟩, ⟨c0, c1⟩, ⟨d0, d1⟩⟩ := Hc2.out _ hBY
      obtain ⟨g15, hg15⟩ : ∃ g, y1.heap.size = g := ⟨_, rfl⟩
      rw [hg15] at hk15 hk16 ⊢
      clear hY1 hbY1 hg15 hBX
      go_wp2_with fail
      refine (Hrsg.out _ hBY).mono ?_
      rintro e y2 ⟨rfl, hy2⟩
      have k15 := hk15.keep hy2
      have k16 := hk16.keep hy2
      obtain ⟨e0, e1, -, -⟩ := k15.two
      obtain ⟨h0, h1, -, -⟩ := k16.two
      clear a0 a1 b0 b1 c0 c1 d0 d1
      go_wp2_with fail
      refine (Hsi0.out _).mono ?_
      rintro e y3 ⟨rfl, hy3⟩
      clear e0 e1 h0 h1
      obtain ⟨h0, h1, -, -⟩ := (k16.keep hy3).two
      go_wp2_with fail
      refine (Hsi0.out _).mono ?_
      rintro e y4 ⟨rfl, hy4⟩
      have Haw1 := Lib.hid (Haw.out _ (HB2.out.and (hBY.and (hy2.and (hy3.and hy4)))))
      go_wp2_with fail
      refine Haw1.out.mono ?_
      rintro e y5 ⟨rfl, hy5⟩
      go_wp2_with fail
      go_ret
      exact ⟨rfl, HB2.out.and (hBY.and (hy2.and (hy3.and (hy4.and hy5))))⟩
    · have Hd1 := Lib.hid (Hdv.out _ hBX hz)
      have hs0 : sz ≠ 0 := by
        rw [← Hsz.out]
        intro e
        exact hz (Int.sign_eq_zero_iff_zero.1 e)
      have Hrd1 := Lib.hid (fun X hX => Hrd.out X hX hz)
      have Hwq1 := Lib.hid (Hwq.out hz)
      have Hwr1 := Lib.hid (Hwr.out hz)
      clear hz Hdv Hrd Hwq Hwr Hdz
      go_wp2_with fail
      refine Hd1.out.mono ?_
      rintro e y1 ⟨A15, n15, A16, n16, rfl, hd15, hd16, hy1⟩
      go_upto_region 9 with fail
      obtain ⟨Y1, hY1, hk15, hk16, hbY1⟩ := two_newZ y1 #[.bool fq, .slice A15 n15 n15] #[.bool fr, .slice A16 n16 n16] 25 25
      rw [← hY1]
      have hBY := hBX.and (hy1.and hbY1)
      have hd15' := hd15.below hbY1
      have hd16' := hd16.below hbY1
      clear a0 a1 b0 b1 c0 c1 d0 d1
      obtain ⟨⟨a0, a1⟩, ⟨b0, b1⟩, ⟨c0, c1⟩, ⟨d0, d1⟩⟩ := Hc2.out _ hBY
      obtain ⟨g15, hg15⟩ : ∃ g, y1.heap.size = g := ⟨_, rfl⟩
      rw [hg15] at hk15 hk16 ⊢
      clear hY1 hbY1 hg15 hBX hd15 hd16
      go_wp2_with fail
      refine (Hrsg.out _ hBY).mono ?_
      rintro e y2 ⟨rfl, hy2⟩
      have hBy2 := hBY.and hy2
      clear a0 a1 b0 b1 c0 c1 d0 d1
      obtain ⟨⟨a0, a1⟩, ⟨b0, b1⟩, ⟨c0, c1⟩, ⟨d0, d1⟩⟩ := Hc2.out _ hBy2
      go_wp2_with fail
      refine (Hrd1.out _ hBy2).mono ?_
      rintro e y3 ⟨R18, r18, k18, R19, r19, k19, rfl, hn18, hn19, hy3⟩
      go_upto_region 12 with fail
      obtain ⟨Y3, hY3, hk18, hk19, hbY3⟩ := two_newZ y3 #[.bool fq, .slice R18 r18 k18] #[.bool fr, .slice R19 r19 k19] 29 29
      rw [← hY3]
      have hB23 := hy2.and (hy3.and hbY3)
      have hn18' := hn18.below hbY3
      have hn19' := hn19.below hbY3
      have hd15 := hd15'.below hB23
      have hd16 := hd16'.below hB23
      have j15 := hk15.keep hB23
      have j16 := hk16.keep hB23
      obtain ⟨g18, hg18⟩ : ∃ g, y3.heap.size = g := ⟨_, rfl⟩
      rw [hg18] at hk18 hk19 ⊢
      obtain ⟨e0, e1, -, -⟩ := j15.two
      obtain ⟨i0, i1, -, -⟩ := hk18.two
      clear a0 a1 b0 b1 c0 c1 d0 d1 hY3 hg18 hk15 hk16 hd15' hd16' hn18 hn19
      go_wp2_with fail
      refine (Hwq1.out _ _ _ _ _ _ hd15 hn18').mono ?_
      rintro e y4 ⟨rfl, hy4⟩
      clear e0 e1 i0 i1
      obtain ⟨e0, e1, -, -⟩ := (j16.keep hy4).two
      obtain ⟨i0, i1, -, -⟩ := (hk19.keep hy4).two
      go_wp2_with fail
      refine (Hwr1.out _ _ _ _ _ _ (hd16.below hy4) (hn19'.below hy4)).mono ?_
      rintro e y5 ⟨rfl, hy5⟩
      have hfin := HB2.out.and (hBY.and (hB23.and (hy4.and hy5)))
      have Haw1 := Lib.hid (Haw.out _ hfin)
      have Hfin := Lib.hid hfin
      clear hfin
      go_wp2_with fail
      refine Haw1.out.mono ?_
      rintro e y6 ⟨rfl, hy6⟩
      go_wp2_with fail
      go_ret
      exact ⟨rfl, Hfin.out.and hy6⟩
end Go.Proofs.YtemcdnppgnobmaaGreatDoor
