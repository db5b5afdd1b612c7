/-
  The walks of frac's sign and whole of a radix of one prime.
-/
import Derived.Test.YtemcdnppgnobmaaGreatDoorRad
import Derived.Test.YtemcdnppgnobmaaGreatDoorInt4
import Derived.Test.YtemcdnppgnobmaaGreatDoorInt6
set_option linter.unusedVariables false
namespace Go.Proofs.YtemcdnppgnobmaaGreatDoor
open Go.RowKit

theorem dgO_bound {r p : Nat} (hr : r < p) (hp2 : p < 4611686018427387904) : -4611686018427387904 ≤ dgO r p ∧ dgO r p ≤ 4611686018427387904 := by
  unfold dgO
  split <;> omega
theorem dgO_ne {r p : Nat} (hr : r < p) (h0 : 0 < r) : dgO r p ≠ 0 := by
  unfold dgO
  split <;> omega

set_option maxRecDepth 100000 in
theorem radSign_one (gp cp gi ci p r gr cr : Nat) (w : World) (h : Has [(gp, 0, .int .u64 p), (gi, 0, .int .u64 1), (gr, 0, .int .u64 r)] w) (h0 : 0 < r) (hr : r < p) (hp : 2 < p) (hp2 : p < 4611686018427387904) :
    Calls Tryz.prog 141 #[radV gp cp gi ci, .slice (some ⟨gr, 0, none⟩) 1 cr] w (fun e w' => e = .returned (.int .i64 (dgO r p).sign) ∧ Below w.heap.size w w') := by
  have hS := (St.new2 (t := 134) (a := .slice (some ⟨gp, 0, none⟩) 1 cp) (b := .slice (some ⟨gi, 0, none⟩) 1 ci) (⟨h, trivial, Below.refl _ _⟩ : St w [(gp, 0, .int .u64 p), (gi, 0, .int .u64 1), (gr, 0, .int .u64 r)] [] w))
  obtain ⟨W, hW⟩ : ∃ W, W = w.alloc (.cells (radC gp cp gi ci) 134) := ⟨_, rfl⟩
  have hS' : St w ((w.heap.size, 0, .slice (some ⟨gp, 0, none⟩) 1 cp) :: (w.heap.size, 1, .slice (some ⟨gi, 0, none⟩) 1 ci) :: [(gp, 0, .int .u64 p), (gi, 0, .int .u64 1), (gr, 0, .int .u64 r)]) [] W := by rw [hW]; exact hS
  have hd := radDigits_one gp cp gi ci p r gr cr W hS'.has.2.2 hr hp hp2
  have hb := dgO_bound hr hp2
  have hne := dgO_ne hr h0
  obtain ⟨d, hdd⟩ : ∃ d, dgO r p = d := ⟨_, rfl⟩
  rw [hdd] at hd hb hne ⊢
  have hwh := fun X => whole_any d X (by omega) (by omega)
  have Hd := Lib.hid hd
  have Hwh := Lib.hid hwh
  have HW := Lib.hid hW
  have HS := Lib.hid hS'
  have hb0 := hS'.has.1.1
  have hb1 := hS'.has.2.1.1
  clear hd hwh hW hS hS' h hdd
  unfold radV at *
  unfold radC at HW
  have hneb : (d != 0) = true := by rw [bne_iff_ne]; exact hne
  go_enter Tryz.func141, Tryz.ntmps141
  go_upto_region 1 with fail
  rw [← HW.out]
  go_wp2_with fail
  refine Hd.out.mono ?_
  rintro e w1 ⟨g, c, rfl, hg, hbel⟩
  have c0 := hg.1.1
  go_wp2_with fail
  refine wp_loop_rounds 1 ?_
  rw [rounds_succ]
  go_upto_region 6 with fail
  go_wp2_with fail
  refine (Hwh.out _).mono ?_
  rintro e w2 ⟨A, n, rfl, hdg, hb2⟩
  have hsg := sign_any A n d w2 hdg
  have Hsg := Lib.hid hsg
  clear hsg
  unfold intV at *
  go_wp2_with fail
  refine Hsg.out.mono ?_
  rintro e w3 ⟨rfl, hb3⟩
  go_wp2_with fail
  go_ret
  exact ⟨rfl, HS.out.bel.trans ((hbel.mono HS.out.bel.size).trans ((hb2.mono (Nat.le_trans HS.out.bel.size hbel.size)).trans (hb3.mono (Nat.le_trans HS.out.bel.size (Nat.le_trans hbel.size hb2.size)))))⟩

set_option maxRecDepth 100000 in
set_option maxHeartbeats 1600000 in
theorem radWhole_one (gp cp gi ci p r gr cr : Nat) (w : World) (h : Has [(gp, 0, .int .u64 p), (gi, 0, .int .u64 1), (gr, 0, .int .u64 r)] w) (hr : r < p) (hp : 2 < p) (hp2 : p < 4611686018427387904) :
    Calls Tryz.prog 127 #[radV gp cp gi ci, .slice (some ⟨gr, 0, none⟩) 1 cr] w (RetInt (dgO r p) w) := by
  have hS := ((St.new2 (t := 134) (a := .slice (some ⟨gp, 0, none⟩) 1 cp) (b := .slice (some ⟨gi, 0, none⟩) 1 ci) (⟨h, trivial, Below.refl _ _⟩ : St w [(gp, 0, .int .u64 p), (gi, 0, .int .u64 1), (gr, 0, .int .u64 r)] [] w))).new (.cells intZ 25)
  have hres := Blk.new (w.alloc (.cells (radC gp cp gi ci) 134)) 25 intZ
  rw [size_new] at hres
  obtain ⟨W, hW⟩ : ∃ W, W = (w.alloc (.cells (radC gp cp gi ci) 134)).alloc (.cells intZ 25) := ⟨_, rfl⟩
  have hS' : St w ((w.heap.size, 0, .slice (some ⟨gp, 0, none⟩) 1 cp) :: (w.heap.size, 1, .slice (some ⟨gi, 0, none⟩) 1 ci) :: [(gp, 0, .int .u64 p), (gi, 0, .int .u64 1), (gr, 0, .int .u64 r)]) [] W := by rw [hW]; exact hS
  rw [← show W = (w.alloc (.cells (radC gp cp gi ci) 134)).alloc (.cells intZ 25) from hW] at hres
  have hd := radDigits_one gp cp gi ci p r gr cr W hS'.has.2.2 hr hp hp2
  have hb := dgO_bound hr hp2
  obtain ⟨d, hdd⟩ : ∃ d, dgO r p = d := ⟨_, rfl⟩
  rw [hdd] at hd hb ⊢
  have hwh := fun X => whole_any d X (by omega) (by omega)
  have hnat := fun X => natural_any p X (by omega)
  have Hd := Lib.hid hd
  have Hwh := Lib.hid hwh
  have Hnat := Lib.hid hnat
  have HW := Lib.hid hW
  have HS := Lib.hid hS'
  have Hres := Lib.hid hres
  have hb0 := hS'.has.1.1
  have hb1 := hS'.has.2.1.1
  clear hd hwh hW hS hS' h hdd hnat hres
  unfold radV at *
  unfold radC intZ at HW
  go_enter Tryz.func127, Tryz.ntmps127
  go_upto_region 1 with fail
  rw [← HW.out]
  go_upto_region 2 with (go_at_call 136; refine Hd.out.mono ?_; rintro e w1 ⟨g, c, rfl, hg, hbel⟩)
  have hS1 : St w ((g, 0, .int .i64 d) :: _) [] w1 := (HS.out.keep hbel).cell hg.1.1 hg.1.2
  have hr1 := Hres.out.keep hbel
  obtain ⟨W2, hW2⟩ : ∃ W2, W2 = w1.alloc (.cells #[.bool false, .slice none 0 0] 25) := ⟨_, rfl⟩
  have hS2 := St.new2 (t := 25) (a := .bool false) (b := .slice none 0 0) hS1
  have hr2 := hr1.keep (below_new w1 (.cells #[.bool false, .slice none 0 0] 25))
  have hz2 := Blk.new w1 25 #[.bool false, .slice none 0 0]
  rw [← hW2] at hS2 hr2 hz2
  have HW2 := Lib.hid hW2
  clear hW2 hbel hg
  obtain ⟨gz, hgz⟩ : ∃ gz, w1.heap.size = gz := ⟨_, rfl⟩
  have hgk : w.heap.size + 1 < gz := by rw [← hgz]; exact hr1.lt
  rw [hgz] at hS2 hz2
  go_upto_region 3 with fail
  rw [← HW2.out]
  clear HW2 hgz hr1 hS1
  obtain ⟨z0, z1, y0, y1⟩ := hz2.two
  have g0 := hS2.has.2.2.1.1
  have x0 := hS2.has.2.2.2.2.2.1.1
  have b0 := hS2.has.2.2.2.1.1
  clear hb0 hb1
  go_upto_region 4 with fail
  refine wp_loop_rounds 2 ?_
  rw [rounds_succ]
  go_upto_region 6 with fail
  have hcells : ∀ X, St w ((gz, 0, .bool false) :: (gz, 1, .slice none 0 0) :: (g, 0, .int .i64 d) :: (w.heap.size, 0, .slice (some ⟨gp, 0, none⟩) 1 cp) :: (w.heap.size, 1, .slice (some ⟨gi, 0, none⟩) 1 ci) :: [(gp, 0, .int .u64 p), (gi, 0, .int .u64 1), (gr, 0, .int .u64 r)]) [] X →
      X.cell? ⟨gz, 0, none⟩ = some (.bool false) ∧ X.cell? ⟨gz, 1, none⟩ = some (.slice none 0 0) ∧ X.cell? ⟨g, 0, none⟩ = some (.int .i64 d) ∧ X.cell? ⟨w.heap.size, 0, none⟩ = some (.slice (some ⟨gp, 0, none⟩) 1 cp) ∧ X.cell? ⟨gp, 0, none⟩ = some (.int .u64 p) :=
    fun X hX => ⟨hX.has.1.1, hX.has.2.1.1, hX.has.2.2.1.1, hX.has.2.2.2.1.1, hX.has.2.2.2.2.2.1.1⟩
  have hlim : limbs p ≤ 3 := limbs_le_three (by omega)
  have hsgn : ∀ (A : Option Addr) (n : Nat) (X : World), Dg X A n p → Calls Tryz.prog 41 #[.bool false, .slice A n n] X (fun e w' => e = .returned (.agg #[.bool false, .slice A n n]) ∧ Dg w' A n p ∧ Below X.heap.size X w') := by
    intro A n X hX
    have h1 := signed_any false A n p (p : Int) X hX rfl
    unfold intV at h1
    rw [show decide ((p : Int) < 0) = false from decide_eq_false (by omega)] at h1
    exact h1
  have htm : ∀ (A : Option Addr) (n : Nat) (X : World), Dg X A n p → Calls Tryz.prog 32 #[.agg #[.bool false, .slice none 0 0], .agg #[.bool false, .slice A n n]] X (RetInt 0 X) := by
    intro A n X hX
    have hl := hX.len
    have h1 := times_any none A 0 n 0 (p : Int) X Sl.nil hX (by omega) (by omega)
    unfold intV at h1
    rw [show decide ((p : Int) < 0) = false from decide_eq_false (by omega), Int.zero_mul] at h1
    exact h1
  have hpl : ∀ (A B : Option Addr) (n m : Nat) (X : World), Dg X A n (0 : Int).natAbs → Dg X B m d.natAbs → Calls Tryz.prog 27 #[intV 0 A n, intV d B m] X (RetInt d X) := by
    intro A B n m X h1 h2
    have l1 := h1.len
    have l2 := h2.len
    have l3 : limbs d.natAbs ≤ 3 := limbs_le_three (by omega)
    have l4 : limbs (0 : Int).natAbs = 0 := rfl
    have h1 := plus_any A B n m 0 d X h1 h2 (by omega) (by omega)
    rw [Int.zero_add] at h1
    exact h1
  have Hcells := Lib.hid hcells
  have Hsgn := Lib.hid hsgn
  have Htm := Lib.hid htm
  have Hpl := Lib.hid hpl
  have HS2 := Lib.hid hS2
  have Hz2 := Lib.hid hz2
  have Hr2 := Lib.hid hr2
  clear hcells hsgn htm hpl hlim hS2 hz2 hr2
  unfold intV at *
  go_region_law (first
    | (go_simp; go_at_call 69; refine (Hnat.out _).mono ?_; rintro e wa ⟨A1, n1, rfl, hd1, hba, _⟩; have hTa := St.keep (St.drew HS2.out) hba; obtain ⟨za0, za1, ga0, ba0, xa0⟩ := Hcells.out _ hTa)
    | (go_simp; go_at_call 41; refine (Hsgn.out _ _ _ hd1).mono ?_; rintro e wb ⟨rfl, hd2, hbb⟩; have hTb := St.keep hTa hbb; obtain ⟨zb0, zb1, gb0, bb0, xb0⟩ := Hcells.out _ hTb)
    | (go_simp; go_at_call 32; refine (Htm.out _ _ _ hd2).mono ?_; rintro e wc ⟨A3, n3, rfl, hd3, hbc⟩; unfold intV; have hTc := St.keep hTb hbc; obtain ⟨zc0, zc1, gc0, bc0, xc0⟩ := Hcells.out _ hTc)
    | (go_simp; go_at_call 50; refine (Hwh.out _).mono ?_; rintro e wd ⟨A4, n4, rfl, hd4, hbd⟩; unfold intV; have hTd := St.keep hTc hbd; obtain ⟨zd0, zd1, gd0, bd0, xd0⟩ := Hcells.out _ hTd; have hd3' := hd3.below hbd)
    | (go_simp; go_at_call 27; refine (Hpl.out _ _ _ _ _ hd3' hd4).mono ?_; rintro e we ⟨A5, n5, rfl, hd5, hbe⟩; unfold intV; have hTe := St.keep hTd hbe; obtain ⟨ze0, ze1, ge0, be0, xe0⟩ := Hcells.out _ hTe; have hz5 := Blk.keep (w := W2.drew) Hz2.out ((hba.and hbb).and ((hbc.and hbd).and hbe)); have hr5 := Blk.keep (w := W2.drew) Hr2.out ((hba.and hbb).and ((hbc.and hbd).and hbe)); obtain ⟨s0, s1, t0, t1⟩ := hz5.two))
  all_goals
    obtain ⟨q0, q1, p0, p1⟩ := hr5.two
    have hbel : Below w.heap.size w we := hTe.bel
    have ho := ((Only.refl gz we).setCell 0 (.bool (decide (d < 0)))).setCell 1 (.slice A5 n5 n5)
    have hz6 := Blk.set2 hz5 (.bool (decide (d < 0))) (.slice A5 n5 n5)
    have hr6 := ho.blk (by omega) hr5
    have hd6 := hd5.only ho hz5 intZ_free
    have hbel6 := hbel.trans (ho.below (by omega))
    obtain ⟨we6, hwe6⟩ : ∃ we6, we6 = (we.setCell ⟨gz, 0, none⟩ (.bool (decide (d < 0)))).setCell ⟨gz, 1, none⟩ (.slice A5 n5 n5) := ⟨_, rfl⟩
    rw [← hwe6] at hz6 hr6 hd6 hbel6
    have Hwe := Lib.hid hwe6
    obtain ⟨c0, c1, f0, f1⟩ := hz6.two
    obtain ⟨e0, e1, h0, h1⟩ := hr6.two
    have Hr6 := Lib.hid hr6
    have Hd6 := Lib.hid hd6
    have Hbel6 := Lib.hid hbel6
    clear hz6 hr6 hd6 hbel6 hwe6 ho hbel hTa hTb hTc hTd hTe hba hbb hbc hbd hbe Hcells Hsgn Htm Hpl Hnat Hwh HS2 Hz2 Hr2 hz5 hr5 HS Hres Hd HW
    go_upto_region 5 with fail
    rw [← Hwe.out]
    go_wp2_with fail
    rw [rounds_succ]
    go_wp2_with fail
    exact ret_int_stored (z := d) rfl rfl rfl Hr6.out Hd6.out Hbel6.out (by omega) rfl (fun w' h1 h2 => ⟨A5, n5, rfl, h1, h2⟩)
end Go.Proofs.YtemcdnppgnobmaaGreatDoor
