/-
  The walks of frac's quotient of integers, and of the weights of the one-row sheet.
-/
import Derived.Test.YtemcdnppgnobmaaGreatDoorSew
set_option linter.unusedVariables false
namespace Go.Proofs.YtemcdnppgnobmaaGreatDoor
open Go.RowKit

/-- The numerator of a quotient. -/
def quoZ (y z : Int) : Int := if (decide (y < 0) != decide (z < 0)) then -(y.natAbs : Int) else y.natAbs
theorem quoZ_abs (y z : Int) : (quoZ y z).natAbs = y.natAbs := by unfold quoZ; split <;> simp

set_option maxRecDepth 100000 in
set_option maxHeartbeats 1600000 in
theorem quotient_any (A B : Option Addr) (n m : Nat) (y z : Int) (r : Rat) (w : World) (h : Dg w A n y.natAbs) (k : Dg w B m z.natAbs) (hz0 : z ≠ 0) (hn9 : n ≤ 10000000000) (hm9 : m ≤ 10000000000)
    (hz : r.num = quoZ y z / (Nat.gcd y.natAbs z.natAbs : Nat)) (hd : r.den = z.natAbs / Nat.gcd y.natAbs z.natAbs) :
    Calls Tryz.prog 111 #[intV y A n, intV z B m] w (RetRat r w) := by
  obtain ⟨W, hW, hb0, hb1, hres, hbel⟩ := three_new w 25 25 68 #[.bool (decide (y < 0)), .slice A n n] #[.bool (decide (z < 0)), .slice B m m] #[.bool false, .slice none 0 0, .slice none 0 0]
  have hx := h.below hbel
  have hy := k.below hbel
  have hsi := fun X (hX : Below W.heap.size W X) => signed_any (decide (y < 0) != decide (z < 0)) A n y.natAbs (quoZ y z) X (hx.below hX) rfl
  have hre := fun X (hX : Below W.heap.size W X) (hq : Dg X A n (quoZ y z).natAbs) => reduced_any A B n m z.natAbs (quoZ y z) r X hq (hy.below hX) (by omega) hn9 hm9 (by rw [quoZ_abs]; exact hz) (by rw [quoZ_abs]; exact hd)
  have hcells : ∀ X, Below W.heap.size W X → X.cell? ⟨w.heap.size, 0, none⟩ = some (.bool (decide (y < 0))) ∧ X.cell? ⟨w.heap.size, 1, none⟩ = some (.slice A n n) ∧ X.cell? ⟨w.heap.size + 1, 0, none⟩ = some (.bool (decide (z < 0))) ∧ X.cell? ⟨w.heap.size + 1, 1, none⟩ = some (.slice B m m) :=
    fun X hX => ⟨(hb0.keep hX).cell 0, (hb0.keep hX).cell 1, (hb1.keep hX).cell 0, (hb1.keep hX).cell 1⟩
  have Hsi := Lib.hid hsi
  have Hre := Lib.hid hre
  have HW := Lib.hid hW
  have Hbel := Lib.hid hbel
  have Hcells := Lib.hid hcells
  obtain ⟨c0, c1, d0, d1⟩ := hcells _ (Below.refl _ _)
  have hne1 : w.heap.size ≠ w.heap.size + 1 + 1 := by omega
  have hne2 : w.heap.size + 1 + 1 ≠ w.heap.size := by omega
  clear hsi hre hW hbel hcells hb0 hb1 h k hx hy hz hd hz0
  unfold intV at *
  generalize quoZ y z = qz at *
  generalize decide (y < 0) = b at *
  generalize decide (z < 0) = b' at *
  go_enter Tryz.func111, Tryz.ntmps111
  go_upto_region 1 with fail
  rw [← HW.out]
  clear HW
  go_region_held3 (fun w' => w'.cell? ⟨w.heap.size, 0, none⟩ = some (.bool b) ∧ w'.cell? ⟨w.heap.size, 1, none⟩ = some (.slice A n n) ∧ w'.cell? ⟨w.heap.size + 1, 0, none⟩ = some (.bool b') ∧ w'.cell? ⟨w.heap.size + 1, 1, none⟩ = some (.slice B m m))
    (first | exact ⟨c0, c1, d0, d1⟩ | exact Hcells.out _ (Below.drew (Below.refl _ _)) | exact Hcells.out _ hb2' | exact Hcells.out _ hb3' | go_keep)
    (first
    | (go_at_call 41; refine (Hsi.out _ (Below.drew (Below.refl _ _))).mono ?_; rintro e w2 ⟨rfl, hd2, hb2⟩; have hb2' := Below.and (Below.drew (Below.refl W.heap.size W)) hb2)
    | (go_at_call 99; refine (Hre.out _ hb2' hd2).mono ?_; rintro e w3 ⟨A1, n1, B1, m1, rfl, hr3, hb3⟩; unfold ratV; have hb3' := Below.and hb2' hb3; have hk3 := Blk.keep hres hb3'; obtain ⟨z0, z1, z2, y0, y1, y2⟩ := hk3.three; obtain ⟨c0', c1', d0', d1'⟩ := Hcells.out _ hb3'))
  all_goals
    go_wp2_with fail
    refine ret_rat_stored (r := r) (A := A1) (n := n1) (B := B1) (m := m1) rfl rfl rfl hk3 hr3 (Hbel.out.and hb3') (by omega) rfl ?_
    exact fun w' h1 h2 => ⟨A1, n1, B1, m1, rfl, h1, h2⟩

theorem info_rat : (Tryz.prog.info? 68).map (fun i => (i.zero, i.size, i.bytes)) = some (some (.agg #[.bool false, .slice none 0 0, .slice none 0 0]), 3, 56) := by kernel_rfl
theorem run_makeRat1 (W : World) : (Instr.makeSlice 74 (.int .i64 1) (.int .i64 1)).run Tryz.prog W = .ok (.slice (some ⟨W.heap.size, 0, none⟩) 1 1) (W.alloc (.cells ratZ 68)) := by
  obtain ⟨i0, h0, hz, hs, hb⟩ := info_parts info_rat
  have hr := run_make (P := Tryz.prog) W 74 68 i0 _ Tryz.underlying74 h0 hz .i64 .i64 1 1 (by omega) (by omega) (by rw [hb]; omega) (by omega)
  rw [hs, show madeCells (Value.agg #[.bool false, .slice none 0 0, .slice none 0 0]).cells (Int.toNat 1 * 3) = ratZ from by kernel_rfl] at hr
  exact hr

theorem dg_one {X : World} {d : Nat} (h : X.cell? ⟨d, 0, none⟩ = some (.int .u32 1)) (hd : d < X.heap.size) : Dg X (some ⟨d, 0, none⟩) 1 1 := by
  refine ⟨rfl, by omega, fun _ => ⟨d, 0, rfl, hd, fun i hi => ?_⟩⟩
  have e : i = 0 := by omega
  subst e
  exact h

theorem quo_num : (1 : Rat).num = quoZ (-1) (-1) / ((Nat.gcd (-1 : Int).natAbs (-1 : Int).natAbs : Nat) : Int) := by kernel_rfl
theorem quo_den : (1 : Rat).den = (-1 : Int).natAbs / Nat.gcd (-1 : Int).natAbs (-1 : Int).natAbs := by kernel_rfl
theorem quotient_minus (A B : Option Addr) (n m : Nat) (X : World) (h : Dg X A n (-1 : Int).natAbs) (k : Dg X B m (-1 : Int).natAbs) :
    Calls Tryz.prog 111 #[.agg #[.bool true, .slice A n n], .agg #[.bool true, .slice B m m]] X (RetRat 1 X) := by
  have l1 := h.len
  have l2 := k.len
  have l3 : limbs (-1 : Int).natAbs = 1 := rfl
  have h9 := quotient_any A B n m (-1) (-1) 1 X h k (by decide) (by omega) (by omega) quo_num quo_den
  unfold intV at h9
  rw [show decide ((-1 : Int) < 0) = true from rfl] at h9
  exact h9

set_option maxRecDepth 100000 in
set_option maxHeartbeats 1600000 in
theorem shWeights_ones (w0 : World) (a : Sa) (p : Nat) (S D : Value) (nx gf cf d : Nat) (L : List (Nat × Nat × Value)) (A : Option Addr) (n : Nat) (w : World)
    (h : Sh w0 a 1 (p - 1) (p - 1) p 2 0 S (.slice (some ⟨gf, 0, none⟩) 1 cf) D 1 nx ((gf, 0, .bool false) :: (gf, 1, .slice (some ⟨d, 0, none⟩) 1 1) :: (d, 0, .int .u32 1) :: L) w) (ht : Dg w A n (-1 : Int).natAbs) (hp : 2 < p) (hp2 : p < 4611686018427387904) :
    Calls Tryz.prog 81 #[.pointer (some ⟨a.s, 0, none⟩), .int .i64 0, intV (-1) A n] w (fun e w' => ∃ g A1 n1 B1 m1, e = .returned (.slice (some ⟨g, 0, none⟩) 1 1) ∧ Blk w' g 68 (ratC 1 A1 n1 B1 m1) ∧ Rg w' A1 n1 B1 m1 1 ∧ Below w.heap.size w w') := by
  have hmk := run_makeRat1
  obtain ⟨W, hW⟩ : ∃ W, W = (w.alloc (.cells #[.bool true, .slice A n n] 25)).alloc (.cells ratZ 68) := ⟨_, rfl⟩
  have hbel : Below w.heap.size w W := by rw [hW]; exact (below_new _ _).more _
  have htot : Blk W w.heap.size 25 #[.bool true, .slice A n n] := by rw [hW]; exact (Blk.new w 25 _).keep (below_new _ _)
  have hout : Blk W (w.heap.size + 1) 68 ratZ := by
    have := Blk.new (w.alloc (.cells #[.bool true, .slice A n n] 25)) 68 ratZ
    rw [size_new] at this
    rw [hW]; exact this
  have hS := h.keep hbel
  have htW := ht.below hbel
  have hce := shCell_2 a 1 (p - 1) (p - 1) p W hS.fix hS.tab (by omega) hp hp2
  rw [sgn_minus hp hp2] at hce
  have s5' : w.cell? ⟨a.s, 5, none⟩ = some (.slice (some ⟨a.gb, 0, none⟩) 1 a.cb) := h.bs.cell 5
  have l5 : a.s < w.heap.size := h.bs.lt
  have lgf : gf < w.heap.size := h.has.2.2.2.2.1.2
  have lga := h.la
  have lgb := h.lb
  have s0 : W.cell? ⟨a.s, 0, none⟩ = some (.int .i64 2) := hS.bs.cell 0
  have Hce := Lib.hid hce
  have HW := Lib.hid hW
  have Hbel := Lib.hid hbel
  clear hce hW hbel h ht
  unfold intV at *
  unfold ratZ at HW hmk
  go_enter Tryz.func81, Tryz.ntmps81
  go_upto_region 2 with fail
  rw [← HW.out]
  clear HW
  go_upto_region 3 with (go_at_call 110; refine Hce.out.mono ?_; rintro e w2 ⟨A2, n2, rfl, hd2, hb2⟩; unfold intV)
  obtain ⟨W3, hW3⟩ : ∃ W3, W3 = w2.alloc (.cells #[.bool true, .slice A2 n2 n2] 25) := ⟨_, rfl⟩
  have hb3 : Below W.heap.size W W3 := by rw [hW3]; exact hb2.more _
  have hsum : Blk W3 w2.heap.size 25 #[.bool true, .slice A2 n2 n2] := by rw [hW3]; exact Blk.new _ _ _
  have hd3 : Dg W3 A2 n2 (-1 : Int).natAbs := by rw [hW3]; exact hd2.below (below_new _ _)
  rw [← hW3]
  have hS3 := hS.keep hb3
  have htot3 := htot.keep hb3
  have hout3 := hout.keep hb3
  have htd3 := htW.below hb3
  have hBel3 := Lib.hid (Hbel.out.and hb3)
  have hso : w.heap.size + 1 ≠ w2.heap.size := by have := hb2.size; have := hout.lt; omega
  obtain ⟨gs, hgs⟩ : ∃ gs, w2.heap.size = gs := ⟨_, rfl⟩
  rw [hgs] at hsum hso ⊢
  clear hW3 hb3 hd2 hb2 hS htot hout htW s0 s5' hgs Hce
  have hcells : ∀ X, Below W3.heap.size W3 X → X.cell? ⟨a.s, 2, none⟩ = some (.slice (some ⟨gf, 0, none⟩) 1 cf) ∧ X.cell? ⟨gf, 0, none⟩ = some (.bool false) ∧ X.cell? ⟨gf, 1, none⟩ = some (.slice (some ⟨d, 0, none⟩) 1 1) ∧
      X.cell? ⟨w.heap.size, 0, none⟩ = some (.bool true) ∧ X.cell? ⟨w.heap.size, 1, none⟩ = some (.slice A n n) ∧ X.cell? ⟨gs, 0, none⟩ = some (.bool true) ∧ X.cell? ⟨gs, 1, none⟩ = some (.slice A2 n2 n2) :=
    fun X hX => ⟨(hS3.keep hX).bs.cell 2, (hS3.keep hX).has.2.2.2.2.1.1, (hS3.keep hX).has.2.2.2.2.2.1.1, (htot3.keep hX).cell 0, (htot3.keep hX).cell 1, (hsum.keep hX).cell 0, (hsum.keep hX).cell 1⟩
  have hce := fun X (hX : Below W3.heap.size W3 X) => shCell_0 a 1 (p - 1) (p - 1) p X (hS3.keep hX).fix (hS3.keep hX).tab (by omega) hp hp2
  rw [show dgO 1 p = 1 by unfold dgO; rw [if_neg (by omega)]; rfl] at hce
  have hdd : ∀ X, Below W3.heap.size W3 X → Dg X (some ⟨d, 0, none⟩) 1 (1 : Int).natAbs := fun X hX => dg_one (hS3.keep hX).has.2.2.2.2.2.2.1.1 (hS3.keep hX).has.2.2.2.2.2.2.1.2
  have ht1 : ∀ (B : Option Addr) (m : Nat) X, Below W3.heap.size W3 X → Dg X B m (1 : Int).natAbs → Calls Tryz.prog 32 #[.agg #[.bool false, .slice B m m], .agg #[.bool false, .slice (some ⟨d, 0, none⟩) 1 1]] X (RetInt 1 X) := by
    intro B m X hX hB
    have hl := hB.len
    have : limbs (1 : Int).natAbs = 1 := rfl
    exact times_any B (some ⟨d, 0, none⟩) m 1 1 1 X hB (hdd X hX) (by omega) (by omega)
  have ht2 : ∀ (B : Option Addr) (m : Nat) X, Below W3.heap.size W3 X → Dg X B m (1 : Int).natAbs → Calls Tryz.prog 32 #[.agg #[.bool false, .slice B m m], .agg #[.bool true, .slice A n n]] X (RetInt (-1) X) := by
    intro B m X hX hB
    have hl := hB.len
    have h2 := (htd3.below hX).len
    have : limbs (1 : Int).natAbs = 1 := rfl
    have : limbs (-1 : Int).natAbs = 1 := rfl
    exact times_any B A m n 1 (-1) X hB (htd3.below hX) (by omega) (by omega)
  have hqu : ∀ (B : Option Addr) (m : Nat) X, Below W3.heap.size W3 X → Dg X B m (-1 : Int).natAbs → Calls Tryz.prog 111 #[.agg #[.bool true, .slice B m m], .agg #[.bool true, .slice A2 n2 n2]] X (RetRat 1 X) := by
    intro B m X hX hB
    exact quotient_minus B A2 m n2 X hB (hd3.below hX)
  have Hcells := Lib.hid hcells
  have Hce := Lib.hid hce
  have Ht1 := Lib.hid ht1
  have Ht2 := Lib.hid ht2
  have Hqu := Lib.hid hqu
  obtain ⟨x0, x1, x2, x3, x4, x5, x6⟩ := hcells _ (Below.refl _ _)
  have s4 : W3.cell? ⟨a.s, 4, none⟩ = some (.slice (some ⟨a.ga, 0, none⟩) 2 a.ca) := hS3.bs.cell 4
  have s0 : W3.cell? ⟨a.s, 0, none⟩ = some (.int .i64 2) := hS3.bs.cell 0
  have g0 := hS3.c0
  have Hlate := Lib.hid (fun Y (hY : Below W3.heap.size W3 Y) => show Y.cell? ⟨a.s, 4, none⟩ = some (.slice (some ⟨a.ga, 0, none⟩) 2 a.ca) ∧ Y.cell? ⟨a.s, 0, none⟩ = some (.int .i64 2) ∧ Y.cell? ⟨a.s, 5, none⟩ = some (.slice (some ⟨a.gb, 0, none⟩) 1 a.cb) ∧ Y.cell? ⟨a.ga, 1, none⟩ = some (.int .i64 1) ∧ Y.cell? ⟨a.gb, 0, none⟩ = some (.int .i64 0) from ⟨(hS3.keep hY).bs.cell 4, (hS3.keep hY).bs.cell 0, (hS3.keep hY).bs.cell 5, (hS3.keep hY).c1, (hS3.keep hY).cb⟩)
  have ne1 : a.s ≠ w.heap.size + 1 := by omega
  have ne2 : gf ≠ w.heap.size + 1 := by omega
  have ne3 : w.heap.size + 1 ≠ a.s := by omega
  have ne4 : w.heap.size + 1 ≠ gf := by omega
  have hso2 := Ne.symm hso
  clear hcells hce ht1 ht2 hqu hdd hd3 htd3 hS3 htot3 hsum
  go_upto_region 4 with fail
  refine wp_loop_rounds 3 ?_
  rw [rounds_succ]
  go_upto_region 8 with fail
  go_region_held3 (fun w' => w'.cell? ⟨a.s, 2, none⟩ = some (.slice (some ⟨gf, 0, none⟩) 1 cf) ∧ w'.cell? ⟨gf, 0, none⟩ = some (.bool false) ∧ w'.cell? ⟨gf, 1, none⟩ = some (.slice (some ⟨d, 0, none⟩) 1 1) ∧
      w'.cell? ⟨w.heap.size, 0, none⟩ = some (.bool true) ∧ w'.cell? ⟨w.heap.size, 1, none⟩ = some (.slice A n n) ∧ w'.cell? ⟨gs, 0, none⟩ = some (.bool true) ∧ w'.cell? ⟨gs, 1, none⟩ = some (.slice A2 n2 n2))
    (first | exact ⟨x0, x1, x2, x3, x4, x5, x6⟩ | exact Hcells.out _ (Below.drew (Below.refl _ _)) | exact Hcells.out _ hba' | exact Hcells.out _ hbb' | exact Hcells.out _ hbc' | exact Hcells.out _ hbd' | go_keep)
    (first
    | (go_at_call 110; refine (Hce.out _ (Below.drew (Below.refl _ _))).mono ?_; rintro e wa ⟨A3, n3, rfl, hda, hba⟩; unfold intV; have hba' := Below.and (Below.drew (Below.refl W3.heap.size W3)) hba)
    | (go_at_call_of 32 (Value.agg #[.bool false, .slice A3 n3 n3]); refine (Ht1.out _ _ _ hba' hda).mono ?_; rintro e wb ⟨A4, n4, rfl, hdb, hbb⟩; unfold intV; have hbb' := Below.and hba' hbb)
    | (go_at_call_of 32 (Value.agg #[.bool false, .slice A4 n4 n4]); refine (Ht2.out _ _ _ hbb' hdb).mono ?_; rintro e wc ⟨A5, n5, rfl, hdc, hbc⟩; unfold intV; have hbc' := Below.and hbb' hbc)
    | (go_at_call 111; refine (Hqu.out _ _ _ hbc' hdc).mono ?_; rintro e wd ⟨A6, n6, B6, m6, rfl, hrd, hbd⟩; unfold ratV; have hbd' := Below.and hbc' hbd; have hod := Blk.keep hout3 hbd'; obtain ⟨z0, z1, z2, y0, y1, y2⟩ := hod.three; obtain ⟨x0', x1', x2', x3', x4', x5', x6'⟩ := Hcells.out _ hbd'))
  all_goals
    obtain ⟨wf, hwf⟩ : ∃ wf, wf = ((wd.setCell ⟨w.heap.size + 1, 0, none⟩ (.bool false)).setCell ⟨w.heap.size + 1, 1, none⟩ (.slice A6 n6 n6)).setCell ⟨w.heap.size + 1, 2, none⟩ (.slice B6 m6 m6) := ⟨_, rfl⟩
    have ho : Only (w.heap.size + 1) wd wf := by rw [hwf]; exact (((Only.refl _ wd).setCell 0 _).setCell 1 _).setCell 2 _
    have hb6 : Blk wf (w.heap.size + 1) 68 (ratC 1 A6 n6 B6 m6) := by rw [hwf]; exact Blk.set3 hod _ _ _
    have hr6 : Rg wf A6 n6 B6 m6 1 := ⟨hrd.num.only ho hod ratZ_free, hrd.den.only ho hod ratZ_free⟩
    have hbel6 : Below w.heap.size w wf := (hBel3.out.and hbd').trans (ho.below (by omega))
    obtain ⟨q4, q0, q5, qa, qb⟩ := Hlate.out _ hbd'
    have f4 := (ho.cell (p := ⟨a.s, 4, none⟩) ne1).trans q4
    have f0 := (ho.cell (p := ⟨a.s, 0, none⟩) ne1).trans q0
    have f5 := (ho.cell (p := ⟨a.s, 5, none⟩) ne1).trans q5
    have fa := (ho.cell (p := ⟨a.ga, 1, none⟩) (show a.ga ≠ w.heap.size + 1 by omega)).trans qa
    have fb := (ho.cell (p := ⟨a.gb, 0, none⟩) (show a.gb ≠ w.heap.size + 1 by omega)).trans qb
    have Hwf := Lib.hid hwf
    have Hfin := Lib.hid (show Blk wf (w.heap.size + 1) 68 (ratC 1 A6 n6 B6 m6) ∧ Rg wf A6 n6 B6 m6 1 ∧ Below w.heap.size w wf from ⟨hb6, hr6, hbel6⟩)
    clear hwf ho hb6 hr6 hbel6 hod hrd z0 z1 z2 y0 y1 y2 x0' x1' x2' x3' x4' x5' x6' x0 x1 x2 x3 x4 x5 x6 q4 q0 q5 qa qb s4 s0 g0 hda hba hba' hdb hbb hbb' hdc hbc hbc' hbd hbd' Hcells Hce Ht1 Ht2 Hqu Hlate hout3
    go_upto_region 9 with fail
    rw [← Hwf.out]
    go_wp2_with fail
    rw [rounds_succ]
    go_wp2_with fail
    rw [rounds_succ]
    go_wp2_with fail
    go_ret
    exact ⟨_, _, _, _, _, rfl, Hfin.out.1, Hfin.out.2.1, Hfin.out.2.2⟩
end Go.Proofs.YtemcdnppgnobmaaGreatDoor
