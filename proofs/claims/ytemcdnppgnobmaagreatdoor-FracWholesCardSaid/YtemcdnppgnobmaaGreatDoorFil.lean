/-
  The walk of frac's fill, of a new sheet of one row of three ones.
-/
import Derived.Test.YtemcdnppgnobmaaGreatDoorMod
set_option linter.unusedVariables false
namespace Go.Proofs.YtemcdnppgnobmaaGreatDoor
open Go.RowKit

/-- A sheet's block ahead of its tables, and with them. -/
def fiC (S F U V T R1 R2 : Value) (nx : Int) : Array Value := #[.int .i64 2, S, F, .int .i64 1, U, V, .slice none 0 0, .int .i64 1, T, R1, R2, .int .u64 nx]

/-- The prime. -/
def prN : Nat := 999999999999999989

theorem But.late {g h B : Nat} {w w' w'' : World} (hb : But g h w w') (hk : Below B w' w'') (hB : w.heap.size ≤ B) : But g h w w'' :=
  ⟨hk.os.trans hb.os, hk.tape.trans hb.tape, hk.output.trans hb.output, Nat.le_trans hb.size hk.size, fun k hk1 h1 h2 => (hk.block k (Nat.lt_of_lt_of_le hk1 hB)).trans (hb.block k hk1 h1 h2)⟩

set_option maxRecDepth 100000 in
set_option maxHeartbeats 1600000 in
theorem shFill_ones (s gS cS gz cz p : Nat) (F U V : Value) (A0 A1 A2 : Option Addr) (tt : TypeId) (fr : Nat × Nat) (w : World) (hs : Blk w s 136 (fiC (.slice (some ⟨gS, 0, none⟩) 1 cS) F U V (.slice none 0 0) (.slice none 0 0) (.slice none 0 0) 1000000000000000000))
    (hg : w.heap[1]? = some (.cells gapC tt fr)) (hs1 : s ≠ 1) (hS : Has [(gS, 0, .slice (some ⟨gz, 0, none⟩) 3 cz)] w) (hSs : gS ≠ s) (hzs : gz ≠ s) (ho : Ones gz A0 A1 A2 w) (hpp : p = prN) (hoS : ∀ X, Only s w X → Ones gz A0 A1 A2 X) :
    Calls Tryz.prog 106 #[.pointer (some ⟨s, 0, none⟩)] w (fun e w' => e = .returned (.tuple #[]) ∧ ∃ gt ct t gc cc gr gp cp gi, Blk w' s 136 (fiC (.slice (some ⟨gS, 0, none⟩) 1 cS) F U V (.slice (some ⟨gt, 0, none⟩) 1 ct) (.slice (some ⟨gp, 0, none⟩) 1 cp) (.slice (some ⟨gi, 0, none⟩) 1 1) p) ∧
      Blk w' t 156 #[.slice (some ⟨gc, 0, none⟩) 1 cc, .int .u64 1, .int .u64 p] ∧ Blk w' gr 153 (rowC 1 1 1 p) ∧
      Has [(gc, 0, .slice (some ⟨gr, 0, none⟩) 3 3), (gt, 0, .pointer (some ⟨t, 0, none⟩)), (gp, 0, .int .u64 p), (gi, 0, .int .u64 1)] w' ∧ But s s w w' ∧
      w.heap.size ≤ t ∧ w.heap.size ≤ gr ∧ w.heap.size ≤ gc ∧ w.heap.size ≤ gt ∧ w.heap.size ≤ gp ∧ w.heap.size ≤ gi ∧ gr ≠ t ∧ gc ≠ t ∧ gc ≠ gr ∧ gt ≠ t ∧ gt ≠ gr ∧ gp ≠ t ∧ gp ≠ gr ∧ gi ≠ t ∧ gi ≠ gr) := by
  have hpr := fun (X : World) (hX : X.heap[1]? = some (.cells gapC tt fr)) => primeBelow_at X tt fr 1000000000000000000 11 p hX rfl (by rw [hpp]; decide) (by rw [hpp]; decide) (by omega) (by rw [hpp]; decide)
  have hp : 2 < p := by rw [hpp]; decide
  have hp2 : p < 4611686018427387904 := by rw [hpp]; decide
  clear hpp
  have Hpr := Lib.hid hpr
  have s8 : w.cell? ⟨s, 8, none⟩ = some (.slice none 0 0) := hs.cell 8
  have s3 : w.cell? ⟨s, 3, none⟩ = some (.int .i64 1) := hs.cell 3
  have s11 : w.cell? ⟨s, 11, none⟩ = some (.int .u64 1000000000000000000) := hs.cell 11
  have f11 := hs.free 11
  clear hpr
  go_enter Tryz.func106, Tryz.ntmps106
  go_wp2_with fail
  refine wp_loop_rounds 2 ?_
  rw [rounds_succ]
  go_upto_region 0 with fail
  go_quiet (fail)
  obtain ⟨X0, hX0⟩ : ∃ X0, X0 = w.drewN nq := ⟨_, rfl⟩
  rw [← hX0]
  have b0 : But s s w X0 := by rw [hX0]; exact (But.refl s s w).and (below_drewN (Below.refl _ _) nq)
  have hs0 : Blk X0 s 136 (fiC (.slice (some ⟨gS, 0, none⟩) 1 cS) F U V (.slice none 0 0) (.slice none 0 0) (.slice none 0 0) 1000000000000000000) := by rw [hX0]; exact hs
  have hg0 : X0.heap[1]? = some (.cells gapC tt fr) := by rw [hX0]; exact hg
  have HZ := Lib.hid (show Has [(gS, 0, .slice (some ⟨gz, 0, none⟩) 3 cz)] X0 ∧ ∀ X, Only s X0 X → Ones gz A0 A1 A2 X from ⟨by rw [hX0]; exact hS, fun X hX => hoS X (by rw [hX0] at hX; exact ⟨hX.os, hX.tape, hX.output, hX.size, hX.block⟩)⟩)
  have z8 : X0.cell? ⟨s, 8, none⟩ = some (.slice none 0 0) := hs0.cell 8
  have z11 : X0.cell? ⟨s, 11, none⟩ = some (.int .u64 1000000000000000000) := hs0.cell 11
  have y11 := hs0.free 11
  have lsw := hs.lt
  clear hX0 s8 s3 s11 f11 hs hg hS ho hoS
  go_upto_region 1 with fail
  go_upto_region 2 with (go_at_call 120; refine (Hpr.out _ hg0).mono ?_; rintro e w1 ⟨rfl, rfl⟩)
  have ho1 : Only s w1 (w1.setCell ⟨s, 11, none⟩ (.int .u64 (p : Nat))) := (Only.refl _ w1).setCell 11 _
  have hs1' := hs0.store 11 (.int .u64 (p : Nat))
  obtain ⟨X1, hX1⟩ : ∃ X1, X1 = w1.setCell ⟨s, 11, none⟩ (.int .u64 (p : Nat)) := ⟨_, rfl⟩
  rw [← hX1] at ho1 hs1' ⊢
  have b1 := b0.only ho1 (.inl rfl)
  have lX1 := b1.size
  have hs2 : Blk X1 s 136 (fiC (.slice (some ⟨gS, 0, none⟩) 1 cS) F U V (.slice none 0 0) (.slice none 0 0) (.slice none 0 0) p) := hs1'
  have hO2 := HZ.out.2 X1 ho1
  have hS2 : Has [(s, 1, .slice (some ⟨gS, 0, none⟩) 1 cS), (gS, 0, .slice (some ⟨gz, 0, none⟩) 3 cz), (s, 6, .slice none 0 0)] X1 :=
    ⟨⟨hs2.cell 1, hs2.lt⟩, (HZ.out.1.only ho1 (by intro c hc; rw [List.mem_singleton.1 hc]; exact hSs)).1, ⟨hs2.cell 6, hs2.lt⟩, trivial⟩
  have Hmo := Lib.hid (shModulo_ones s gS cS gz cz p A0 A1 A2 X1 hS2 hO2 hp)
  have u11 : X1.cell? ⟨s, 11, none⟩ = some (.int .u64 p) := hs2.cell 11
  clear hX1 ho1 hs1' z8 z11 y11 hs0 hg0 HZ b0 hO2 hS2 Hpr
  go_upto_region 3 with (go_at_call 121; refine Hmo.out.mono ?_; rintro e w2 ⟨t, gc, cc, gr, rfl, ht2, hr2, hG2, hb2, lt, lr, lc, n1, n2, n3⟩)
  have hs3 := hs2.keep hb2
  have b2 := b1.and hb2
  have v8 : w2.cell? ⟨s, 8, none⟩ = some (.slice none 0 0) := hs3.cell 8
  have y8 := hs3.free 8
  obtain ⟨i0, hi, hz0, hz1, hz2⟩ := info_parts info_tabp
  have hnil := World.ownsRow_nil w2 w2.heap.size 150 1
  have hsz4 : w2.heap.size ≤ (w2.alloc (.cells #[.pointer (some ⟨t, 0, none⟩)] 150)).heap.size := by rw [World.size_alloc]; omega
  clear Hmo u11 hs2 b1
  go_upto_region 5 with (at_builtin; refine wpList_append_lies _ rfl _ _ 131 rfl w2.heap.size 150 i0 (.pointer none) 1 8 Tryz.underlying131 hi hz0 hz1 hz2 rfl (by decide) _ 0 [] rfl (hnil.alloc _) ⟨w2.heap.size, 0, none⟩ 1 1 [.pointer (some ⟨t, 0, none⟩)] rfl rfl ?e1 ?e2 ?e3 ?e4 ?e5 ?e6 (w2.heap.size + 1) (size_new' _ _) ?_)
  case e1 => exact cell_one_new _ _ _
  case e2 => exact one_cell _ rfl
  case e3 => exact Nat.one_pos
  case e4 => unfold maxLen; omega
  case e5 => omega
  case e6 => exact hsz4
  intro gt ct w4 hown4 hgrow4 hat4 hlt4
  have hb4 := own_below hnil (Nat.le_refl _) hgrow4
  have lg4 := (own_lt hown4).2
  have hc4 := own_cell hown4 0 (by omega)
  have hs4 := hs3.keep hb4
  have w8 : w4.cell? ⟨s, 8, none⟩ = some (.slice none 0 0) := hs4.cell 8
  have x8 := hs4.free 8
  have ho4 : Only s w4 (w4.setCell ⟨s, 8, none⟩ (.slice (some ⟨gt, 0, none⟩) 1 ct)) := (Only.refl _ w4).setCell 8 _
  have hs4' := hs4.store 8 (.slice (some ⟨gt, 0, none⟩) 1 ct)
  obtain ⟨X4, hX4⟩ : ∃ X4, X4 = w4.setCell ⟨s, 8, none⟩ (.slice (some ⟨gt, 0, none⟩) 1 ct) := ⟨_, rfl⟩
  rw [← hX4] at ho4 hs4'
  have hs5 : Blk X4 s 136 (fiC (.slice (some ⟨gS, 0, none⟩) 1 cS) F U V (.slice (some ⟨gt, 0, none⟩) 1 ct) (.slice none 0 0) (.slice none 0 0) p) := hs4'
  have lw := b2.size
  have lw2 := b2.size
  have hsw : s < w.heap.size := lsw
  have nst : s ≠ t := by omega
  have nsr : s ≠ gr := by omega
  have nsc : s ≠ gc := by omega
  have nsg : s ≠ gt := by omega
  have ht5 := ho4.blk (Ne.symm nst) (ht2.keep hb4)
  have hr5 := ho4.blk (Ne.symm nsr) (hr2.keep hb4)
  have hG5 := ((hG2.keep hb4).only ho4 (by intro c hc; rw [List.mem_singleton.1 hc]; exact Ne.symm nsc)).1
  have hg5 : X4.cell? ⟨gt, 0, none⟩ = some (.pointer (some ⟨t, 0, none⟩)) := (ho4.cell (p := ⟨gt, 0, none⟩) (Ne.symm nsg)).trans hc4
  have lg5 : gt < X4.heap.size := by rw [ho4.size]; exact hlt4
  have b5 := (b2.and hb4).only ho4 (.inl rfl)
  have HX4 := Lib.hid hX4
  have ngt1 : gt ≠ t := by have := ht2.lt; omega
  have ngt2 : gt ≠ gr := by have := hr2.lt; omega
  clear hX4 ho4 hs4' hs4 hc4 hown4 hgrow4 hb4 hs3 ht2 hr2 hG2 hb2 hnil hsz4 v8 y8 hat4 b2
  go_wp2_with fail
  rw [rounds_succ]
  rw [← HX4.out]
  clear w8 x8 HX4
  have c8 : X4.cell? ⟨s, 8, none⟩ = some (.slice (some ⟨gt, 0, none⟩) 1 ct) := hs5.cell 8
  have c3 : X4.cell? ⟨s, 3, none⟩ = some (.int .i64 1) := hs5.cell 3
  go_upto_region 0 with fail
  go_quiet (fail)
  obtain ⟨X5, hX5⟩ : ∃ X5, X5 = X4.drewN nq := ⟨_, rfl⟩
  have hbd : Below X4.heap.size X4 X5 := by rw [hX5]; exact below_drewN (Below.refl _ _) nq
  rw [← hX5]
  have hs6 := hs5.keep hbd
  have ht6 := ht5.keep hbd
  have hr6 := hr5.keep hbd
  have hG6 := Has.keep (L := [(gc, 0, .slice (some ⟨gr, 0, none⟩) 3 3), (gt, 0, .pointer (some ⟨t, 0, none⟩))]) ⟨hG5, ⟨hg5, lg5⟩, trivial⟩ hbd
  have b6 := b5.and hbd
  clear hX5 hbd hs5 ht5 hr5 hG5 hg5 lg5 b5 c8 c3
  have hmk : ∀ W : World, (Instr.makeSlice 132 (.int .i64 0) (.int .i64 1)).run Tryz.prog W = .ok (.slice (some ⟨W.heap.size, 0, none⟩) 0 1) (W.alloc (.cells #[.int .u64 0] 81)) := fun W => run_makeInts0 (P := Tryz.prog) Tryz.underlying132 info_u64 (by omega) .i64 .i64 1 (by omega) W
  have d3 : X5.cell? ⟨s, 3, none⟩ = some (.int .i64 1) := hs6.cell 3
  have d8 : X5.cell? ⟨s, 8, none⟩ = some (.slice (some ⟨gt, 0, none⟩) 1 ct) := hs6.cell 8
  go_upto_region 5 with fail
  go_upto_region 6 with fail
  obtain ⟨X6, hX6⟩ : ∃ X6, X6 = X5.alloc (.cells #[.int .u64 0] 81) := ⟨_, rfl⟩
  have hbd : Below X5.heap.size X5 X6 := by rw [hX6]; exact below_new _ _
  have hown6 : X6.ownsRow X5.heap.size 81 1 (.slice (some ⟨X5.heap.size, 0, none⟩) 0 1) 0 [] := by
    rw [hX6]
    exact World.ownsRow_made (base := X5.heap.size) (e := 81) (size := 1) X5 #[.int .u64 0] 1 (Nat.le_refl _) (by unfold maxLen; omega) rfl
  rw [← hX6]
  have hs7 := hs6.keep hbd
  have ht7 := ht6.keep hbd
  have hr7 := hr6.keep hbd
  have hG7 := hG6.keep hbd
  have b7 := b6.and hbd
  have lX5 := b6.size
  have lX6 : X5.heap.size ≤ X6.heap.size := hbd.size
  have lt5 := ht6.lt
  have lr5 := hr6.lt
  have lc5 := hG6.1.2
  have lg5 := hG6.2.1.2
  have ls5 := hs6.lt
  clear hX6 hbd hs6 ht6 hr6 hG6 b6 d3 d8
  have e8 : X6.cell? ⟨s, 8, none⟩ = some (.slice (some ⟨gt, 0, none⟩) 1 ct) := hs7.cell 8
  have eg := hG7.2.1.1
  have et : X6.cell? ⟨t, 2, none⟩ = some (.int .u64 p) := ht7.cell 2
  obtain ⟨j0, hj, hj0, hj1, hj2⟩ := info_parts info_u64
  have hsz8 : X5.heap.size ≤ (X6.alloc (.cells #[.int .u64 p] 81)).heap.size := by rw [World.size_alloc]; omega
  go_upto_region 7 with fail
  refine wp_loop_rounds 2 ?_
  rw [rounds_succ]
  go_upto_region 10 with (at_builtin; refine wpList_append_lies _ rfl _ _ 132 rfl X5.heap.size 81 j0 (.int .u64 0) 1 8 Tryz.underlying132 hj hj0 hj1 hj2 rfl (by decide) _ 0 [] rfl (hown6.alloc _) ⟨X6.heap.size, 0, none⟩ 1 1 [.int .u64 p] rfl rfl ?f1 ?f2 ?f3 ?f4 ?f5 ?f6 (X6.heap.size + 1) (size_new' _ _) ?_)
  case f1 => exact cell_one_new _ _ _
  case f2 => exact one_cell _ rfl
  case f3 => exact Nat.one_pos
  case f4 => unfold maxLen; omega
  case f5 => omega
  case f6 => exact hsz8
  intro gp cp w8 hown8 hgrow8 hat8 hlt8
  have hb8 := own_below hown6 lX6 hgrow8
  have lp8 := (own_lt hown8).2
  have hp8 := own_cell hown8 0 (by omega)
  have hs8 := hs7.below hb8 ls5
  have ht8 := ht7.below hb8 lt5
  have hr8 := hr7.below hb8 lr5
  have hc8 := (hb8.cell (p := ⟨gc, 0, none⟩) lc5).trans hG7.1.1
  have hg8 := (hb8.cell (p := ⟨gt, 0, none⟩) lg5).trans hG7.2.1.1
  have b8 := b7.late hb8 lX5
  have Hnr := Lib.hid (newRadix_one gp cp p w8 ⟨⟨hp8, hlt8⟩, trivial⟩ hp hp2)
  have lg8 : gt < w8.heap.size := Nat.lt_of_lt_of_le lg5 (Nat.le_trans lX6 hb8.size)
  have lc8 : gc < w8.heap.size := Nat.lt_of_lt_of_le lc5 (Nat.le_trans lX6 hb8.size)
  have lX8 : X5.heap.size ≤ w8.heap.size := Nat.le_trans lX6 hb8.size
  have m8 : w8.cell? ⟨s, 9, none⟩ = some (.slice none 0 0) := hs8.cell 9
  clear hown6 hown8 hgrow8 hs7 ht7 hr7 hG7 b7 e8 eg et hsz8 hat8 hb8
  go_wp2_with fail
  rw [rounds_succ]
  go_upto_region 11 with fail
  go_wp2_with fail
  refine Hnr.out.mono ?_
  rintro e w9 ⟨gi, rfl, hgi, hb9, hgi'⟩
  have hs9 := hs8.keep hb9
  have li9 : w8.heap.size ≤ gi := hgi'
  have k9 : w9.cell? ⟨s, 9, none⟩ = some (.slice none 0 0) := hs9.cell 9
  have k10 : w9.cell? ⟨s, 10, none⟩ = some (.slice none 0 0) := hs9.cell 10
  have y9 := hs9.free 9
  have y10 := hs9.free 10
  have ho9 : Only s w9 ((w9.setCell ⟨s, 9, none⟩ (.slice (some ⟨gp, 0, none⟩) 1 cp)).setCell ⟨s, 10, none⟩ (.slice (some ⟨gi, 0, none⟩) 1 1)) := ((Only.refl _ w9).setCell 9 _).setCell 10 _
  have hs10 := (hs9.store 9 (.slice (some ⟨gp, 0, none⟩) 1 cp)).store 10 (.slice (some ⟨gi, 0, none⟩) 1 1)
  obtain ⟨wf, hwf⟩ : ∃ wf, wf = (w9.setCell ⟨s, 9, none⟩ (.slice (some ⟨gp, 0, none⟩) 1 cp)).setCell ⟨s, 10, none⟩ (.slice (some ⟨gi, 0, none⟩) 1 1) := ⟨_, rfl⟩
  rw [← hwf] at ho9 hs10
  have hfin : Has [(gc, 0, .slice (some ⟨gr, 0, none⟩) 3 3), (gt, 0, .pointer (some ⟨t, 0, none⟩)), (gp, 0, .int .u64 p), (gi, 0, .int .u64 1)] wf :=
    Has.only (X := w9) ⟨(Has.keep (L := [(gc, 0, .slice (some ⟨gr, 0, none⟩) 3 3)]) ⟨⟨hc8, lc8⟩, trivial⟩ hb9).1, (Has.keep (L := [(gt, 0, .pointer (some ⟨t, 0, none⟩))]) ⟨⟨hg8, lg8⟩, trivial⟩ hb9).1, (Has.keep (L := [(gp, 0, .int .u64 p)]) ⟨⟨hp8, hlt8⟩, trivial⟩ hb9).1, hgi.1, trivial⟩ ho9 (by
      intro c hc
      simp only [List.mem_cons, List.not_mem_nil, or_false] at hc
      rcases hc with rfl | rfl | rfl | rfl <;> simp <;> omega)
  have Hfin := Lib.hid hfin
  have Hs10 := Lib.hid (show Blk wf s 136 (fiC (.slice (some ⟨gS, 0, none⟩) 1 cS) F U V (.slice (some ⟨gt, 0, none⟩) 1 ct) (.slice (some ⟨gp, 0, none⟩) 1 cp) (.slice (some ⟨gi, 0, none⟩) 1 1) p) from hs10)
  have Ht10 := Lib.hid (ho9.blk (Ne.symm nst) (ht8.keep hb9))
  have Hr10 := Lib.hid (ho9.blk (Ne.symm nsr) (hr8.keep hb9))
  have Hb10 := Lib.hid ((b8.and hb9).only ho9 (.inl rfl))
  have Hwf := Lib.hid hwf
  clear hwf ho9 hs10 hfin hs9 hb9 hgi hs8 ht8 hr8 hc8 hg8 hp8 b8 Hnr m8
  go_wp2_with fail
  rw [← Hwf.out]
  go_end0
  exact ⟨rfl, gt, ct, t, gc, cc, gr, gp, cp, gi, Hs10.out, Ht10.out, Hr10.out, Hfin.out, Hb10.out, by omega, by omega, by omega, by omega, by omega, by omega, n1, n2, n3, ngt1, ngt2, by omega, by omega, by omega, by omega⟩
end Go.Proofs.YtemcdnppgnobmaaGreatDoor
