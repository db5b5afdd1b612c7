/-
  The walks of frac's sheet of one row of three cells, modulo one prime: zero, residues, sign, cell, scale.
-/
import Derived.Test.YtemcdnppgnobmaaGreatDoorRsg
set_option linter.unusedVariables false
namespace Go.Proofs.YtemcdnppgnobmaaGreatDoor
open Go.RowKit

/-- Where the parts of a sheet lie. -/
structure Sa where
  s : Nat
  ga : Nat
  gb : Nat
  gt : Nat
  t : Nat
  gc : Nat
  gr : Nat
  gp : Nat
  gi : Nat
  ca : Nat
  cb : Nat
  ct : Nat
  cc : Nat
  cr : Nat
  cp : Nat
  ci : Nat

/-- The cells of the one table. -/
def tabL (a : Sa) (v0 v1 v2 p : Nat) : List (Nat × Nat × Value) :=
  [(a.t, 0, .slice (some ⟨a.gc, 0, none⟩) 1 a.cc), (a.t, 1, .int .u64 1), (a.t, 2, .int .u64 p), (a.gc, 0, .slice (some ⟨a.gr, 0, none⟩) 3 a.cr),
   (a.gr, 0, .int .u64 v0), (a.gr, 1, .int .u64 p), (a.gr, 2, .int .u64 v1), (a.gr, 3, .int .u64 p), (a.gr, 4, .int .u64 v2), (a.gr, 5, .int .u64 p)]
/-- The cells of the sheet that don't turn. -/
def fixL (a : Sa) (p : Nat) : List (Nat × Nat × Value) :=
  [(a.s, 0, .int .i64 2), (a.s, 4, .slice (some ⟨a.ga, 0, none⟩) 2 a.ca), (a.s, 5, .slice (some ⟨a.gb, 0, none⟩) 1 a.cb), (a.s, 8, .slice (some ⟨a.gt, 0, none⟩) 1 a.ct),
   (a.s, 9, .slice (some ⟨a.gp, 0, none⟩) 1 a.cp), (a.s, 10, .slice (some ⟨a.gi, 0, none⟩) 1 a.ci), (a.gt, 0, .pointer (some ⟨a.t, 0, none⟩)), (a.gp, 0, .int .u64 p), (a.gi, 0, .int .u64 1)]

theorem info_u64 : (Tryz.prog.info? 81).map (fun i => (i.zero, i.size, i.bytes)) = some (some (.int .u64 0), 1, 8) := by kernel_rfl

theorem alloc_size_le {n : Nat} (w : World) (o : Obj) (h : n ≤ w.heap.size) : n ≤ (w.alloc o).heap.size := by simp; omega

theorem resZero_pos (v p : Nat) (X : World) (h : 0 < v) : Calls Tryz.prog 131 #[.agg #[.int .u64 v, .int .u64 p]] X (fun e w' => e = .returned (.bool false) ∧ Below X.heap.size X w') := by
  have h1 := resZero_any v p X
  rw [show ((v : Int) == 0) = false by rw [beq_eq_false_iff_ne]; omega] at h1
  exact h1

set_option maxRecDepth 100000 in
theorem shZero_0 (a : Sa) (v0 v1 v2 p : Nat) (w : World) (h : Has (fixL a p) w) (k : Has (tabL a v0 v1 v2 p) w) (hv : 0 < v0) :
    Calls Tryz.prog 123 #[.pointer (some ⟨a.s, 0, none⟩), .int .i64 0, .int .i64 0] w (fun e w' => e = .returned (.bool false) ∧ Below w.heap.size w w') := by
  obtain ⟨⟨t0, _⟩, ⟨t1, _⟩, ⟨t2, _⟩, ⟨k0, _⟩, ⟨r0, _⟩, ⟨r1, _⟩, ⟨r2, _⟩, ⟨r3, _⟩, ⟨r4, _⟩, ⟨r5, _⟩, _⟩ := k
  obtain ⟨⟨s0, _⟩, ⟨s4, _⟩, ⟨s5, _⟩, ⟨s8, _⟩, ⟨s9, _⟩, ⟨s10, _⟩, ⟨p0, _⟩, ⟨q0, _⟩, ⟨i0, _⟩, _⟩ := h
  have Hz := Lib.hid (fun X => resZero_pos v0 p X hv)
  clear hv
  go_enter Tryz.func123, Tryz.ntmps123
  go_wp2_with fail
  refine wp_loop_rounds 1 ?_
  rw [rounds_succ]
  go_wp2_with fail
  refine (Hz.out _).mono ?_
  rintro e w1 ⟨rfl, hb1⟩
  go_wp2_with fail
  go_ret
  exact ⟨rfl, hb1⟩

set_option maxRecDepth 100000 in
theorem shZero_1 (a : Sa) (v0 v1 v2 p : Nat) (w : World) (h : Has (fixL a p) w) (k : Has (tabL a v0 v1 v2 p) w) (hv : 0 < v1) :
    Calls Tryz.prog 123 #[.pointer (some ⟨a.s, 0, none⟩), .int .i64 0, .int .i64 1] w (fun e w' => e = .returned (.bool false) ∧ Below w.heap.size w w') := by
  obtain ⟨⟨t0, _⟩, ⟨t1, _⟩, ⟨t2, _⟩, ⟨k0, _⟩, ⟨r0, _⟩, ⟨r1, _⟩, ⟨r2, _⟩, ⟨r3, _⟩, ⟨r4, _⟩, ⟨r5, _⟩, _⟩ := k
  obtain ⟨⟨s0, _⟩, ⟨s4, _⟩, ⟨s5, _⟩, ⟨s8, _⟩, ⟨s9, _⟩, ⟨s10, _⟩, ⟨p0, _⟩, ⟨q0, _⟩, ⟨i0, _⟩, _⟩ := h
  have Hz := Lib.hid (fun X => resZero_pos v1 p X hv)
  clear hv
  go_enter Tryz.func123, Tryz.ntmps123
  go_wp2_with fail
  refine wp_loop_rounds 1 ?_
  rw [rounds_succ]
  go_wp2_with fail
  refine (Hz.out _).mono ?_
  rintro e w1 ⟨rfl, hb1⟩
  go_wp2_with fail
  go_ret
  exact ⟨rfl, hb1⟩

set_option maxRecDepth 100000 in
theorem shZero_2 (a : Sa) (v0 v1 v2 p : Nat) (w : World) (h : Has (fixL a p) w) (k : Has (tabL a v0 v1 v2 p) w) (hv : 0 < v2) :
    Calls Tryz.prog 123 #[.pointer (some ⟨a.s, 0, none⟩), .int .i64 0, .int .i64 2] w (fun e w' => e = .returned (.bool false) ∧ Below w.heap.size w w') := by
  obtain ⟨⟨t0, _⟩, ⟨t1, _⟩, ⟨t2, _⟩, ⟨k0, _⟩, ⟨r0, _⟩, ⟨r1, _⟩, ⟨r2, _⟩, ⟨r3, _⟩, ⟨r4, _⟩, ⟨r5, _⟩, _⟩ := k
  obtain ⟨⟨s0, _⟩, ⟨s4, _⟩, ⟨s5, _⟩, ⟨s8, _⟩, ⟨s9, _⟩, ⟨s10, _⟩, ⟨p0, _⟩, ⟨q0, _⟩, ⟨i0, _⟩, _⟩ := h
  have Hz := Lib.hid (fun X => resZero_pos v2 p X hv)
  clear hv
  go_enter Tryz.func123, Tryz.ntmps123
  go_wp2_with fail
  refine wp_loop_rounds 1 ?_
  rw [rounds_succ]
  go_wp2_with fail
  refine (Hz.out _).mono ?_
  rintro e w1 ⟨rfl, hb1⟩
  go_wp2_with fail
  go_ret
  exact ⟨rfl, hb1⟩

set_option maxRecDepth 100000 in
set_option maxHeartbeats 1600000 in
theorem shResidues_0 (a : Sa) (v0 v1 v2 p : Nat) (w : World) (h : Has (fixL a p) w) (k : Has (tabL a v0 v1 v2 p) w) (hv : v0 < p) (hp : 2 < p) (hp2 : p < 4611686018427387904) :
    Calls Tryz.prog 128 #[.pointer (some ⟨a.s, 0, none⟩), .int .i64 0, .int .i64 0] w (fun e w' => ∃ g cap, e = .returned (.slice (some ⟨g, 0, none⟩) 1 cap) ∧ Has [(g, 0, .int .u64 v0)] w' ∧ Below w.heap.size w w') := by
  obtain ⟨i0, hi, hz0, hz1, hz2⟩ := info_parts info_u64
  have hmk : ∀ W : World, (Instr.makeSlice 132 (.int .i64 0) (.int .i64 1)).run Tryz.prog W = .ok (.slice (some ⟨W.heap.size, 0, none⟩) 0 1) (W.alloc (.cells #[.int .u64 0] 81)) := fun W => run_makeInts0 (P := Tryz.prog) Tryz.underlying132 info_u64 (by omega) .i64 .i64 1 (by omega) W
  obtain ⟨W, hW⟩ : ∃ W, W = w.alloc (.cells #[.int .u64 0] 81) := ⟨_, rfl⟩
  have hbel : Below w.heap.size w W := by rw [hW]; exact below_new _ _
  have hown : W.ownsRow w.heap.size 81 1 (.slice (some ⟨w.heap.size, 0, none⟩) 0 1) 0 [] := by
    rw [hW]
    exact World.ownsRow_made (base := w.heap.size) (e := 81) (size := 1) w #[.int .u64 0] 1 (Nat.le_refl _) (by unfold maxLen; omega) rfl
  have hfx := h.keep hbel
  have hT : St w (tabL a v0 v1 v2 p) [(w.heap.size, 81, 1, .slice (some ⟨w.heap.size, 0, none⟩) 0 1, 0, [])] W := ⟨k.keep hbel, ⟨⟨hown, hbel.size⟩, trivial⟩, hbel⟩
  have hcells : ∀ X, Has (tabL a v0 v1 v2 p) X →
      X.cell? ⟨a.t, 0, none⟩ = some (.slice (some ⟨a.gc, 0, none⟩) 1 a.cc) ∧ X.cell? ⟨a.t, 1, none⟩ = some (.int .u64 1) ∧ X.cell? ⟨a.t, 2, none⟩ = some (.int .u64 p) ∧ X.cell? ⟨a.gc, 0, none⟩ = some (.slice (some ⟨a.gr, 0, none⟩) 3 a.cr) ∧
      X.cell? ⟨a.gr, 0, none⟩ = some (.int .u64 v0) ∧ X.cell? ⟨a.gr, 1, none⟩ = some (.int .u64 p) :=
    fun X hX => ⟨hX.1.1, hX.2.1.1, hX.2.2.1.1, hX.2.2.2.1.1, hX.2.2.2.2.1.1, hX.2.2.2.2.2.1.1⟩
  have hti := fun X => resTimes_any v0 1 p p X (by unfold two64; omega) (by unfold two64; omega) (by unfold two64; omega) (by omega) (by unfold two64; omega)
  rw [Nat.mul_one, Nat.mod_eq_of_lt hv] at hti
  replace hti : ∀ X, Calls Tryz.prog 137 #[.agg #[.int .u64 v0, .int .u64 p], .agg #[.int .u64 1, .int .u64 p]] X (RetRes v0 p X) := hti
  have hfd := run_field_res
  have Hti := Lib.hid hti
  have Hcells := Lib.hid hcells
  have HW := Lib.hid hW
  obtain ⟨t0, t1, t2, k0, r0, r1⟩ := hcells _ hT.has
  obtain ⟨⟨s0', _⟩, ⟨s4', _⟩, ⟨s5', _⟩, ⟨s8', _⟩, _⟩ := h
  obtain ⟨⟨s0, _⟩, ⟨s4, _⟩, ⟨s5, _⟩, ⟨s8, _⟩, ⟨s9, _⟩, ⟨s10, _⟩, ⟨p0, _⟩, _⟩ := hfx
  have Hk := Lib.hid k
  clear hti hcells hW k hbel hown
  have h63 : 0 + 1 ≤ maxLen := by unfold maxLen; omega
  have h47 : (0 + 1) * 8 ≤ 140737488355328 := by omega
  go_enter Tryz.func128, Tryz.ntmps128
  go_upto_region 2 with fail
  rw [← HW.out]
  clear HW
  go_wp2_with fail
  refine wp_loop_rounds 2 ?_
  rw [rounds_succ]
  go_upto_region 5 with fail
  go_region_held3 (fun w' => w'.cell? ⟨a.t, 0, none⟩ = some (.slice (some ⟨a.gc, 0, none⟩) 1 a.cc) ∧ w'.cell? ⟨a.t, 1, none⟩ = some (.int .u64 1) ∧ w'.cell? ⟨a.t, 2, none⟩ = some (.int .u64 p) ∧ w'.cell? ⟨a.gc, 0, none⟩ = some (.slice (some ⟨a.gr, 0, none⟩) 3 a.cr) ∧
    w'.cell? ⟨a.gr, 0, none⟩ = some (.int .u64 v0) ∧ w'.cell? ⟨a.gr, 1, none⟩ = some (.int .u64 p))
    (first | exact Hcells.out _ hT.has | exact Hcells.out _ (St.drew hT).has | exact Hcells.out _ hT2.has | exact Hcells.out _ (St.new hT2 _).has | exact Hcells.out _ hT3)
    (first
    | (go_at_call 137; refine (Hti.out _).mono ?_; rintro e w2 ⟨rfl, hb2⟩; unfold resV; have hT2 := St.keep (St.drew hT) hb2)
    | (refine step_append_lies _ rfl _ _ 132 rfl w.heap.size 81 i0 (.int .u64 0) 1 8 Tryz.underlying132 hi hz0 hz1 hz2 rfl (Nat.succ_pos 0) _ 0 [] rfl (World.ownsRow.alloc hT2.rows.1.1 _) ⟨w2.heap.size, 0, none⟩ 1 1 [.int .u64 v0] rfl rfl (cell_one_new _ _ _) (one_cell _ rfl) Nat.one_pos h63 h47 (alloc_size_le _ _ hT2.rows.1.2) (w2.heap.size + 1) (size_new' _ _) ?_; intro g cap w3 hown3 hgrow hat hlt3; have hb3 := own_below hT2.rows.1.1 hT2.rows.1.2 hgrow; have hb4 := Below.trans hT2.bel hb3; have hT3 := Has.keep Hk.out hb4; have Hfin := Lib.hid (own_cell hown3 0 Nat.one_pos)))
  all_goals
    clear hT hT2 hT3 t0 t1 t2 k0 r0 r1
    go_wp2_with fail
    rw [rounds_succ]
    go_wp2_with fail
    go_ret
    exact ⟨_, _, rfl, ⟨⟨Hfin.out, hlt3⟩, trivial⟩, hb4⟩

set_option maxRecDepth 100000 in
set_option maxHeartbeats 1600000 in
theorem shResidues_1 (a : Sa) (v0 v1 v2 p : Nat) (w : World) (h : Has (fixL a p) w) (k : Has (tabL a v0 v1 v2 p) w) (hv : v1 < p) (hp : 2 < p) (hp2 : p < 4611686018427387904) :
    Calls Tryz.prog 128 #[.pointer (some ⟨a.s, 0, none⟩), .int .i64 0, .int .i64 1] w (fun e w' => ∃ g cap, e = .returned (.slice (some ⟨g, 0, none⟩) 1 cap) ∧ Has [(g, 0, .int .u64 v1)] w' ∧ Below w.heap.size w w') := by
  obtain ⟨i0, hi, hz0, hz1, hz2⟩ := info_parts info_u64
  have hmk : ∀ W : World, (Instr.makeSlice 132 (.int .i64 0) (.int .i64 1)).run Tryz.prog W = .ok (.slice (some ⟨W.heap.size, 0, none⟩) 0 1) (W.alloc (.cells #[.int .u64 0] 81)) := fun W => run_makeInts0 (P := Tryz.prog) Tryz.underlying132 info_u64 (by omega) .i64 .i64 1 (by omega) W
  obtain ⟨W, hW⟩ : ∃ W, W = w.alloc (.cells #[.int .u64 0] 81) := ⟨_, rfl⟩
  have hbel : Below w.heap.size w W := by rw [hW]; exact below_new _ _
  have hown : W.ownsRow w.heap.size 81 1 (.slice (some ⟨w.heap.size, 0, none⟩) 0 1) 0 [] := by
    rw [hW]
    exact World.ownsRow_made (base := w.heap.size) (e := 81) (size := 1) w #[.int .u64 0] 1 (Nat.le_refl _) (by unfold maxLen; omega) rfl
  have hfx := h.keep hbel
  have hT : St w (tabL a v0 v1 v2 p) [(w.heap.size, 81, 1, .slice (some ⟨w.heap.size, 0, none⟩) 0 1, 0, [])] W := ⟨k.keep hbel, ⟨⟨hown, hbel.size⟩, trivial⟩, hbel⟩
  have hcells : ∀ X, Has (tabL a v0 v1 v2 p) X →
      X.cell? ⟨a.t, 0, none⟩ = some (.slice (some ⟨a.gc, 0, none⟩) 1 a.cc) ∧ X.cell? ⟨a.t, 1, none⟩ = some (.int .u64 1) ∧ X.cell? ⟨a.t, 2, none⟩ = some (.int .u64 p) ∧ X.cell? ⟨a.gc, 0, none⟩ = some (.slice (some ⟨a.gr, 0, none⟩) 3 a.cr) ∧
      X.cell? ⟨a.gr, 2, none⟩ = some (.int .u64 v1) ∧ X.cell? ⟨a.gr, 3, none⟩ = some (.int .u64 p) :=
    fun X hX => ⟨hX.1.1, hX.2.1.1, hX.2.2.1.1, hX.2.2.2.1.1, hX.2.2.2.2.2.2.1.1, hX.2.2.2.2.2.2.2.1.1⟩
  have hti := fun X => resTimes_any v1 1 p p X (by unfold two64; omega) (by unfold two64; omega) (by unfold two64; omega) (by omega) (by unfold two64; omega)
  rw [Nat.mul_one, Nat.mod_eq_of_lt hv] at hti
  replace hti : ∀ X, Calls Tryz.prog 137 #[.agg #[.int .u64 v1, .int .u64 p], .agg #[.int .u64 1, .int .u64 p]] X (RetRes v1 p X) := hti
  have hfd := run_field_res
  have Hti := Lib.hid hti
  have Hcells := Lib.hid hcells
  have HW := Lib.hid hW
  obtain ⟨t0, t1, t2, k0, r0, r1⟩ := hcells _ hT.has
  obtain ⟨⟨s0', _⟩, ⟨s4', _⟩, ⟨s5', _⟩, ⟨s8', _⟩, _⟩ := h
  obtain ⟨⟨s0, _⟩, ⟨s4, _⟩, ⟨s5, _⟩, ⟨s8, _⟩, ⟨s9, _⟩, ⟨s10, _⟩, ⟨p0, _⟩, _⟩ := hfx
  have Hk := Lib.hid k
  clear hti hcells hW k hbel hown
  have h63 : 0 + 1 ≤ maxLen := by unfold maxLen; omega
  have h47 : (0 + 1) * 8 ≤ 140737488355328 := by omega
  go_enter Tryz.func128, Tryz.ntmps128
  go_upto_region 2 with fail
  rw [← HW.out]
  clear HW
  go_wp2_with fail
  refine wp_loop_rounds 2 ?_
  rw [rounds_succ]
  go_upto_region 5 with fail
  go_region_held3 (fun w' => w'.cell? ⟨a.t, 0, none⟩ = some (.slice (some ⟨a.gc, 0, none⟩) 1 a.cc) ∧ w'.cell? ⟨a.t, 1, none⟩ = some (.int .u64 1) ∧ w'.cell? ⟨a.t, 2, none⟩ = some (.int .u64 p) ∧ w'.cell? ⟨a.gc, 0, none⟩ = some (.slice (some ⟨a.gr, 0, none⟩) 3 a.cr) ∧
    w'.cell? ⟨a.gr, 2, none⟩ = some (.int .u64 v1) ∧ w'.cell? ⟨a.gr, 3, none⟩ = some (.int .u64 p))
    (first | exact Hcells.out _ hT.has | exact Hcells.out _ (St.drew hT).has | exact Hcells.out _ hT2.has | exact Hcells.out _ (St.new hT2 _).has | exact Hcells.out _ hT3)
    (first
    | (go_at_call 137; refine (Hti.out _).mono ?_; rintro e w2 ⟨rfl, hb2⟩; unfold resV; have hT2 := St.keep (St.drew hT) hb2)
    | (refine step_append_lies _ rfl _ _ 132 rfl w.heap.size 81 i0 (.int .u64 0) 1 8 Tryz.underlying132 hi hz0 hz1 hz2 rfl (Nat.succ_pos 0) _ 0 [] rfl (World.ownsRow.alloc hT2.rows.1.1 _) ⟨w2.heap.size, 0, none⟩ 1 1 [.int .u64 v1] rfl rfl (cell_one_new _ _ _) (one_cell _ rfl) Nat.one_pos h63 h47 (alloc_size_le _ _ hT2.rows.1.2) (w2.heap.size + 1) (size_new' _ _) ?_; intro g cap w3 hown3 hgrow hat hlt3; have hb3 := own_below hT2.rows.1.1 hT2.rows.1.2 hgrow; have hb4 := Below.trans hT2.bel hb3; have hT3 := Has.keep Hk.out hb4; have Hfin := Lib.hid (own_cell hown3 0 Nat.one_pos)))
  all_goals
    clear hT hT2 hT3 t0 t1 t2 k0 r0 r1
    go_wp2_with fail
    rw [rounds_succ]
    go_wp2_with fail
    go_ret
    exact ⟨_, _, rfl, ⟨⟨Hfin.out, hlt3⟩, trivial⟩, hb4⟩

set_option maxRecDepth 100000 in
set_option maxHeartbeats 1600000 in
theorem shResidues_2 (a : Sa) (v0 v1 v2 p : Nat) (w : World) (h : Has (fixL a p) w) (k : Has (tabL a v0 v1 v2 p) w) (hv : v2 < p) (hp : 2 < p) (hp2 : p < 4611686018427387904) :
    Calls Tryz.prog 128 #[.pointer (some ⟨a.s, 0, none⟩), .int .i64 0, .int .i64 2] w (fun e w' => ∃ g cap, e = .returned (.slice (some ⟨g, 0, none⟩) 1 cap) ∧ Has [(g, 0, .int .u64 v2)] w' ∧ Below w.heap.size w w') := by
  obtain ⟨i0, hi, hz0, hz1, hz2⟩ := info_parts info_u64
  have hmk : ∀ W : World, (Instr.makeSlice 132 (.int .i64 0) (.int .i64 1)).run Tryz.prog W = .ok (.slice (some ⟨W.heap.size, 0, none⟩) 0 1) (W.alloc (.cells #[.int .u64 0] 81)) := fun W => run_makeInts0 (P := Tryz.prog) Tryz.underlying132 info_u64 (by omega) .i64 .i64 1 (by omega) W
  obtain ⟨W, hW⟩ : ∃ W, W = w.alloc (.cells #[.int .u64 0] 81) := ⟨_, rfl⟩
  have hbel : Below w.heap.size w W := by rw [hW]; exact below_new _ _
  have hown : W.ownsRow w.heap.size 81 1 (.slice (some ⟨w.heap.size, 0, none⟩) 0 1) 0 [] := by
    rw [hW]
    exact World.ownsRow_made (base := w.heap.size) (e := 81) (size := 1) w #[.int .u64 0] 1 (Nat.le_refl _) (by unfold maxLen; omega) rfl
  have hfx := h.keep hbel
  have hT : St w (tabL a v0 v1 v2 p) [(w.heap.size, 81, 1, .slice (some ⟨w.heap.size, 0, none⟩) 0 1, 0, [])] W := ⟨k.keep hbel, ⟨⟨hown, hbel.size⟩, trivial⟩, hbel⟩
  have hcells : ∀ X, Has (tabL a v0 v1 v2 p) X →
      X.cell? ⟨a.t, 0, none⟩ = some (.slice (some ⟨a.gc, 0, none⟩) 1 a.cc) ∧ X.cell? ⟨a.t, 1, none⟩ = some (.int .u64 1) ∧ X.cell? ⟨a.t, 2, none⟩ = some (.int .u64 p) ∧ X.cell? ⟨a.gc, 0, none⟩ = some (.slice (some ⟨a.gr, 0, none⟩) 3 a.cr) ∧
      X.cell? ⟨a.gr, 4, none⟩ = some (.int .u64 v2) ∧ X.cell? ⟨a.gr, 5, none⟩ = some (.int .u64 p) :=
    fun X hX => ⟨hX.1.1, hX.2.1.1, hX.2.2.1.1, hX.2.2.2.1.1, hX.2.2.2.2.2.2.2.2.1.1, hX.2.2.2.2.2.2.2.2.2.1.1⟩
  have hti := fun X => resTimes_any v2 1 p p X (by unfold two64; omega) (by unfold two64; omega) (by unfold two64; omega) (by omega) (by unfold two64; omega)
  rw [Nat.mul_one, Nat.mod_eq_of_lt hv] at hti
  replace hti : ∀ X, Calls Tryz.prog 137 #[.agg #[.int .u64 v2, .int .u64 p], .agg #[.int .u64 1, .int .u64 p]] X (RetRes v2 p X) := hti
  have hfd := run_field_res
  have Hti := Lib.hid hti
  have Hcells := Lib.hid hcells
  have HW := Lib.hid hW
  obtain ⟨t0, t1, t2, k0, r0, r1⟩ := hcells _ hT.has
  obtain ⟨⟨s0', _⟩, ⟨s4', _⟩, ⟨s5', _⟩, ⟨s8', _⟩, _⟩ := h
  obtain ⟨⟨s0, _⟩, ⟨s4, _⟩, ⟨s5, _⟩, ⟨s8, _⟩, ⟨s9, _⟩, ⟨s10, _⟩, ⟨p0, _⟩, _⟩ := hfx
  have Hk := Lib.hid k
  clear hti hcells hW k hbel hown
  have h63 : 0 + 1 ≤ maxLen := by unfold maxLen; omega
  have h47 : (0 + 1) * 8 ≤ 140737488355328 := by omega
  go_enter Tryz.func128, Tryz.ntmps128
  go_upto_region 2 with fail
  rw [← HW.out]
  clear HW
  go_wp2_with fail
  refine wp_loop_rounds 2 ?_
  rw [rounds_succ]
  go_upto_region 5 with fail
  go_region_held3 (fun w' => w'.cell? ⟨a.t, 0, none⟩ = some (.slice (some ⟨a.gc, 0, none⟩) 1 a.cc) ∧ w'.cell? ⟨a.t, 1, none⟩ = some (.int .u64 1) ∧ w'.cell? ⟨a.t, 2, none⟩ = some (.int .u64 p) ∧ w'.cell? ⟨a.gc, 0, none⟩ = some (.slice (some ⟨a.gr, 0, none⟩) 3 a.cr) ∧
    w'.cell? ⟨a.gr, 4, none⟩ = some (.int .u64 v2) ∧ w'.cell? ⟨a.gr, 5, none⟩ = some (.int .u64 p))
    (first | exact Hcells.out _ hT.has | exact Hcells.out _ (St.drew hT).has | exact Hcells.out _ hT2.has | exact Hcells.out _ (St.new hT2 _).has | exact Hcells.out _ hT3)
    (first
    | (go_at_call 137; refine (Hti.out _).mono ?_; rintro e w2 ⟨rfl, hb2⟩; unfold resV; have hT2 := St.keep (St.drew hT) hb2)
    | (refine step_append_lies _ rfl _ _ 132 rfl w.heap.size 81 i0 (.int .u64 0) 1 8 Tryz.underlying132 hi hz0 hz1 hz2 rfl (Nat.succ_pos 0) _ 0 [] rfl (World.ownsRow.alloc hT2.rows.1.1 _) ⟨w2.heap.size, 0, none⟩ 1 1 [.int .u64 v2] rfl rfl (cell_one_new _ _ _) (one_cell _ rfl) Nat.one_pos h63 h47 (alloc_size_le _ _ hT2.rows.1.2) (w2.heap.size + 1) (size_new' _ _) ?_; intro g cap w3 hown3 hgrow hat hlt3; have hb3 := own_below hT2.rows.1.1 hT2.rows.1.2 hgrow; have hb4 := Below.trans hT2.bel hb3; have hT3 := Has.keep Hk.out hb4; have Hfin := Lib.hid (own_cell hown3 0 Nat.one_pos)))
  all_goals
    clear hT hT2 hT3 t0 t1 t2 k0 r0 r1
    go_wp2_with fail
    rw [rounds_succ]
    go_wp2_with fail
    go_ret
    exact ⟨_, _, rfl, ⟨⟨Hfin.out, hlt3⟩, trivial⟩, hb4⟩
end Go.Proofs.YtemcdnppgnobmaaGreatDoor
