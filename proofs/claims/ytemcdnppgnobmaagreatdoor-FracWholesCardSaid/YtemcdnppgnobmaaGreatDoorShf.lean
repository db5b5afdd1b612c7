/-
  The walks of frac's sheet of one row of three cells, modulo one prime: sign, cell, scale.
  The walks of frac's sheet of one row, once it is solved: contradiction, leastRow, leastColumn, straighten.
-/
import Derived.Test.YtemcdnppgnobmaaGreatDoorShe
set_option linter.unusedVariables false
namespace Go.Proofs.YtemcdnppgnobmaaGreatDoor
open Go.RowKit

set_option maxRecDepth 100000 in
theorem shSign_1 (a : Sa) (v0 v1 v2 p : Nat) (w : World) (h : Has (fixL a p) w) (k : Has (tabL a v0 v1 v2 p) w) (hs : Has [(a.s, 7, .int .i64 1)] w) (h0 : 0 < v1) (hv : v1 < p) (hp : 2 < p) (hp2 : p < 4611686018427387904) :
    Calls Tryz.prog 135 #[.pointer (some ⟨a.s, 0, none⟩), .int .i64 0, .int .i64 1] w (fun e w' => e = .returned (.int .i64 (dgO v1 p).sign) ∧ Below w.heap.size w w') := by
  have hze := shZero_1 a v0 v1 v2 p w h k h0
  have hre := fun X (hb : Below w.heap.size w X) => shResidues_1 a v0 v1 v2 p X (h.keep hb) (k.keep hb) hv hp hp2
  have hsi := fun g cr X (hb : Below w.heap.size w X) (hg : Has [(g, 0, .int .u64 v1)] X) => radSign_one a.gp a.cp a.gi a.ci p v1 g cr X ⟨(h.keep hb).2.2.2.2.2.2.2.1, (h.keep hb).2.2.2.2.2.2.2.2.1, hg.1, trivial⟩ h0 hv hp hp2
  have hcells : ∀ X, Below w.heap.size w X → X.cell? ⟨a.s, 9, none⟩ = some (.slice (some ⟨a.gp, 0, none⟩) 1 a.cp) ∧ X.cell? ⟨a.s, 10, none⟩ = some (.slice (some ⟨a.gi, 0, none⟩) 1 a.ci) ∧ X.cell? ⟨a.s, 7, none⟩ = some (.int .i64 1) :=
    fun X hb => ⟨(h.keep hb).2.2.2.2.1.1, (h.keep hb).2.2.2.2.2.1.1, (hs.keep hb).1.1⟩
  have hsg : -1 ≤ (dgO v1 p).sign ∧ (dgO v1 p).sign ≤ 1 := by
    rcases Int.lt_trichotomy (dgO v1 p) 0 with e | e | e
    · rw [Int.sign_eq_neg_one_of_neg e]; omega
    · rw [e]; decide
    · rw [Int.sign_eq_one_of_pos e]; omega
  have Hze := Lib.hid hze
  have Hre := Lib.hid hre
  have Hsi := Lib.hid hsi
  have Hcells := Lib.hid hcells
  clear hze hre hsi hcells h k hs h0 hv hp hp2
  unfold radV at Hsi
  generalize (dgO v1 p).sign = sg at *
  go_enter Tryz.func135, Tryz.ntmps135
  go_upto_if 10 with (go_at_call 123; refine Hze.out.mono ?_; rintro e w1 ⟨rfl, hb1⟩)
  obtain ⟨c0, c1, c2⟩ := Hcells.out _ hb1
  go_wp2_with fail
  go_region_held3 (fun w' => w'.cell? ⟨a.s, 9, none⟩ = some (.slice (some ⟨a.gp, 0, none⟩) 1 a.cp) ∧ w'.cell? ⟨a.s, 10, none⟩ = some (.slice (some ⟨a.gi, 0, none⟩) 1 a.ci) ∧ w'.cell? ⟨a.s, 7, none⟩ = some (.int .i64 1))
    (first | exact Hcells.out _ hb1 | exact Hcells.out _ (Below.drew hb1) | exact Hcells.out _ hb2' | exact Hcells.out _ hb3')
    (first
    | (go_at_call 128; refine (Hre.out _ (Below.drew hb1)).mono ?_; rintro e w2 ⟨g, cap, rfl, hg, hb2⟩; have hb2' := Below.and (Below.drew hb1) hb2)
    | (go_at_call 141; refine (Hsi.out _ _ _ hb2' hg).mono ?_; rintro e w3 ⟨rfl, hb3⟩; have hb3' := Below.and hb2' hb3))
  all_goals
    go_wp2_with fail
    go_ret
    exact ⟨ret_int (IntWalk.i64_in _ (by omega)), hb3'⟩

set_option maxRecDepth 100000 in
theorem shSign_2 (a : Sa) (v0 v1 v2 p : Nat) (w : World) (h : Has (fixL a p) w) (k : Has (tabL a v0 v1 v2 p) w) (hs : Has [(a.s, 7, .int .i64 1)] w) (h0 : 0 < v2) (hv : v2 < p) (hp : 2 < p) (hp2 : p < 4611686018427387904) :
    Calls Tryz.prog 135 #[.pointer (some ⟨a.s, 0, none⟩), .int .i64 0, .int .i64 2] w (fun e w' => e = .returned (.int .i64 (dgO v2 p).sign) ∧ Below w.heap.size w w') := by
  have hze := shZero_2 a v0 v1 v2 p w h k h0
  have hre := fun X (hb : Below w.heap.size w X) => shResidues_2 a v0 v1 v2 p X (h.keep hb) (k.keep hb) hv hp hp2
  have hsi := fun g cr X (hb : Below w.heap.size w X) (hg : Has [(g, 0, .int .u64 v2)] X) => radSign_one a.gp a.cp a.gi a.ci p v2 g cr X ⟨(h.keep hb).2.2.2.2.2.2.2.1, (h.keep hb).2.2.2.2.2.2.2.2.1, hg.1, trivial⟩ h0 hv hp hp2
  have hcells : ∀ X, Below w.heap.size w X → X.cell? ⟨a.s, 9, none⟩ = some (.slice (some ⟨a.gp, 0, none⟩) 1 a.cp) ∧ X.cell? ⟨a.s, 10, none⟩ = some (.slice (some ⟨a.gi, 0, none⟩) 1 a.ci) ∧ X.cell? ⟨a.s, 7, none⟩ = some (.int .i64 1) :=
    fun X hb => ⟨(h.keep hb).2.2.2.2.1.1, (h.keep hb).2.2.2.2.2.1.1, (hs.keep hb).1.1⟩
  have hsg : -1 ≤ (dgO v2 p).sign ∧ (dgO v2 p).sign ≤ 1 := by
    rcases Int.lt_trichotomy (dgO v2 p) 0 with e | e | e
    · rw [Int.sign_eq_neg_one_of_neg e]; omega
    · rw [e]; decide
    · rw [Int.sign_eq_one_of_pos e]; omega
  have Hze := Lib.hid hze
  have Hre := Lib.hid hre
  have Hsi := Lib.hid hsi
  have Hcells := Lib.hid hcells
  clear hze hre hsi hcells h k hs h0 hv hp hp2
  unfold radV at Hsi
  generalize (dgO v2 p).sign = sg at *
  go_enter Tryz.func135, Tryz.ntmps135
  go_upto_if 10 with (go_at_call 123; refine Hze.out.mono ?_; rintro e w1 ⟨rfl, hb1⟩)
  obtain ⟨c0, c1, c2⟩ := Hcells.out _ hb1
  go_wp2_with fail
  go_region_held3 (fun w' => w'.cell? ⟨a.s, 9, none⟩ = some (.slice (some ⟨a.gp, 0, none⟩) 1 a.cp) ∧ w'.cell? ⟨a.s, 10, none⟩ = some (.slice (some ⟨a.gi, 0, none⟩) 1 a.ci) ∧ w'.cell? ⟨a.s, 7, none⟩ = some (.int .i64 1))
    (first | exact Hcells.out _ hb1 | exact Hcells.out _ (Below.drew hb1) | exact Hcells.out _ hb2' | exact Hcells.out _ hb3')
    (first
    | (go_at_call 128; refine (Hre.out _ (Below.drew hb1)).mono ?_; rintro e w2 ⟨g, cap, rfl, hg, hb2⟩; have hb2' := Below.and (Below.drew hb1) hb2)
    | (go_at_call 141; refine (Hsi.out _ _ _ hb2' hg).mono ?_; rintro e w3 ⟨rfl, hb3⟩; have hb3' := Below.and hb2' hb3))
  all_goals
    go_wp2_with fail
    go_ret
    exact ⟨ret_int (IntWalk.i64_in _ (by omega)), hb3'⟩

set_option maxRecDepth 100000 in
theorem shCell_0 (a : Sa) (v0 v1 v2 p : Nat) (w : World) (h : Has (fixL a p) w) (k : Has (tabL a v0 v1 v2 p) w) (hv : v0 < p) (hp : 2 < p) (hp2 : p < 4611686018427387904) :
    Calls Tryz.prog 110 #[.pointer (some ⟨a.s, 0, none⟩), .int .i64 0, .int .i64 0] w (RetInt (dgO v0 p) w) := by
  have hres := Blk.new w 25 intZ
  obtain ⟨W, hW⟩ : ∃ W, W = w.alloc (.cells intZ 25) := ⟨_, rfl⟩
  have hbel : Below w.heap.size w W := by rw [hW]; exact below_new _ _
  rw [← hW] at hres
  have h' := h.keep hbel
  have k' := k.keep hbel
  have hre := fun X (hb : Below W.heap.size W X) => shResidues_0 a v0 v1 v2 p X (h'.keep hb) (k'.keep hb) hv hp hp2
  have hwh := fun g cr X (hb : Below W.heap.size W X) (hg : Has [(g, 0, .int .u64 v0)] X) => radWhole_one a.gp a.cp a.gi a.ci p v0 g cr X ⟨(h'.keep hb).2.2.2.2.2.2.2.1, (h'.keep hb).2.2.2.2.2.2.2.2.1, hg.1, trivial⟩ hv hp hp2
  have hcells : ∀ X, Below W.heap.size W X → X.cell? ⟨a.s, 9, none⟩ = some (.slice (some ⟨a.gp, 0, none⟩) 1 a.cp) ∧ X.cell? ⟨a.s, 10, none⟩ = some (.slice (some ⟨a.gi, 0, none⟩) 1 a.ci) :=
    fun X hb => ⟨(h'.keep hb).2.2.2.2.1.1, (h'.keep hb).2.2.2.2.2.1.1⟩
  have hne : a.s ≠ w.heap.size := Nat.ne_of_lt h.1.2
  have Hre := Lib.hid hre
  have Hwh := Lib.hid hwh
  have Hcells := Lib.hid hcells
  have HW := Lib.hid hW
  have Hbel := Lib.hid hbel
  obtain ⟨c0, c1⟩ := hcells _ (Below.refl _ _)
  clear hre hwh hcells h k h' k' hv hp hp2 hW hbel
  unfold radV at Hwh
  unfold intZ at HW
  generalize hdd : dgO v0 p = d at *
  clear hdd
  go_enter Tryz.func110, Tryz.ntmps110
  go_upto_region 1 with fail
  rw [← HW.out]
  clear HW
  go_region_held3 (fun w' => w'.cell? ⟨a.s, 9, none⟩ = some (.slice (some ⟨a.gp, 0, none⟩) 1 a.cp) ∧ w'.cell? ⟨a.s, 10, none⟩ = some (.slice (some ⟨a.gi, 0, none⟩) 1 a.ci))
    (first | exact ⟨c0, c1⟩ | exact Hcells.out _ (Below.drew (Below.refl _ _)) | exact Hcells.out _ hb2' | exact Hcells.out _ hb3' | go_keep)
    (first
    | (go_at_call 128; refine (Hre.out _ (Below.drew (Below.refl _ _))).mono ?_; rintro e w2 ⟨g, cap, rfl, hg, hb2⟩; have hb2' := Below.and (Below.drew (Below.refl W.heap.size W)) hb2)
    | (go_at_call 127; refine (Hwh.out _ _ _ hb2' hg).mono ?_; rintro e w3 ⟨A1, n1, rfl, hd3, hb3⟩; unfold intV; have hb3' := Below.and hb2' hb3; have hr3 := Blk.keep hres hb3'; obtain ⟨z0, z1, y0, y1⟩ := hr3.two; obtain ⟨e0, e1⟩ := Hcells.out _ hb3'; have hne2 := Ne.symm hne))
  all_goals
    go_wp2_with fail
    exact ret_int_stored (z := d) rfl rfl rfl hr3 hd3 (Hbel.out.and hb3') (Nat.le_refl _) rfl (fun w' h1 h2 => ⟨A1, n1, rfl, h1, h2⟩)

set_option maxRecDepth 100000 in
theorem shCell_2 (a : Sa) (v0 v1 v2 p : Nat) (w : World) (h : Has (fixL a p) w) (k : Has (tabL a v0 v1 v2 p) w) (hv : v2 < p) (hp : 2 < p) (hp2 : p < 4611686018427387904) :
    Calls Tryz.prog 110 #[.pointer (some ⟨a.s, 0, none⟩), .int .i64 0, .int .i64 2] w (RetInt (dgO v2 p) w) := by
  have hres := Blk.new w 25 intZ
  obtain ⟨W, hW⟩ : ∃ W, W = w.alloc (.cells intZ 25) := ⟨_, rfl⟩
  have hbel : Below w.heap.size w W := by rw [hW]; exact below_new _ _
  rw [← hW] at hres
  have h' := h.keep hbel
  have k' := k.keep hbel
  have hre := fun X (hb : Below W.heap.size W X) => shResidues_2 a v0 v1 v2 p X (h'.keep hb) (k'.keep hb) hv hp hp2
  have hwh := fun g cr X (hb : Below W.heap.size W X) (hg : Has [(g, 0, .int .u64 v2)] X) => radWhole_one a.gp a.cp a.gi a.ci p v2 g cr X ⟨(h'.keep hb).2.2.2.2.2.2.2.1, (h'.keep hb).2.2.2.2.2.2.2.2.1, hg.1, trivial⟩ hv hp hp2
  have hcells : ∀ X, Below W.heap.size W X → X.cell? ⟨a.s, 9, none⟩ = some (.slice (some ⟨a.gp, 0, none⟩) 1 a.cp) ∧ X.cell? ⟨a.s, 10, none⟩ = some (.slice (some ⟨a.gi, 0, none⟩) 1 a.ci) :=
    fun X hb => ⟨(h'.keep hb).2.2.2.2.1.1, (h'.keep hb).2.2.2.2.2.1.1⟩
  have hne : a.s ≠ w.heap.size := Nat.ne_of_lt h.1.2
  have Hre := Lib.hid hre
  have Hwh := Lib.hid hwh
  have Hcells := Lib.hid hcells
  have HW := Lib.hid hW
  have Hbel := Lib.hid hbel
  obtain ⟨c0, c1⟩ := hcells _ (Below.refl _ _)
  clear hre hwh hcells h k h' k' hv hp hp2 hW hbel
  unfold radV at Hwh
  unfold intZ at HW
  generalize hdd : dgO v2 p = d at *
  clear hdd
  go_enter Tryz.func110, Tryz.ntmps110
  go_upto_region 1 with fail
  rw [← HW.out]
  clear HW
  go_region_held3 (fun w' => w'.cell? ⟨a.s, 9, none⟩ = some (.slice (some ⟨a.gp, 0, none⟩) 1 a.cp) ∧ w'.cell? ⟨a.s, 10, none⟩ = some (.slice (some ⟨a.gi, 0, none⟩) 1 a.ci))
    (first | exact ⟨c0, c1⟩ | exact Hcells.out _ (Below.drew (Below.refl _ _)) | exact Hcells.out _ hb2' | exact Hcells.out _ hb3' | go_keep)
    (first
    | (go_at_call 128; refine (Hre.out _ (Below.drew (Below.refl _ _))).mono ?_; rintro e w2 ⟨g, cap, rfl, hg, hb2⟩; have hb2' := Below.and (Below.drew (Below.refl W.heap.size W)) hb2)
    | (go_at_call 127; refine (Hwh.out _ _ _ hb2' hg).mono ?_; rintro e w3 ⟨A1, n1, rfl, hd3, hb3⟩; unfold intV; have hb3' := Below.and hb2' hb3; have hr3 := Blk.keep hres hb3'; obtain ⟨z0, z1, y0, y1⟩ := hr3.two; obtain ⟨e0, e1⟩ := Hcells.out _ hb3'; have hne2 := Ne.symm hne))
  all_goals
    go_wp2_with fail
    exact ret_int_stored (z := d) rfl rfl rfl hr3 hd3 (Hbel.out.and hb3') (Nat.le_refl _) rfl (fun w' h1 h2 => ⟨A1, n1, rfl, h1, h2⟩)

set_option maxRecDepth 100000 in
/-- The scale is 1. -/
theorem shScale_any (a : Sa) (v0 v1 v2 p : Nat) (w : World) (h : Has (fixL a p) w) (k : Has (tabL a v0 v1 v2 p) w) (hp : 2 < p) (hp2 : p < 4611686018427387904) :
    Calls Tryz.prog 112 #[.pointer (some ⟨a.s, 0, none⟩)] w (RetInt 1 w) := by
  obtain ⟨i0, hi, hz0, hz1, hz2⟩ := info_parts info_u64
  have hmk : ∀ W : World, (Instr.makeSlice 132 (.int .i64 0) (.int .i64 1)).run Tryz.prog W = .ok (.slice (some ⟨W.heap.size, 0, none⟩) 0 1) (W.alloc (.cells #[.int .u64 0] 81)) := fun W => run_makeInts0 (P := Tryz.prog) Tryz.underlying132 info_u64 (by omega) .i64 .i64 1 (by omega) W
  obtain ⟨W, hW⟩ : ∃ W, W = (w.alloc (.cells intZ 25)).alloc (.cells #[.int .u64 0] 81) := ⟨_, rfl⟩
  have hbel : Below w.heap.size w W := by rw [hW]; exact (below_new _ _).more _
  have hres : Blk W w.heap.size 25 intZ := by rw [hW]; exact (Blk.new w 25 intZ).keep (below_new _ _)
  have hown : W.ownsRow (w.heap.size + 1) 81 1 (.slice (some ⟨w.heap.size + 1, 0, none⟩) 0 1) 0 [] := by
    rw [hW]
    have := World.ownsRow_made (base := w.heap.size + 1) (e := 81) (size := 1) (w.alloc (.cells intZ 25)) #[.int .u64 0] 1 (by simp) (by unfold maxLen; omega) rfl
    rwa [size_new] at this
  have hsz : w.heap.size + 1 ≤ (W.alloc (.cells #[.int .u64 1] 81)).heap.size := by rw [hW]; simp
  have hszW : w.heap.size + 1 ≤ W.heap.size := by rw [hW]; simp
  have h' := h.keep hbel
  have k' := k.keep hbel
  have hwh := fun g cr X (hb : Below (w.heap.size + 1) W X) (hg : Has [(g, 0, .int .u64 (1 : Nat))] X) => radWhole_one a.gp a.cp a.gi a.ci p 1 g cr X
    ⟨((h.keep (hbel.trans (hb.mono (by omega)))).2.2.2.2.2.2.2.1), (h.keep (hbel.trans (hb.mono (by omega)))).2.2.2.2.2.2.2.2.1, hg.1, trivial⟩ (by omega) hp hp2
  have hd1 : dgO 1 p = 1 := by unfold dgO; rw [if_neg (by omega)]; rfl
  rw [hd1] at hwh
  have hcells : ∀ X, Below (w.heap.size + 1) W X → X.cell? ⟨a.s, 9, none⟩ = some (.slice (some ⟨a.gp, 0, none⟩) 1 a.cp) ∧ X.cell? ⟨a.s, 10, none⟩ = some (.slice (some ⟨a.gi, 0, none⟩) 1 a.ci) :=
    fun X hb => ⟨(h.keep (hbel.trans (hb.mono (by omega)))).2.2.2.2.1.1, (h.keep (hbel.trans (hb.mono (by omega)))).2.2.2.2.2.1.1⟩
  obtain ⟨⟨s0', _⟩, ⟨s4', _⟩, ⟨s5', _⟩, ⟨s8', _⟩, _⟩ := h
  obtain ⟨⟨s0, _⟩, ⟨s4, _⟩, ⟨s5, _⟩, ⟨s8, _⟩, ⟨s9, _⟩, ⟨s10, _⟩, ⟨p0, _⟩, _⟩ := h'
  obtain ⟨⟨t0, _⟩, ⟨t1, _⟩, _⟩ := k'
  have Hwh := Lib.hid hwh
  have Hcells := Lib.hid hcells
  have HW := Lib.hid hW
  have Hbel := Lib.hid hbel
  have Hres := Lib.hid hres
  clear hwh hcells hW hbel hres hp hp2 hd1 k
  unfold radV at Hwh
  unfold intZ at HW
  go_enter Tryz.func112, Tryz.ntmps112
  go_upto_region 2 with fail
  rw [← HW.out]
  clear HW
  go_wp2_with fail
  refine wp_loop_rounds 2 ?_
  rw [rounds_succ]
  go_upto_region 6 with (at_builtin; refine wpList_append_lies _ rfl _ _ 132 rfl (w.heap.size + 1) 81 i0 (.int .u64 0) 1 8 Tryz.underlying132 hi hz0 hz1 hz2 rfl (by decide) _ 0 [] rfl (hown.alloc _) ⟨W.heap.size, 0, none⟩ 1 1 [.int .u64 1] rfl rfl ?c1 ?c2 ?c3 ?c4 ?c5 ?c6 (W.heap.size + 1) (size_new' _ _) ?_)
  case c1 => exact cell_one_new _ _ _
  case c2 => exact one_cell _ rfl
  case c3 => exact Nat.one_pos
  case c4 => unfold maxLen; omega
  case c5 => omega
  case c6 => exact hsz
  intro g2 cap2 w2 hown2 hgrow2 hat2 hlt2
  have hb2 := own_below hown hszW hgrow2
  have hr2 := Hres.out.below hb2 (Nat.lt_succ_self _)
  obtain ⟨x9, x10⟩ := Hcells.out _ hb2
  have Hw2 := Lib.hid (Hwh.out g2 cap2 _ hb2 ⟨⟨own_cell hown2 0 (by omega), hlt2⟩, trivial⟩)
  clear hown hown2 hgrow2 Hwh hat2
  go_wp2_with fail
  rw [rounds_succ]
  go_upto_region 7 with fail
  go_wp2_with fail
  refine Hw2.out.mono ?_
  rintro e w3 ⟨A1, n1, rfl, hd3, hb3⟩
  have hr3 := hr2.keep hb3
  obtain ⟨z0, z1, y0, y1⟩ := hr3.two
  unfold intV
  go_wp2_with fail
  exact ret_int_stored (z := 1) rfl rfl rfl hr3 hd3 (Hbel.out.trans ((hb2.mono (by omega)).trans (hb3.mono (Nat.le_of_lt hr2.lt)))) (Nat.le_refl _) rfl (fun w' h1 h2 => ⟨A1, n1, rfl, h1, h2⟩)
end Go.Proofs.YtemcdnppgnobmaaGreatDoor

namespace Go.Proofs.YtemcdnppgnobmaaGreatDoor
open Go.RowKit

/-- What stands beside the row and above the columns: the row is the unknown 0; above are the quantity 2 and the unknown 1. -/
def sidL (a : Sa) : List (Nat × Nat × Value) := [(a.gb, 0, .int .i64 0), (a.ga, 0, .int .i64 2), (a.ga, 1, .int .i64 1)]

set_option maxRecDepth 100000 in
theorem shContra_none (a : Sa) (p : Nat) (w : World) (h : Has (fixL a p) w) (q : Has (sidL a) w) :
    Calls Tryz.prog 108 #[.pointer (some ⟨a.s, 0, none⟩)] w (fun e w' => e = .returned (.int .i64 (-1)) ∧ Below w.heap.size w w') := by
  obtain ⟨⟨s0, _⟩, ⟨s4, _⟩, ⟨s5, _⟩, _⟩ := h
  obtain ⟨⟨q0, _⟩, _⟩ := q
  go_enter Tryz.func108, Tryz.ntmps108
  go_wp2_with fail
  refine wp_loop_rounds 2 ?_
  rw [rounds_succ]
  go_wp2_with fail
  rw [rounds_succ]
  go_wp2_with fail
  go_ret
  exact ⟨rfl, Below.refl _ _⟩

set_option maxRecDepth 100000 in
set_option maxHeartbeats 1600000 in
theorem shLeastRow_neg (a : Sa) (v0 v1 v2 p : Nat) (w : World) (h : Has (fixL a p) w) (k : Has (tabL a v0 v1 v2 p) w) (q : Has (sidL a) w) (hs : Has [(a.s, 7, .int .i64 1)] w) (h0 : 0 < v2) (hv : v2 < p) (hp : 2 < p) (hp2 : p < 4611686018427387904) (hneg : (dgO v2 p).sign = -1) :
    Calls Tryz.prog 125 #[.pointer (some ⟨a.s, 0, none⟩)] w (fun e w' => e = .returned (.int .i64 0) ∧ Below w.heap.size w w') := by
  have hsi := shSign_2 a v0 v1 v2 p w h k hs h0 hv hp hp2
  rw [hneg] at hsi
  obtain ⟨⟨s0, _⟩, ⟨s4, _⟩, ⟨s5, _⟩, _⟩ := h
  obtain ⟨⟨q0, _⟩, _⟩ := q
  have Hsi := Lib.hid hsi
  clear hsi k hs h0 hv hp hp2 hneg
  go_enter Tryz.func125, Tryz.ntmps125
  go_wp2_with fail
  refine wp_loop_rounds 2 ?_
  rw [rounds_succ]
  go_wp2_with (go_at_call 135; refine Hsi.out.mono ?_; rintro e w1 ⟨rfl, hb1⟩)
  rw [rounds_succ]
  go_wp2_with fail
  go_ret
  exact ⟨rfl, hb1⟩

set_option maxRecDepth 100000 in
set_option maxHeartbeats 1600000 in
theorem shLeastColumn_none (a : Sa) (v0 v1 v2 p : Nat) (w : World) (h : Has (fixL a p) w) (k : Has (tabL a v0 v1 v2 p) w) (q : Has (sidL a) w) (hs : Has [(a.s, 7, .int .i64 1)] w) (h0 : 0 < v1) (hv : v1 < p) (hp : 2 < p) (hp2 : p < 4611686018427387904) (hneg : (dgO v1 p).sign = -1) :
    Calls Tryz.prog 126 #[.pointer (some ⟨a.s, 0, none⟩), .int .i64 0] w (fun e w' => e = .returned (.int .i64 (-1)) ∧ Below w.heap.size w w') := by
  have hsi := shSign_1 a v0 v1 v2 p w h k hs h0 hv hp hp2
  rw [hneg] at hsi
  obtain ⟨⟨s0, _⟩, ⟨s4, _⟩, ⟨s5, _⟩, _⟩ := h
  obtain ⟨⟨q0, _⟩, ⟨q1, _⟩, ⟨q2, _⟩, _⟩ := q
  have Hsi := Lib.hid hsi
  clear hsi k hs h0 hv hp hp2 hneg
  go_enter Tryz.func126, Tryz.ntmps126
  go_wp2_with fail
  refine wp_loop_rounds 3 ?_
  rw [rounds_succ]
  go_wp2_with fail
  rw [rounds_succ]
  go_wp2_with (go_at_call 135; refine Hsi.out.mono ?_; rintro e w1 ⟨rfl, hb1⟩)
  rw [rounds_succ]
  go_wp2_with fail
  go_ret
  exact ⟨rfl, hb1⟩

set_option maxRecDepth 100000 in
theorem shStraighten_row (a : Sa) (v0 v1 v2 p : Nat) (w : World) (h : Has (fixL a p) w) (k : Has (tabL a v0 v1 v2 p) w) (q : Has (sidL a) w) (hs : Has [(a.s, 7, .int .i64 1)] w) (h1 : 0 < v1) (hv1 : v1 < p) (hn1 : (dgO v1 p).sign = -1) (h2 : 0 < v2) (hv2 : v2 < p) (hn2 : (dgO v2 p).sign = -1) (hp : 2 < p) (hp2 : p < 4611686018427387904) :
    Calls Tryz.prog 109 #[.pointer (some ⟨a.s, 0, none⟩)] w (fun e w' => e = .returned (.int .i64 0) ∧ Below w.heap.size w w') := by
  have hr := shLeastRow_neg a v0 v1 v2 p w h k q hs h2 hv2 hp hp2 hn2
  have hc := fun X (hb : Below w.heap.size w X) => shLeastColumn_none a v0 v1 v2 p X (h.keep hb) (k.keep hb) (q.keep hb) (hs.keep hb) h1 hv1 hp hp2 hn1
  have Hr := Lib.hid hr
  have Hc := Lib.hid hc
  clear hr hc h k q hs h1 hv1 hn1 h2 hv2 hn2 hp hp2
  go_enter Tryz.func109, Tryz.ntmps109
  go_wp2_with fail
  refine wp_loop_rounds 1 ?_
  rw [rounds_succ]
  go_wp2_with fail
  refine Hr.out.mono ?_
  rintro e w1 ⟨rfl, hb1⟩
  go_wp2_with fail
  refine (Hc.out _ hb1).mono ?_
  rintro e w2 ⟨rfl, hb2⟩
  go_wp2_with fail
  go_ret
  exact ⟨rfl, hb1.and hb2⟩
end Go.Proofs.YtemcdnppgnobmaaGreatDoor
