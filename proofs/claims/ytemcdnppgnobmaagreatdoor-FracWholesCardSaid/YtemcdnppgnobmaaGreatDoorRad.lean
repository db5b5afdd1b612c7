/-
  The walks of frac's radix of one prime.
-/
import Derived.Test.YtemcdnppgnobmaaGreatDoorSt
set_option linter.unusedVariables false
namespace Go.Proofs.YtemcdnppgnobmaaGreatDoor
open Go.RowKit

theorem info_i64 : (Tryz.prog.info? 2).map (fun i => (i.zero, i.size, i.bytes)) = some (some (.int .i64 0), 1, 8) := by kernel_rfl

/-- The value of a radix. -/
def radV (gp cp gi ci : Nat) : Value := .agg #[.slice (some ⟨gp, 0, none⟩) 1 cp, .slice (some ⟨gi, 0, none⟩) 1 ci]
def radC (gp cp gi ci : Nat) : Array Value := #[.slice (some ⟨gp, 0, none⟩) 1 cp, .slice (some ⟨gi, 0, none⟩) 1 ci]
/-- The cells of a radix: its one prime, and the inverse of no product. -/
def radL (p gp gi : Nat) : List (Nat × Nat × Value) := [(gp, 0, .int .u64 p), (gi, 0, .int .u64 1)]

/-- The digit of a residue. -/
def dgO (r p : Nat) : Int := if (p / 2 : Nat) < r then (r : Int) - p else r

theorem radValue_none (gp cp gi ci p q : Nat) (A : Option Addr) (c : Nat) (w : World) :
    Calls Tryz.prog 143 #[radV gp cp gi ci, .slice A 0 c, .int .u64 q] w (fun e w' => e = .returned (.int .u64 0) ∧ Below w.heap.size w w') := by
  have hb := Blk.new w 134 (radC gp cp gi ci)
  have hbel := below_new w (.cells (radC gp cp gi ci) 134)
  unfold radV
  unfold radC at hb hbel
  clear hb
  go_enter Tryz.func143, Tryz.ntmps143
  go_wp2_with fail
  refine wp_loop_rounds 1 ?_
  rw [rounds_succ]
  go_wp2_with fail
  go_ret
  exact ⟨rfl, hbel⟩

theorem run_field_res (a b : Int) (W : World) : (Instr.field 153 (.agg #[.int .u64 a, .int .u64 b]) 0).run Tryz.prog W = .ok (.int .u64 a) W := by kernel_rfl

set_option maxRecDepth 100000 in
set_option maxHeartbeats 1600000 in
theorem radDigits_one (gp cp gi ci p r gr cr : Nat) (w : World) (h : Has [(gp, 0, .int .u64 p), (gi, 0, .int .u64 1), (gr, 0, .int .u64 r)] w) (hr : r < p) (hp : 2 < p) (hp2 : p < 4611686018427387904) :
    Calls Tryz.prog 136 #[radV gp cp gi ci, .slice (some ⟨gr, 0, none⟩) 1 cr] w (fun e w' => ∃ g c, e = .returned (.slice (some ⟨g, 0, none⟩) 1 c) ∧ Has [(g, 0, .int .i64 (dgO r p))] w' ∧ Below w.heap.size w w') := by
  obtain ⟨i0, hi, hz0, hz1, hz2⟩ := info_parts info_i64
  have hmk : ∀ W : World, (Instr.makeSlice 171 (.int .i64 0) (.int .i64 1)).run Tryz.prog W = .ok (.slice (some ⟨W.heap.size, 0, none⟩) 0 1) (W.alloc (.cells #[.int .i64 0] 2)) := fun W => run_makeInts0 (P := Tryz.prog) Tryz.underlying171 info_i64 (by omega) .i64 .i64 1 (by omega) W
  obtain ⟨W, hW⟩ : ∃ W, W = (w.alloc (.cells (radC gp cp gi ci) 134)).alloc (.cells #[.int .i64 0] 2) := ⟨_, rfl⟩
  have hS : St w ((w.heap.size, 0, .slice (some ⟨gp, 0, none⟩) 1 cp) :: (w.heap.size, 1, .slice (some ⟨gi, 0, none⟩) 1 ci) :: [(gp, 0, .int .u64 p), (gi, 0, .int .u64 1), (gr, 0, .int .u64 r)])
      [(w.heap.size, 2, 1, .slice (some ⟨w.heap.size + 1, 0, none⟩) 0 1, 0, [])] W := by
    have h1 := (St.new2 (t := 134) (a := .slice (some ⟨gp, 0, none⟩) 1 cp) (b := .slice (some ⟨gi, 0, none⟩) 1 ci) (⟨h, trivial, Below.refl _ _⟩ : St w [(gp, 0, .int .u64 p), (gi, 0, .int .u64 1), (gr, 0, .int .u64 r)] [] w)).new (.cells #[.int .i64 0] 2)
    have h2 := World.ownsRow_made (base := w.heap.size) (e := 2) (size := 1) (w.alloc (.cells (radC gp cp gi ci) 134)) #[.int .i64 0] 1 (by simp) (by unfold maxLen; omega) rfl
    rw [size_new] at h2
    rw [hW]
    exact h1.row h2 (by simp; omega)
  have hcells : ∀ X, St w ((w.heap.size, 0, .slice (some ⟨gp, 0, none⟩) 1 cp) :: (w.heap.size, 1, .slice (some ⟨gi, 0, none⟩) 1 ci) :: [(gp, 0, .int .u64 p), (gi, 0, .int .u64 1), (gr, 0, .int .u64 r)])
      [(w.heap.size, 2, 1, .slice (some ⟨w.heap.size + 1, 0, none⟩) 0 1, 0, [])] X → X.cell? ⟨gr, 0, none⟩ = some (.int .u64 r) ∧ X.cell? ⟨w.heap.size, 0, none⟩ = some (.slice (some ⟨gp, 0, none⟩) 1 cp) ∧ X.cell? ⟨w.heap.size, 1, none⟩ = some (.slice (some ⟨gi, 0, none⟩) 1 ci) :=
    fun X hX => ⟨hX.has.2.2.2.2.1.1, hX.has.1.1, hX.has.2.1.1⟩
  have hv := fun X => radValue_none gp cp gi ci p p (some ⟨w.heap.size + 1, 0, none⟩) 1 X
  have hmi0 := fun X => resMinus_any r 0 p p X hr (by omega) (by omega)
  rw [show (r + p - 0) % p = r by rw [Nat.sub_zero, Nat.add_mod_right]; exact Nat.mod_eq_of_lt hr] at hmi0
  have hmi : ∀ X, Calls Tryz.prog 142 #[.agg #[.int .u64 r, .int .u64 p], .agg #[.int .u64 0, .int .u64 p]] X (RetRes r p X) := hmi0
  have hti := fun X => resTimes_any r 1 p p X (by unfold two64; omega) (by unfold two64; omega) (by unfold two64; omega) (by omega) (by unfold two64; omega)
  rw [Nat.mul_one, Nat.mod_eq_of_lt hr] at hti
  replace hti : ∀ X, Calls Tryz.prog 137 #[.agg #[.int .u64 r, .int .u64 p], .agg #[.int .u64 1, .int .u64 p]] X (RetRes r p X) := hti
  have Hv := Lib.hid hv
  have Hmi := Lib.hid hmi
  have Hti := Lib.hid hti
  have HW := Lib.hid hW
  have HS := Lib.hid hS
  have Hcells := Lib.hid hcells
  obtain ⟨o0, b0, b1⟩ := hcells _ hS
  have x0 := hS.has.2.2.1.1
  clear hv hmi hti hmi0 hW h hS hcells
  unfold radV at *
  unfold radC at HW
  have e1 : wrap64 (p : Int) = p := by unfold wrap64; omega
  have e2 : wrap64 (r : Int) = r := by unfold wrap64; omega
  go_enter Tryz.func136, Tryz.ntmps136
  go_upto_region 2 with fail
  rw [← HW.out]
  go_wp2_with fail
  refine wp_loop_rounds 2 ?_
  rw [rounds_succ]
  go_upto_region 5 with fail
  go_cut [8] (fun s8 wx => ∃ g, s8 = .pointer (some ⟨g, 0, none⟩) ∧ St w ((g, 0, .int .u64 r) :: (g, 1, .int .u64 p) :: (w.heap.size, 0, .slice (some ⟨gp, 0, none⟩) 1 cp) :: (w.heap.size, 1, .slice (some ⟨gi, 0, none⟩) 1 ci) :: [(gp, 0, .int .u64 p), (gi, 0, .int .u64 1), (gr, 0, .int .u64 r)])
      [(w.heap.size, 2, 1, .slice (some ⟨w.heap.size + 1, 0, none⟩) 0 1, 0, [])] wx)
  case first =>
    have hT := HS.out
    go_region_held3 (fun w' => w'.cell? ⟨gr, 0, none⟩ = some (.int .u64 r) ∧ w'.cell? ⟨w.heap.size, 0, none⟩ = some (.slice (some ⟨gp, 0, none⟩) 1 cp) ∧ w'.cell? ⟨w.heap.size, 1, none⟩ = some (.slice (some ⟨gi, 0, none⟩) 1 ci))
      (first | exact Hcells.out _ hT | exact Hcells.out _ (St.drew hT) | exact Hcells.out _ (St.drew (St.new hT _)) | exact Hcells.out _ hT3 | exact Hcells.out _ (St.new hT3 _) | exact Hcells.out _ hT2 | exact Hcells.out _ (St.new hT2 _) | exact Hcells.out _ (St.store2 hT0 hT3 hz3).tail.tail | exact Hcells.out _ (St.new2 hT3).tail.tail)
      (first
      | (go_at_call 143; refine (Hv.out _).mono ?_; rintro e w2 ⟨rfl, hb2⟩; (first | (have hT2 := St.keep (St.drew hT) hb2) | (have hT2 := St.keep (St.drew (St.new hT _)) hb2)))
      | (go_at_call 142; refine (Hmi.out _).mono ?_; rintro e w3 ⟨rfl, hb3⟩; unfold resV; (first | (have hT3 := St.keep hT2 hb3) | (have hT3 := St.keep (St.new hT2 _) hb3)); (first | (have hz3 := Blk.keep (Blk.keep (w := (W.alloc (.cells #[.int .u64 0, .int .u64 0] 153)).drew) (Blk.new W 153 #[.int .u64 0, .int .u64 0]) hb2) hb3; have hT0 := hT) | (have hz3 := Blk.keep (Blk.new _ 153 #[.int .u64 0, .int .u64 0]) hb3; have hT0 := hT2) | skip); try (obtain ⟨z0, z1, y0, y1⟩ := hz3.two)))
    all_goals (go_wp2_with fail; go_meet; first | exact ⟨_, rfl, St.store2 hT0 hT3 hz3⟩ | exact ⟨_, rfl, St.new2 hT3⟩)
  case rest =>
    obtain ⟨g, rfl, hT⟩ := hcut
    clear o0 b0 b1 x0 HS Hcells Hv Hmi
    have hcells : ∀ X, St w ((g, 0, .int .u64 r) :: (g, 1, .int .u64 p) :: (w.heap.size, 0, .slice (some ⟨gp, 0, none⟩) 1 cp) :: (w.heap.size, 1, .slice (some ⟨gi, 0, none⟩) 1 ci) :: [(gp, 0, .int .u64 p), (gi, 0, .int .u64 1), (gr, 0, .int .u64 r)])
      [(w.heap.size, 2, 1, .slice (some ⟨w.heap.size + 1, 0, none⟩) 0 1, 0, [])] X → X.cell? ⟨g, 0, none⟩ = some (.int .u64 r) ∧ X.cell? ⟨g, 1, none⟩ = some (.int .u64 p) ∧ X.cell? ⟨w.heap.size, 1, none⟩ = some (.slice (some ⟨gi, 0, none⟩) 1 ci) ∧ X.cell? ⟨gi, 0, none⟩ = some (.int .u64 1) :=
      fun X hX => ⟨hX.has.1.1, hX.has.2.1.1, hX.has.2.2.2.1.1, hX.has.2.2.2.2.2.1.1⟩
    have Hcells := Lib.hid hcells
    obtain ⟨o0, o1, b1, x1⟩ := hcells _ hT
    clear hcells
    have hfd := run_field_res
    go_upto_region 6 with fail
    go_cut [9] (fun s9 wx => s9 = .int .i64 r ∧ St w ((g, 0, .int .u64 r) :: (g, 1, .int .u64 p) :: (w.heap.size, 0, .slice (some ⟨gp, 0, none⟩) 1 cp) :: (w.heap.size, 1, .slice (some ⟨gi, 0, none⟩) 1 ci) :: [(gp, 0, .int .u64 p), (gi, 0, .int .u64 1), (gr, 0, .int .u64 r)])
      [(w.heap.size, 2, 1, .slice (some ⟨w.heap.size + 1, 0, none⟩) 0 1, 0, [])] wx)
    case first =>
      go_region_held3 (fun w' => w'.cell? ⟨g, 0, none⟩ = some (.int .u64 r) ∧ w'.cell? ⟨g, 1, none⟩ = some (.int .u64 p) ∧ w'.cell? ⟨w.heap.size, 1, none⟩ = some (.slice (some ⟨gi, 0, none⟩) 1 ci) ∧ w'.cell? ⟨gi, 0, none⟩ = some (.int .u64 1))
        (first | exact Hcells.out _ hT | exact Hcells.out _ (St.drew hT) | exact Hcells.out _ hT2)
        (first
        | (go_at_call 137; refine (Hti.out _).mono ?_; rintro e w2 ⟨rfl, hb2⟩; unfold resV; have hT2 := St.keep (St.drew hT) hb2))
      go_wp2_with fail
      go_meet
      exact ⟨congrArg (Value.int .i64) (IntWalk.i64_in _ (by omega)), hT2⟩
    case rest =>
      obtain ⟨rfl, hT2⟩ := hcut
      clear o0 o1 b1 x1 Hcells Hti hT
      have hown := hT2.rows.1.1
      have Hbel := Lib.hid hT2.bel
      have hsz : w.heap.size ≤ (wc.alloc (.cells #[.int .i64 (dgO r p)] 2)).heap.size := by rw [World.size_alloc]; have := hT2.rows.1.2; omega
      obtain ⟨q, hq⟩ : ∃ q, p / 2 = q := ⟨_, rfl⟩
      have hp3 : (p : Int) / 2 = (q : Int) := by omega
      have hp4 : (p : Int).tdiv 2 = (q : Int) := by rw [Int.tdiv_eq_ediv_of_nonneg (by omega), hp3]
      by_cases hlt : q < r
      · have hdg : dgO r p = (r : Int) - p := by unfold dgO; rw [hq, if_pos hlt]
        rw [hdg] at hsz
        have Hdg := Lib.hid hdg
        have hlti : (q : Int) < (r : Int) := by omega
        have hq6 : q < 4611686018427387904 := by omega
        clear hdg hq
        go_upto_region 10 with (at_builtin; refine wpList_append_lies _ rfl _ _ 171 rfl w.heap.size 2 i0 (.int .i64 0) 1 8 Tryz.underlying171 hi hz0 hz1 hz2 rfl (by decide) _ 0 [] rfl (hown.alloc _) ⟨wc.heap.size, 0, none⟩ 1 1 [.int .i64 ((r : Int) - p)] rfl rfl ?c1 ?c2 ?c3 ?c4 ?c5 ?c6 (wc.heap.size + 1) (size_new' _ _) ?_)
        case c1 => exact cell_one_new _ _ _
        case c2 => exact one_cell _ rfl
        case c3 => exact Nat.one_pos
        case c4 => unfold maxLen; omega
        case c5 => omega
        case c6 => exact hsz
        intro g2 cap2 w2 hown2 hgrow2 hat2 hlt2
        have hb2 := own_below hown hT2.rows.1.2 hgrow2
        have hfin := own_cell hown2 0 (by omega)
        clear hown hT2
        go_wp2_with fail
        rw [rounds_succ]
        go_wp2_with fail
        go_ret
        refine ⟨_, _, rfl, ⟨⟨?_, hlt2⟩, trivial⟩, Hbel.out.trans hb2⟩
        rw [hfin, Hdg.out]
        rfl
      · have hdg : dgO r p = (r : Int) := by unfold dgO; rw [hq, if_neg hlt]
        rw [hdg] at hsz
        have Hdg := Lib.hid hdg
        have hlti : ¬ ((q : Int) < (r : Int)) := by omega
        have hq6 : q < 4611686018427387904 := by omega
        clear hdg hq
        go_upto_region 10 with (at_builtin; refine wpList_append_lies _ rfl _ _ 171 rfl w.heap.size 2 i0 (.int .i64 0) 1 8 Tryz.underlying171 hi hz0 hz1 hz2 rfl (by decide) _ 0 [] rfl (hown.alloc _) ⟨wc.heap.size, 0, none⟩ 1 1 [.int .i64 (r : Int)] rfl rfl ?d1 ?d2 ?d3 ?d4 ?d5 ?d6 (wc.heap.size + 1) (size_new' _ _) ?_)
        case d2 => rfl
        case d4 => unfold maxLen; omega
        case d6 => have := hT2.rows.1.2; omega
        intro g2 cap2 w2 hown2 hgrow2 hat2 hlt2
        have hb2 := own_below hown hT2.rows.1.2 hgrow2
        have hfin := own_cell hown2 0 (by omega)
        clear hown hT2
        go_wp2_with fail
        rw [rounds_succ]
        go_wp2_with fail
        go_ret
        refine ⟨_, _, rfl, ⟨⟨?_, hlt2⟩, trivial⟩, Hbel.out.trans hb2⟩
        rw [hfin, Hdg.out]
        rfl
end Go.Proofs.YtemcdnppgnobmaaGreatDoor
