/-
  The walks of the exchange of a sheet of one row of three ones, of solve and obstacle.
-/
import Derived.Test.YtemcdnppgnobmaaGreatDoorSex
set_option linter.unusedVariables false
namespace Go.Proofs.YtemcdnppgnobmaaGreatDoor
open Go.RowKit

theorem info_tabp : (Tryz.prog.info? 150).map (fun i => (i.zero, i.size, i.bytes)) = some (some (.pointer none), 1, 8) := by kernel_rfl
theorem info_pair : (Tryz.prog.info? 167).map (fun i => (i.zero, i.size, i.bytes)) = some (some (.agg #[.int .i64 0, .int .i64 0]), 2, 16) := by kernel_rfl

theorem run_makeTabs (W : World) : (Instr.makeSlice 131 (.int .i64 0) (.int .i64 1)).run Tryz.prog W = .ok (.slice (some ⟨W.heap.size, 0, none⟩) 0 1) (W.alloc (.cells #[.pointer none] 150)) := by
  obtain ⟨i0, h0, hz, hs, hb⟩ := info_parts info_tabp
  have hr := run_make (P := Tryz.prog) W 131 150 i0 _ Tryz.underlying131 h0 hz .i64 .i64 0 1 (by omega) (by omega) (by rw [hb]; omega) (by omega)
  rw [hs, show madeCells (Value.pointer none).cells (Int.toNat 1 * 1) = #[.pointer none] from by kernel_rfl] at hr
  exact hr

set_option maxRecDepth 100000 in
set_option maxHeartbeats 1600000 in
theorem shExchange_ones (w0 : World) (a : Sa) (p : Nat) (S F : Value) (sense : Int) (nx : Nat) (L : List (Nat × Nat × Value)) (w : World) (h : Sh w0 a 1 1 1 p 0 2 S F (.slice none 0 0) sense nx L w) (hp : 2 < p) (hp2 : p < 4611686018427387904) :
    Calls Tryz.prog 124 #[.pointer (some ⟨a.s, 0, none⟩), .int .i64 0, .int .i64 0] w (fun e w' => e = .returned (.tuple #[]) ∧ ∃ D, Sh w0 a 1 (p - 1) (p - 1) p 2 0 S F D sense nx L w') := by
  obtain ⟨i0, hi, hz0, hz1, hz2⟩ := info_parts info_tabp
  obtain ⟨j0, hj, hy0, hy1, hy2⟩ := info_parts info_pair
  have hmk := run_makeTabs
  obtain ⟨W, hW⟩ : ∃ W, W = w.alloc (.cells #[.pointer none] 150) := ⟨_, rfl⟩
  have hS : Sh w0 a 1 1 1 p 0 2 S F (.slice none 0 0) sense nx L W := by rw [hW]; exact h.keep (below_new _ _)
  have hown : W.ownsRow w.heap.size 150 1 (.slice (some ⟨w.heap.size, 0, none⟩) 0 1) 0 [] := by
    rw [hW]
    exact World.ownsRow_made (base := w.heap.size) (e := 150) (size := 1) w #[.pointer none] 1 (Nat.le_refl _) (by unfold maxLen; omega) rfl
  have hszW : w.heap.size ≤ W.heap.size := by rw [hW]; simp
  have hz := fun X => resZero_pos 1 p X (by omega)
  have Hz := Lib.hid hz
  have Hte := Lib.hid (fun X hX => tabExchange_ones a p X hX hp hp2)
  have HW := Lib.hid hW
  have s8' := h.bs.cell 8
  have l8 : a.s < w.heap.size := h.bs.lt
  have s8 : W.cell? ⟨a.s, 8, none⟩ = some (.slice (some ⟨a.gt, 0, none⟩) 1 a.ct) := hS.bs.cell 8
  have g0 := hS.has.2.1.1
  have t0 : W.cell? ⟨a.t, 0, none⟩ = some (.slice (some ⟨a.gc, 0, none⟩) 1 a.cc) := hS.bt.cell 0
  have k0 := hS.has.1.1
  have r0 : W.cell? ⟨a.gr, 0, none⟩ = some (.int .u64 1) := hS.br.cell 0
  have r1 : W.cell? ⟨a.gr, 1, none⟩ = some (.int .u64 p) := hS.br.cell 1
  replace s8' : w.cell? ⟨a.s, 8, none⟩ = some (.slice (some ⟨a.gt, 0, none⟩) 1 a.ct) := s8'
  have h0 := h
  have l9 : a.t < w.heap.size := h.bt.lt
  have l10 : a.gr < w.heap.size := h.br.lt
  clear hz hW h
  go_enter Tryz.func124, Tryz.ntmps124
  go_upto_region 1 with fail
  rw [← HW.out]
  clear HW
  go_upto_region 2 with fail
  refine wp_loop_rounds 2 ?_
  rw [rounds_succ]
  go_upto_region 5 with (go_at_call 131; refine (Hz.out _).mono ?_; rintro e w1 ⟨rfl, hb1⟩)
  have hS1 := hS.keep hb1
  have hown1 := own_keep hown hb1
  have Hex := Lib.hid (Hte.out _ hS1.ex)
  clear s8 g0 t0 k0 r0 r1 hown s8' hS
  go_upto_region 6 with (go_at_call 132; refine Hex.out.mono ?_; rintro e w2 ⟨rfl, hx2⟩)
  have hS2 := hS1.exchanged hx2
  have hown2 := own_but hown1 hx2.but l9 l10
  have hsz2 : w.heap.size ≤ (w2.alloc (.cells #[.pointer (some ⟨a.t, 0, none⟩)] 150)).heap.size := by rw [World.size_alloc]; have := hb1.size; have := hx2.but.size; omega
  go_upto_region 7 with (at_builtin; refine wpList_append_lies _ rfl _ _ 131 rfl w.heap.size 150 i0 (.pointer none) 1 8 Tryz.underlying131 hi hz0 hz1 hz2 rfl (by decide) _ 0 [] rfl (hown2.alloc _) ⟨w2.heap.size, 0, none⟩ 1 1 [.pointer (some ⟨a.t, 0, none⟩)] rfl rfl ?c1 ?c2 ?c3 ?c4 ?c5 ?c6 (w2.heap.size + 1) (size_new' _ _) ?_)
  case c1 => exact cell_one_new _ _ _
  case c2 => exact one_cell _ rfl
  case c3 => exact Nat.one_pos
  case c4 => unfold maxLen; omega
  case c5 => omega
  case c6 => exact hsz2
  intro gk ck w3 hown3 hgrow3 hat3 hlt3
  have hS3 := Sh.late h0 hS2 (own_below hown2 (by have := hb1.size; have := hx2.but.size; omega) hgrow3)
  clear hown3 hgrow3 hat3 hown2 hx2 hS2 hown1 hb1 hS1 Hex Hz Hte
  go_wp2_with fail
  rw [rounds_succ]
  go_upto_region 8 with fail
  have u6 : w3.cell? ⟨a.s, 6, none⟩ = some (.slice none 0 0) := hS3.bs.cell 6
  have e6 := hS3.bs.free 6
  have hnil := World.ownsRow_nil w3 w3.heap.size 167 2
  have hsz4 : w3.heap.size ≤ (w3.alloc (.cells #[.int .i64 0, .int .i64 0] 167)).heap.size := by rw [World.size_alloc]; omega
  go_cut [] (fun wx => ∃ D, Sh w0 a 1 (p - 1) (p - 1) p 0 2 S F D sense nx L wx)
  case first =>
    go_wp2_with (at_builtin; refine wpList_append_lies _ rfl _ _ 130 rfl w3.heap.size 167 j0 (.agg #[.int .i64 0, .int .i64 0]) 2 16 Tryz.underlying130 hj hy0 hy1 hy2 rfl (by decide) _ 0 [] rfl (hnil.alloc _) ⟨w3.heap.size, 0, none⟩ 1 1 [.int .i64 0, .int .i64 0] rfl rfl ?e1 ?e2 ?e3 ?e4 ?e5 ?e6 (w3.heap.size + 1) (size_new' _ _) ?_)
    case e1 => exact World.news_of_block (cs := #[.int .i64 0, .int .i64 0]) (t := 167) (fr := (0, 0)) (heap_alloc_new w3 _)
    case e2 => intro u hu; simp only [List.mem_cons, List.not_mem_nil, or_false] at hu; rcases hu with rfl | rfl <;> rfl
    case e3 => exact Nat.one_pos
    case e4 => unfold maxLen; omega
    case e5 => omega
    case e6 => exact hsz4
    intro gd cd w4 hown4 hgrow4 hat4 hlt4
    have hS4 := hS3.keep (own_below hnil (Nat.le_refl _) hgrow4)
    have u6' : w4.cell? ⟨a.s, 6, none⟩ = some (.slice none 0 0) := hS4.bs.cell 6
    have e6' := hS4.bs.free 6
    clear hown4 hgrow4
    go_wp2_with fail
    go_meet
    exact ⟨_, hS4.own rfl⟩
  case rest =>
    obtain ⟨D, hS4⟩ := hcut
    clear hS3 u6 e6 hnil hsz4
    have a5 : wc.cell? ⟨a.s, 5, none⟩ = some (.slice (some ⟨a.gb, 0, none⟩) 1 a.cb) := hS4.bs.cell 5
    have a4 : wc.cell? ⟨a.s, 4, none⟩ = some (.slice (some ⟨a.ga, 0, none⟩) 2 a.ca) := hS4.bs.cell 4
    have b0 := hS4.cb
    have c0 := hS4.c0
    have fb := hS4.fb
    have fa := hS4.fa
    have n1 : a.ga ≠ a.gb := hS4.d1.2.2.2.2.2.2.2.2.2
    have n2 : a.gb ≠ a.ga := Ne.symm n1
    go_upto_region 9 with fail
    go_cut [] (fun wx => Sh w0 a 1 (p - 1) (p - 1) p 2 0 S F D sense nx L wx)
    case first =>
      go_region
      all_goals (try go_wp2_with fail)
      go_meet
      first | exact Sh.swap hS4 0 2 | exact Sh.swap (Sh.keep hS4 (Below.drew (Below.refl _ _))) 0 2
    case rest =>
      have a8 : wc.cell? ⟨a.s, 8, none⟩ = some (.slice (some ⟨a.gt, 0, none⟩) 1 a.ct) := hcut.bs.cell 8
      have Hcut := Lib.hid hcut
      clear hcut hS4 b0 c0 fb fa a5 a4
      go_wp2_with fail
      go_end0
      exact ⟨rfl, D, Hcut.out⟩

set_option maxRecDepth 100000 in
set_option maxHeartbeats 1600000 in
theorem shSolve_ones (w0 : World) (a : Sa) (p : Nat) (S F : Value) (sense : Int) (nx : Nat) (L : List (Nat × Nat × Value)) (w : World) (h : Sh w0 a 1 1 1 p 0 2 S F (.slice none 0 0) sense nx L w) (hp : 2 < p) (hp2 : p < 4611686018427387904) :
    Calls Tryz.prog 107 #[.pointer (some ⟨a.s, 0, none⟩)] w (fun e w' => e = .returned (.tuple #[]) ∧ ∃ D, Sh w0 a 1 (p - 1) (p - 1) p 2 0 S F D 1 nx L w') := by
  have Hz := Lib.hid (shZero_0 a 1 1 1 p w h.fix h.tab (by omega))
  have Hex := Lib.hid (fun X hX => shExchange_ones w0 a p S F sense nx L X hX hp hp2)
  have H := Lib.hid h
  have s5 : w.cell? ⟨a.s, 5, none⟩ = some (.slice (some ⟨a.gb, 0, none⟩) 1 a.cb) := h.bs.cell 5
  have s4 : w.cell? ⟨a.s, 4, none⟩ = some (.slice (some ⟨a.ga, 0, none⟩) 2 a.ca) := h.bs.cell 4
  have s0 : w.cell? ⟨a.s, 0, none⟩ = some (.int .i64 2) := h.bs.cell 0
  have c0 := h.c0
  clear h
  go_enter Tryz.func107, Tryz.ntmps107
  go_upto_region 1 with fail
  refine wp_loop_rounds 2 ?_
  rw [rounds_succ]
  go_upto_region 4 with fail
  refine wp_loop_rounds 2 ?_
  rw [rounds_succ]
  go_upto_region 7 with (go_at_call 123; refine Hz.out.mono ?_; rintro e w1 ⟨rfl, hb1⟩)
  have hS1 := H.out.keep hb1
  have Hx := Lib.hid (Hex.out _ hS1)
  clear Hex hS1 Hz s5 s4 s0 c0 hb1 H
  go_upto_region 9 with (go_at_call 124; refine Hx.out.mono ?_; rintro e w2 ⟨rfl, D, hS2⟩)
  clear Hx
  have Hsc := Lib.hid (shScale_any a 1 (p - 1) (p - 1) p w2 hS2.fix hS2.tab hp hp2)
  go_wp2_with fail
  rw [rounds_succ]
  go_upto_region 10 with fail
  go_wp2_with fail
  refine Hsc.out.mono ?_
  rintro e w3 ⟨A, n, rfl, hd, hb3⟩
  have hS3 := hS2.keep hb3
  have hsg := sign_any A n 1 w3 hd
  have Hsg := Lib.hid hsg
  clear hsg Hsc
  unfold intV at *
  go_wp2_with fail
  refine Hsg.out.mono ?_
  rintro e w4 ⟨rfl, hb4⟩
  have hS4 := hS3.keep hb4
  have u7 : w4.cell? ⟨a.s, 7, none⟩ = some (.int .i64 sense) := hS4.bs.cell 7
  have e7 := hS4.bs.free 7
  have Hfin := Lib.hid (Sh.own (i := 7) (u := .int .i64 1) (D' := D) (sense' := 1) hS4 rfl)
  clear hS2 hS3 hS4
  go_wp2_with fail
  go_end0
  exact ⟨rfl, D, Hfin.out⟩

theorem sgn_minus {p : Nat} (hp : 2 < p) (hp2 : p < 4611686018427387904) : dgO (p - 1) p = -1 := by
  unfold dgO
  rw [if_pos (by omega)]
  omega

set_option maxRecDepth 100000 in
theorem shObstacle_ones (w0 : World) (a : Sa) (p : Nat) (S F : Value) (sense : Int) (nx : Nat) (L : List (Nat × Nat × Value)) (w : World) (h : Sh w0 a 1 1 1 p 0 2 S F (.slice none 0 0) sense nx L w) (hp : 2 < p) (hp2 : p < 4611686018427387904) :
    Calls Tryz.prog 80 #[.pointer (some ⟨a.s, 0, none⟩)] w (fun e w' => e = .returned (.int .i64 0) ∧ ∃ D, Sh w0 a 1 (p - 1) (p - 1) p 2 0 S F D 1 nx L w') := by
  have Hso := Lib.hid (shSolve_ones w0 a p S F sense nx L w h hp hp2)
  have hq : ∀ D X, Sh w0 a 1 (p - 1) (p - 1) p 2 0 S F D 1 nx L X → Has (sidL a) X := fun D X hX => ⟨⟨hX.cb, hX.lb⟩, ⟨hX.c0, hX.la⟩, ⟨hX.c1, hX.la⟩, trivial⟩
  have Hco := Lib.hid (fun D X (hX : Sh w0 a 1 (p - 1) (p - 1) p 2 0 S F D 1 nx L X) => shContra_none a p X hX.fix (hq D X hX))
  have hn : (dgO (p - 1) p).sign = -1 := by rw [sgn_minus hp hp2]; rfl
  have Hst := Lib.hid (fun D X (hX : Sh w0 a 1 (p - 1) (p - 1) p 2 0 S F D 1 nx L X) => shStraighten_row a 1 (p - 1) (p - 1) p X hX.fix hX.tab (hq D X hX) hX.sen (by omega) (by omega) hn (by omega) (by omega) hn hp hp2)
  clear h hq hn
  go_enter Tryz.func80, Tryz.ntmps80
  go_wp2_with fail
  refine Hso.out.mono ?_
  rintro e w1 ⟨rfl, D, hS1⟩
  go_wp2_with fail
  refine (Hco.out D _ hS1).mono ?_
  rintro e w2 ⟨rfl, hb2⟩
  have hS2 := hS1.keep hb2
  go_wp2_with fail
  refine (Hst.out D _ hS2).mono ?_
  rintro e w3 ⟨rfl, hb3⟩
  have hS3 := hS2.keep hb3
  go_wp2_with fail
  go_ret
  exact ⟨rfl, D, hS3⟩
end Go.Proofs.YtemcdnppgnobmaaGreatDoor
