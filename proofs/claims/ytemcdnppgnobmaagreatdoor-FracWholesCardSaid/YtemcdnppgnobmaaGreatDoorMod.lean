/-
  The walk of frac's modulo, of a sheet of one row of three ones without exchanges.
-/
import Derived.Test.YtemcdnppgnobmaaGreatDoorNew3
set_option linter.unusedVariables false
namespace Go.Proofs.YtemcdnppgnobmaaGreatDoor
open Go.RowKit

theorem info_res : (Tryz.prog.info? 153).map (fun i => (i.zero, i.size, i.bytes)) = some (some (.agg #[.int .u64 0, .int .u64 0]), 2, 16) := by kernel_rfl
theorem info_ress : (Tryz.prog.info? 165).map (fun i => (i.zero, i.size, i.bytes)) = some (some (.slice none 0 0), 1, 24) := by kernel_rfl
theorem run_makeRes3 (W : World) : (Instr.makeSlice 165 (.int .i64 0) (.int .i64 3)).run Tryz.prog W = .ok (.slice (some ⟨W.heap.size, 0, none⟩) 0 3) (W.alloc (.cells #[.int .u64 0, .int .u64 0, .int .u64 0, .int .u64 0, .int .u64 0, .int .u64 0] 153)) := by
  obtain ⟨i0, h0, hz, hs, hb⟩ := info_parts info_res
  have hr := run_make (P := Tryz.prog) W 165 153 i0 _ Tryz.underlying165 h0 hz .i64 .i64 0 3 (by omega) (by omega) (by rw [hb]; omega) (by omega)
  rw [hs, show madeCells (Value.agg #[.int .u64 0, .int .u64 0]).cells (Int.toNat 3 * 2) = #[.int .u64 0, .int .u64 0, .int .u64 0, .int .u64 0, .int .u64 0, .int .u64 0] from by kernel_rfl] at hr
  exact hr

/-- A residue is appended to a row that has room. -/
theorem app_row {X : World} {g h k : Nat} {cs : Array Value} {u v : Value} (hb : Blk X g 153 cs) (hsz : cs.size = 6) (hk : k < 3) (hl : Blk X h 153 #[u, v]) (hu : u.oneCell' = true) (hv : v.oneCell' = true) :
    ∃ X', (Builtin.append_ #[165, 165] 165 #[.slice (some ⟨g, 0, none⟩) k 3, .slice (some ⟨h, 0, none⟩) 1 1]).run Tryz.prog X = .ok (.slice (some ⟨g, 0, none⟩) (k + 1) 3) X' ∧
      Blk X' g 153 (cs.toList.take (k * 2) ++ [u, v] ++ cs.toList.drop (k * 2 + 2)).toArray ∧ Only g X X' := by
  obtain ⟨i0, h0, hz, hs, hbb⟩ := info_parts info_res
  have hr := run_append_room (P := Tryz.prog) X 165 165 153 i0 Tryz.underlying165 h0 g k 3 cs hb ⟨h, 0, none⟩ 1 1 [u, v] (by rw [hs]; rfl) (World.news_of_block hl) (by
    intro x hx
    simp only [List.mem_cons, List.not_mem_nil, or_false] at hx
    rcases hx with rfl | rfl <;> assumption) (by omega) (by rw [hs, hsz]; simp; omega)
  rw [hs] at hr
  refine ⟨_, hr, setRow_heap X g cs _ _ _ hb, ⟨rfl, rfl, rfl, by simp [World.setRow], fun j hj => setRow_other X g j _ hj⟩⟩

set_option maxRecDepth 100000 in
set_option maxHeartbeats 1600000 in
theorem shModulo_ones (s gS cS gz cz p : Nat) (A0 A1 A2 : Option Addr) (w : World) (h : Has [(s, 1, .slice (some ⟨gS, 0, none⟩) 1 cS), (gS, 0, .slice (some ⟨gz, 0, none⟩) 3 cz), (s, 6, .slice none 0 0)] w) (ho : Ones gz A0 A1 A2 w) (hp : 2 < p) :
    Calls Tryz.prog 121 #[.pointer (some ⟨s, 0, none⟩), .int .u64 p] w (fun e w' => ∃ t gc cc gr, e = .returned (.pointer (some ⟨t, 0, none⟩)) ∧
      Blk w' t 156 #[.slice (some ⟨gc, 0, none⟩) 1 cc, .int .u64 1, .int .u64 p] ∧ Blk w' gr 153 (rowC 1 1 1 p) ∧ Has [(gc, 0, .slice (some ⟨gr, 0, none⟩) 3 3)] w' ∧ Below w.heap.size w w' ∧
      w.heap.size ≤ t ∧ w.heap.size ≤ gr ∧ w.heap.size ≤ gc ∧ gr ≠ t ∧ gc ≠ t ∧ gc ≠ gr) := by
  have hmk := run_makeRes3
  have hfr := Lib.hid (fun A X (hX : Dg X A 1 1) => residueOf_dg A p X hX hp)
  obtain ⟨W, hW⟩ : ∃ W, W = (w.alloc (.cells #[.slice none 0 0, .int .u64 1, .int .u64 p] 156)).alloc (.cells #[.int .u64 0, .int .u64 0, .int .u64 0, .int .u64 0, .int .u64 0, .int .u64 0] 153) := ⟨_, rfl⟩
  have hbel : Below w.heap.size w W := by rw [hW]; exact (below_new _ _).more _
  have ht : Blk W w.heap.size 156 #[.slice none 0 0, .int .u64 1, .int .u64 p] := by rw [hW]; exact (Blk.new w 156 _).keep (below_new _ _)
  have hr : Blk W (w.heap.size + 1) 153 #[.int .u64 0, .int .u64 0, .int .u64 0, .int .u64 0, .int .u64 0, .int .u64 0] := by
    have := Blk.new (w.alloc (.cells #[.slice none 0 0, .int .u64 1, .int .u64 p] 156)) 153 #[.int .u64 0, .int .u64 0, .int .u64 0, .int .u64 0, .int .u64 0, .int .u64 0]
    rw [size_new] at this
    rw [hW]; exact this
  have H := Lib.hid h
  have HO := Lib.hid ho
  obtain ⟨⟨s1, _⟩, ⟨k0, _⟩, ⟨s6, _⟩, _⟩ := h
  have HW := Lib.hid hW
  have Hbel := Lib.hid hbel
  have hoW := ho.keep hbel
  obtain ⟨⟨c0, _⟩, ⟨c1, _⟩, ⟨c2, _⟩, ⟨c3, _⟩, ⟨c4, _⟩, ⟨c5, _⟩, _⟩ := hoW.has
  have HOw := Lib.hid (fun X (hX : Below w.heap.size w X) => ho.keep hX)
  clear hW ho
  go_enter Tryz.func121, Tryz.ntmps121
  go_upto_region 3 with fail
  refine wp_loop_rounds 2 ?_
  rw [rounds_succ]
  go_upto_region 6 with fail
  rw [← HW.out]
  go_upto_region 7 with fail
  refine wp_loop_rounds 4 ?_
  rw [rounds_succ]
  have HO0 := Lib.hid hoW
  have HB0 := Lib.hid hbel
  have HT0 := Lib.hid ht
  have HR0 := Lib.hid hr
  have k0' : 0 < 3 := by omega
  have k1' : 1 < 3 := by omega
  have k2' : 2 < 3 := by omega
  clear hoW hbel ht hr
  go_upto_region 9 with fail
  have hbx0 := below_new W (.cells #[.bool false, .slice A0 1 1] 25)
  have hd0 := (HO0.out.keep hbx0).d0
  go_upto_region 10 with (first
    | (go_at_call 130; refine (hfr.out A0 _ hd0).mono ?_; rintro e y0 ⟨rfl, hby0⟩; unfold resV; obtain ⟨X1, hrun0, hrb0, hro0⟩ := app_row (X := y0.alloc (.cells #[.int .u64 1, .int .u64 p] 153)) (h := y0.heap.size) (Blk.keep (Blk.keep HR0.out (Below.and hbx0 hby0)) (below_new _ (.cells #[.int .u64 1, .int .u64 p] 153))) rfl k0' (Blk.new y0 153 #[.int .u64 1, .int .u64 p]) rfl rfl)
    | (at_builtin; refine wpList_append_run rfl rfl rfl rfl hrun0 ?_))
  have hbz0 : Below (w.heap.size + 1) W X1 := (((hbx0.and hby0).and (below_new _ _)).mono (Nat.le_of_lt HR0.out.lt)).trans (hro0.below (Nat.le_refl _))
  have HB1 := Lib.hid (HB0.out.trans (hbz0.mono (Nat.le_succ _)))
  have HO1 := Lib.hid (HOw.out X1 HB1.out)
  have HT1 := Lib.hid (HT0.out.below hbz0 (Nat.lt_succ_self _))
  have HR1 := Lib.hid (show Blk X1 (w.heap.size + 1) 153 #[.int .u64 1, .int .u64 p, .int .u64 0, .int .u64 0, .int .u64 0, .int .u64 0] from hrb0)
  obtain ⟨⟨c0, _⟩, ⟨c1, _⟩, ⟨c2, _⟩, ⟨c3, _⟩, ⟨c4, _⟩, ⟨c5, _⟩, _⟩ := HO1.out.has
  clear hrun0 hrb0 hro0 hbz0 hby0 hbx0 hd0 HO0 HB0 HT0 HR0
  go_wp2_with fail
  rw [rounds_succ]
  go_upto_region 9 with fail
  have hbx1 := below_new X1 (.cells #[.bool false, .slice A1 1 1] 25)
  have hd1 := (HO1.out.keep hbx1).d1
  go_upto_region 10 with (first
    | (go_at_call 130; refine (hfr.out A1 _ hd1).mono ?_; rintro e y1 ⟨rfl, hby1⟩; unfold resV; obtain ⟨X2, hrun1, hrb1, hro1⟩ := app_row (X := y1.alloc (.cells #[.int .u64 1, .int .u64 p] 153)) (h := y1.heap.size) (Blk.keep (Blk.keep HR1.out (Below.and hbx1 hby1)) (below_new _ (.cells #[.int .u64 1, .int .u64 p] 153))) rfl k1' (Blk.new y1 153 #[.int .u64 1, .int .u64 p]) rfl rfl)
    | (at_builtin; refine wpList_append_run rfl rfl rfl rfl hrun1 ?_))
  have hbz1 : Below (w.heap.size + 1) X1 X2 := (((hbx1.and hby1).and (below_new _ _)).mono (Nat.le_of_lt HR1.out.lt)).trans (hro1.below (Nat.le_refl _))
  have HB2 := Lib.hid (HB1.out.trans (hbz1.mono (Nat.le_succ _)))
  have HO2 := Lib.hid (HOw.out X2 HB2.out)
  have HT2 := Lib.hid (HT1.out.below hbz1 (Nat.lt_succ_self _))
  have HR2 := Lib.hid (show Blk X2 (w.heap.size + 1) 153 #[.int .u64 1, .int .u64 p, .int .u64 1, .int .u64 p, .int .u64 0, .int .u64 0] from hrb1)
  obtain ⟨⟨c0, _⟩, ⟨c1, _⟩, ⟨c2, _⟩, ⟨c3, _⟩, ⟨c4, _⟩, ⟨c5, _⟩, _⟩ := HO2.out.has
  clear hrun1 hrb1 hro1 hbz1 hby1 hbx1 hd1 HO1 HB1 HT1 HR1
  go_wp2_with fail
  rw [rounds_succ]
  go_upto_region 9 with fail
  have hbx2 := below_new X2 (.cells #[.bool false, .slice A2 1 1] 25)
  have hd2 := (HO2.out.keep hbx2).d2
  go_upto_region 10 with (first
    | (go_at_call 130; refine (hfr.out A2 _ hd2).mono ?_; rintro e y2 ⟨rfl, hby2⟩; unfold resV; obtain ⟨X3, hrun2, hrb2, hro2⟩ := app_row (X := y2.alloc (.cells #[.int .u64 1, .int .u64 p] 153)) (h := y2.heap.size) (Blk.keep (Blk.keep HR2.out (Below.and hbx2 hby2)) (below_new _ (.cells #[.int .u64 1, .int .u64 p] 153))) rfl k2' (Blk.new y2 153 #[.int .u64 1, .int .u64 p]) rfl rfl)
    | (at_builtin; refine wpList_append_run rfl rfl rfl rfl hrun2 ?_))
  have hbz2 : Below (w.heap.size + 1) X2 X3 := (((hbx2.and hby2).and (below_new _ _)).mono (Nat.le_of_lt HR2.out.lt)).trans (hro2.below (Nat.le_refl _))
  have HB3 := Lib.hid (HB2.out.trans (hbz2.mono (Nat.le_succ _)))
  have HO3 := Lib.hid (HOw.out X3 HB3.out)
  have HT3 := Lib.hid (HT2.out.below hbz2 (Nat.lt_succ_self _))
  have HR3 := Lib.hid (show Blk X3 (w.heap.size + 1) 153 #[.int .u64 1, .int .u64 p, .int .u64 1, .int .u64 p, .int .u64 1, .int .u64 p] from hrb2)
  obtain ⟨⟨c0, _⟩, ⟨c1, _⟩, ⟨c2, _⟩, ⟨c3, _⟩, ⟨c4, _⟩, ⟨c5, _⟩, _⟩ := HO3.out.has
  clear hrun2 hrb2 hro2 hbz2 hby2 hbx2 hd2 HO2 HB2 HT2 HR2
  go_wp2_with fail
  rw [rounds_succ]
  go_upto_region 11 with fail
  obtain ⟨i0, hi, hz0, hz1, hz2⟩ := info_parts info_ress
  have hnil := World.ownsRow_nil X3 X3.heap.size 165 1
  have hsz4 : X3.heap.size ≤ (X3.alloc (.cells #[.slice (some ⟨w.heap.size + 1, 0, none⟩) 3 3] 165)).heap.size := by rw [World.size_alloc]; omega
  have q0 : X3.cell? ⟨w.heap.size, 0, none⟩ = some (.slice none 0 0) := HT3.out.cell 0
  have hlt : w.heap.size + 1 < X3.heap.size := HR3.out.lt
  go_upto_region 12 with (at_builtin; refine wpList_append_lies _ rfl _ _ 154 rfl X3.heap.size 165 i0 (.slice none 0 0) 1 24 Tryz.underlying154 hi hz0 hz1 hz2 rfl (by decide) _ 0 [] rfl (hnil.alloc _) ⟨X3.heap.size, 0, none⟩ 1 1 [.slice (some ⟨w.heap.size + 1, 0, none⟩) 3 3] rfl rfl ?e1 ?e2 ?e3 ?e4 ?e5 ?e6 (X3.heap.size + 1) (size_new' _ _) ?_)
  case e1 => exact cell_one_new _ _ _
  case e2 => exact one_cell _ rfl
  case e3 => exact Nat.one_pos
  case e4 => unfold maxLen; omega
  case e5 => omega
  case e6 => exact hsz4
  intro gc cc w4 hown4 hgrow4 hat4 hlt4
  have hb4 := own_below hnil (Nat.le_refl _) hgrow4
  have hT4 := HT3.out.keep hb4
  have hR4 := HR3.out.keep hb4
  have hg4 := own_lt hown4
  have hc4 := own_cell hown4 0 (by omega)
  have q1 : w4.cell? ⟨w.heap.size, 0, none⟩ = some (.slice none 0 0) := hT4.cell 0
  have q2 := hT4.free 0
  have ho5 : Only w.heap.size w4 (w4.setCell ⟨w.heap.size, 0, none⟩ (.slice (some ⟨gc, 0, none⟩) 1 cc)) := (Only.refl _ w4).setCell 0 _
  have hT5 := hT4.store 0 (.slice (some ⟨gc, 0, none⟩) 1 cc)
  have Hfin : (∃ gc' cc', Blk (w4.setCell ⟨w.heap.size, 0, none⟩ (.slice (some ⟨gc, 0, none⟩) 1 cc)) w.heap.size 156 #[.slice (some ⟨gc', 0, none⟩) 1 cc', .int .u64 1, .int .u64 p] ∧ Blk (w4.setCell ⟨w.heap.size, 0, none⟩ (.slice (some ⟨gc, 0, none⟩) 1 cc)) (w.heap.size + 1) 153 (rowC 1 1 1 p) ∧ Has [(gc', 0, .slice (some ⟨w.heap.size + 1, 0, none⟩) 3 3)] (w4.setCell ⟨w.heap.size, 0, none⟩ (.slice (some ⟨gc, 0, none⟩) 1 cc)) ∧ Below w.heap.size w (w4.setCell ⟨w.heap.size, 0, none⟩ (.slice (some ⟨gc, 0, none⟩) 1 cc)) ∧ w.heap.size + 1 < gc') :=
    ⟨gc, cc, hT5, ho5.blk (by omega) hR4, ⟨⟨(ho5.cell (p := ⟨gc, 0, none⟩) (by simp; omega)).trans hc4, by rw [ho5.size]; exact hlt4⟩, trivial⟩, (HB3.out.and hb4).trans (ho5.below (Nat.le_refl _)), by omega⟩
  obtain ⟨wc, hwc⟩ : ∃ wc, wc = w4.setCell ⟨w.heap.size, 0, none⟩ (.slice (some ⟨gc, 0, none⟩) 1 cc) := ⟨_, rfl⟩
  rw [← hwc] at Hfin
  have Hwc := Lib.hid hwc
  clear hwc hown4 hgrow4 hT4 hR4 hT5 ho5 hb4 hc4 hg4
  go_upto_region 12 with fail
  rw [← Hwc.out]
  obtain ⟨gc', cc', hT, hR, hG, hB, hgc⟩ := Hfin
  have s1' := ((H.out.keep hB)).1.1
  have s6' := ((H.out.keep hB)).2.2.1.1
  have Hend := Lib.hid (show Blk wc w.heap.size 156 #[.slice (some ⟨gc', 0, none⟩) 1 cc', .int .u64 1, .int .u64 p] ∧ Blk wc (w.heap.size + 1) 153 (rowC 1 1 1 p) ∧ Has [(gc', 0, .slice (some ⟨w.heap.size + 1, 0, none⟩) 3 3)] wc ∧ Below w.heap.size w wc from ⟨hT, hR, hG, hB⟩)
  clear hT hR hG hB q0 q1 q2 hnil hsz4 s1 k0 s6 Hwc
  go_wp2_with fail
  rw [rounds_succ]
  go_wp2_with fail
  refine wp_loop_rounds 1 ?_
  rw [rounds_succ]
  go_wp2_with fail
  go_ret
  exact ⟨w.heap.size, gc', cc', w.heap.size + 1, rfl, Hend.out.1, Hend.out.2.1, Hend.out.2.2.1, Hend.out.2.2.2, by omega, by omega, by omega, by omega, by omega, by omega⟩
end Go.Proofs.YtemcdnppgnobmaaGreatDoor
