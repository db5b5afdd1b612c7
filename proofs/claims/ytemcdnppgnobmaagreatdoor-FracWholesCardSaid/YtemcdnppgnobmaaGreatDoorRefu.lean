/-
  The walk of frac's newSheet, of a system of one row of two ones and one element that is -1.
  The walk of frac's Refuse, of the equation x + y = -1.
-/
import Derived.Test.YtemcdnppgnobmaaGreatDoorChk
import Derived.Test.YtemcdnppgnobmaaGreatDoorWei
set_option linter.unusedVariables false
namespace Go.Proofs.YtemcdnppgnobmaaGreatDoor
open Go.RowKit

/-- A sheet's block while it is made. -/
def shG (n : Int) (S F : Value) (en : Int) (U V : Value) : Array Value := #[.int .i64 n, S, F, .int .i64 en, U, V, .slice none 0 0, .int .i64 1, .slice none 0 0, .slice none 0 0, .slice none 0 0, .int .u64 1000000000000000000]

theorem info_i : (Tryz.prog.info? 3).map (fun i => (i.zero, i.size, i.bytes)) = some (some (.int .i64 0), 1, 8) := by kernel_rfl

theorem info_c : (Tryz.prog.info? 129).map (fun i => (i.zero, i.size, i.bytes)) = some (some (.slice none 0 0), 1, 24) := by kernel_rfl

theorem Ones.only {gz g : Nat} {A0 A1 A2 : Option Addr} {X Y : World} {t : TypeId} {cs : Array Value} (h : Ones gz A0 A1 A2 X) (ho : Only g X Y) (hb : Blk X g t cs) (hcs : ∀ (i : Nat) (z : Int), cs[i]? ≠ some (Value.int .u32 z)) (hg : gz ≠ g) : Ones gz A0 A1 A2 Y :=
  ⟨h.has.only ho (by
      intro c hc
      simp only [List.mem_cons, List.not_mem_nil, or_false] at hc
      rcases hc with rfl | rfl | rfl | rfl | rfl | rfl <;> exact hg), h.d0.only ho hb hcs, h.d1.only ho hb hcs, h.d2.only ho hb hcs⟩

theorem shG_free (n en : Int) (A B C D : Option Addr) (i1 i2 j1 j2 k1 k2 l1 l2 : Nat) : ∀ (i : Nat) (z : Int), (shG n (.slice A i1 i2) (.slice B j1 j2) en (.slice C k1 k2) (.slice D l1 l2))[i]? ≠ some (Value.int .u32 z) := by
  intro i z
  unfold shG
  match i with
  | 0 | 1 | 2 | 3 | 4 | 5 | 6 | 7 | 8 | 9 | 10 | 11 => simp
  | i + 12 => simp

theorem two_cells' (a b : Value) (ha : a.oneCell' = true) (hb : b.oneCell' = true) : ∀ u ∈ [a, b], u.oneCell' = true := by
  intro u hu
  simp only [List.mem_cons, List.not_mem_nil, or_false] at hu
  rcases hu with rfl | rfl <;> assumption
theorem alloc_size_le' {n : Nat} (w : World) (o : Obj) (h : n ≤ w.heap.size) : n ≤ (w.alloc o).heap.size := by simp; omega

/-- A sheet that is being made: its block, further cells, its row of ones, the row of what stands above. -/
structure NS (w : World) (s : Nat) (en : Int) (SA FA UA VA : Option Addr) (s1 s2 f1 f2 u1 u2 v1 v2 : Nat) (gz : Nat) (A0 A1 A2 : Option Addr) (ga : Nat) (L : List (Nat × Nat × Value)) (X : World) : Prop where
  bs : Blk X s 136 (shG 2 (.slice SA s1 s2) (.slice FA f1 f2) en (.slice UA u1 u2) (.slice VA v1 v2))
  has : Has L X
  ones : Ones gz A0 A1 A2 X
  bel : Below w.heap.size w X
  out : ∀ c ∈ L, c.1 ≠ s
  nz : gz ≠ s
  fr : X.frozen? ⟨ga, 0, none⟩ = false
  lg : ga < X.heap.size
  ng : ga ≠ s
  lo : w.heap.size ≤ s

section
variable {w X Y : World} {s : Nat} {en : Int} {SA FA UA VA : Option Addr} {s1 s2 f1 f2 u1 u2 v1 v2 : Nat} {gz : Nat} {A0 A1 A2 : Option Addr} {ga : Nat} {L : List (Nat × Nat × Value)}
theorem NS.keep (h : NS w s en SA FA UA VA s1 s2 f1 f2 u1 u2 v1 v2 gz A0 A1 A2 ga L X) (hb : Below X.heap.size X Y) : NS w s en SA FA UA VA s1 s2 f1 f2 u1 u2 v1 v2 gz A0 A1 A2 ga L Y :=
  ⟨h.bs.keep hb, h.has.keep hb, h.ones.keep hb, h.bel.and hb, h.out, h.nz, (World.frozen?_of_block (a := ⟨ga, 0, none⟩) (hb.block ga h.lg)).trans h.fr, Nat.lt_of_lt_of_le h.lg hb.size, h.ng, h.lo⟩
theorem NS.add (h : NS w s en SA FA UA VA s1 s2 f1 f2 u1 u2 v1 v2 gz A0 A1 A2 ga L X) {b o : Nat} {v : Value} (hc : X.cell? ⟨b, o, none⟩ = some v) (hl : b < X.heap.size) (hn : b ≠ s) : NS w s en SA FA UA VA s1 s2 f1 f2 u1 u2 v1 v2 gz A0 A1 A2 ga ((b, o, v) :: L) X :=
  ⟨h.bs, ⟨⟨hc, hl⟩, h.has⟩, h.ones, h.bel, fun c hc => by rcases List.mem_cons.1 hc with rfl | e; exact hn; exact h.out c e, h.nz, h.fr, h.lg, h.ng, h.lo⟩
theorem NS.own {en' : Int} {SA' FA' UA' VA' : Option Addr} {s1' s2' f1' f2' u1' u2' v1' v2' : Nat} {i : Nat} {u : Value} (h : NS w s en SA FA UA VA s1 s2 f1 f2 u1 u2 v1 v2 gz A0 A1 A2 ga L X)
    (hj : (shG 2 (.slice SA s1 s2) (.slice FA f1 f2) en (.slice UA u1 u2) (.slice VA v1 v2)).setIfInBounds i u = shG 2 (.slice SA' s1' s2') (.slice FA' f1' f2') en' (.slice UA' u1' u2') (.slice VA' v1' v2')) :
    NS w s en' SA' FA' UA' VA' s1' s2' f1' f2' u1' u2' v1' v2' gz A0 A1 A2 ga L (X.setCell ⟨s, i, none⟩ u) := by
  have ho := (Only.refl s X).setCell i u
  have hb := h.bs.store i u
  rw [hj] at hb
  exact ⟨hb, h.has.only ho h.out, h.ones.only ho h.bs (shG_free _ _ _ _ _ _ _ _ _ _ _ _ _ _) h.nz, h.bel.trans (ho.below h.lo), h.out, h.nz,
    (World.frozen?_of_block (a := ⟨ga, 0, none⟩) (ho.block ga h.ng)).trans h.fr, by rw [ho.size]; exact h.lg, h.ng, h.lo⟩
end

set_option maxRecDepth 100000 in
set_option maxHeartbeats 3200000 in
theorem newSheet_ones (g c gw gb : Nat) (D E : Option Addr) (tt : TypeId) (fr : Nat × Nat) (w : World) (h : Has [(g, 0, .slice (some ⟨gw, 0, none⟩) 2 2)] w) (h0 : Has (oneQ gw 0 D) w) (h3 : Has (oneQ gw 3 D) w) (hD : Dg w D 1 1)
    (hb : Has [(gb, 0, .bool true), (gb, 1, .slice E 1 1), (gb, 2, .slice none 0 0)] w) (hE : Dg w E 1 1) (hg : w.heap[1]? = some (.cells gapC tt fr)) :
    Calls Tryz.prog 79 #[.slice (some ⟨g, 0, none⟩) 1 c, .slice (some ⟨gb, 0, none⟩) 1 1] w (fun e w' => ∃ a gf cf d nx S, e = .returned (.pointer (some ⟨Sa.s a, 0, none⟩)) ∧
      Sh w a 1 1 1 prN 0 2 S (.slice (some ⟨gf, 0, none⟩) 1 cf) (.slice none 0 0) 1 nx [(gf, 0, .bool false), (gf, 1, .slice (some ⟨d, 0, none⟩) 1 1), (d, 0, .int .u32 1)] w') := by
  obtain ⟨i0, hi, hz0, hz1, hz2⟩ := info_parts info_i
  obtain ⟨X0, hX0⟩ : ∃ X0, X0 = w.alloc (.cells (shG 0 (.slice none 0 0) (.slice none 0 0) 0 (.slice none 0 0) (.slice none 0 0)) 136) := ⟨_, rfl⟩
  have hb0 : Below w.heap.size w X0 := by rw [hX0]; exact below_new _ _
  have hs0 : Blk X0 w.heap.size 136 (shG 0 (.slice none 0 0) (.slice none 0 0) 0 (.slice none 0 0) (.slice none 0 0)) := by rw [hX0]; exact Blk.new _ _ _
  have H := Lib.hid (fun X (hX : Below w.heap.size w X) => (h.keep hX).1.1)
  have H0 := Lib.hid (fun X (hX : Below w.heap.size w X) => h0.keep hX)
  have H3 := Lib.hid (fun X (hX : Below w.heap.size w X) => h3.keep hX)
  have HD := Lib.hid (fun X (hX : Below w.heap.size w X) => hD.below hX)
  have HE := Lib.hid (fun X (hX : Below w.heap.size w X) => hE.below hX)
  have HB := Lib.hid (fun X (hX : Below w.heap.size w X) => hb.keep hX)
  have l1 : 1 < w.heap.size := (Array.getElem?_eq_some_iff.1 hg).1
  have HG := Lib.hid (fun X (hX : Below w.heap.size w X) => (hX.block 1 l1).trans hg)
  have q0 := H.out _ hb0
  have f0 := hs0.free 0
  have e0 : X0.cell? ⟨w.heap.size, 0, none⟩ = some (.int .i64 0) := hs0.cell 0
  have HX0 := Lib.hid hX0
  clear hX0 h h0 h3 hD hE hb hg
  unfold shG at HX0
  go_enter Tryz.func79, Tryz.ntmps79
  go_upto_region 2 with fail
  rw [← HX0.out]
  clear HX0
  go_upto_region 4 with fail
  have o1 : Only w.heap.size X0 (X0.setCell ⟨w.heap.size, 0, none⟩ (.int .i64 2)) := (Only.refl _ X0).setCell 0 _
  have hs1 : Blk (X0.setCell ⟨w.heap.size, 0, none⟩ (.int .i64 2)) w.heap.size 136 (shG 2 (.slice none 0 0) (.slice none 0 0) 0 (.slice none 0 0) (.slice none 0 0)) := hs0.store 0 (.int .i64 2)
  have hb1 := hb0.trans (o1.below (Nat.le_refl _))
  obtain ⟨X1, hX1⟩ : ∃ X1, X1 = X0.setCell ⟨w.heap.size, 0, none⟩ (.int .i64 2) := ⟨_, rfl⟩
  rw [← hX1] at hs1 hb1 ⊢
  clear hX1 o1 hs0 hb0 q0 f0 e0
  have e0 : X1.cell? ⟨w.heap.size, 0, none⟩ = some (.int .i64 2) := hs1.cell 0
  have e4 : X1.cell? ⟨w.heap.size, 4, none⟩ = some (.slice none 0 0) := hs1.cell 4
  have f4 := hs1.free 4
  have hnil := World.ownsRow_nil X1 X1.heap.size 3 1
  have hsz1 : X1.heap.size ≤ (X1.alloc (.cells #[.int .i64 0] 3)).heap.size := by rw [World.size_alloc]; omega
  have ls1 : w.heap.size < X1.heap.size := hs1.lt
  go_upto_region 5 with fail
  refine wp_loop_rounds 3 ?_
  rw [rounds_succ]
  go_upto_region 8 with (at_builtin; refine wpList_append_lies _ rfl _ _ 26 rfl X1.heap.size 3 i0 (.int .i64 0) 1 8 Tryz.underlying26 hi hz0 hz1 hz2 rfl (by decide) _ 0 [] rfl (hnil.alloc _) ⟨X1.heap.size, 0, none⟩ 1 1 [.int .i64 0] rfl rfl ?c1 ?c2 ?c3 ?c4 ?c5 ?c6 (X1.heap.size + 1) (size_new' _ _) ?_)
  case c1 => exact cell_one_new _ _ _
  case c2 => exact one_cell _ rfl
  case c3 => exact Nat.one_pos
  case c4 => unfold maxLen; omega
  case c5 => omega
  case c6 => exact hsz1
  intro ga ca w2 hown2 hgrow2 hat2 hlt2
  have hb2 := own_below hnil (Nat.le_refl _) hgrow2
  have lg2 := (own_lt hown2).2
  have hs2 := hs1.keep hb2
  have e4' : w2.cell? ⟨w.heap.size, 4, none⟩ = some (.slice none 0 0) := hs2.cell 4
  have f4' := hs2.free 4
  have hown2' := own_only (g := w.heap.size) (w' := w2.setCell ⟨w.heap.size, 4, none⟩ (.slice (some ⟨ga, 0, none⟩) 1 ca)) hown2 ((Only.refl _ w2).setCell 4 _) (by simp [Value.ownBlock]; omega)
  have o2 : Only w.heap.size w2 (w2.setCell ⟨w.heap.size, 4, none⟩ (.slice (some ⟨ga, 0, none⟩) 1 ca)) := (Only.refl _ w2).setCell 4 _
  have hs3 : Blk (w2.setCell ⟨w.heap.size, 4, none⟩ (.slice (some ⟨ga, 0, none⟩) 1 ca)) w.heap.size 136 (shG 2 (.slice none 0 0) (.slice none 0 0) 0 (.slice (some ⟨ga, 0, none⟩) 1 ca) (.slice none 0 0)) := hs2.store 4 (.slice (some ⟨ga, 0, none⟩) 1 ca)
  have hb3 := (hb1.and hb2).trans (o2.below (Nat.le_refl _))
  obtain ⟨X3, hX3⟩ : ∃ X3, X3 = w2.setCell ⟨w.heap.size, 4, none⟩ (.slice (some ⟨ga, 0, none⟩) 1 ca) := ⟨_, rfl⟩
  rw [← hX3] at hs3 hb3 hown2' o2
  have HX3 := Lib.hid hX3
  have ls3 : X1.heap.size ≤ X3.heap.size := by rw [o2.size]; exact hb2.size
  clear hX3 o2 hs2 hb2 hown2 hgrow2 hat2 hb1 hs1
  go_upto_region 8 with fail
  rw [← HX3.out]
  clear HX3 e4 f4 e0 e4' f4' hnil
  have e4 : X3.cell? ⟨w.heap.size, 4, none⟩ = some (.slice (some ⟨ga, 0, none⟩) 1 ca) := hs3.cell 4
  have f4 := hs3.free 4
  have hsz3 : X1.heap.size ≤ (X3.alloc (.cells #[.int .i64 1] 3)).heap.size := by rw [World.size_alloc]; omega
  go_wp2_with fail
  rw [rounds_succ]
  go_upto_region 8 with (at_builtin; refine wpList_append_lies _ rfl _ _ 26 rfl X1.heap.size 3 i0 (.int .i64 0) 1 8 Tryz.underlying26 hi hz0 hz1 hz2 rfl (by decide) _ 1 [.int .i64 0] rfl (hown2'.alloc _) ⟨X3.heap.size, 0, none⟩ 1 1 [.int .i64 1] rfl rfl ?d1 ?d2 ?d3 ?d4 ?d5 ?d6 (X3.heap.size + 1) (size_new' _ _) ?_)
  case d1 => exact cell_one_new _ _ _
  case d2 => exact one_cell _ rfl
  case d3 => exact Nat.one_pos
  case d4 => unfold maxLen; omega
  case d5 => omega
  case d6 => exact hsz3
  intro gb2 cb2 w4 hown4 hgrow4 hat4 hlt4
  have hb4 := own_below hown2' (by omega) hgrow4
  have hs4 := hs3.below hb4 ls1
  have e4' : w4.cell? ⟨w.heap.size, 4, none⟩ = some (.slice (some ⟨ga, 0, none⟩) 1 ca) := hs4.cell 4
  have f4' := hs4.free 4
  have lg4 := (own_lt hown4).2
  have hown4' := own_only (g := w.heap.size) (w' := w4.setCell ⟨w.heap.size, 4, none⟩ (.slice (some ⟨gb2, 0, none⟩) 2 cb2)) hown4 ((Only.refl _ w4).setCell 4 _) (by simp [Value.ownBlock]; omega)
  have o4 : Only w.heap.size w4 (w4.setCell ⟨w.heap.size, 4, none⟩ (.slice (some ⟨gb2, 0, none⟩) 2 cb2)) := (Only.refl _ w4).setCell 4 _
  have hs5 : Blk (w4.setCell ⟨w.heap.size, 4, none⟩ (.slice (some ⟨gb2, 0, none⟩) 2 cb2)) w.heap.size 136 (shG 2 (.slice none 0 0) (.slice none 0 0) 0 (.slice (some ⟨gb2, 0, none⟩) 2 cb2) (.slice none 0 0)) := hs4.store 4 (.slice (some ⟨gb2, 0, none⟩) 2 cb2)
  have hb5 := (hb3.trans (hb4.mono (by omega))).trans (o4.below (Nat.le_refl _))
  obtain ⟨X5, hX5⟩ : ∃ X5, X5 = w4.setCell ⟨w.heap.size, 4, none⟩ (.slice (some ⟨gb2, 0, none⟩) 2 cb2) := ⟨_, rfl⟩
  rw [← hX5] at hs5 hb5 hown4' o4
  have HX5 := Lib.hid hX5
  have ls5 : X3.heap.size ≤ X5.heap.size := by rw [o4.size]; exact hb4.size
  clear hX5 o4 hs4 hb4 hown4 hgrow4 hat4 hb3 hs3
  go_upto_region 8 with fail
  rw [← HX5.out]
  clear HX5 e4 f4 e4' f4' hown2'
  go_wp2_with fail
  rw [rounds_succ]
  go_upto_region 9 with fail
  clear hsz1 hsz3 lg2 hlt2 
  have q5 : X5.cell? ⟨g, 0, none⟩ = some (.slice (some ⟨gw, 0, none⟩) 2 2) := H.out _ hb5
  have hB5 := HB.out _ hb5
  obtain ⟨⟨b0, -⟩, ⟨b1, -⟩, ⟨b2, -⟩, -⟩ := hB5
  have hnum : (-1 : Rat).num.natAbs = 1 := by decide
  have hrg5 : Rg X5 E 1 none 0 (-1) := ⟨by rw [hnum]; exact HE.out _ hb5, Sl.nil⟩
  have Hn := Lib.hid (ratNeg_any E none 1 0 (-1) X5 hrg5)
  have Hw := Lib.hid (fun X (hX : Below X5.heap.size X5 X) => whole_ones gw D E X (H0.out _ (hb5.and hX)) (H3.out _ (hb5.and hX)) (HD.out _ (hb5.and hX)) (HE.out _ (hb5.and hX)))
  go_upto_region 11 with fail
  refine wp_loop_rounds 2 ?_
  rw [rounds_succ]
  go_upto_region 13 with fail
  go_upto_region 14 with (first
    | (go_at_call 104; refine Hn.out.mono ?_; rintro e w6 ⟨rfl, hr6, hb6⟩)
    | (go_at_call 103; refine (Hw.out _ hb6).mono ?_; rintro e w7 ⟨gz, A0, A1, A2, d, rfl, hones, hfac, hb7, lz, ld⟩))
  have hn7 := below_new w7 (.cells #[.bool false, .slice (some ⟨d, 0, none⟩) 1 1] 25)
  have hb8 := ((hb5.and hb6).and hb7).and hn7
  have hs8 := ((hs5.keep hb6).keep hb7).keep hn7
  have hown8 := own_keep (own_keep (own_keep hown4' hb6) hb7) hn7
  have hones8 := hones.keep hn7
  have hfac8 := hfac.keep hn7
  have hbox8 := Blk.new w7 25 #[.bool false, .slice (some ⟨d, 0, none⟩) 1 1]
  have l56 : X5.heap.size ≤ w6.heap.size := hb6.size
  have l05 : w.heap.size ≤ X5.heap.size := hb5.size
  have l57 : X5.heap.size ≤ w7.heap.size := Nat.le_trans hb6.size hb7.size
  obtain ⟨X8, hX8⟩ : ∃ X8, X8 = w7.alloc (.cells #[.bool false, .slice (some ⟨d, 0, none⟩) 1 1] 25) := ⟨_, rfl⟩
  have l8 : w7.heap.size < X8.heap.size := by rw [hX8, World.size_alloc]; omega
  rw [← hX8] at hb8 hs8 hown8 hones8 hfac8 hbox8 ⊢
  clear hX8 hn7 hones hfac hown4' hs5 hb5 hb6 hb7 hr6 hrg5 b0 b1 b2 q5 Hn Hw
  have hbx : w7.heap.size ≠ w.heap.size := by omega
  have hNS : NS w w.heap.size 0 none none (some ⟨gb2, 0, none⟩) none 0 0 0 0 2 cb2 0 0 gz A0 A1 A2 gb2 [(d, 0, .int .u32 1), (w7.heap.size, 0, .bool false), (w7.heap.size, 1, .slice (some ⟨d, 0, none⟩) 1 1), (gb2, 0, .int .i64 0), (gb2, 1, .int .i64 1)] X8 :=
    ⟨hs8, ⟨hfac8.1, ⟨hbox8.cell 0, hbox8.lt⟩, ⟨hbox8.cell 1, hbox8.lt⟩, ⟨own_cell hown8 0 (by omega), (own_lt hown8).1⟩, ⟨own_cell hown8 1 (by omega), (own_lt hown8).1⟩, trivial⟩, hones8, hb8, by
      intro c hc
      simp only [List.mem_cons, List.not_mem_nil, or_false] at hc
      have := (own_lt hown8).2
      rcases hc with rfl | rfl | rfl | rfl | rfl <;> simp <;> omega, by omega, own_free hown8 0, (own_lt hown8).1, by have := (own_lt hown8).2; omega, Nat.le_refl _⟩
  have lgb2 : w.heap.size < gb2 := by have := (own_lt hown8).2; omega
  have l9 : w.heap.size < X8.heap.size := by omega
  have Hn := Lib.hid hNS
  clear hNS hs8 hones8 hfac8 hbox8 hown8 hb8
  obtain ⟨i1, hj, hy0, hy1, hy2⟩ := info_parts info_c
  obtain ⟨j1, hk, hx0, hx1, hx2⟩ := info_parts info_int
  go_upto_region 14 with fail
  go_cut [] (fun wx => ∃ gS cS, X8.heap.size ≤ gS ∧ NS w w.heap.size 0 (some ⟨gS, 0, none⟩) none (some ⟨gb2, 0, none⟩) none 1 cS 0 0 2 cb2 0 0 gz A0 A1 A2 gb2 ((gS, 0, .slice (some ⟨gz, 0, none⟩) 3 3) :: [(d, 0, .int .u32 1), (w7.heap.size, 0, .bool false), (w7.heap.size, 1, .slice (some ⟨d, 0, none⟩) 1 1), (gb2, 0, .int .i64 0), (gb2, 1, .int .i64 1)]) wx)
  case first =>
    have e1 : X8.cell? ⟨w.heap.size, 1, none⟩ = some (.slice none 0 0) := Hn.out.bs.cell 1
    have f1 := Hn.out.bs.free 1
    have hnil8 := World.ownsRow_nil X8 X8.heap.size 129 1
    have hsz8 : X8.heap.size ≤ (X8.alloc (.cells #[.slice (some ⟨gz, 0, none⟩) 3 3] 129)).heap.size := by rw [World.size_alloc]; omega
    go_wp2_with (at_builtin; refine wpList_append_lies _ rfl _ _ 128 rfl X8.heap.size 129 i1 (.slice none 0 0) 1 24 Tryz.underlying128 hj hy0 hy1 hy2 rfl (by decide) _ 0 [] rfl (hnil8.alloc _) ⟨X8.heap.size, 0, none⟩ 1 1 [.slice (some ⟨gz, 0, none⟩) 3 3] rfl rfl ?g1 ?g2 ?g3 ?g4 ?g5 ?g6 (X8.heap.size + 1) (size_new' _ _) ?_)
    case g1 => exact cell_one_new _ _ _
    case g2 => exact one_cell _ rfl
    case g3 => exact Nat.one_pos
    case g4 => unfold maxLen; omega
    case g5 => omega
    case g6 => exact hsz8
    intro gS cS w9 hown9 hgrow9 hat9 hlt9
    have hN9 := Hn.out.keep (own_below hnil8 (Nat.le_refl _) hgrow9)
    have lg9 := (own_lt hown9).2
    have hc9 := own_cell hown9 0 (by omega)
    have e1' : w9.cell? ⟨w.heap.size, 1, none⟩ = some (.slice none 0 0) := hN9.bs.cell 1
    have f1' := hN9.bs.free 1
    have lt9 := (own_lt hown9).1
    have Hc9 := Lib.hid hc9
    have HN9 := Lib.hid hN9
    clear hown9 hgrow9 hat9 hlt9 hc9 hN9 hnil8
    go_wp2_with fail
    go_meet
    exact ⟨gS, cS, lg9, (HN9.out.add Hc9.out lt9 (by omega)).own (i := 1) (u := .slice (some ⟨gS, 0, none⟩) 1 cS) rfl⟩
  case rest =>
    obtain ⟨gS, cS, lgS, hN⟩ := hcut
    clear Hn
    have Hn := Lib.hid hN
    have c2 : wc.cell? ⟨w.heap.size, 2, none⟩ = some (.slice none 0 0) := hN.bs.cell 2
    have b0 : wc.cell? ⟨w7.heap.size, 0, none⟩ = some (.bool false) := hN.has.2.2.1.1
    have b1 : wc.cell? ⟨w7.heap.size, 1, none⟩ = some (.slice (some ⟨d, 0, none⟩) 1 1) := hN.has.2.2.2.1.1
    have f2 := hN.bs.free 2
    have lwc : w.heap.size < wc.heap.size := hN.bs.lt
    clear hN
    go_upto_region 15 with fail
    go_cut [] (fun wx => ∃ gf cf, wc.heap.size ≤ gf ∧ NS w w.heap.size 0 (some ⟨gS, 0, none⟩) (some ⟨gf, 0, none⟩) (some ⟨gb2, 0, none⟩) none 1 cS 1 cf 2 cb2 0 0 gz A0 A1 A2 gb2 ((gf, 0, .bool false) :: (gf, 1, .slice (some ⟨d, 0, none⟩) 1 1) :: (gS, 0, .slice (some ⟨gz, 0, none⟩) 3 3) :: [(d, 0, .int .u32 1), (w7.heap.size, 0, .bool false), (w7.heap.size, 1, .slice (some ⟨d, 0, none⟩) 1 1), (gb2, 0, .int .i64 0), (gb2, 1, .int .i64 1)]) wx)
    case first =>
      have hnil := World.ownsRow_nil wc.drew wc.heap.size 25 2
      have h63 : 0 + 1 ≤ maxLen := by unfold maxLen; omega
      have h47 : (0 + 1) * 32 ≤ 140737488355328 := by omega
      go_region_law (refine step_append_lies _ rfl _ _ 129 rfl wc.heap.size 25 j1 (.agg #[.bool false, .slice none 0 0]) 2 32 Tryz.underlying129 hk hx0 hx1 hx2 rfl (Nat.succ_pos 1) _ 0 [] rfl (hnil.alloc _) ⟨wc.heap.size, 0, none⟩ 1 1 [.bool false, .slice (some ⟨d, 0, none⟩) 1 1] rfl rfl (World.news_of_block (cs := #[.bool false, .slice (some ⟨d, 0, none⟩) 1 1]) (t := 25) (fr := (0, 0)) (heap_alloc_new wc.drew _)) (two_cells' _ _ rfl rfl) Nat.one_pos h63 h47 (alloc_size_le' _ _ (Nat.le_refl _)) (wc.heap.size + 1) (size_new' _ _) ?_; intro gf cf w9 hown9 hgrow9 hat9 hlt9; have hN9 := NS.keep (NS.keep Hn.out (Below.drew (Below.refl _ _))) (own_below hnil (Nat.le_refl _) hgrow9); have k2 : w9.cell? ⟨w.heap.size, 2, none⟩ = some (.slice none 0 0) := hN9.bs.cell 2; have f2' := hN9.bs.free 2)
      all_goals
        have lf := (hown9.lt gf rfl).1
        have q0 : w9.cell? ⟨gf, 0, none⟩ = some (.bool false) := by have := hown9.cells (g := gf) rfl 0 _ rfl; rwa [add_at] at this
        have q1 : w9.cell? ⟨gf, 1, none⟩ = some (.slice (some ⟨d, 0, none⟩) 1 1) := by have := hown9.cells (g := gf) rfl 1 _ rfl; rwa [add_at] at this
        go_wp2_with fail
        go_meet
        exact ⟨gf, cf, lf, ((hN9.add q1 hlt9 (by omega)).add q0 hlt9 (by omega)).own (i := 2) (u := .slice (some ⟨gf, 0, none⟩) 1 cf) rfl⟩
    case rest =>
      obtain ⟨gf, cf, lgf, hN⟩ := hcut
      clear Hn c2 b0 b1 f2
      have Hn := Lib.hid hN
      have c5 : wc.cell? ⟨w.heap.size, 5, none⟩ = some (.slice none 0 0) := hN.bs.cell 5
      have c0 : wc.cell? ⟨w.heap.size, 0, none⟩ = some (.int .i64 2) := hN.bs.cell 0
      have f5 := hN.bs.free 5
      have lwc : w.heap.size < wc.heap.size := hN.bs.lt
      clear hN
      go_upto_region 16 with fail
      go_cut [] (fun wx => ∃ gV cV, wc.heap.size ≤ gV ∧ gV < wx.heap.size ∧ wx.frozen? ⟨gV, 0, none⟩ = false ∧ NS w w.heap.size 0 (some ⟨gS, 0, none⟩) (some ⟨gf, 0, none⟩) (some ⟨gb2, 0, none⟩) (some ⟨gV, 0, none⟩) 1 cS 1 cf 2 cb2 1 cV gz A0 A1 A2 gb2 ((gV, 0, .int .i64 2) :: (gf, 0, .bool false) :: (gf, 1, .slice (some ⟨d, 0, none⟩) 1 1) :: (gS, 0, .slice (some ⟨gz, 0, none⟩) 3 3) :: [(d, 0, .int .u32 1), (w7.heap.size, 0, .bool false), (w7.heap.size, 1, .slice (some ⟨d, 0, none⟩) 1 1), (gb2, 0, .int .i64 0), (gb2, 1, .int .i64 1)]) wx)
      case first =>
        have hnil := World.ownsRow_nil wc.drew wc.heap.size 3 1
        have h63 : 0 + 1 ≤ maxLen := by unfold maxLen; omega
        have h47 : (0 + 1) * 8 ≤ 140737488355328 := by omega
        go_region_law (refine step_append_lies _ rfl _ _ 26 rfl wc.heap.size 3 i0 (.int .i64 0) 1 8 Tryz.underlying26 hi hz0 hz1 hz2 rfl (Nat.succ_pos 0) _ 0 [] rfl (hnil.alloc _) ⟨wc.heap.size, 0, none⟩ 1 1 [.int .i64 2] rfl rfl (cell_one_new _ _ _) (one_cell _ rfl) Nat.one_pos h63 h47 (alloc_size_le' _ _ (Nat.le_refl _)) (wc.heap.size + 1) (size_new' _ _) ?_; intro gV cV w9 hown9 hgrow9 hat9 hlt9; have hN9 := NS.keep (NS.keep Hn.out (Below.drew (Below.refl _ _))) (own_below hnil (Nat.le_refl _) hgrow9); have k2 : w9.cell? ⟨w.heap.size, 5, none⟩ = some (.slice none 0 0) := hN9.bs.cell 5; have f2' := hN9.bs.free 5)
        all_goals
          have lf := (hown9.lt gV rfl).1
          have q0 := own_cell hown9 0 (by omega)
          have qf := own_free hown9 0
          have hnV : gV ≠ w.heap.size := by omega
          have hoV : Only w.heap.size w9 (w9.setCell ⟨w.heap.size, 5, none⟩ (.slice (some ⟨gV, 0, none⟩) 1 cV)) := (Only.refl _ w9).setCell 5 _
          go_wp2_with fail
          go_meet
          exact ⟨gV, cV, lf, by rw [hoV.size]; exact hlt9, (World.frozen?_of_block (a := ⟨gV, 0, none⟩) (hoV.block gV hnV)).trans qf, (hN9.add q0 hlt9 hnV).own (i := 5) (u := .slice (some ⟨gV, 0, none⟩) 1 cV) rfl⟩
      case rest =>
        obtain ⟨gV, cV, lgV, ltV, frV, hN⟩ := hcut
        clear Hn c5 c0 f5
        have Hbo := Lib.hid (boundOfMinors_ones gz 3 A0 A1 A2 wc hN.ones)
        go_upto_region 17 with fail
        go_upto_region 18 with (go_at_call 105; refine Hbo.out.mono ?_; rintro e w10 ⟨rfl, hb10⟩)
        have hN10 := hN.keep hb10
        have frV10 := (World.frozen?_of_block (a := ⟨gV, 0, none⟩) (hb10.block gV ltV)).trans frV
        have ltV10 : gV < w10.heap.size := Nat.lt_of_lt_of_le ltV hb10.size
        clear hN hb10 Hbo frV ltV
        go_wp2_with fail
        rw [rounds_succ]
        have c3 : w10.cell? ⟨w.heap.size, 3, none⟩ = some (.int .i64 0) := hN10.bs.cell 3
        have f3 := hN10.bs.free 3
        go_upto_region 19 with fail
        go_upto_region 20 with fail
        have o11 : Only w.heap.size w10 (w10.setCell ⟨w.heap.size, 3, none⟩ (.int .i64 1)) := (Only.refl _ w10).setCell 3 _
        have hN11 := hN10.own (en' := 1) (i := 3) (u := .int .i64 1) rfl
        have hgVs : gV ≠ w.heap.size := hN10.out (gV, 0, .int .i64 2) (List.mem_cons_self ..)
        have frV11 := (World.frozen?_of_block (a := ⟨gV, 0, none⟩) (o11.block gV hgVs)).trans frV10
        obtain ⟨w11, hw11⟩ : ∃ w11, w11 = w10.setCell ⟨w.heap.size, 3, none⟩ (.int .i64 1) := ⟨_, rfl⟩
        rw [← hw11] at hN11 frV11 ⊢
        have hH := hN11.has
        have hgSs : gS ≠ w.heap.size := by omega
        have Hfi := Lib.hid (shFill_ones w.heap.size gS cS gz 3 prN (.slice (some ⟨gf, 0, none⟩) 1 cf) (.slice (some ⟨gb2, 0, none⟩) 2 cb2) (.slice (some ⟨gV, 0, none⟩) 1 cV) A0 A1 A2 tt fr w11 hN11.bs (HG.out _ hN11.bel) (by omega) ⟨hH.2.2.2.1, trivial⟩ hgSs hN11.nz hN11.ones rfl (fun X hX => hN11.ones.only hX hN11.bs (shG_free _ _ _ _ _ _ _ _ _ _ _ _ _ _) hN11.nz))
        have Hfin : ∀ w12 gt ct t gc cc gr gp cp gi, Blk w12 w.heap.size 136 (fiC (.slice (some ⟨gS, 0, none⟩) 1 cS) (.slice (some ⟨gf, 0, none⟩) 1 cf) (.slice (some ⟨gb2, 0, none⟩) 2 cb2) (.slice (some ⟨gV, 0, none⟩) 1 cV) (.slice (some ⟨gt, 0, none⟩) 1 ct) (.slice (some ⟨gp, 0, none⟩) 1 cp) (.slice (some ⟨gi, 0, none⟩) 1 1) prN) →
            Blk w12 t 156 #[.slice (some ⟨gc, 0, none⟩) 1 cc, .int .u64 1, .int .u64 prN] → Blk w12 gr 153 (rowC 1 1 1 prN) →
            Has [(gc, 0, .slice (some ⟨gr, 0, none⟩) 3 3), (gt, 0, .pointer (some ⟨t, 0, none⟩)), (gp, 0, .int .u64 prN), (gi, 0, .int .u64 1)] w12 → But w.heap.size w.heap.size w11 w12 →
            w11.heap.size ≤ t → w11.heap.size ≤ gr → w11.heap.size ≤ gc → w11.heap.size ≤ gt → w11.heap.size ≤ gp → w11.heap.size ≤ gi → gr ≠ t → gc ≠ t → gc ≠ gr → gt ≠ t → gt ≠ gr → gp ≠ t → gp ≠ gr → gi ≠ t → gi ≠ gr →
            Sh w ⟨w.heap.size, gb2, gV, gt, t, gc, gr, gp, gi, cb2, cV, ct, cc, 3, cp, 1⟩ 1 1 1 prN 0 2 (.slice (some ⟨gS, 0, none⟩) 1 cS) (.slice (some ⟨gf, 0, none⟩) 1 cf) (.slice none 0 0) 1 prN [(gf, 0, .bool false), (gf, 1, .slice (some ⟨d, 0, none⟩) 1 1), (d, 0, .int .u32 1)] w12 := by
          intro w12 gt ct t gc cc gr gp cp gi hs12 ht12 hr12 hh12 hbut m1 m2 m3 m4 m5 m6 n1 n2 n3 n4 n5 n6 n7 n8 n9
          have hlt := hH.lt
          have hout := hN11.out
          have hK := Has.but hH hbut (fun c hc => ⟨hout c hc, hout c hc⟩)
          obtain ⟨⟨v0, lv⟩, ⟨g0, lg0⟩, ⟨g1, _⟩, -, ⟨d0, ld0⟩, -, -, ⟨a0, la0⟩, ⟨a1, _⟩, -⟩ := hH
          obtain ⟨⟨v0', lv'⟩, ⟨g0', lg0'⟩, ⟨g1', _⟩, -, ⟨d0', ld0'⟩, -, -, ⟨a0', la0'⟩, ⟨a1', _⟩, -⟩ := hK
          have hfs : gf ≠ w.heap.size := hout (gf, 0, .bool false) (List.mem_cons_of_mem _ (List.mem_cons_self ..))
          have hds : d ≠ w.heap.size := hout (d, 0, .int .u32 1) (by simp)
          have k1 : gf ≠ gb2 := by rintro rfl; rw [g0] at a0; simp at a0
          have k2 : gf ≠ gV := by rintro rfl; rw [g0] at v0; simp at v0
          have k3 : d ≠ gb2 := by rintro rfl; rw [d0] at a0; simp at a0
          have k4 : d ≠ gV := by rintro rfl; rw [d0] at v0; simp at v0
          have k5 : gb2 ≠ gV := by rintro rfl; rw [a0] at v0; simp at v0
          have las := hN11.ng
          have lws : w.heap.size < w11.heap.size := hN11.bs.lt
          have fa' := (World.frozen?_of_block (a := ⟨gb2, 0, none⟩) (hbut.block gb2 la0 las las)).trans hN11.fr
          have fv' := (World.frozen?_of_block (a := ⟨gV, 0, none⟩) (hbut.block gV lv hgVs hgVs)).trans frV11
          refine ⟨hs12, ht12, hr12, ⟨hh12.1, hh12.2.1, hh12.2.2.1, hh12.2.2.2.1, ⟨g0', lg0'⟩, ⟨g1', lg0'⟩, ⟨d0', ld0'⟩, trivial⟩, a0', a1', fa', la0', v0', fv', lv', ?_, ?_, ?_, ?_⟩
          · exact hN11.bel.trans ⟨hbut.os, hbut.tape, hbut.output, hbut.size, fun j hj => hbut.block j (by omega) (by omega) (by omega)⟩
          · intro c hc
            simp only [List.mem_cons, List.not_mem_nil, or_false] at hc
            rcases hc with rfl | rfl | rfl | rfl | rfl | rfl | rfl <;> simp <;> omega
          · simp only; omega
          · simp only; omega
        have HFin := Lib.hid Hfin
        clear Hfin hH hN11 hN10 o11 hw11 frV11 frV10 c3 f3
        go_wp2_with fail
        refine Hfi.out.mono ?_
        rintro e w12 ⟨rfl, gt, ct, t, gc, cc, gr, gp, cp, gi, hs12, ht12, hr12, hh12, hbut, m1, m2, m3, m4, m5, m6, n1, n2, n3, n4, n5, n6, n7, n8, n9⟩
        have Hres := Lib.hid (HFin.out w12 gt ct t gc cc gr gp cp gi hs12 ht12 hr12 hh12 hbut m1 m2 m3 m4 m5 m6 n1 n2 n3 n4 n5 n6 n7 n8 n9)
        clear hs12 ht12 hr12 hh12 hbut HFin Hfi
        go_wp2_with fail
        go_ret
        exact ⟨_, gf, cf, d, prN, _, rfl, Hres.out⟩
end Go.Proofs.YtemcdnppgnobmaaGreatDoor

namespace Go.Proofs.YtemcdnppgnobmaaGreatDoor
open Go.RowKit

set_option maxRecDepth 100000 in
set_option maxHeartbeats 1600000 in
theorem refuse_ones (g c gw gb : Nat) (D E : Option Addr) (tt : TypeId) (fr : Nat × Nat) (w : World) (h : Has [(g, 0, .slice (some ⟨gw, 0, none⟩) 2 2)] w) (h0 : Has (oneQ gw 0 D) w) (h3 : Has (oneQ gw 3 D) w) (hD : Dg w D 1 1)
    (hb : Has [(gb, 0, .bool true), (gb, 1, .slice E 1 1), (gb, 2, .slice none 0 0)] w) (hE : Dg w E 1 1) (hg : w.heap[1]? = some (.cells gapC tt fr)) :
    Calls Tryz.prog 52 #[.slice (some ⟨g, 0, none⟩) 1 c, .slice (some ⟨gb, 0, none⟩) 1 1] w (fun e w' => ∃ k A1 n1 B1 m1, e = .returned (.tuple #[.slice (some ⟨k, 0, none⟩) 1 1, .bool true]) ∧
      Blk w' k 68 (ratC 1 A1 n1 B1 m1) ∧ Rg w' A1 n1 B1 m1 1 ∧ Below w.heap.size w w') := by
  have l1 : 1 < w.heap.size := (Array.getElem?_eq_some_iff.1 hg).1
  have Hch := Lib.hid (check_ones g c gw gb D E true w h h0 h3 hD hb hE)
  have Hns := Lib.hid (fun X (hX : Below w.heap.size w X) => newSheet_ones g c gw gb D E tt fr X (h.keep hX) (h0.keep hX) (h3.keep hX) (hD.below hX) (hb.keep hX) (hE.below hX) ((hX.block 1 l1).trans hg))
  have hp : 2 < prN := by unfold prN; omega
  have hp2 : prN < 4611686018427387904 := by unfold prN; omega
  have Hob := Lib.hid (fun w0 a S F nx L X hX => shObstacle_ones w0 a prN S F 1 nx L X hX hp hp2)
  have Hwh := Lib.hid (fun X => whole_any (-1) X (by omega) (by omega))
  have Hwe := Lib.hid (fun w0 a S D' nx gf cf d A n X hX ht => shWeights_ones w0 a prN S D' nx gf cf d [] A n X hX ht hp hp2)
  clear h h0 h3 hD hb hE hg hp hp2
  go_enter Tryz.func52, Tryz.ntmps52
  go_wp2_with fail
  refine Hch.out.mono ?_
  rintro e w1 ⟨rfl, hb1⟩
  clear Hch
  go_wp2_with fail
  refine (Hns.out _ hb1).mono ?_
  rintro e w2 ⟨a, gf, cf, d, nx, S, rfl, hS2⟩
  clear Hns
  go_wp2_with fail
  refine (Hob.out _ _ _ _ _ _ _ hS2).mono ?_
  rintro e w3 ⟨rfl, D', hS3⟩
  clear Hob
  go_wp2_with fail
  refine (Hwh.out _).mono ?_
  rintro e w4 ⟨A, n, rfl, hd4, hb4⟩
  have hS4 := hS3.keep hb4
  have Hw4 := Lib.hid (Hwe.out _ _ _ _ _ _ _ _ A n _ hS4 hd4)
  have Hbel4 := Lib.hid (hb1.and hS4.bel)
  unfold intV at Hw4 ⊢
  clear Hwh Hwe hS2 hS3 hS4 hd4 hb4 hb1
  go_wp2_with fail
  refine Hw4.out.mono ?_
  rintro e w5 ⟨k, A1, n1, B1, m1, rfl, hk, hr, hb5⟩
  go_wp2_with fail
  go_ret2
  exact ⟨k, A1, n1, B1, m1, rfl, hk, hr, Hbel4.out.and hb5⟩
end Go.Proofs.YtemcdnppgnobmaaGreatDoor
