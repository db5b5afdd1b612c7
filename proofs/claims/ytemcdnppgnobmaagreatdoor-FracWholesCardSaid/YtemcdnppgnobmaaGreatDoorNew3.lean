/-
  The walks of frac's newRadix of one prime, residueOf of 1, and primeBelow of 10^18.
  The walk of frac's primeBelow at 10^18.
  The walks of frac's boundOfMinors and residueOf, of a row of three ones.
-/
import Derived.Test.YtemcdnppgnobmaaGreatDoorWei
set_option linter.unusedVariables false
namespace Go.Proofs.YtemcdnppgnobmaaGreatDoor
open Go.RowKit

/-- A radix is stored into the cell of the result, which is then returned. -/
theorem ret_rad_stored {fn : Func} {R : Ending → World → Prop} {a : Act} {w1 : World} {s g : Nat} {x y u v : Value}
    (hf : fn.results = #[.cell s 134]) (h4 : a.tmps[s]? = some (.pointer (some ⟨g, 0, none⟩))) (hd : a.defers = [])
    (hb : Blk w1 g 134 #[x, y]) (hR : ∀ w', Only g w1 w' → R (.returned (.agg #[u, v])) w') (hu : u.oneCell' = true) (hv : v.oneCell' = true) :
    bodyPost Tryz.prog fn R .ret a ((w1.setCell ⟨g, 0, none⟩ u).setCell ⟨g, 1, none⟩ v) := by
  have ho := ((Only.refl g w1).setCell 0 u).setCell 1 v
  have hb2 := Blk.set2 hb u v
  have c0 := hb2.cell 0
  have c1 := hb2.cell 1
  exact bodyPost_ret (v := .agg #[u, v]) (by simp [results, hf, go_sem, c0, c1, h4]) hd (hR _ ho)

set_option maxRecDepth 100000 in
set_option maxHeartbeats 1600000 in
theorem newRadix_one (gp cp p : Nat) (w : World) (h : Has [(gp, 0, .int .u64 p)] w) (hp : 2 < p) (hp2 : p < 4611686018427387904) :
    Calls Tryz.prog 122 #[.slice (some ⟨gp, 0, none⟩) 1 cp] w (fun e w' => ∃ g, e = .returned (.agg #[.slice (some ⟨gp, 0, none⟩) 1 cp, .slice (some ⟨g, 0, none⟩) 1 1]) ∧ Has [(g, 0, .int .u64 1)] w' ∧ Below w.heap.size w w' ∧ w.heap.size ≤ g) := by
  have hmk : ∀ W : World, (Instr.makeSlice 132 (.int .i64 1) (.int .i64 1)).run Tryz.prog W = .ok (.slice (some ⟨W.heap.size, 0, none⟩) 1 1) (W.alloc (.cells #[.int .u64 0] 81)) := fun W => run_makeInts (P := Tryz.prog) Tryz.underlying132 info_u64 (by omega) .i64 .i64 1 (by omega) W
  obtain ⟨W, hW⟩ : ∃ W, W = (w.alloc (.cells #[.slice none 0 0, .slice none 0 0] 134)).alloc (.cells #[.int .u64 0] 81) := ⟨_, rfl⟩
  have hbel : Below w.heap.size w W := by rw [hW]; exact (below_new _ _).more _
  have hres : Blk W w.heap.size 134 #[.slice none 0 0, .slice none 0 0] := by rw [hW]; exact (Blk.new w 134 _).keep (below_new _ _)
  have hinv : Blk W (w.heap.size + 1) 81 #[.int .u64 0] := by
    have := Blk.new (w.alloc (.cells #[.slice none 0 0, .slice none 0 0] 134)) 81 #[.int .u64 0]
    rw [size_new] at this
    rw [hW]; exact this
  have p0 := (h.keep hbel).1.1
  have Hin := Lib.hid (fun X => resInverse_one p X (by omega) (by omega))
  have hfd := run_field_res
  have HW := Lib.hid hW
  have Hbel := Lib.hid hbel
  clear hW hbel h hp hp2
  unfold resV at Hin
  go_enter Tryz.func122, Tryz.ntmps122
  go_upto_region 2 with fail
  rw [← HW.out]
  clear HW
  go_wp2_with fail
  refine wp_loop_rounds 2 ?_
  rw [rounds_succ]
  go_upto_region 7 with fail
  refine wp_loop_rounds 1 ?_
  rw [rounds_succ]
  go_upto_region 11 with fail
  go_upto_region 12 with (go_at_call 134; refine (Hin.out _).mono ?_; rintro e w2 ⟨rfl, hb2⟩; unfold resV; have hi2 := hinv.keep hb2; have i0 := hi2.cell 0; have i1 := hi2.free 0; simp only [List.getElem?_toArray, List.getElem?_cons_zero] at i0)
  have ho : Only (w.heap.size + 1) w2 (w2.setCell ⟨w.heap.size + 1, 0, none⟩ (.int .u64 1)) := (Only.refl _ w2).setCell 0 _
  have hi3 := hi2.store 0 (.int .u64 1)
  have hr3 := ho.blk (by omega) (hres.keep hb2)
  have hbel3 := (Hbel.out.and hb2).trans (ho.below (B := w.heap.size) (by omega))
  obtain ⟨wf, hwf⟩ : ∃ wf, wf = w2.setCell ⟨w.heap.size + 1, 0, none⟩ (.int .u64 1) := ⟨_, rfl⟩
  rw [← hwf] at ho hi3 hr3 hbel3 ⊢
  obtain ⟨r0, r1, s0, s1⟩ := hr3.two
  have Hi3 := Lib.hid hi3
  have Hr3 := Lib.hid hr3
  have Hbel3 := Lib.hid hbel3
  clear hwf ho hi3 hr3 hbel3 hi2 i0 i1 hb2 hres hinv
  go_wp2_with fail
  rw [rounds_succ]
  go_wp2_with fail
  refine ret_rad_stored rfl rfl rfl Hr3.out ?_ rfl rfl
  intro w' ho
  have hi4 := ho.blk (k := w.heap.size + 1) (by omega) Hi3.out
  exact ⟨w.heap.size + 1, rfl, ⟨⟨hi4.cell 0, hi4.lt⟩, trivial⟩, Hbel3.out.trans (ho.below (Nat.le_refl _)), Nat.le_succ _⟩

set_option maxRecDepth 100000 in
set_option maxHeartbeats 1600000 in
theorem residueOf_one (d p : Nat) (w : World) (h : Has [(d, 0, .int .u32 1)] w) (hp : 2 < p) :
    Calls Tryz.prog 130 #[.agg #[.bool false, .slice (some ⟨d, 0, none⟩) 1 1], .int .u64 p] w (RetRes 1 p w) := by
  obtain ⟨W, hW⟩ : ∃ W, W = (w.alloc (.cells #[.bool false, .slice (some ⟨d, 0, none⟩) 1 1] 25)).alloc (.cells #[.int .u64 0, .int .u64 0] 153) := ⟨_, rfl⟩
  have hbel : Below w.heap.size w W := by rw [hW]; exact (below_new _ _).more _
  have hb0 : Blk W w.heap.size 25 #[.bool false, .slice (some ⟨d, 0, none⟩) 1 1] := by rw [hW]; exact (Blk.new w 25 _).keep (below_new _ _)
  have hres : Blk W (w.heap.size + 1) 153 #[.int .u64 0, .int .u64 0] := by
    have := Blk.new (w.alloc (.cells #[.bool false, .slice (some ⟨d, 0, none⟩) 1 1] 25)) 153 #[.int .u64 0, .int .u64 0]
    rw [size_new] at this
    rw [hW]; exact this
  have d0 := (h.keep hbel).1.1
  obtain ⟨c0, c1, _, _⟩ := hb0.two
  obtain ⟨r0, r1, s0, s1⟩ := hres.two
  have HW := Lib.hid hW
  have Hbel := Lib.hid hbel
  have Hres := Lib.hid hres
  clear hW hbel h hb0 hres
  go_enter Tryz.func130, Tryz.ntmps130
  go_upto_region 1 with fail
  rw [← HW.out]
  clear HW
  go_wp2_with fail
  refine wp_loop_rounds 1 ?_
  rw [rounds_succ]
  go_wp2_with fail
  refine ret_res_stored (v := 1) (p := p) rfl rfl rfl Hres.out rfl rfl ?_
  exact fun w' ho => ⟨rfl, Hbel.out.trans (ho.below (by omega))⟩

end Go.Proofs.YtemcdnppgnobmaaGreatDoor

namespace Go.Proofs.YtemcdnppgnobmaaGreatDoor
open Go.RowKit

/-- The gaps of the primes below 10^18, as they lie in their variable. -/
def gapC : Array Value := #[.int .u64 11, .int .u64 33, .int .u64 123, .int .u64 137, .int .u64 171, .int .u64 251, .int .u64 263, .int .u64 291, .int .u64 363, .int .u64 369, .int .u64 387, .int .u64 399, .int .u64 431, .int .u64 461, .int .u64 471, .int .u64 497, .int .u64 513, .int .u64 537, .int .u64 557, .int .u64 581, .int .u64 591, .int .u64 629, .int .u64 641, .int .u64 669]
theorem gapC_info : (Tryz.prog.info? 163).map (·.size) = some gapC.size := by kernel_rfl
theorem run_index_gaps (W : World) : (Instr.index 163 (.agg gapC) (.int .i64 0)).run Tryz.prog W = .ok (.int .u64 11) W := by kernel_rfl

set_option maxRecDepth 100000 in
theorem primeBelow_at (w : World) (t : TypeId) (fr : Nat × Nat) (n x q : Int) (hg : w.heap[1]? = some (.cells gapC t fr)) (hx : x = 11) (hq : q = 1000000000000000000 - x) (hqn : q < n) (h0 : 0 ≤ q) (h1 : q ≤ 1000000000000000000) :
    Calls Tryz.prog 120 #[.int .u64 n] w (fun e w' => e = .returned (.int .u64 q) ∧ w' = w) := by
  have hix : ∀ W : World, (Instr.index 163 (.agg gapC) (.int .i64 0)).run Tryz.prog W = .ok (.int .u64 x) W := by rw [hx]; exact run_index_gaps
  have hw : ∀ y : Int, y = 1000000000000000000 - x → y = q := fun y hy => hy.trans hq.symm
  have hs : 1000000000000000000 - x = q := hq.symm
  clear hx hq hw
  go_enter Tryz.func120, Tryz.ntmps120
  go_upto_region 2 with (refine wpList_load_row rfl 163 _ rfl 1 rfl t gapC fr _ hg Tryz.underlying163 rfl gapC_info ?_)
  refine wp_loop_rounds 1 ?_
  rw [rounds_succ]
  go_upto_region 4 with fail
  go_wp2_with fail
  go_ret
  exact ⟨rfl, rfl⟩
end Go.Proofs.YtemcdnppgnobmaaGreatDoor

namespace Go.Proofs.YtemcdnppgnobmaaGreatDoor
open Go.RowKit

/-- A row of three integers that are 1. -/
structure Ones (gz : Nat) (A0 A1 A2 : Option Addr) (X : World) : Prop where
  has : Has [(gz, 0, .bool false), (gz, 1, .slice A0 1 1), (gz, 2, .bool false), (gz, 3, .slice A1 1 1), (gz, 4, .bool false), (gz, 5, .slice A2 1 1)] X
  d0 : Dg X A0 1 1
  d1 : Dg X A1 1 1
  d2 : Dg X A2 1 1
theorem Ones.keep {gz : Nat} {A0 A1 A2 : Option Addr} {X Y : World} (h : Ones gz A0 A1 A2 X) (hb : Below X.heap.size X Y) : Ones gz A0 A1 A2 Y :=
  ⟨h.has.keep hb, h.d0.below hb, h.d1.below hb, h.d2.below hb⟩

set_option maxRecDepth 100000 in
set_option maxHeartbeats 1600000 in
theorem boundOfMinors_ones (gz cz : Nat) (A0 A1 A2 : Option Addr) (w : World) (h : Ones gz A0 A1 A2 w) :
    Calls Tryz.prog 105 #[.slice (some ⟨gz, 0, none⟩) 3 cz] w (fun e w' => e = .returned (.int .i64 2) ∧ Below w.heap.size w w') := by
  have hstep : ∀ (A B : Option Addr) (n x : Nat) (X : World), x ≤ 2 → Dg X A n x → Dg X B 1 1 → Calls Tryz.prog 46 #[.slice A n n, .slice B 1 1] X (RetDg (x + 1) X) := by
    intro A B n x X hx hA hB
    have hl := hA.len
    have : limbs x ≤ 3 := limbs_le_three (by omega)
    exact add_any A B n 1 n 1 x 1 X hA hB (by omega) (by omega)
  have Hstep := Lib.hid hstep
  have H := Lib.hid h
  obtain ⟨⟨c0, _⟩, ⟨c1, _⟩, ⟨c2, _⟩, ⟨c3, _⟩, ⟨c4, _⟩, ⟨c5, _⟩, _⟩ := h.has
  clear hstep
  go_enter Tryz.func105, Tryz.ntmps105
  go_upto_region 3 with fail
  refine wp_loop_rounds 4 ?_
  rw [rounds_succ]
  go_upto_region 6 with (go_at_call 46; refine (Hstep.out none A0 0 0 _ (Nat.zero_le _) Sl.nil ((H.out.keep (below_new _ _)).d0)).mono ?_; rintro e w1 ⟨B1, m1, rfl, hd1, hb1, _⟩)
  have hbA := (below_new w (.cells #[.bool false, .slice A0 1 1] 25)).and hb1
  have h1 := H.out.keep hbA
  obtain ⟨⟨c0, _⟩, ⟨c1, _⟩, ⟨c2, _⟩, ⟨c3, _⟩, ⟨c4, _⟩, ⟨c5, _⟩, _⟩ := h1.has
  clear hb1
  go_wp2_with fail
  rw [rounds_succ]
  go_upto_region 6 with (go_at_call 46; refine (Hstep.out B1 A1 m1 1 _ (Nat.le_succ 1) (hd1.below (below_new _ _)) ((h1.keep (below_new _ _)).d1)).mono ?_; rintro e w2 ⟨B2, m2, rfl, hd2, hb2, _⟩)
  have hbB := hbA.and ((below_new w1 (.cells #[.bool false, .slice A1 1 1] 25)).and hb2)
  have h2 := H.out.keep hbB
  obtain ⟨⟨c0, _⟩, ⟨c1, _⟩, ⟨c2, _⟩, ⟨c3, _⟩, ⟨c4, _⟩, ⟨c5, _⟩, _⟩ := h2.has
  clear hb2 hbA h1
  go_wp2_with fail
  rw [rounds_succ]
  go_upto_region 6 with (go_at_call 46; refine (Hstep.out B2 A2 m2 2 _ (Nat.le_refl 2) (hd2.below (below_new _ _)) ((h2.keep (below_new _ _)).d2)).mono ?_; rintro e w3 ⟨B3, m3, rfl, hd3, hb3, _⟩)
  have hbC := hbB.and ((below_new w2 (.cells #[.bool false, .slice A2 1 1] 25)).and hb3)
  have hl3 := hd3.len
  have hlim : limbs (2 + 1) ≤ 3 := limbs_le_three (by omega)
  have hbo := bound_any B3 m3 m3 (2 + 1) w3 hd3 (by omega)
  have hb2e : boundOf (2 + 1) = 2 := by decide
  rw [hb2e] at hbo
  have Hbo := Lib.hid hbo
  clear hb3 hbB h2 hbo hb2e hl3 hlim
  go_wp2_with fail
  rw [rounds_succ]
  go_wp2_with fail
  refine Hbo.out.mono ?_
  rintro e w4 ⟨rfl, rfl⟩
  go_wp2_with fail
  go_ret
  exact ⟨rfl, hbC⟩

set_option maxRecDepth 100000 in
set_option maxHeartbeats 1600000 in
theorem residueOf_dg (A : Option Addr) (p : Nat) (w : World) (h : Dg w A 1 1) (hp : 2 < p) :
    Calls Tryz.prog 130 #[.agg #[.bool false, .slice A 1 1], .int .u64 p] w (RetRes 1 p w) := by
  obtain ⟨b, off, rfl, hbs, hcs⟩ := Sl.at h (by omega)
  obtain ⟨W, hW⟩ : ∃ W, W = (w.alloc (.cells #[.bool false, .slice (some ⟨b, off, none⟩) 1 1] 25)).alloc (.cells #[.int .u64 0, .int .u64 0] 153) := ⟨_, rfl⟩
  have hbel : Below w.heap.size w W := by rw [hW]; exact (below_new _ _).more _
  have hb0 : Blk W w.heap.size 25 #[.bool false, .slice (some ⟨b, off, none⟩) 1 1] := by rw [hW]; exact (Blk.new w 25 _).keep (below_new _ _)
  have hres : Blk W (w.heap.size + 1) 153 #[.int .u64 0, .int .u64 0] := by
    have := Blk.new (w.alloc (.cells #[.bool false, .slice (some ⟨b, off, none⟩) 1 1] 25)) 153 #[.int .u64 0, .int .u64 0]
    rw [size_new] at this
    rw [hW]; exact this
  have d0 : W.cell? ⟨b, off, none⟩ = some (.int .u32 1) := (hbel.cell (p := ⟨b, off, none⟩) hbs).trans (hcs 0 (by omega))
  obtain ⟨c0, c1, _, _⟩ := hb0.two
  obtain ⟨r0, r1, s0, s1⟩ := hres.two
  have HW := Lib.hid hW
  have Hbel := Lib.hid hbel
  have Hres := Lib.hid hres
  clear hW hbel h hb0 hres hcs
  go_enter Tryz.func130, Tryz.ntmps130
  go_upto_region 1 with fail
  rw [← HW.out]
  clear HW
  go_wp2_with fail
  refine wp_loop_rounds 1 ?_
  rw [rounds_succ]
  go_wp2_with fail
  refine ret_res_stored (v := 1) (p := p) rfl rfl rfl Hres.out rfl rfl ?_
  exact fun w' ho => ⟨rfl, Hbel.out.trans (ho.below (by omega))⟩
end Go.Proofs.YtemcdnppgnobmaaGreatDoor
