/-
  The walks of frac's tooLong, uneven, tooLarge and Check, of a system of one row of two ones and one element.
  The walk of frac's Neg of fractions.
-/
import Derived.Test.YtemcdnppgnobmaaGreatDoorWho
set_option linter.unusedVariables false
namespace Go.Proofs.YtemcdnppgnobmaaGreatDoor
open Go.RowKit

set_option maxRecDepth 100000 in
theorem tooLong_one (g c gw cw : Nat) (w : World) (h : Has [(g, 0, .slice (some ⟨gw, 0, none⟩) 2 cw)] w) :
    Calls Tryz.prog 100 #[.slice (some ⟨g, 0, none⟩) 1 c] w (fun e w' => e = .returned (.bool false) ∧ w' = w) := by
  obtain ⟨⟨c0, _⟩, _⟩ := h
  go_enter Tryz.func100, Tryz.ntmps100
  go_wp2_with fail
  go_ret
  exact ⟨rfl, rfl⟩

set_option maxRecDepth 100000 in
theorem uneven_one (g c gw cw : Nat) (w : World) (h : Has [(g, 0, .slice (some ⟨gw, 0, none⟩) 2 cw)] w) :
    Calls Tryz.prog 101 #[.slice (some ⟨g, 0, none⟩) 1 c] w (fun e w' => e = .returned (.bool false) ∧ w' = w) := by
  obtain ⟨⟨c0, _⟩, _⟩ := h
  go_enter Tryz.func101, Tryz.ntmps101
  go_wp2_with fail
  refine wp_loop_rounds 2 ?_
  rw [rounds_succ]
  go_wp2_with fail
  rw [rounds_succ]
  go_wp2_with fail
  go_ret
  exact ⟨rfl, rfl⟩

theorem decimals_none (X : World) : Calls Tryz.prog 113 #[.slice none 0 0] X (fun e w' => e = .returned (.int .i64 1) ∧ w' = X) :=
  decimals_any none 0 0 0 X Sl.nil (by omega)
theorem decimals_one (A : Option Addr) (X : World) (h : Dg X A 1 1) : Calls Tryz.prog 113 #[.slice A 1 1] X (fun e w' => e = .returned (.int .i64 1) ∧ w' = X) := by
  have h1 := decimals_any A 1 1 1 X h (by omega)
  rwa [show ((decimalsOf 1 : Nat) : Int) = 1 by rw [decimalsOf_eq]; decide] at h1

set_option maxRecDepth 100000 in
/-- A list of one list of two ones. -/
theorem tooLarge_two (g c gw cw : Nat) (D : Option Addr) (w : World) (h : Has [(g, 0, .slice (some ⟨gw, 0, none⟩) 2 cw)] w) (h0 : Has (oneQ gw 0 D) w) (h3 : Has (oneQ gw 3 D) w) (hD : Dg w D 1 1) :
    Calls Tryz.prog 102 #[.slice (some ⟨g, 0, none⟩) 1 c] w (fun e w' => e = .returned (.bool false) ∧ Below w.heap.size w w') := by
  have hone := Lib.hid (fun X (hX : Below w.heap.size w X) => decimals_one D X (hD.below hX))
  have hnil := Lib.hid decimals_none
  obtain ⟨⟨c0, _⟩, _⟩ := h
  obtain ⟨⟨x0, _⟩, ⟨x1, _⟩, ⟨x2, _⟩, _⟩ := h0
  obtain ⟨⟨x3, _⟩, ⟨x4, _⟩, ⟨x5, _⟩, _⟩ := h3
  have hb1 : Below w.heap.size w (w.alloc (.cells #[.bool false, .slice D 1 1, .slice none 0 0] 68)) := below_new _ _
  have hb2 := hb1.more (.cells #[.bool false, .slice D 1 1, .slice none 0 0] 68)
  have h1 := hone.out _ hb1
  have h2 := hone.out _ hb2
  have H1 := Lib.hid h1
  have H2 := Lib.hid h2
  have Hb2 := Lib.hid hb2
  clear hone hb1 hb2 h1 h2 hD
  go_enter Tryz.func102, Tryz.ntmps102
  go_wp2_with fail
  refine wp_loop_rounds 2 ?_
  rw [rounds_succ]
  go_upto_region 5 with fail
  refine wp_loop_rounds 3 ?_
  rw [rounds_succ]
  go_upto_region 9 with (first
    | (go_at_call_of 113 (Value.slice D 1 1); refine H1.out.mono ?_; rintro e w1 ⟨rfl, rfl⟩)
    | (go_at_call 113; refine (hnil.out _).mono ?_; rintro e w1 ⟨rfl, rfl⟩))
  go_wp2_with fail
  rw [rounds_succ]
  go_upto_region 9 with (first
    | (go_at_call_of 113 (Value.slice D 1 1); refine H2.out.mono ?_; rintro e w1 ⟨rfl, rfl⟩)
    | (go_at_call 113; refine (hnil.out _).mono ?_; rintro e w1 ⟨rfl, rfl⟩))
  go_wp2_with fail
  rw [rounds_succ]
  go_wp2_with fail
  rw [rounds_succ]
  go_wp2_with fail
  go_ret
  exact ⟨rfl, Hb2.out⟩

set_option maxRecDepth 100000 in
/-- A list of one list of one element that is 1 or -1. -/
theorem tooLarge_one (g c gb cb : Nat) (b : Bool) (E : Option Addr) (w : World) (h : Has [(g, 0, .slice (some ⟨gb, 0, none⟩) 1 cb)] w) (h0 : Has [(gb, 0, .bool b), (gb, 1, .slice E 1 1), (gb, 2, .slice none 0 0)] w) (hE : Dg w E 1 1) :
    Calls Tryz.prog 102 #[.slice (some ⟨g, 0, none⟩) 1 c] w (fun e w' => e = .returned (.bool false) ∧ Below w.heap.size w w') := by
  have hnil := Lib.hid decimals_none
  obtain ⟨⟨c0, _⟩, _⟩ := h
  obtain ⟨⟨x0, _⟩, ⟨x1, _⟩, ⟨x2, _⟩, _⟩ := h0
  have hb1 : Below w.heap.size w (w.alloc (.cells #[.bool b, .slice E 1 1, .slice none 0 0] 68)) := below_new _ _
  have H1 := Lib.hid (decimals_one E _ (hE.below hb1))
  have Hb1 := Lib.hid hb1
  clear hb1 hE
  go_enter Tryz.func102, Tryz.ntmps102
  go_wp2_with fail
  refine wp_loop_rounds 2 ?_
  rw [rounds_succ]
  go_upto_region 5 with fail
  refine wp_loop_rounds 2 ?_
  rw [rounds_succ]
  go_upto_region 9 with (first
    | (go_at_call_of 113 (Value.slice E 1 1); refine H1.out.mono ?_; rintro e w1 ⟨rfl, rfl⟩)
    | (go_at_call 113; refine (hnil.out _).mono ?_; rintro e w1 ⟨rfl, rfl⟩))
  go_wp2_with fail
  rw [rounds_succ]
  go_wp2_with fail
  rw [rounds_succ]
  go_wp2_with fail
  go_ret
  exact ⟨rfl, Hb1.out⟩

set_option maxRecDepth 100000 in
theorem check_ones (g c gw gb : Nat) (D E : Option Addr) (b : Bool) (w : World) (h : Has [(g, 0, .slice (some ⟨gw, 0, none⟩) 2 2)] w) (h0 : Has (oneQ gw 0 D) w) (h3 : Has (oneQ gw 3 D) w) (hD : Dg w D 1 1)
    (hb : Has [(gb, 0, .bool b), (gb, 1, .slice E 1 1), (gb, 2, .slice none 0 0)] w) (hE : Dg w E 1 1) :
    Calls Tryz.prog 78 #[.slice (some ⟨g, 0, none⟩) 1 c, .slice (some ⟨gb, 0, none⟩) 1 1] w (fun e w' => e = .returned (.int .i64 0) ∧ Below w.heap.size w w') := by
  have H1 := Lib.hid (tooLong_one g c gw 2 w h)
  have H2 := Lib.hid (uneven_one g c gw 2 w h)
  have H3 := Lib.hid (tooLarge_two g c gw 2 D w h h0 h3 hD)
  have H4 := Lib.hid (fun X (hX : Below w.heap.size w X) => tooLarge_one X.heap.size 1 gb 1 b E (X.alloc (.cells #[.slice (some ⟨gb, 0, none⟩) 1 1] 74)) ⟨⟨(Blk.new X 74 #[.slice (some ⟨gb, 0, none⟩) 1 1]).cell 0, (Blk.new X 74 _).lt⟩, trivial⟩ (hb.keep (hX.more _)) (hE.below (hX.more _)))
  clear h h0 h3 hD hb hE
  go_enter Tryz.func78, Tryz.ntmps78
  go_upto_region 5 with (first
    | (go_at_call 100; refine H1.out.mono ?_; rintro e w1 ⟨rfl, rfl⟩)
    | (go_at_call 101; refine H2.out.mono ?_; rintro e w1 ⟨rfl, rfl⟩))
  go_wp2_with fail
  refine H3.out.mono ?_
  rintro e w2 ⟨rfl, hb2⟩
  go_wp2_with fail
  refine (H4.out _ hb2).mono ?_
  rintro e w3 ⟨rfl, hb3⟩
  go_wp2_with fail
  go_ret
  exact ⟨rfl, (hb2.more _).and hb3⟩
end Go.Proofs.YtemcdnppgnobmaaGreatDoor

namespace Go.Proofs.YtemcdnppgnobmaaGreatDoor
open Go.RowKit

set_option maxRecDepth 100000 in
theorem ratNeg_any (A B : Option Addr) (n m : Nat) (r : Rat) (w : World) (h : Rg w A n B m r) :
    Calls Tryz.prog 104 #[ratV r A n B m] w (fun e w' => e = .returned (ratV (-r) A n B m) ∧ Rg w' A n B m (-r) ∧ Below w.heap.size w w') := by
  obtain ⟨W, hW⟩ : ∃ W, W = (w.alloc (.cells (ratC r A n B m) 68)).alloc (.cells ratZ 68) := ⟨_, rfl⟩
  have hbel : Below w.heap.size w W := by rw [hW]; exact (below_new _ _).more _
  have hb0 : Blk W w.heap.size 68 (ratC r A n B m) := by rw [hW]; exact (Blk.new w 68 _).keep (below_new _ _)
  have hres : Blk W (w.heap.size + 1) 68 ratZ := by
    have := Blk.new (w.alloc (.cells (ratC r A n B m) 68)) 68 ratZ
    rw [size_new] at this
    rw [hW]; exact this
  have hx := h.below hbel
  have en : (-r).num = -r.num := Rat.neg_num r
  have ed : (-r).den = r.den := Rat.neg_den r
  have hne := fun X (hX : Below W.heap.size W X) => neg_any A n r.num X (hx.num.below hX)
  have Hcells := Lib.hid (show ∀ X, Below W.heap.size W X → X.cell? ⟨w.heap.size, 0, none⟩ = some (.bool (decide (r.num < 0))) ∧ X.cell? ⟨w.heap.size, 1, none⟩ = some (.slice A n n) ∧ X.cell? ⟨w.heap.size, 2, none⟩ = some (.slice B m m) from fun X hX => ⟨(hb0.keep hX).cell 0, (hb0.keep hX).cell 1, (hb0.keep hX).cell 2⟩)
  have Hne := Lib.hid hne
  have HW := Lib.hid hW
  have Hbel := Lib.hid hbel
  have Hx := Lib.hid hx
  have Hen := Lib.hid en
  have Hed := Lib.hid ed
  obtain ⟨c0, c1, c2⟩ := Hcells.out _ (Below.refl _ _)
  have hne1 : w.heap.size ≠ w.heap.size + 1 := by omega
  have hne2 : w.heap.size + 1 ≠ w.heap.size := by omega
  clear hne hW hbel hx h en ed hb0
  unfold ratV intV at *
  unfold ratC ratZ at HW
  rw [Rat.neg_num]
  generalize hb' : decide (-r.num < 0) = b' at *
  have Hb' := Lib.hid hb'
  clear hb'
  generalize decide (r.num < 0) = b at *
  go_enter Tryz.func104, Tryz.ntmps104
  go_upto_region 1 with fail
  rw [← HW.out]
  clear HW
  go_region_held3 (fun w' => w'.cell? ⟨w.heap.size, 0, none⟩ = some (.bool b) ∧ w'.cell? ⟨w.heap.size, 1, none⟩ = some (.slice A n n) ∧ w'.cell? ⟨w.heap.size, 2, none⟩ = some (.slice B m m))
    (first | exact Hcells.out _ (Below.refl _ _) | exact Hcells.out _ (Below.drew (Below.refl _ _)) | exact Hcells.out _ hb2' | go_keep)
    (first
    | (go_at_call 60; refine (Hne.out _ (Below.drew (Below.refl _ _))).mono ?_; rintro e w2 ⟨rfl, hd2, hb2⟩; have hb2' := Below.and (Below.drew (Below.refl W.heap.size W)) hb2; have hr2 := Blk.keep hres hb2'; obtain ⟨z0, z1, z2, y0, y1, y2⟩ := hr2.three; obtain ⟨c0', c1', c2'⟩ := Hcells.out _ hb2'))
  all_goals
    have hrg : Rg w2 A n B m (-r) := ⟨by rw [Hen.out]; exact hd2, by rw [Hed.out]; exact Hx.out.den.below hb2'⟩
    go_wp2_with fail
    refine ret_rat_stored (r := -r) (A := A) (n := n) (B := B) (m := m) rfl rfl rfl hr2 hrg (Hbel.out.and hb2') (by omega) (by rw [Hen.out]; exact Hb'.out.symm) ?_
    exact fun w' h1 h2 => ⟨by rw [← Hb'.out]; rfl, h1, h2⟩
end Go.Proofs.YtemcdnppgnobmaaGreatDoor
