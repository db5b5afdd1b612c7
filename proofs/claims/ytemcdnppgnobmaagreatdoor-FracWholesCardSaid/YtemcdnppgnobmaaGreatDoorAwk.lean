/-
  The walk of the law's awake: what a program must do whatever the input is.
-/
import Derived.Test.YtemcdnppgnobmaaGreatDoorRefu
import Derived.Test.YtemcdnppgnobmaaGreatDoorAdd1
import Derived.Test.YtemcdnppgnobmaaGreatDoorDivI
import Derived.Test.YtemcdnppgnobmaaGreatDoorMake1
import Derived.Test.YtemcdnppgnobmaaGreatDoorStr
set_option linter.unusedVariables false
namespace Go.Proofs.YtemcdnppgnobmaaGreatDoor
open Go.RowKit

/-- Of, and that the denominator's digits are none. -/
theorem of_exact (z : Int) (r : Rat) (hr : r.num = z ∧ r.den = 1) (w : World) (hlo : -9223372036854775808 ≤ z) (hhi : z ≤ 9223372036854775807) :
    Calls Tryz.prog 51 #[.int .i64 z] w (fun e w' => ∃ A n, e = .returned (ratV r A n none 0) ∧ Dg w' A n z.natAbs ∧ Below w.heap.size w w') := by
  obtain ⟨rfl, hr1⟩ := hr
  have hres := Blk.new w 68 ratZ
  have hbel := below_new w (.cells ratZ 68)
  have hw := fun w' => whole_any r.num w' hlo hhi
  have hden : denN r.den = 0 := by unfold denN; rw [if_pos hr1]
  have Hw := Lib.hid hw
  have Hres := Lib.hid hres
  have Hbel := Lib.hid hbel
  have Hden := Lib.hid hden
  clear hw hres hbel hden hlo hhi hr1
  go_enter Tryz.func51, Tryz.ntmps51
  go_wp2_with fail
  refine (Hw.out _).mono ?_
  rintro e w1 ⟨A, n, rfl, hd, hb⟩
  have hr1 := Hres.out.keep hb
  obtain ⟨d0, d1, d2, e0, e1, e2⟩ := hr1.three
  unfold intV
  go_wp2_with fail
  refine ret_rat_stored (r := r) (A := A) (n := n) (B := none) (m := 0) rfl rfl rfl hr1 ⟨hd, by rw [Hden.out]; exact Sl.nil⟩ (Hbel.out.and hb) (Nat.le_refl _) rfl ?_
  exact fun w' h1 h2 => ⟨A, n, rfl, h1.num, h2⟩

/-- What Refuse is given: a row of one row of two ones, and a row of -1. -/
def RefIn (W X : World) (g gw gb : Nat) (K N : Option Addr) : Prop :=
  Has [(g, 0, .slice (some ⟨gw, 0, none⟩) 2 2)] X ∧ Has (oneQ gw 0 K) X ∧ Has (oneQ gw 3 K) X ∧ Dg X K 1 1 ∧ Has [(gb, 0, .bool true), (gb, 1, .slice N 1 1), (gb, 2, .slice none 0 0)] X ∧ Dg X N 1 1 ∧ Below W.heap.size W X
abbrev oA (K : Option Addr) : Obj := .cells #[.bool false, .slice K 1 1, .slice none 0 0, .bool false, .slice K 1 1, .slice none 0 0] 68
abbrev oB (gw : Nat) : Obj := .cells #[.slice (some ⟨gw, 0, none⟩) 2 2] 74
abbrev oC (N : Option Addr) : Obj := .cells #[.bool true, .slice N 1 1, .slice none 0 0] 68
theorem RefIn.of {W X : World} {g gw gb : Nat} {K N : Option Addr} (hw : Blk X gw 68 #[.bool false, .slice K 1 1, .slice none 0 0, .bool false, .slice K 1 1, .slice none 0 0]) (hg : Blk X g 74 #[.slice (some ⟨gw, 0, none⟩) 2 2])
    (hb : Blk X gb 68 #[.bool true, .slice N 1 1, .slice none 0 0]) (hK : Dg W K 1 1) (hN : Dg X N 1 1) (hbel : Below W.heap.size W X) : RefIn W X g gw gb K N :=
  ⟨⟨⟨hg.cell 0, hg.lt⟩, trivial⟩, ⟨⟨hw.cell 0, hw.lt⟩, ⟨hw.cell 1, hw.lt⟩, ⟨hw.cell 2, hw.lt⟩, trivial⟩, ⟨⟨hw.cell 3, hw.lt⟩, ⟨hw.cell 4, hw.lt⟩, ⟨hw.cell 5, hw.lt⟩, trivial⟩, hK.below hbel, ⟨⟨hb.cell 0, hb.lt⟩, ⟨hb.cell 1, hb.lt⟩, ⟨hb.cell 2, hb.lt⟩, trivial⟩, hN, hbel⟩
theorem Below.undrew {X Y : World} (h : Below X.drew.heap.size X.drew Y) : Below X.heap.size X Y := ⟨h.os, h.tape, h.output, h.size, h.block⟩
theorem Blk.newAt (w : World) (t : TypeId) (cs : Array Value) (n : Nat) (h : n = w.heap.size) : Blk (w.alloc (.cells cs t)) n t cs := by subst h; exact Blk.new _ _ _

section
variable {W X0 w8 : World} {K N : Option Addr} (hX : Below W.heap.size W X0) (hK : Dg W K 1 1) (hd : Dg w8 N 1 1)
include hX hK hd
theorem refIn_1 (hb : Below X0.heap.size X0 w8) : RefIn W (((w8.alloc (oA K)).alloc (oB w8.heap.size)).alloc (oC N)) (w8.heap.size + 1) w8.heap.size (w8.heap.size + 1 + 1) K N :=
  RefIn.of (((Blk.new _ _ _).keep (below_new _ _)).keep (below_new _ _)) ((Blk.newAt _ _ _ _ (by simp)).keep (below_new _ _)) (Blk.newAt _ _ _ _ (by simp)) hK (hd.below (((below_new _ _).more _).more _)) ((((hX.and hb).more _).more _).more _)
theorem refIn_2 (hb : Below X0.heap.size X0 w8) : RefIn W (((w8.alloc (oA K)).alloc (oC N)).alloc (oB w8.heap.size)) (w8.heap.size + 1 + 1) w8.heap.size (w8.heap.size + 1) K N :=
  RefIn.of (((Blk.new _ _ _).keep (below_new _ _)).keep (below_new _ _)) (Blk.newAt _ _ _ _ (by simp)) ((Blk.newAt _ _ _ _ (by simp)).keep (below_new _ _)) hK (hd.below (((below_new _ _).more _).more _)) ((((hX.and hb).more _).more _).more _)
theorem refIn_3 (hb : Below X0.heap.size X0 w8) : RefIn W (((w8.alloc (oC N)).alloc (oA K)).alloc (oB (w8.heap.size + 1))) (w8.heap.size + 1 + 1) (w8.heap.size + 1) w8.heap.size K N :=
  RefIn.of ((Blk.newAt _ _ _ _ (by simp)).keep (below_new _ _)) (Blk.newAt _ _ _ _ (by simp)) (((Blk.new _ _ _).keep (below_new _ _)).keep (below_new _ _)) hK (hd.below (((below_new _ _).more _).more _)) ((((hX.and hb).more _).more _).more _)
theorem refIn_4 (hb : Below (X0.alloc (oA K)).heap.size (X0.alloc (oA K)) w8) : RefIn W ((w8.alloc (oB X0.heap.size)).alloc (oC N)) w8.heap.size X0.heap.size (w8.heap.size + 1) K N :=
  RefIn.of ((((Blk.new X0 _ _).keep hb).keep (below_new _ _)).keep (below_new _ _)) ((Blk.new _ _ _).keep (below_new _ _)) (Blk.newAt _ _ _ _ (by simp)) hK (hd.below ((below_new _ _).more _)) ((((hX.more _).and hb).more _).more _)
theorem refIn_5 (hb : Below (X0.alloc (oA K)).heap.size (X0.alloc (oA K)) w8) : RefIn W ((w8.alloc (oC N)).alloc (oB X0.heap.size)) (w8.heap.size + 1) X0.heap.size w8.heap.size K N :=
  RefIn.of ((((Blk.new X0 _ _).keep hb).keep (below_new _ _)).keep (below_new _ _)) (Blk.newAt _ _ _ _ (by simp)) ((Blk.new _ _ _).keep (below_new _ _)) hK (hd.below ((below_new _ _).more _)) ((((hX.more _).and hb).more _).more _)
theorem refIn_6 (hb : Below ((X0.alloc (oA K)).alloc (oB X0.heap.size)).heap.size ((X0.alloc (oA K)).alloc (oB X0.heap.size)) w8) : RefIn W (w8.alloc (oC N)) (X0.heap.size + 1) X0.heap.size w8.heap.size K N :=
  RefIn.of ((((Blk.new X0 _ _).keep (below_new _ _)).keep hb).keep (below_new _ _)) (((Blk.newAt (X0.alloc (oA K)) _ _ _ (by simp)).keep hb).keep (below_new _ _)) (Blk.new _ _ _) hK (hd.below (below_new _ _)) ((((hX.more _).more _).and hb).more _)
end

def qA : Rat := ((1 : Int) : Rat) * ((3 : Int) : Rat)⁻¹
def qB : Rat := ((1 : Int) : Rat) * ((6 : Int) : Rat)⁻¹
def qC : Rat := qA + qB
theorem qA_num : limbs qA.num.natAbs = 1 := by kernel_rfl
theorem qA_den : limbs (denN qA.den) = 1 := by kernel_rfl
theorem qB_num : limbs qB.num.natAbs = 1 := by kernel_rfl
theorem qB_den : limbs (denN qB.den) = 1 := by kernel_rfl
theorem qC_num : limbs qC.num.natAbs = 1 := by kernel_rfl
theorem qC_den : limbs qC.den = 1 := by kernel_rfl
theorem qC_den' : limbs (denN qC.den) = 1 := by kernel_rfl
theorem qC_str : strL (decQ qC) = { data := #[49, 47, 50] } := by kernel_rfl
theorem z4_str : strL (decZ (-7 / 2)) = { data := #[45, 52] } := by kernel_rfl
theorem z1_str : strL (decZ (-7 % 2)) = { data := #[49] } := by kernel_rfl
theorem z4_len : limbs ((-7 : Int) / 2).natAbs = 1 := by kernel_rfl
theorem z1_len : limbs ((-7 : Int) % 2).natAbs = 1 := by kernel_rfl

set_option maxRecDepth 100000 in
set_option maxHeartbeats 3200000 in
theorem awake_any (tt : TypeId) (fr : Nat × Nat) (w : World) (hg : w.heap[1]? = some (.cells gapC tt fr)) :
    Calls Tryz.prog 19 #[] w (fun e w' => e = .returned (.bool true) ∧ Below w.heap.size w w') := by
  have l1 : 1 < w.heap.size := (Array.getElem?_eq_some_iff.1 hg).1
  have hm1 := make_any 1 3 w (by omega) (by omega)
  have hm2 := fun X => make_any 1 6 X (by omega) (by omega)
  rw [if_neg (by omega)] at hm1
  simp only [show ¬ ((6 : Int) = 0) by omega, if_false] at hm2
  have Hm1 : Hid (Calls Tryz.prog 48 #[.int .i64 1, .int .i64 3] w (RetRatOk qA w)) := Lib.hid hm1
  have Hm2 : Hid (∀ X, Calls Tryz.prog 48 #[.int .i64 1, .int .i64 6] X (RetRatOk qB X)) := Lib.hid hm2
  have Hw7 := Lib.hid (fun X => whole_any (-7) X (by omega) (by omega))
  have Hw2 := Lib.hid (fun X => whole_any 2 X (by omega) (by omega))
  have Ho1 := Lib.hid (fun X => of_exact 1 1 ⟨rfl, rfl⟩ X (by omega) (by omega))
  have hom : ∀ X, Calls Tryz.prog 51 #[.int .i64 (-1)] X (fun e w' => ∃ A, e = .returned (.agg #[.bool true, .slice A 1 1, .slice none 0 0]) ∧ Dg w' A 1 1 ∧ Below X.heap.size X w') := by
    intro X
    refine (of_exact (-1) (-1) ⟨rfl, rfl⟩ X (by omega) (by omega)).mono ?_
    rintro e w' ⟨A, n, rfl, hd, hb⟩
    obtain rfl : n = 1 := hd.len.symm.trans (by decide)
    refine ⟨A, ?_, hd, hb⟩
    unfold ratV
    rw [show decide ((-1 : Rat).num < 0) = true by decide]
  have Hom := Lib.hid hom
  have HG := Lib.hid (fun X (hX : Below w.heap.size w X) => (hX.block 1 l1).trans hg)
  clear hm1 hm2 hg l1 hom
  go_enter Tryz.func19, Tryz.ntmps19
  go_wp2_with fail
  refine Hm1.out.mono ?_
  rintro e w1 ⟨A, n, B, m, rfl, hr1, hb1⟩
  unfold ratV
  go_upto_region 2 with fail
  obtain ⟨W1, hW1⟩ : ∃ W1, W1 = w1.alloc (.cells #[.bool (decide (qA.num < 0)), .slice A n n, .slice B m m] 68) := ⟨_, rfl⟩
  have hk1 : Blk W1 w1.heap.size 68 (ratC qA A n B m) := by rw [hW1]; exact Blk.new _ _ _
  have hb1' : Below w.heap.size w W1 := by rw [hW1]; exact hb1.more _
  have hr1' : Rg W1 A n B m qA := by rw [hW1]; exact hr1.below (below_new _ _)
  rw [← hW1]
  obtain ⟨gA, hgA⟩ : ∃ gA, w1.heap.size = gA := ⟨_, rfl⟩
  rw [hgA] at hk1 ⊢
  clear hW1 hb1 hr1 hgA Hm1
  go_wp2_with fail
  refine (Hm2.out _).mono ?_
  rintro e w2 ⟨C, c, D, d, rfl, hr2, hb2⟩
  unfold ratV
  go_upto_region 3 with fail
  obtain ⟨W2, hW2⟩ : ∃ W2, W2 = w2.alloc (.cells #[.bool (decide (qB.num < 0)), .slice C c c, .slice D d d] 68) := ⟨_, rfl⟩
  have hk2 : Blk W2 w2.heap.size 68 (ratC qB C c D d) := by rw [hW2]; exact Blk.new _ _ _
  have hb2' : Below W1.heap.size W1 W2 := by rw [hW2]; exact hb2.more _
  have hr2' : Rg W2 C c D d qB := by rw [hW2]; exact hr2.below (below_new _ _)
  rw [← hW2]
  obtain ⟨gB, hgB⟩ : ∃ gB, w2.heap.size = gB := ⟨_, rfl⟩
  rw [hgB] at hk2 ⊢
  clear hW2 hb2 hr2 hgB Hm2
  have hkA := hk1.keep hb2'
  have hrA := hr1'.below hb2'
  have hB2 := hb1'.and hb2'
  clear hk1 hr1' hb1' hb2'
  obtain ⟨a0, a1, a2, -, -, -⟩ := hkA.three
  obtain ⟨b0, b1, b2, -, -, -⟩ := hk2.three
  have had := add_rat_any A B C D n m c d qA qB W2 hrA hr2' ⟨by show limbs qC.num.natAbs < 3345; rw [qC_num]; omega, by show limbs qC.den < 3345; rw [qC_den]; omega⟩
    (by rw [← hrA.num.len, qA_num]; omega) (by rw [← hrA.den.len, qA_den]; omega) (by rw [← hr2'.num.len, qB_num]; omega) (by rw [← hr2'.den.len, qB_den]; omega)
  have Had : Hid (Calls Tryz.prog 49 #[ratV qA A n B m, ratV qB C c D d] W2 (RetRatOk qC W2)) := Lib.hid had
  clear had hrA hr2' hkA hk2
  unfold ratV at Had
  generalize decide (qA.num < 0) = bA at *
  generalize decide (qB.num < 0) = bB at *
  go_wp2_with fail
  refine Had.out.mono ?_
  rintro e w3 ⟨E, e', F, f, rfl, hr3, hb3⟩
  unfold ratV
  go_upto_region 4 with fail
  obtain ⟨W3, hW3⟩ : ∃ W3, W3 = w3.alloc (.cells #[.bool (decide (qC.num < 0)), .slice E e' e', .slice F f f] 68) := ⟨_, rfl⟩
  have hk3 : Blk W3 w3.heap.size 68 (ratC qC E e' F f) := by rw [hW3]; exact Blk.new _ _ _
  have hb3' : Below W2.heap.size W2 W3 := by rw [hW3]; exact hb3.more _
  have hr3' : Rg W3 E e' F f qC := by rw [hW3]; exact hr3.below (below_new _ _)
  rw [← hW3]
  obtain ⟨gC, hgC⟩ : ∃ gC, w3.heap.size = gC := ⟨_, rfl⟩
  rw [hgC] at hk3 ⊢
  have hB3 := hB2.and hb3'
  clear hW3 hb3 hr3 hgC Had hb3' hB2 a0 a1 a2 b0 b1 b2
  go_wp2_with fail
  refine (Hw7.out _).mono ?_
  rintro e w4 ⟨G, g, rfl, hd4, hb4⟩
  unfold intV
  go_wp2_with fail
  refine (Hw2.out _).mono ?_
  rintro e w5 ⟨H, h', rfl, hd5, hb5⟩
  have hdv := intDiv_any G H g h' (-7) 2 w5 (hd4.below hb5) hd5 (by omega) (by rw [← hd4.len]; decide) (by rw [← hd5.len]; decide)
  have Hdv := Lib.hid hdv
  unfold intV at Hdv ⊢
  clear hdv hd4 hd5
  go_wp2_with fail
  refine Hdv.out.mono ?_
  rintro e w6 ⟨I, i', J, j', rfl, hdq, hdr, hb6⟩
  have hqs : decide (((-7 : Int) / 2) < 0) = true := by decide
  have hrs : decide (((-7 : Int) % 2) < 0) = false := by decide
  unfold intV
  rw [hqs, hrs]
  go_upto_region 5 with fail
  obtain ⟨W6, hW6⟩ : ∃ W6, W6 = (w6.alloc (.cells #[.bool true, .slice I i' i'] 25)).alloc (.cells #[.bool false, .slice J j' j'] 25) := ⟨_, rfl⟩
  have hbW6 : Below w6.heap.size w6 W6 := by rw [hW6]; exact (below_new _ _).more _
  have hkQ : Blk W6 w6.heap.size 25 #[.bool true, .slice I i' i'] := by rw [hW6]; exact (Blk.new _ _ _).keep (below_new _ _)
  have hkR : Blk W6 (w6.heap.size + 1) 25 #[.bool false, .slice J j' j'] := by
    have := Blk.new (w6.alloc (.cells #[.bool true, .slice I i' i'] 25)) 25 #[.bool false, .slice J j' j']
    rw [size_new] at this
    rw [hW6]; exact this
  rw [← hW6]
  obtain ⟨gQ, hgQ⟩ : ∃ gQ, w6.heap.size = gQ := ⟨_, rfl⟩
  rw [hgQ] at hkQ hkR ⊢
  have hB6' := ((hb4.and hb5).and hb6).and hbW6
  have hk6 := hk3.keep hB6'
  have hr6 := hr3'.below hB6'
  have hdq6 := hdq.below hbW6
  have hdr6 := hdr.below hbW6
  have hB6 := hB3.and hB6'
  clear hW6 hbW6 hk3 hr3' hdq hdr hb4 hb5 hb6 hgQ Hdv hB3 hB6' Hw7 Hw2 hqs hrs
  go_wp2_with fail
  refine (Ho1.out _).mono ?_
  rintro e w7 ⟨K, k, rfl, hd7, hb7⟩
  unfold ratV
  have e1 : decide ((1 : Rat).num < 0) = false := by decide
  rw [e1]
  obtain rfl : k = 1 := hd7.len.symm.trans (by decide)
  go_upto_region 6 with fail
  obtain ⟨W7, hW7⟩ : ∃ W7, W7 = w7.alloc (.cells #[.bool false, .slice K 1 1, .slice none 0 0] 68) := ⟨_, rfl⟩
  have hbW7 : Below W6.heap.size W6 W7 := by rw [hW7]; exact hb7.more _
  have hk7 : Blk W7 w7.heap.size 68 #[.bool false, .slice K 1 1, .slice none 0 0] := by rw [hW7]; exact Blk.new _ _ _
  have hd7' : Dg W7 K 1 1 := by rw [hW7]; exact hd7.below (below_new _ _)
  rw [← hW7]
  obtain ⟨gO, hgO⟩ : ∃ gO, w7.heap.size = gO := ⟨_, rfl⟩
  rw [hgO] at hk7 ⊢
  have hkC := hk6.keep hbW7
  have hrC := hr6.below hbW7
  have hkQ7 := hkQ.keep hbW7
  have hkR7 := hkR.keep hbW7
  have hdq7 := hdq6.below hbW7
  have hdr7 := hdr6.below hbW7
  have hB7 := hB6.and hbW7
  clear hW7 hbW7 hk6 hr6 hkQ hkR hdq6 hdr6 hb7 hd7 hgO hB6 Ho1 e1
  obtain ⟨o0, o1, o2, -, -, -⟩ := hk7.three
  have Hcells := Lib.hid (fun X (hX : Below W7.heap.size W7 X) => show X.cell? ⟨gO, 0, none⟩ = some (.bool false) ∧ X.cell? ⟨gO, 1, none⟩ = some (.slice K 1 1) ∧ X.cell? ⟨gO, 2, none⟩ = some (.slice none 0 0) from ⟨(hk7.keep hX).cell 0, (hk7.keep hX).cell 1, (hk7.keep hX).cell 2⟩)
  have hre : ∀ X g gw gb N, RefIn W7 X g gw gb K N → Calls Tryz.prog 52 #[.slice (some ⟨g, 0, none⟩) 1 1, .slice (some ⟨gb, 0, none⟩) 1 1] X (fun e w' => ∃ k A1 n1 B1 m1, e = .returned (.tuple #[.slice (some ⟨k, 0, none⟩) 1 1, .bool true]) ∧ Blk w' k 68 (ratC 1 A1 n1 B1 m1) ∧ Rg w' A1 n1 B1 m1 1 ∧ Below W7.heap.size W7 w') := by
    intro X g gw gb N h
    obtain ⟨p1, p2, p3, p4, p5, p6, p7⟩ := h
    refine (refuse_ones g 1 gw gb K N tt fr X p1 p2 p3 p4 p5 p6 (HG.out _ (hB7.and p7))).mono ?_
    rintro e w' ⟨k, A1, n1, B1, m1, q1, q2, q3, q4⟩
    exact ⟨k, A1, n1, B1, m1, q1, q2, q3, p7.and q4⟩
  have Hre := Lib.hid hre
  clear hre
  have hB := Below.refl W7.heap.size W7
  have hBd := Below.drew hB
  go_cut [11, 12] (fun s11 s12 wx => ∃ k A1 n1 B1 m1, s11 = .slice (some ⟨k, 0, none⟩) 1 1 ∧ s12 = .bool true ∧ Blk wx k 68 (ratC 1 A1 n1 B1 m1) ∧ Rg wx A1 n1 B1 m1 1 ∧ Below W7.heap.size W7 wx)
  case first =>
    go_region_held3 (fun w' => w'.cell? ⟨gO, 0, none⟩ = some (.bool false) ∧ w'.cell? ⟨gO, 1, none⟩ = some (.slice K 1 1) ∧ w'.cell? ⟨gO, 2, none⟩ = some (.slice none 0 0))
      (first | exact Hcells.out _ hB | exact Hcells.out _ hBd | exact Hcells.out _ (Below.more hBd _) | exact Hcells.out _ (Below.more (Below.more hBd _) _) | exact Hcells.out _ hB8 | exact Hcells.out _ (Below.more hB8 _) | exact Hcells.out _ (Below.more (Below.more hB8 _) _) | exact Hcells.out _ (Below.more (Below.more (Below.more hB8 _) _) _) | exact Hcells.out _ hb9 | go_keep)
      (first
      | (go_at_call 51; refine (Hom.out _).mono ?_; rintro e w8 ⟨N, rfl, hd8, hb8⟩; (first | (have hB8 := Below.and (Below.more (Below.more hB _) _) (Below.undrew hb8)) | (have hB8 := Below.and (Below.more hB _) (Below.undrew hb8)) | (have hB8 := Below.and hB (Below.undrew hb8))))
      | (go_at_call 52; refine Calls.mono (Hre.out _ _ _ _ _ (refIn_6 (X0 := W7) hB hd7' hd8 (Below.undrew hb8))) ?_; rintro e w9 ⟨k9, A1, n1, B1, m1, rfl, hk9, hr9, hb9⟩)
      | (go_at_call 52; refine Calls.mono (Hre.out _ _ _ _ _ (refIn_4 (X0 := W7) hB hd7' hd8 (Below.undrew hb8))) ?_; rintro e w9 ⟨k9, A1, n1, B1, m1, rfl, hk9, hr9, hb9⟩)
      | (go_at_call 52; refine Calls.mono (Hre.out _ _ _ _ _ (refIn_5 (X0 := W7) hB hd7' hd8 (Below.undrew hb8))) ?_; rintro e w9 ⟨k9, A1, n1, B1, m1, rfl, hk9, hr9, hb9⟩)
      | (go_at_call 52; refine Calls.mono (Hre.out _ _ _ _ _ (refIn_1 (X0 := W7) hB hd7' hd8 (Below.undrew hb8))) ?_; rintro e w9 ⟨k9, A1, n1, B1, m1, rfl, hk9, hr9, hb9⟩)
      | (go_at_call 52; refine Calls.mono (Hre.out _ _ _ _ _ (refIn_2 (X0 := W7) hB hd7' hd8 (Below.undrew hb8))) ?_; rintro e w9 ⟨k9, A1, n1, B1, m1, rfl, hk9, hr9, hb9⟩)
      | (go_at_call 52; refine Calls.mono (Hre.out _ _ _ _ _ (refIn_3 (X0 := W7) hB hd7' hd8 (Below.undrew hb8))) ?_; rintro e w9 ⟨k9, A1, n1, B1, m1, rfl, hk9, hr9, hb9⟩))
    all_goals
      go_wp2_with fail
      go_meet
      exact ⟨k9, A1, n1, B1, m1, rfl, rfl, hk9, hr9, hb9⟩
  case rest =>
    obtain ⟨k, A1, n1, B1, m1, rfl, rfl, hk, hr, hb⟩ := hcut
    clear Hre Hom Hcells hB hBd hd7' hk7 o0 o1 o2 HG
    obtain rfl : e' = 1 := by rw [← hrC.num.len, qC_num]
    obtain rfl : f = 1 := by rw [← hrC.den.len, qC_den']
    obtain rfl : i' = 1 := by rw [← hdq7.len, z4_len]
    obtain rfl : j' = 1 := by rw [← hdr7.len, z1_len]
    have hall : ∀ X, Below wc.heap.size wc X → (X.cell? ⟨gC, 0, none⟩ = some (.bool (decide (qC.num < 0))) ∧ X.cell? ⟨gC, 1, none⟩ = some (.slice E 1 1) ∧ X.cell? ⟨gC, 2, none⟩ = some (.slice F 1 1)) ∧ (X.cell? ⟨gQ, 0, none⟩ = some (.bool true) ∧ X.cell? ⟨gQ, 1, none⟩ = some (.slice I 1 1)) ∧
        (X.cell? ⟨gQ + 1, 0, none⟩ = some (.bool false) ∧ X.cell? ⟨gQ + 1, 1, none⟩ = some (.slice J 1 1)) ∧ X.cell? ⟨k, 0, none⟩ = some (.bool (decide ((1 : Rat).num < 0))) ∧ X.cell? ⟨k, 1, none⟩ = some (.slice A1 n1 n1) ∧ X.cell? ⟨k, 2, none⟩ = some (.slice B1 m1 m1) := by
      intro X hX
      have hX7 := hb.and hX
      have q1 := hkC.keep hX7
      have q2 := hkQ7.keep hX7
      have q3 := hkR7.keep hX7
      have q4 := hk.keep hX
      exact ⟨⟨q1.cell 0, q1.cell 1, q1.cell 2⟩, ⟨q2.cell 0, q2.cell 1⟩, ⟨q3.cell 0, q3.cell 1⟩, q4.cell 0, q4.cell 1, q4.cell 2⟩
    have hs1 : ∀ X, Below wc.heap.size wc X → Calls Tryz.prog 53 #[.agg #[.bool (decide (qC.num < 0)), .slice E 1 1, .slice F 1 1]] X (fun e w' => e = .returned (.string { data := #[49, 47, 50] }) ∧ Below X.heap.size X w') := by
      intro X hX
      have := ratString_any qC E F 1 1 X (hrC.below (hb.and hX)) (by omega) (by omega)
      rw [qC_str] at this
      exact this
    have hs2 : ∀ X, Below wc.heap.size wc X → Calls Tryz.prog 33 #[.agg #[.bool true, .slice I 1 1]] X (fun e w' => e = .returned (.string { data := #[45, 52] }) ∧ Below X.heap.size X w') := by
      intro X hX
      have := intString_any (-7 / 2) I 1 X (hdq7.below (hb.and hX)) (by omega)
      rw [z4_str] at this
      exact this
    have hs3 : ∀ X, Below wc.heap.size wc X → Calls Tryz.prog 33 #[.agg #[.bool false, .slice J 1 1]] X (fun e w' => e = .returned (.string { data := #[49] }) ∧ Below X.heap.size X w') := by
      intro X hX
      have := intString_any (-7 % 2) J 1 X (hdr7.below (hb.and hX)) (by omega)
      rw [z1_str] at this
      exact this
    have hs4 : ∀ X, Below wc.heap.size wc X → Calls Tryz.prog 54 #[.agg #[.bool (decide ((1 : Rat).num < 0)), .slice A1 n1 n1, .slice B1 m1 m1]] X (fun e w' => e = .returned (.int .i64 1) ∧ Below X.heap.size X w') := by
      intro X hX
      exact ratSign_any A1 B1 n1 m1 1 X (hr.below hX)
    have hBf := hB7.and hb
    have Hall := Lib.hid hall
    have Hs1 := Lib.hid hs1
    have Hs2 := Lib.hid hs2
    have Hs3 := Lib.hid hs3
    have Hs4 := Lib.hid hs4
    have HBf := Lib.hid hBf
    obtain ⟨⟨a0, a1, a2⟩, -, -⟩ := hall _ (Below.refl _ _)
    have hB := Below.refl wc.heap.size wc
    clear hall hs1 hs2 hs3 hs4 hBf hkC hkQ7 hkR7 hk hr hb hrC hdq7 hdr7 hB7
    generalize decide (qC.num < 0) = bC at *
    generalize decide ((1 : Rat).num < 0) = bD at *
    go_wp2_with (first
      | (go_at_call 53; refine (Hs1.out _ hB).mono ?_; rintro e x1 ⟨rfl, hc1⟩; have hB1 := Below.and hB hc1; obtain ⟨-, ⟨p0, p1⟩, -⟩ := Hall.out _ hB1)
      | (go_at_call_of 33 (Value.slice I 1 1); refine (Hs2.out _ hB1).mono ?_; rintro e x2 ⟨rfl, hc2⟩; have hB2 := Below.and hB1 hc2; obtain ⟨-, -, ⟨r0, r1⟩, -⟩ := Hall.out _ hB2)
      | (go_at_call_of 33 (Value.slice J 1 1); refine (Hs3.out _ hB2).mono ?_; rintro e x3 ⟨rfl, hc3⟩; have hB3 := Below.and hB2 hc3; obtain ⟨-, -, -, s0, s1, s2⟩ := Hall.out _ hB3)
      | (go_at_call 54; refine (Hs4.out _ hB3).mono ?_; rintro e x4 ⟨rfl, hc4⟩; have hB4 := Below.and hB3 hc4))
    go_ret
    exact ⟨rfl, HBf.out.and hB4⟩
end Go.Proofs.YtemcdnppgnobmaaGreatDoor
