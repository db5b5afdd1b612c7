/-
  The walk of frac's times of integers.
  The walk of frac's times of fractions.
-/
import Derived.Test.YtemcdnppgnobmaaGreatDoorInt4
import Derived.Deep.RegionHeld3
import Derived.Test.YtemcdnppgnobmaaGreatDoorRat3
import Derived.Deep.DeepCutAuto
set_option linter.unusedVariables false
namespace Go.Proofs.YtemcdnppgnobmaaGreatDoor
open Go.RowKit

theorem times_sign (y z : Int) : (y * z) = if (decide (y < 0) != decide (z < 0)) then -((y.natAbs * z.natAbs : Nat) : Int) else ((y.natAbs * z.natAbs : Nat) : Int) := by
  have ey : y = if y < 0 then -(y.natAbs : Int) else y.natAbs := by split <;> omega
  have ez : z = if z < 0 then -(z.natAbs : Int) else z.natAbs := by split <;> omega
  rw [Int.natCast_mul]
  by_cases hy : y < 0 <;> by_cases hz : z < 0
  · rw [if_pos hy] at ey; rw [if_pos hz] at ez
    rw [decide_eq_true hy, decide_eq_true hz, if_neg (by decide), ← Int.neg_mul_neg (y.natAbs : Int), ← ey, ← ez]
  · rw [if_pos hy] at ey; rw [if_neg hz] at ez
    rw [decide_eq_true hy, decide_eq_false hz, if_pos (by decide), ← Int.neg_mul, ← ey, ← ez]
  · rw [if_neg hy] at ey; rw [if_pos hz] at ez
    rw [decide_eq_false hy, decide_eq_true hz, if_pos (by decide), ← Int.mul_neg, ← ey, ← ez]
  · rw [if_neg hy] at ey; rw [if_neg hz] at ez
    rw [decide_eq_false hy, decide_eq_false hz, if_neg (by decide), ← ey, ← ez]

/-- Three new blocks. -/
theorem three_new (w : World) (t t' t'' : TypeId) (c c' c'' : Array Value) : ∃ W, W = ((w.alloc (.cells c t)).alloc (.cells c' t')).alloc (.cells c'' t'') ∧
    Blk W w.heap.size t c ∧ Blk W (w.heap.size + 1) t' c' ∧ Blk W (w.heap.size + 1 + 1) t'' c'' ∧ Below w.heap.size w W := by
  refine ⟨_, rfl, ?_, ?_, ?_, ((below_new w _).more _).more _⟩
  · exact (Blk.new w t c).keep ((below_new _ _).more _)
  · have := (Blk.new (w.alloc (.cells c t)) t' c').keep (below_new _ (.cells c'' t''))
    rwa [size_new] at this
  · have := Blk.new ((w.alloc (.cells c t)).alloc (.cells c' t')) t'' c''
    rwa [size_new, size_new] at this

set_option maxHeartbeats 800000 in
theorem times_any (A B : Option Addr) (n m : Nat) (y z : Int) (w : World) (h : Dg w A n y.natAbs) (k : Dg w B m z.natAbs) (hn9 : n ≤ 100000000000) (hm9 : m ≤ 100000000000) :
    Calls Tryz.prog 32 #[intV y A n, intV z B m] w (RetInt (y * z) w) := by
  obtain ⟨W, hW, hb0, hb1, hres, hbel⟩ := three_new w 25 25 25 #[.bool (decide (y < 0)), .slice A n n] #[.bool (decide (z < 0)), .slice B m m] #[.bool false, .slice none 0 0]
  have hx := h.below hbel
  have hy := k.below hbel
  have hsg := times_sign y z
  have hm := fun w' (hw : Below W.heap.size W w') => multiply_any A B n m n m y.natAbs z.natAbs w' (hx.below hw) (hy.below hw) hn9 hm9
  have hs := fun (C : Option Addr) (c : Nat) w' (hc : Dg w' C c (y.natAbs * z.natAbs)) => signed_any (decide (y < 0) != decide (z < 0)) C c (y.natAbs * z.natAbs) (y * z) w' hc hsg
  have Hm := Lib.hid hm
  have Hs := Lib.hid hs
  have Hbel := Lib.hid hbel
  have HW := Lib.hid hW
  clear hm hs hbel hx hy h k hsg hW
  unfold intV
  unfold intV at Hs
  generalize decide (y < 0) = b at *
  generalize decide (z < 0) = b' at *
  go_enter Tryz.func32, Tryz.ntmps32
  go_wp2_with fail
  rw [← HW.out]
  clear HW
  obtain ⟨c0, c1, f0, f1⟩ := hb0.two
  obtain ⟨d0, d1, e0, e1⟩ := hb1.two
  have hne1 : w.heap.size ≠ w.heap.size + 1 + 1 := by omega
  have hne2 : w.heap.size + 1 + 1 ≠ w.heap.size := by omega
  go_region_held3 (fun w' => w'.cell? ⟨w.heap.size, 0, none⟩ = some (.bool b) ∧ w'.cell? ⟨w.heap.size, 1, none⟩ = some (.slice A n n) ∧ w'.cell? ⟨w.heap.size + 1, 0, none⟩ = some (.bool b') ∧ w'.cell? ⟨w.heap.size + 1, 1, none⟩ = some (.slice B m m))
    (first | exact ⟨c0, c1, d0, d1⟩ | exact ⟨c0'', c1'', d0'', d1''⟩ | exact ⟨c0', c1', d0', d1'⟩ | go_keep)
    (first
    | (go_at_call 61; refine (Hm.out _ ?_).mono ?_; (first | exact below_drewN (Below.refl _ _) _ | exact (Below.refl _ _)); rintro e w2 ⟨C, c, rfl, hd2, hb2, ho2⟩; have hr2 := Blk.keep (by exact hres) hb2; have hi2 := Blk.keep (by exact hb0) hb2; have hj2 := Blk.keep (by exact hb1) hb2; obtain ⟨c0', c1', f0', f1'⟩ := hi2.two; obtain ⟨d0', d1', e0', e1'⟩ := hj2.two)
    | (go_at_call 41; refine (Hs.out C c _ hd2).mono ?_; rintro e w3 ⟨rfl, hd3, hb3⟩; have hr3 := hr2.keep hb3; obtain ⟨r0, r1, s0, s1⟩ := hr3.two; have hi3 := hi2.keep hb3; have hj3 := hj2.keep hb3; obtain ⟨c0'', c1'', f0'', f1''⟩ := hi3.two; obtain ⟨d0'', d1'', e0'', e1''⟩ := hj3.two))
  go_wp2_with fail
  exact ret_int_stored rfl rfl rfl hr3 hd3 ((Hbel.out.drew.and hb2).and hb3) (by omega) rfl (fun w' h1 h2 => ⟨C, c, rfl, h1, h2⟩)
end Go.Proofs.YtemcdnppgnobmaaGreatDoor

namespace Go.Proofs.YtemcdnppgnobmaaGreatDoor
open Go.RowKit

theorem mul_cross (a b : Rat) : (a * b).num = (Rat.normalize a.num b.den b.den_nz).num * (Rat.normalize b.num a.den a.den_nz).num ∧
    (a * b).den = (Rat.normalize b.num a.den a.den_nz).den * (Rat.normalize a.num b.den b.den_nz).den := by
  show (Rat.mul a b).num = _ ∧ (Rat.mul a b).den = _
  rw [Rat.mul]
  simp only [Rat.num_normalize, Rat.den_normalize, Int.divExact_eq_ediv, Nat.divExact_eq_div]
  exact ⟨trivial, trivial⟩

theorem size_drew (w : World) : w.drew.heap.size = w.heap.size := rfl

/-- The world in times: both fractions in their blocks, the result's block, the digits. -/
structure T2 (w : World) (r s : Rat) (A B C D : Option Addr) (n m c d : Nat) (X : World) : Prop where
  b0 : Blk X w.heap.size 68 (ratC r A n B m)
  b1 : Blk X (w.heap.size + 1) 68 (ratC s C c D d)
  b2 : Blk X (w.heap.size + 1 + 1) 68 ratZ
  r0 : Rg X A n B m r
  r1 : Rg X C c D d s
  bel : Below w.heap.size w X

theorem T2.keep {w X Y : World} {r s : Rat} {A B C D : Option Addr} {n m c d : Nat} (h : T2 w r s A B C D n m c d X) (hb : Below X.heap.size X Y) : T2 w r s A B C D n m c d Y :=
  ⟨h.b0.keep hb, h.b1.keep hb, h.b2.keep hb, h.r0.below hb, h.r1.below hb, h.bel.and hb⟩
theorem T2.drew {w X : World} {r s : Rat} {A B C D : Option Addr} {n m c d : Nat} (h : T2 w r s A B C D n m c d X) : T2 w r s A B C D n m c d X.drew :=
  h.keep (Below.refl _ _).drew
theorem T2.new {w X : World} {r s : Rat} {A B C D : Option Addr} {n m c d : Nat} (h : T2 w r s A B C D n m c d X) (o : Obj) : T2 w r s A B C D n m c d (X.alloc o) :=
  h.keep (below_new _ _)
theorem T2.cells {w X : World} {r s : Rat} {A B C D : Option Addr} {n m c d : Nat} (h : T2 w r s A B C D n m c d X) :
    X.cell? ⟨w.heap.size, 0, none⟩ = some (.bool (decide (r.num < 0))) ∧ X.cell? ⟨w.heap.size, 1, none⟩ = some (.slice A n n) ∧ X.cell? ⟨w.heap.size, 2, none⟩ = some (.slice B m m) ∧
    X.cell? ⟨w.heap.size + 1, 0, none⟩ = some (.bool (decide (s.num < 0))) ∧ X.cell? ⟨w.heap.size + 1, 1, none⟩ = some (.slice C c c) ∧ X.cell? ⟨w.heap.size + 1, 2, none⟩ = some (.slice D d d) :=
  ⟨h.b0.cell 0, h.b0.cell 1, h.b0.cell 2, h.b1.cell 0, h.b1.cell 1, h.b1.cell 2⟩

/-- A fraction in a block of its own, with its digits. -/
def Rb (w : World) (r : Rat) (v : Value) (X : World) : Prop :=
  ∃ g A n B m, v = .pointer (some ⟨g, 0, none⟩) ∧ w.heap.size + 1 + 1 < g ∧ Blk X g 68 (ratC r A n B m) ∧ Rg X A n B m r

theorem T2.lt {w X : World} {r s : Rat} {A B C D : Option Addr} {n m c d : Nat} (h : T2 w r s A B C D n m c d X) : w.heap.size + 1 + 1 < X.heap.size := h.b2.lt

/-- A fraction is stored into a block of its own. -/
theorem T2.store {w X : World} {r s x : Rat} {A B C D A1 B1 : Option Addr} {n m c d n1 m1 g : Nat} (h : T2 w r s A B C D n m c d X) (hg : w.heap.size + 1 + 1 < g)
    (hb : Blk X g 68 ratZ) (hx : Rg X A1 n1 B1 m1 x) :
    T2 w r s A B C D n m c d (((X.setCell ⟨g, 0, none⟩ (.bool (decide (x.num < 0)))).setCell ⟨g, 1, none⟩ (.slice A1 n1 n1)).setCell ⟨g, 2, none⟩ (.slice B1 m1 m1)) ∧
    Rb w x (.pointer (some ⟨g, 0, none⟩)) (((X.setCell ⟨g, 0, none⟩ (.bool (decide (x.num < 0)))).setCell ⟨g, 1, none⟩ (.slice A1 n1 n1)).setCell ⟨g, 2, none⟩ (.slice B1 m1 m1)) := by
  have ho := (((Only.refl g X).setCell 0 (.bool (decide (x.num < 0)))).setCell 1 (.slice A1 n1 n1)).setCell 2 (.slice B1 m1 m1)
  refine ⟨⟨ho.blk (by omega) h.b0, ho.blk (by omega) h.b1, ho.blk (by omega) h.b2, ⟨h.r0.num.only ho hb ratZ_free, h.r0.den.only ho hb ratZ_free⟩, ⟨h.r1.num.only ho hb ratZ_free, h.r1.den.only ho hb ratZ_free⟩, h.bel.trans (ho.below (by omega))⟩,
    g, A1, n1, B1, m1, rfl, hg, Blk.set3 hb _ _ _, ⟨hx.num.only ho hb ratZ_free, hx.den.only ho hb ratZ_free⟩⟩

theorem T2.stored {w X : World} {r s x : Rat} {A B C D A1 B1 : Option Addr} {n m c d n1 m1 : Nat} (h : T2 w r s A B C D n m c d X) (hx : Rg X A1 n1 B1 m1 x) :
    T2 w r s A B C D n m c d (X.alloc (.cells (ratC x A1 n1 B1 m1) 68)) ∧ Rb w x (.pointer (some ⟨X.heap.size, 0, none⟩)) (X.alloc (.cells (ratC x A1 n1 B1 m1) 68)) :=
  ⟨h.new _, X.heap.size, A1, n1, B1, m1, rfl, h.lt, Blk.new _ _ _, hx.below (below_new _ _)⟩

/-- As T2, and one more fraction in a block of its own. -/
structure T3 (w : World) (r s x : Rat) (A B C D E F : Option Addr) (n m c d e f g : Nat) (X : World) : Prop where
  t : T2 w r s A B C D n m c d X
  hg : w.heap.size + 1 + 1 < g
  b : Blk X g 68 (ratC x E e F f)
  r : Rg X E e F f x

theorem T3.keep {w X Y : World} {r s x : Rat} {A B C D E F : Option Addr} {n m c d e f g : Nat} (h : T3 w r s x A B C D E F n m c d e f g X) (hb : Below X.heap.size X Y) : T3 w r s x A B C D E F n m c d e f g Y :=
  ⟨h.t.keep hb, h.hg, h.b.keep hb, h.r.below hb⟩
theorem T3.drew {w X : World} {r s x : Rat} {A B C D E F : Option Addr} {n m c d e f g : Nat} (h : T3 w r s x A B C D E F n m c d e f g X) : T3 w r s x A B C D E F n m c d e f g X.drew :=
  h.keep (Below.refl _ _).drew
theorem T3.new {w X : World} {r s x : Rat} {A B C D E F : Option Addr} {n m c d e f g : Nat} (h : T3 w r s x A B C D E F n m c d e f g X) (o : Obj) : T3 w r s x A B C D E F n m c d e f g (X.alloc o) :=
  h.keep (below_new _ _)
theorem T3.store {w X : World} {r s x y : Rat} {A B C D E F A1 B1 : Option Addr} {n m c d e f g n1 m1 g' : Nat} (h : T3 w r s x A B C D E F n m c d e f g X) (hg : g < g')
    (hb : Blk X g' 68 ratZ) (hx : Rg X A1 n1 B1 m1 y) :
    T3 w r s x A B C D E F n m c d e f g (((X.setCell ⟨g', 0, none⟩ (.bool (decide (y.num < 0)))).setCell ⟨g', 1, none⟩ (.slice A1 n1 n1)).setCell ⟨g', 2, none⟩ (.slice B1 m1 m1)) ∧
    Rb w y (.pointer (some ⟨g', 0, none⟩)) (((X.setCell ⟨g', 0, none⟩ (.bool (decide (y.num < 0)))).setCell ⟨g', 1, none⟩ (.slice A1 n1 n1)).setCell ⟨g', 2, none⟩ (.slice B1 m1 m1)) := by
  have hgg := h.hg
  have ho := (((Only.refl g' X).setCell 0 (.bool (decide (y.num < 0)))).setCell 1 (.slice A1 n1 n1)).setCell 2 (.slice B1 m1 m1)
  obtain ⟨h1, h2⟩ := h.t.store (by omega) hb hx
  exact ⟨⟨h1, h.hg, ho.blk (by omega) h.b, ⟨h.r.num.only ho hb ratZ_free, h.r.den.only ho hb ratZ_free⟩⟩, h2⟩
theorem T3.stored {w X : World} {r s x y : Rat} {A B C D E F A1 B1 : Option Addr} {n m c d e f g n1 m1 : Nat} (h : T3 w r s x A B C D E F n m c d e f g X) (hx : Rg X A1 n1 B1 m1 y) :
    T3 w r s x A B C D E F n m c d e f g (X.alloc (.cells (ratC y A1 n1 B1 m1) 68)) ∧ Rb w y (.pointer (some ⟨X.heap.size, 0, none⟩)) (X.alloc (.cells (ratC y A1 n1 B1 m1) 68)) :=
  ⟨h.new _, (h.t.stored hx).2⟩
theorem T3.lt {w X : World} {r s x : Rat} {A B C D E F : Option Addr} {n m c d e f g : Nat} (h : T3 w r s x A B C D E F n m c d e f g X) : g < X.heap.size := h.b.lt

/-- As T2, and two more fractions, each in a block of its own. -/
structure T4 (w : World) (r s x y : Rat) (A B C D E F G H : Option Addr) (n m c d e f g e' f' g' : Nat) (X : World) : Prop where
  t : T3 w r s x A B C D E F n m c d e f g X
  hg : w.heap.size + 1 + 1 < g'
  b : Blk X g' 68 (ratC y G e' H f')
  r : Rg X G e' H f' y
theorem T4.keep {w X Y : World} {r s x y : Rat} {A B C D E F G H : Option Addr} {n m c d e f g e' f' g' : Nat} (h : T4 w r s x y A B C D E F G H n m c d e f g e' f' g' X) (hb : Below X.heap.size X Y) : T4 w r s x y A B C D E F G H n m c d e f g e' f' g' Y :=
  ⟨h.t.keep hb, h.hg, h.b.keep hb, h.r.below hb⟩
theorem T4.drew {w X : World} {r s x y : Rat} {A B C D E F G H : Option Addr} {n m c d e f g e' f' g' : Nat} (h : T4 w r s x y A B C D E F G H n m c d e f g e' f' g' X) : T4 w r s x y A B C D E F G H n m c d e f g e' f' g' X.drew :=
  h.keep (Below.refl _ _).drew
theorem T4.cells {w X : World} {r s x y : Rat} {A B C D E F G H : Option Addr} {n m c d e f g e' f' g' : Nat} (h : T4 w r s x y A B C D E F G H n m c d e f g e' f' g' X) :
    X.cell? ⟨g, 0, none⟩ = some (.bool (decide (x.num < 0))) ∧ X.cell? ⟨g, 1, none⟩ = some (.slice E e e) ∧ X.cell? ⟨g, 2, none⟩ = some (.slice F f f) ∧
    X.cell? ⟨g', 0, none⟩ = some (.bool (decide (y.num < 0))) ∧ X.cell? ⟨g', 1, none⟩ = some (.slice G e' e') ∧ X.cell? ⟨g', 2, none⟩ = some (.slice H f' f') :=
  ⟨h.t.b.cell 0, h.t.b.cell 1, h.t.b.cell 2, h.b.cell 0, h.b.cell 1, h.b.cell 2⟩

theorem len_lower {w w' : World} {B L : Option Addr} {m l : Nat} {r : Rat} (h : Dg w B m (denN r.den)) (k : Dg w' L l r.den) : l ≤ m + 1 := by
  have h1 := h.len
  have h2 := k.len
  unfold denN at h1
  by_cases e : r.den = 1
  · rw [e] at h2; rw [← h2]; exact Nat.le_trans (show limbs 1 ≤ 1 from Nat.le_refl _) (by omega)
  · rw [if_neg e] at h1; omega

theorem T4.cellsOnly {w X Y : World} {r s x y : Rat} {A B C D E F G H : Option Addr} {n m c d e f g e' f' g' : Nat} (h : T4 w r s x y A B C D E F G H n m c d e f g e' f' g' X) (ho : Only (w.heap.size + 1 + 1) X Y) :
    Y.cell? ⟨g, 0, none⟩ = some (.bool (decide (x.num < 0))) ∧ Y.cell? ⟨g, 1, none⟩ = some (.slice E e e) ∧ Y.cell? ⟨g, 2, none⟩ = some (.slice F f f) ∧
    Y.cell? ⟨g', 0, none⟩ = some (.bool (decide (y.num < 0))) ∧ Y.cell? ⟨g', 1, none⟩ = some (.slice G e' e') ∧ Y.cell? ⟨g', 2, none⟩ = some (.slice H f' f') := by
  have h1 := h.t.hg
  have h2 := h.hg
  obtain ⟨c0, c1, c2, d0, d1, d2⟩ := h.cells
  exact ⟨(ho.cell (by simp; omega)).trans c0, (ho.cell (by simp; omega)).trans c1, (ho.cell (by simp; omega)).trans c2, (ho.cell (by simp; omega)).trans d0, (ho.cell (by simp; omega)).trans d1, (ho.cell (by simp; omega)).trans d2⟩

theorem normalize_less (z : Int) (d : Nat) (hd : d ≠ 0) : (Rat.normalize z d hd).num.natAbs ≤ z.natAbs ∧ (Rat.normalize z d hd).den ≤ d := by
  rw [Rat.num_normalize, Rat.den_normalize]
  refine ⟨?_, Nat.div_le_self _ _⟩
  have hdv : ((Nat.gcd z.natAbs d : Nat) : Int) ∣ z := Int.ofNat_dvd_left.2 (Nat.gcd_dvd_left z.natAbs d)
  rw [Int.natAbs_ediv_of_dvd hdv]
  exact Nat.div_le_self _ _

set_option maxRecDepth 100000 in
set_option maxHeartbeats 1600000 in
theorem ratTimes_any (A B C D : Option Addr) (n m c d : Nat) (r s : Rat) (w : World) (h : Rg w A n B m r) (k : Rg w C c D d s) (hn : n ≤ 1000000000) (hm : m ≤ 1000000000) (hc : c ≤ 1000000000) (hd : d ≤ 1000000000) :
    Calls Tryz.prog 118 #[ratV r A n B m, ratV s C c D d] w (RetRat (r * s) w) := by
  obtain ⟨W, hW, hb0, hb1, hres, hbel⟩ := three_new w 68 68 68 #[.bool (decide (r.num < 0)), .slice A n n, .slice B m m] #[.bool (decide (s.num < 0)), .slice C c c, .slice D d d] #[.bool false, .slice none 0 0, .slice none 0 0]
  have hT : T2 w r s A B C D n m c d W := ⟨hb0, hb1, hres, h.below hbel, k.below hbel, hbel⟩
  have hl1 : ∀ X, T2 w r s A B C D n m c d X → Calls Tryz.prog 96 #[ratV s C c D d] X (RetVal s.den X) := fun X hX => lower_any C D c d s X hX.r1
  obtain ⟨x, hxe⟩ : ∃ x, x = Rat.normalize r.num s.den s.den_nz := ⟨_, rfl⟩
  obtain ⟨y, hye⟩ : ∃ y, y = Rat.normalize s.num r.den r.den_nz := ⟨_, rfl⟩
  have Hxe := Lib.hid hxe
  have Hye := Lib.hid hye
  have hr1 : ∀ X L l, T2 w r s A B C D n m c d X → Dg X L l s.den → Calls Tryz.prog 99 #[intV r.num A n, .slice L l l] X (RetRat x X) := fun X L l hX hL =>
    reduced_any A L n l s.den r.num _ X hX.r0.num hL s.den_pos (by omega) (by have := len_lower hX.r1.den hL; omega) (by rw [hxe]; exact Rat.num_normalize _) (by rw [hxe]; exact Rat.den_normalize _)
  have hl2 : ∀ X, T2 w r s A B C D n m c d X → Calls Tryz.prog 96 #[ratV r A n B m] X (RetVal r.den X) := fun X hX => lower_any A B n m r X hX.r0
  have hr2 : ∀ X L l, T2 w r s A B C D n m c d X → Dg X L l r.den → Calls Tryz.prog 99 #[intV s.num C c, .slice L l l] X (RetRat y X) := fun X L l hX hL =>
    reduced_any C L c l r.den s.num _ X hX.r1.num hL r.den_pos (by omega) (by have := len_lower hX.r0.den hL; omega) (by rw [hye]; exact Rat.num_normalize _) (by rw [hye]; exact Rat.den_normalize _)
  have Hl2 := Lib.hid hl2
  have Hr2 := Lib.hid hr2
  have HW := Lib.hid hW
  have Hl1 := Lib.hid hl1
  have Hr1 := Lib.hid hr1
  clear hbel hb0 hb1 hres h k hW hl1 hr1 hxe hye hl2 hr2
  obtain ⟨c0, c1, c2, d0, d1, d2⟩ := hT.cells
  unfold ratV intV at *
  go_enter Tryz.func118, Tryz.ntmps118
  go_upto_region 1 with fail
  rw [← HW.out]
  clear HW
  go_cut [5] (fun s5 wx => T2 w r s A B C D n m c d wx ∧ Rb w x s5 wx)
  case first =>
    go_region_held3 (fun w' => w'.cell? ⟨w.heap.size, 0, none⟩ = some (.bool (decide (r.num < 0))) ∧ w'.cell? ⟨w.heap.size, 1, none⟩ = some (.slice A n n) ∧ w'.cell? ⟨w.heap.size, 2, none⟩ = some (.slice B m m) ∧
        w'.cell? ⟨w.heap.size + 1, 0, none⟩ = some (.bool (decide (s.num < 0))) ∧ w'.cell? ⟨w.heap.size + 1, 1, none⟩ = some (.slice C c c) ∧ w'.cell? ⟨w.heap.size + 1, 2, none⟩ = some (.slice D d d))
      (first | exact T2.cells hT | exact T2.cells (T2.drew hT) | exact T2.cells (T2.drew (T2.new hT _)) | exact T2.cells hT3 | exact T2.cells (T2.new hT3 _) | exact T2.cells hT2 | exact T2.cells (T2.new hT2 _) | exact T2.cells (T2.store hT3 hg3 hz3 hx).1 | exact T2.cells (T2.stored hT3 hx).1)
      (first
      | (go_at_call 96; refine (Hl1.out _ ?_).mono ?_; (first | exact T2.drew hT | exact T2.drew (T2.new hT _)); rintro e w2 ⟨L, l, rfl, hl, hb2⟩; (first | (have hT2 := T2.keep (T2.drew hT) hb2) | (have hT2 := T2.keep (T2.drew (T2.new hT _)) hb2)))
      | (go_at_call 99; refine (Hr1.out _ L l ?_ ?_).mono ?_; (first | exact hT2 | exact T2.new hT2 _); (first | exact hl | exact Dg.below hl (below_new _ _)); rintro e w3 ⟨A1, n1, B1, m1, rfl, hx, hb3⟩; unfold ratV; (first | (have hT3 := T2.keep hT2 hb3) | (have hT3 := T2.keep (T2.new hT2 _) hb3)); (first | (have hz3 := Blk.keep (Blk.keep (w := (W.alloc (.cells ratZ 68)).drew) (Blk.new W 68 ratZ) hb2) hb3; have hg3 := hT.lt) | (have hz3 := Blk.keep (Blk.new _ 68 ratZ) hb3; have hg3 := hT2.lt) | skip); try (obtain ⟨z0, z1, z2, y0, y1, y2⟩ := hz3.three)))
    all_goals (go_wp2_with fail; go_meet; first | exact T2.store hT3 hg3 hz3 hx | exact T2.stored hT3 hx)
  case rest =>
    obtain ⟨hT0, g1, E, e, F, f, rfl, hg1, hbx, hrx⟩ := hcut
    have hT1 : T3 w r s x A B C D E F n m c d e f g1 wc := ⟨hT0, hg1, hbx, hrx⟩
    clear hT hT0 hbx hrx hg1 c0 c1 c2 d0 d1 d2 Hl1 Hr1
    obtain ⟨c0, c1, c2, d0, d1, d2⟩ := hT1.t.cells
    go_upto_region 2 with fail
    go_cut [6] (fun s6 wx => T3 w r s x A B C D E F n m c d e f g1 wx ∧ Rb w y s6 wx)
    case first =>
      go_region_held3 (fun w' => w'.cell? ⟨w.heap.size, 0, none⟩ = some (.bool (decide (r.num < 0))) ∧ w'.cell? ⟨w.heap.size, 1, none⟩ = some (.slice A n n) ∧ w'.cell? ⟨w.heap.size, 2, none⟩ = some (.slice B m m) ∧
          w'.cell? ⟨w.heap.size + 1, 0, none⟩ = some (.bool (decide (s.num < 0))) ∧ w'.cell? ⟨w.heap.size + 1, 1, none⟩ = some (.slice C c c) ∧ w'.cell? ⟨w.heap.size + 1, 2, none⟩ = some (.slice D d d))
        (first | exact T2.cells hT1.t | exact T2.cells (T3.drew hT1).t | exact T2.cells (T3.drew (T3.new hT1 _)).t | exact T2.cells hT3.t | exact T2.cells (T3.new hT3 _).t | exact T2.cells hT2.t | exact T2.cells (T3.new hT2 _).t | exact T2.cells (T3.store hT3 hg3 hz3 hx).1.t | exact T2.cells (T3.stored hT3 hx).1.t)
        (first
        | (go_at_call 96; refine (Hl2.out _ ?_).mono ?_; (first | exact (T3.drew hT1).t | exact (T3.drew (T3.new hT1 _)).t); rintro e w2 ⟨L, l, rfl, hl, hb2⟩; (first | (have hT2 := T3.keep (T3.drew hT1) hb2) | (have hT2 := T3.keep (T3.drew (T3.new hT1 _)) hb2)))
        | (go_at_call 99; refine (Hr2.out _ L l ?_ ?_).mono ?_; (first | exact hT2.t | exact (T3.new hT2 _).t); (first | exact hl | exact Dg.below hl (below_new _ _)); rintro e w3 ⟨A1, n1, B1, m1, rfl, hx, hb3⟩; unfold ratV; (first | (have hT3 := T3.keep hT2 hb3) | (have hT3 := T3.keep (T3.new hT2 _) hb3)); (first | (have hz3 := Blk.keep (Blk.keep (w := (wc.alloc (.cells ratZ 68)).drew) (Blk.new wc 68 ratZ) hb2) hb3; have hg3 := hT1.lt) | (have hz3 := Blk.keep (Blk.new _ 68 ratZ) hb3; have hg3 := hT2.lt) | skip); try (obtain ⟨z0, z1, z2, y0, y1, y2⟩ := hz3.three)))
      all_goals (go_wp2_with fail; go_meet; first | exact T3.store hT3 hg3 hz3 hx | exact T3.stored hT3 hx)
    case rest =>
      obtain ⟨hT0, g2, G, e', H, f', rfl, hg2, hby, hry⟩ := hcut
      have hT4 : T4 w r s x y A B C D E F G H n m c d e f g1 e' f' g2 wc := ⟨hT0, hg2, hby, hry⟩
      clear hT1 hT0 hby hry hg2 c0 c1 c2 d0 d1 d2 Hl2 Hr2
      have hE : e ≤ n := by
        have h1 := hT4.t.r.num.len
        have h2 := hT4.t.t.r0.num.len
        rw [← h1, ← h2, Hxe.out]
        exact limbs_mono (normalize_less _ _ _).1
      have hG : e' ≤ c := by
        have h1 := hT4.r.num.len
        have h2 := hT4.t.t.r1.num.len
        rw [← h1, ← h2, Hye.out]
        exact limbs_mono (normalize_less _ _ _).1
      have hDx : ∀ X L l, Dg X L l x.den → l ≤ d + 1 := by
        intro X L l hL
        have h1 := hL.len
        have h2 := hT4.t.t.r1.den
        have h3 : limbs x.den ≤ limbs s.den := by rw [Hxe.out]; exact limbs_mono (normalize_less _ _ _).2
        rw [← h1]
        refine Nat.le_trans h3 ?_
        have h4 := h2.len
        unfold denN at h4
        by_cases e1 : s.den = 1
        · rw [e1]; exact Nat.le_trans (show limbs 1 ≤ 1 from Nat.le_refl _) (by omega)
        · rw [if_neg e1] at h4; omega
      have hDy : ∀ X L l, Dg X L l y.den → l ≤ m + 1 := by
        intro X L l hL
        have h1 := hL.len
        have h2 := hT4.t.t.r0.den
        have h3 : limbs y.den ≤ limbs r.den := by rw [Hye.out]; exact limbs_mono (normalize_less _ _ _).2
        rw [← h1]
        refine Nat.le_trans h3 ?_
        have h4 := h2.len
        unfold denN at h4
        by_cases e1 : r.den = 1
        · rw [e1]; exact Nat.le_trans (show limbs 1 ≤ 1 from Nat.le_refl _) (by omega)
        · rw [if_neg e1] at h4; omega
      obtain ⟨hmn, hmd⟩ := mul_cross r s
      rw [← Hxe.out, ← Hye.out] at hmn hmd
      rw [Nat.mul_comm] at hmd
      have ht : ∀ X, T4 w r s x y A B C D E F G H n m c d e f g1 e' f' g2 X → Calls Tryz.prog 32 #[intV x.num E e, intV y.num G e'] X (RetInt (x.num * y.num) X) :=
        fun X hX => times_any E G e e' x.num y.num X hX.t.r.num hX.r.num (by omega) (by omega)
      have hlx : ∀ X, T4 w r s x y A B C D E F G H n m c d e f g1 e' f' g2 X → Calls Tryz.prog 96 #[ratV x E e F f] X (RetVal x.den X) :=
        fun X hX => lower_any E F e f x X hX.t.r
      have hly : ∀ X, T4 w r s x y A B C D E F G H n m c d e f g1 e' f' g2 X → Calls Tryz.prog 96 #[ratV y G e' H f'] X (RetVal y.den X) :=
        fun X hX => lower_any G H e' f' y X hX.r
      have hmu : ∀ X L l L' l', Dg X L l x.den → Dg X L' l' y.den → Calls Tryz.prog 61 #[.slice L l l, .slice L' l' l'] X (RetDg (x.den * y.den) X) :=
        fun X L l L' l' h1 h2 => multiply_any L L' l l' l l' _ _ X h1 h2 (by have := hDx _ _ _ h1; omega) (by have := hDy _ _ _ h2; omega)
      have hlw : ∀ X L l L' l', Dg X L l (x.num * y.num).natAbs → Dg X L' l' (x.den * y.den) → Calls Tryz.prog 95 #[intV (x.num * y.num) L l, .slice L' l' l'] X (RetRat (r * s) X) :=
        fun X L l L' l' h1 h2 => lowest_any L L' l l' _ _ (r * s) X h1 h2 hmn hmd
      have Ht := Lib.hid ht
      have Hlx := Lib.hid hlx
      have Hly := Lib.hid hly
      have Hmu := Lib.hid hmu
      have Hlw := Lib.hid hlw
      clear ht hlx hly hmu hlw hmn hmd hDx hDy hE hG
      obtain ⟨c0, c1, c2, d0, d1, d2⟩ := hT4.cells
      unfold ratV at Hlx Hly
      unfold intV at Ht Hlw
      generalize x.num * y.num = zz at *
      go_upto_region 3 with fail
      go_region_held3 (fun w' => w'.cell? ⟨g1, 0, none⟩ = some (.bool (decide (x.num < 0))) ∧ w'.cell? ⟨g1, 1, none⟩ = some (.slice E e e) ∧ w'.cell? ⟨g1, 2, none⟩ = some (.slice F f f) ∧
          w'.cell? ⟨g2, 0, none⟩ = some (.bool (decide (y.num < 0))) ∧ w'.cell? ⟨g2, 1, none⟩ = some (.slice G e' e') ∧ w'.cell? ⟨g2, 2, none⟩ = some (.slice H f' f'))
        (first | exact T4.cells hT4 | exact T4.cells (T4.drew hT4) | exact T4.cells hS2 | exact T4.cells hS3 | exact T4.cells hS4 | exact T4.cells hS5 | exact T4.cells hS6 | exact T4.cellsOnly hS6 ((((Only.refl _ w6).setCell 0 _).setCell 1 _).setCell 2 _))
        (first
        | (go_at_call 32; refine (Ht.out _ ?_).mono ?_; exact T4.drew hT4; rintro e w2 ⟨L1, l1, rfl, hp, hb2⟩; have hS2 := T4.keep (T4.drew hT4) hb2; unfold intV)
        | (go_at_call_of 96 (Value.agg #[.bool (decide (x.num < 0)), .slice E e e, .slice F f f]); refine (Hlx.out _ ?_).mono ?_; exact hS2; rintro e w3 ⟨L2, l2, rfl, hp2, hb3⟩; have hS3 := T4.keep hS2 hb3)
        | (go_at_call_of 96 (Value.agg #[.bool (decide (y.num < 0)), .slice G e' e', .slice H f' f']); refine (Hly.out _ ?_).mono ?_; exact hS3; rintro e w4 ⟨L3, l3, rfl, hp3, hb4⟩; have hS4 := T4.keep hS3 hb4; have hp2' := hp2.below hb4)
        | (go_at_call 61; refine (Hmu.out _ L2 l2 L3 l3 ?_ ?_).mono ?_; exact hp2'; exact hp3; rintro e w5 ⟨L4, l4, rfl, hp4, hb5, ho5⟩; have hS5 := T4.keep hS4 hb5; have hp' := hp.below ((hb3.and hb4).and hb5))
        | (go_at_call 95; refine (Hlw.out _ L1 l1 L4 l4 ?_ ?_).mono ?_; exact hp'; exact hp4; rintro e w6 ⟨L5, l5, L6, l6, rfl, hrr, hb6⟩; have hS6 := T4.keep hS5 hb6; unfold ratV; obtain ⟨z0, z1, z2, y0, y1, y2⟩ := (hS6.t.t.b2).three))
      go_wp2_with fail
      refine ret_rat_stored (r := r * s) (A := L5) (n := l5) (B := L6) (m := l6) rfl rfl rfl hS6.t.t.b2 hrr hS6.t.t.bel (by omega) rfl ?_
      exact fun w' h1 h2 => ⟨L5, l5, L6, l6, rfl, h1, h2⟩
end Go.Proofs.YtemcdnppgnobmaaGreatDoor
