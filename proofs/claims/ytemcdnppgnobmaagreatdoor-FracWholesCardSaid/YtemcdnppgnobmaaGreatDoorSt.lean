/-
  The walks of frac's residues, of small products.
  What is known of a world: cells, rows of one's own, and that nothing below a line has turned.
-/
import Derived.Test.YtemcdnppgnobmaaGreatDoorStr
import Derived.Test.YtemcdnppgnobmaaGreatDoorMake1
set_option linter.unusedVariables false
namespace Go.Proofs.YtemcdnppgnobmaaGreatDoor
open Go.RowKit

set_option maxRecDepth 100000 in
theorem div64_low (a p : Nat) (w : World) (ha : a < two64) (hp : 0 < p) (hp2 : p < two64) :
    Calls Tryz.prog 140 #[.int .u64 0, .int .u64 a, .int .u64 p] w (fun e w' => e = .returned (.tuple #[.int .u64 (a / p : Nat), .int .u64 (a % p : Nat)]) ∧ Below w.heap.size w w') := by
  have h1 : ((p : Int) == 0) = false := by rw [beq_eq_false_iff_ne]; omega
  have h2 : ¬ ((p : Int) ≤ 0) := by omega
  have h3 : ¬ ((p : Int) = 0) := by omega
  unfold two64 at ha hp2
  have hq : a / p ≤ a := Nat.div_le_self _ _
  have hr : a % p < p := Nat.mod_lt _ hp
  have e1 : ((a : Int) / (p : Int)) = ((a / p : Nat) : Int) := by simp
  have e2 : ((a : Int) % (p : Int)) = ((a % p : Nat) : Int) := by simp
  have e3 : Int.tdiv (a : Int) (p : Int) = ((a / p : Nat) : Int) := by rw [Int.tdiv_eq_ediv_of_nonneg (by omega), e1]
  have e4 : Int.tmod (a : Int) (p : Int) = ((a % p : Nat) : Int) := by rw [Int.tmod_eq_emod_of_nonneg (by omega), e2]
  generalize a / p = q at *
  generalize a % p = r at *
  clear e1 e2
  go_enter Tryz.func140, Tryz.ntmps140
  go_upto_region 6 with fail
  go_quiet (fail)
  go_wp2_with fail
  go_ret2
  exact ⟨rfl, below_drewN (Below.refl _ _) _⟩

set_option maxRecDepth 100000 in
/-- A product's residue. -/
theorem timesPlus_low (a b p : Nat) (w : World) (h : a * b < two64) (ha : a < two64) (hb : b < two64) (hp : 0 < p) (hp2 : p < two64) :
    Calls Tryz.prog 133 #[.int .u64 a, .int .u64 b, .int .u64 0, .int .u64 p] w (fun e w' => e = .returned (.int .u64 (a * b % p : Nat)) ∧ Below w.heap.size w w') := by
  have hm := fun W => Tryz.bits_Mul64 a b ha hb W
  have hq : a * b / 18446744073709551616 = 0 := by unfold two64 at h; omega
  have hr : a * b % 18446744073709551616 = a * b := by unfold two64 at h; omega
  rw [hq, hr] at hm
  have hadd := run_add64_call (a * b) 0
  rw [Nat.add_zero, show a * b % two64 = a * b from hr, show a * b / two64 = 0 from hq] at hadd
  have hd := fun W => div64_low (a * b) p W h hp hp2
  have Hm := Lib.hid hm
  have Hd := Lib.hid hd
  clear hm hd hq hr
  generalize a * b = c at *
  clear h
  go_enter Tryz.func133, Tryz.ntmps133
  go_wp2_with fail
  refine (Hm.out _).mono ?_
  rintro e w1 ⟨rfl, rfl⟩
  have hadd1 : (callFunc 116 #[.int .u64 (c : Nat), .int .u64 0, .int .u64 0]).run Tryz.prog w1 = .ok (.value (.tuple #[.int .u64 (c : Nat), .int .u64 0])) w1 := hadd w1
  clear hadd
  go_wp2_with fail
  refine (Hd.out _).mono ?_
  rintro e w2 ⟨rfl, hb2⟩
  go_wp2_with fail
  go_ret
  exact ⟨rfl, hb2⟩

/-- A residue's value. -/
def resV (v p : Nat) : Value := .agg #[.int .u64 v, .int .u64 p]

/-- A function whose only result is a residue in a cell returns it. -/
theorem ret_resCell {fn : Func} {R : Ending → World → Prop} {a : Act} {w : World} {s g v p : Nat}
    (hf : fn.results = #[.cell s 153]) (h4 : a.tmps[s]? = some (.pointer (some ⟨g, 0, none⟩))) (hb : Blk w g 153 #[.int .u64 v, .int .u64 p])
    (hd : a.defers = []) (hR : R (.returned (resV v p)) w) : bodyPost Tryz.prog fn R .ret a w := by
  have c0 := hb.cell 0
  have c1 := hb.cell 1
  exact bodyPost_ret (v := resV v p) (by simp [results, hf, go_sem, c0, c1, h4, resV]) hd hR

/-- A residue is stored into the cell of the result, which is then returned. -/
theorem ret_res_stored {fn : Func} {R : Ending → World → Prop} {a : Act} {w1 : World} {s g v p : Nat} {x y : Value} {i j : Int}
    (hf : fn.results = #[.cell s 153]) (h4 : a.tmps[s]? = some (.pointer (some ⟨g, 0, none⟩))) (hd : a.defers = [])
    (hb : Blk w1 g 153 #[x, y]) (hi : i = (v : Nat)) (hj : j = (p : Nat))
    (hR : ∀ w', Only g w1 w' → R (.returned (resV v p)) w') :
    bodyPost Tryz.prog fn R .ret a ((w1.setCell ⟨g, 0, none⟩ (.int .u64 i)).setCell ⟨g, 1, none⟩ (.int .u64 j)) := by
  subst hi hj
  have ho := ((Only.refl g w1).setCell 0 (.int .u64 (v : Nat))).setCell 1 (.int .u64 (p : Nat))
  exact ret_resCell hf h4 (Blk.set2 hb _ _) hd (hR _ ho)

/-- A residue, and nothing that was there has turned. -/
def RetRes (v p : Nat) (w : World) (e : Ending) (w' : World) : Prop := e = .returned (resV v p) ∧ Below w.heap.size w w'

theorem resZero_any (v p : Nat) (w : World) :
    Calls Tryz.prog 131 #[resV v p] w (fun e w' => e = .returned (.bool ((v : Int) == 0)) ∧ Below w.heap.size w w') := by
  have hb := Blk.new w 153 #[.int .u64 v, .int .u64 p]
  obtain ⟨c0, c1, f0, f1⟩ := hb.two
  have hbel := below_new w (.cells #[.int .u64 v, .int .u64 p] 153)
  unfold resV
  clear hb
  go_enter Tryz.func131, Tryz.ntmps131
  go_wp2_with fail
  go_ret
  exact ⟨ret_bool rfl, hbel⟩

theorem resTimes_any (a b p q : Nat) (w : World) (h : a * b < two64) (ha : a < two64) (hb : b < two64) (hp : 0 < p) (hp2 : p < two64) :
    Calls Tryz.prog 137 #[resV a p, resV b q] w (RetRes (a * b % p) p w) := by
  obtain ⟨W, hW, hb0, hb1, hres, hbel⟩ := three_new w 153 153 153 #[.int .u64 a, .int .u64 p] #[.int .u64 b, .int .u64 q] #[.int .u64 0, .int .u64 0]
  have ht := fun X => timesPlus_low a b p X h ha hb hp hp2
  generalize a * b % p = c at *
  have HW := Lib.hid hW
  have Ht := Lib.hid ht
  have Hbel := Lib.hid hbel
  clear hW ht hbel h ha hb hp hp2
  unfold resV
  go_enter Tryz.func137, Tryz.ntmps137
  go_upto_region 1 with fail
  rw [← HW.out]
  clear HW
  obtain ⟨c0, c1, _, _⟩ := hb0.two
  obtain ⟨d0, d1, _, _⟩ := hb1.two
  have hne1 : w.heap.size ≠ w.heap.size + 1 + 1 := by omega
  have hne2 : w.heap.size + 1 + 1 ≠ w.heap.size := by omega
  go_region_held3 (fun w' => w'.cell? ⟨w.heap.size, 0, none⟩ = some (.int .u64 a) ∧ w'.cell? ⟨w.heap.size, 1, none⟩ = some (.int .u64 p) ∧ w'.cell? ⟨w.heap.size + 1, 0, none⟩ = some (.int .u64 b) ∧ w'.cell? ⟨w.heap.size + 1, 1, none⟩ = some (.int .u64 q))
    (first | exact ⟨c0, c1, d0, d1⟩ | exact ⟨c0', c1', d0', d1'⟩ | go_keep)
    (first | (go_at_call 133; refine (Ht.out _).mono ?_; rintro e w2 ⟨rfl, hb2⟩; have hr2 := Blk.keep (by exact hres) hb2; obtain ⟨c0', c1', _, _⟩ := (Blk.keep (by exact hb0) hb2).two; obtain ⟨d0', d1', _, _⟩ := (Blk.keep (by exact hb1) hb2).two; obtain ⟨r0, r1, s0, s1⟩ := hr2.two))
  go_wp2_with fail
  refine ret_res_stored (v := c) (p := p) rfl rfl rfl hr2 rfl rfl ?_
  exact fun w' ho => ⟨rfl, (Hbel.out.drew.and hb2).trans (ho.below (by omega))⟩

set_option maxRecDepth 100000 in
theorem resMinus_any (a b p q : Nat) (w : World) (ha : a < p) (hb : b < p) (hp2 : p < 9223372036854775808) :
    Calls Tryz.prog 142 #[resV a p, resV b q] w (RetRes ((a + p - b) % p) p w) := by
  obtain ⟨W, hW, hb0, hb1, hres, hbel⟩ := three_new w 153 153 153 #[.int .u64 a, .int .u64 p] #[.int .u64 b, .int .u64 q] #[.int .u64 0, .int .u64 0]
  have HW := Lib.hid hW
  have Hbel := Lib.hid hbel
  have Hb0 := Lib.hid hb0
  obtain ⟨c0, c1, f0, f1⟩ := hb0.two
  obtain ⟨d0, d1, _, _⟩ := hb1.two
  obtain ⟨e0, e1, g0, g1⟩ := hres.two
  have hne1 : w.heap.size ≠ w.heap.size + 1 + 1 := by omega
  have hne2 : w.heap.size + 1 + 1 ≠ w.heap.size := by omega
  unfold resV
  by_cases hab : a < b
  · have hr : (a + p - b) % p = a + p - b := Nat.mod_eq_of_lt (by omega)
    rw [hr]
    have hk := Hb0.out.store 0 (.int .u64 ((a : Int) + p))
    have hk2 := (Only.setCell (Only.refl w.heap.size W) 0 (.int .u64 ((a : Int) + p)))
    have hres2 := hk2.blk (by omega) hres
    have Hk2 := Lib.hid hk2
    have Hres2 := Lib.hid hres2
    clear hW hbel hk2 hres2 hb0 hb1 hres hr
    go_enter Tryz.func142, Tryz.ntmps142
    go_upto_region 1 with fail
    rw [← HW.out]
    clear HW
    go_wp2_with fail
    refine ret_res_stored (v := a + p - b) (p := p) rfl rfl rfl Hres2.out (by omega) rfl ?_
    exact fun w' ho => ⟨rfl, Hbel.out.trans ((Hk2.out.below (by omega)).trans (ho.below (by omega)))⟩
  · have hr : (a + p - b) % p = a - b := by rw [show a + p - b = (a - b) + p by omega, Nat.add_mod_right]; exact Nat.mod_eq_of_lt (by omega)
    rw [hr]
    have Hres2 := Lib.hid hres
    clear hW hbel hb0 hb1 hres hr
    go_enter Tryz.func142, Tryz.ntmps142
    go_upto_region 1 with fail
    rw [← HW.out]
    clear HW
    go_wp2_with fail
    refine ret_res_stored (v := a - b) (p := p) rfl rfl rfl Hres2.out (by omega) rfl ?_
    exact fun w' ho => ⟨rfl, Hbel.out.trans (ho.below (by omega))⟩

set_option maxRecDepth 100000 in
/-- The inverse of 1. -/
theorem resInverse_one (p : Nat) (w : World) (hp : 1 < p) (hp2 : p < 9223372036854775808) :
    Calls Tryz.prog 134 #[resV 1 p] w (RetRes 1 p w) := by
  have hb := (Blk.new w 153 #[.int .u64 1, .int .u64 p]).keep (below_new _ (.cells #[.int .u64 0, .int .u64 0] 153))
  have hres := Blk.new (w.alloc (.cells #[.int .u64 1, .int .u64 p] 153)) 153 #[.int .u64 0, .int .u64 0]
  have hbel := (below_new w (.cells #[.int .u64 1, .int .u64 p] 153)).more (.cells #[.int .u64 0, .int .u64 0] 153)
  rw [size_new] at hres
  obtain ⟨W, hW⟩ : ∃ W, W = (w.alloc (.cells #[.int .u64 1, .int .u64 p] 153)).alloc (.cells #[.int .u64 0, .int .u64 0] 153) := ⟨_, rfl⟩
  rw [← hW] at hb hres hbel
  obtain ⟨c0, c1, f0, f1⟩ := hb.two
  obtain ⟨r0, r1, s0, s1⟩ := hres.two
  have HW := Lib.hid hW
  have Hbel := Lib.hid hbel
  have Hres := Lib.hid hres
  have Hb := Lib.hid hb
  clear hW hbel hb hres
  have e1 : (p : Int).tdiv 1 = p := Int.tdiv_one _
  have e2 : wrap64 (p : Int) = p := by unfold wrap64; omega
  unfold resV
  go_enter Tryz.func134, Tryz.ntmps134
  go_upto_region 1 with fail
  rw [← HW.out]
  clear HW
  go_upto_region 2 with fail
  go_quiet (fail)
  go_wp2_with fail
  refine wp_loop_rounds 2 ?_
  rw [rounds_succ]
  go_wp2_with fail
  rw [rounds_succ]
  go_wp2_with fail
  refine ret_res_stored (v := 1) (p := p) rfl rfl rfl (Hres.out.drewN nq) rfl rfl ?_
  exact fun w' ho => ⟨rfl, (below_drewN Hbel.out nq).trans (ho.below (by omega))⟩

set_option maxRecDepth 100000 in
/-- Division by 1. -/
theorem resOver_one (a p : Nat) (w : World) (ha : a < p) (hp : 1 < p) (hp2 : p < 9223372036854775808) :
    Calls Tryz.prog 161 #[resV a p, resV 1 p] w (RetRes a p w) := by
  obtain ⟨W, hW, hb0, hb1, hres, hbel⟩ := three_new w 153 153 153 #[.int .u64 a, .int .u64 p] #[.int .u64 1, .int .u64 p] #[.int .u64 0, .int .u64 0]
  have hi := fun X => resInverse_one p X hp hp2
  have ht := fun X => resTimes_any a 1 p p X (by unfold two64; omega) (by unfold two64; omega) (by unfold two64; omega) (by omega) (by unfold two64; omega)
  rw [Nat.mul_one, Nat.mod_eq_of_lt ha] at ht
  have HW := Lib.hid hW
  have Ht := Lib.hid ht
  have Hi := Lib.hid hi
  have Hbel := Lib.hid hbel
  clear hW ht hi hbel ha hp hp2
  unfold resV at *
  go_enter Tryz.func161, Tryz.ntmps161
  go_upto_region 1 with fail
  rw [← HW.out]
  clear HW
  obtain ⟨c0, c1, _, _⟩ := hb0.two
  obtain ⟨d0, d1, _, _⟩ := hb1.two
  have hne1 : w.heap.size ≠ w.heap.size + 1 + 1 := by omega
  have hne2 : w.heap.size + 1 + 1 ≠ w.heap.size := by omega
  go_region_held3 (fun w' => w'.cell? ⟨w.heap.size, 0, none⟩ = some (.int .u64 a) ∧ w'.cell? ⟨w.heap.size, 1, none⟩ = some (.int .u64 p) ∧ w'.cell? ⟨w.heap.size + 1, 0, none⟩ = some (.int .u64 1) ∧ w'.cell? ⟨w.heap.size + 1, 1, none⟩ = some (.int .u64 p))
    (first | exact ⟨c0, c1, d0, d1⟩ | exact ⟨c0', c1', d0', d1'⟩ | exact ⟨c0'', c1'', d0'', d1''⟩ | go_keep)
    (first
    | (go_at_call 134; refine (Hi.out _).mono ?_; rintro e w2 ⟨rfl, hb2⟩; unfold resV; have hr2 := Blk.keep (by exact hres) hb2; have hi2 := Blk.keep (by exact hb0) hb2; have hj2 := Blk.keep (by exact hb1) hb2; obtain ⟨c0', c1', _, _⟩ := hi2.two; obtain ⟨d0', d1', _, _⟩ := hj2.two)
    | (go_at_call 137; refine (Ht.out _).mono ?_; rintro e w3 ⟨rfl, hb3⟩; unfold resV; have hr3 := hr2.keep hb3; obtain ⟨c0'', c1'', _, _⟩ := (hi2.keep hb3).two; obtain ⟨d0'', d1'', _, _⟩ := (hj2.keep hb3).two; obtain ⟨r0, r1, s0, s1⟩ := hr3.two))
  go_wp2_with fail
  refine ret_res_stored (v := a) (p := p) rfl rfl rfl hr3 rfl rfl ?_
  exact fun w' ho => ⟨rfl, ((Hbel.out.drew.and hb2).and hb3).trans (ho.below (by omega))⟩
end Go.Proofs.YtemcdnppgnobmaaGreatDoor

namespace Go.Proofs.YtemcdnppgnobmaaGreatDoor
open Go.RowKit

/-- These cells lie in the world: block, place, value. -/
def Has : List (Nat × Nat × Value) → World → Prop
  | [], _ => True
  | (b, o, v) :: L, X => (X.cell? ⟨b, o, none⟩ = some v ∧ b < X.heap.size) ∧ Has L X

theorem Has.keep : ∀ {L : List (Nat × Nat × Value)} {X Y : World}, Has L X → Below X.heap.size X Y → Has L Y
  | [], _, _, _, _ => trivial
  | (b, o, v) :: _, _, _, h, hb => ⟨⟨(hb.cell (p := ⟨b, o, none⟩) h.1.2).trans h.1.1, Nat.lt_of_lt_of_le h.1.2 hb.size⟩, Has.keep h.2 hb⟩

/-- These rows are one's own: line, type, size, value, length, elements. -/
def Rows' : List (Nat × TypeId × Nat × Value × Nat × List Value) → World → Prop
  | [], _ => True
  | (B, t, s, v, n, xs) :: R, X => (X.ownsRow B t s v n xs ∧ B ≤ X.heap.size) ∧ Rows' R X
theorem Rows'.keep : ∀ {R : List (Nat × TypeId × Nat × Value × Nat × List Value)} {X Y : World}, Rows' R X → Below X.heap.size X Y → Rows' R Y
  | [], _, _, _, _ => trivial
  | _ :: _, _, _, h, hb => ⟨⟨own_keep h.1.1 hb, Nat.le_trans h.1.2 hb.size⟩, Rows'.keep h.2 hb⟩

structure St (w0 : World) (L : List (Nat × Nat × Value)) (R : List (Nat × TypeId × Nat × Value × Nat × List Value)) (X : World) : Prop where
  has : Has L X
  rows : Rows' R X
  bel : Below w0.heap.size w0 X

section
variable {w0 X Y : World} {L : List (Nat × Nat × Value)} {R : List (Nat × TypeId × Nat × Value × Nat × List Value)}
theorem St.keep (h : St w0 L R X) (hb : Below X.heap.size X Y) : St w0 L R Y := ⟨h.has.keep hb, h.rows.keep hb, h.bel.and hb⟩
theorem St.drew (h : St w0 L R X) : St w0 L R X.drew := h.keep (Below.refl _ _).drew
theorem St.drewN (h : St w0 L R X) (q : Nat) : St w0 L R (X.drewN q) := h.keep (below_drewN (Below.refl _ _) q)
theorem St.new (h : St w0 L R X) (o : Obj) : St w0 L R (X.alloc o) := h.keep (below_new _ _)
/-- One more cell. -/
theorem St.cell {b o : Nat} {v : Value} (h : St w0 L R X) (hc : X.cell? ⟨b, o, none⟩ = some v) (hb : b < X.heap.size) : St w0 ((b, o, v) :: L) R X := ⟨⟨⟨hc, hb⟩, h.has⟩, h.rows, h.bel⟩
theorem St.row {B s n : Nat} {t : TypeId} {v : Value} {xs : List Value} (h : St w0 L R X) (hr : X.ownsRow B t s v n xs) (hb : B ≤ X.heap.size) : St w0 L ((B, t, s, v, n, xs) :: R) X := ⟨h.has, ⟨⟨hr, hb⟩, h.rows⟩, h.bel⟩
theorem St.start (w : World) : St w [] [] w := ⟨trivial, trivial, Below.refl _ _⟩
theorem St.tail {c : Nat × Nat × Value} (h : St w0 (c :: L) R X) : St w0 L R X := ⟨h.has.2, h.rows, h.bel⟩
theorem St.tailR {c : Nat × TypeId × Nat × Value × Nat × List Value} (h : St w0 L (c :: R) X) : St w0 L R X := ⟨h.has, h.rows.2, h.bel⟩
/-- A block of two cells is new. -/
theorem St.new2 {t : TypeId} {a b : Value} (h : St w0 L R X) : St w0 ((X.heap.size, 0, a) :: (X.heap.size, 1, b) :: L) R (X.alloc (.cells #[a, b] t)) := by
  have hb := Blk.new X t #[a, b]
  exact ((h.new _).cell (hb.cell 1) hb.lt).cell (hb.cell 0) hb.lt
theorem St.new3 {t : TypeId} {a b c : Value} (h : St w0 L R X) : St w0 ((X.heap.size, 0, a) :: (X.heap.size, 1, b) :: (X.heap.size, 2, c) :: L) R (X.alloc (.cells #[a, b, c] t)) := by
  have hb := Blk.new X t #[a, b, c]
  exact (((h.new _).cell (hb.cell 2) hb.lt).cell (hb.cell 1) hb.lt).cell (hb.cell 0) hb.lt
/-- A block that no known cell lies in has turned. -/
theorem Has.only : ∀ {L : List (Nat × Nat × Value)} {X Y : World} {g : Nat}, Has L X → Only g X Y → (∀ c ∈ L, c.1 ≠ g) → Has L Y
  | [], _, _, _, _, _, _ => trivial
  | (b, o, v) :: L, _, _, g, h, ho, hg => ⟨⟨(ho.cell (p := ⟨b, o, none⟩) (hg _ (List.mem_cons_self ..))).trans h.1.1, by rw [ho.size]; exact h.1.2⟩, Has.only h.2 ho fun c hc => hg c (List.mem_cons_of_mem _ hc)⟩
theorem Has.lt : ∀ {L : List (Nat × Nat × Value)} {X : World}, Has L X → ∀ c ∈ L, c.1 < X.heap.size
  | [], _, _, c, hc => by simp at hc
  | (b, o, v) :: L, _, h, c, hc => by
    rcases List.mem_cons.1 hc with rfl | hc
    · exact h.1.2
    · exact Has.lt h.2 c hc
theorem Rows'.lt : ∀ {R : List (Nat × TypeId × Nat × Value × Nat × List Value)} {X : World}, Rows' R X → ∀ c ∈ R, ∀ k, c.2.2.2.1.ownBlock = some k → k < X.heap.size
  | [], _, _, c, hc => by simp at hc
  | _ :: R, _, h, c, hc => by
    rcases List.mem_cons.1 hc with rfl | hc
    · exact fun k hk => (h.1.1.lt k hk).2
    · exact Rows'.lt h.2 c hc
theorem own_only {w w' : World} {B size n g : Nat} {e : TypeId} {v : Value} {xs : List Value} (h : w.ownsRow B e size v n xs) (ho : Only g w w') (hg : some g ≠ v.ownBlock) : w'.ownsRow B e size v n xs := by
  obtain ⟨hl, h1 | ⟨k, cap, cur, e1, hb, hk, rest⟩⟩ := h
  · exact ⟨hl, .inl h1⟩
  · refine ⟨hl, .inr ⟨k, cap, cur, e1, hb, (ho.block k ?_).trans hk, rest⟩⟩
    rintro rfl
    exact hg (by rw [e1]; rfl)
theorem Rows'.only : ∀ {R : List (Nat × TypeId × Nat × Value × Nat × List Value)} {X Y : World} {g : Nat}, Rows' R X → Only g X Y → (∀ c ∈ R, some g ≠ c.2.2.2.1.ownBlock) → Rows' R Y
  | [], _, _, _, _, _, _ => trivial
  | _ :: _, _, _, _, h, ho, hg => ⟨⟨own_only h.1.1 ho (hg _ (List.mem_cons_self ..)), by rw [ho.size]; exact h.1.2⟩, Rows'.only h.2 ho fun c hc => hg c (List.mem_cons_of_mem _ hc)⟩
/-- A block that was new once has turned. -/
theorem St.only {X0 : World} (h0 : St w0 L R X0) (h : St w0 L R X) (ho : Only X0.heap.size X Y) : St w0 L R Y :=
  ⟨h.has.only ho fun c hc => Nat.ne_of_lt (h0.has.lt c hc), h.rows.only ho fun c hc e => absurd (h0.rows.lt c hc _ e.symm) (by omega), h.bel.trans (ho.below h0.bel.size)⟩
theorem St.store2 {X0 : World} {t : TypeId} {a b u v : Value} (h0 : St w0 L R X0) (h : St w0 L R X) (hb : Blk X X0.heap.size t #[a, b]) :
    St w0 ((X0.heap.size, 0, u) :: (X0.heap.size, 1, v) :: L) R ((X.setCell ⟨X0.heap.size, 0, none⟩ u).setCell ⟨X0.heap.size, 1, none⟩ v) := by
  have h2 := Blk.set2 hb u v
  have ho := ((Only.refl X0.heap.size X).setCell 0 u).setCell 1 v
  exact ((h0.only h ho).cell (h2.cell 1) h2.lt).cell (h2.cell 0) h2.lt
theorem St.store3 {X0 : World} {t : TypeId} {a b c u v x : Value} (h0 : St w0 L R X0) (h : St w0 L R X) (hb : Blk X X0.heap.size t #[a, b, c]) :
    St w0 ((X0.heap.size, 0, u) :: (X0.heap.size, 1, v) :: (X0.heap.size, 2, x) :: L) R (((X.setCell ⟨X0.heap.size, 0, none⟩ u).setCell ⟨X0.heap.size, 1, none⟩ v).setCell ⟨X0.heap.size, 2, none⟩ x) := by
  have h2 := Blk.set3 hb u v x
  have ho := (((Only.refl X0.heap.size X).setCell 0 u).setCell 1 v).setCell 2 x
  exact (((h0.only h ho).cell (h2.cell 2) h2.lt).cell (h2.cell 1) h2.lt).cell (h2.cell 0) h2.lt
end
end Go.Proofs.YtemcdnppgnobmaaGreatDoor
