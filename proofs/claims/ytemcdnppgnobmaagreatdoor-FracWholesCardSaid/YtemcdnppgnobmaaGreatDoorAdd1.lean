/-
  The walk of frac's Add of fractions that stay small.
-/
import Derived.Test.YtemcdnppgnobmaaGreatDoorPlW
import Derived.Test.YtemcdnppgnobmaaGreatDoorMake1
set_option linter.unusedVariables false
namespace Go.Proofs.YtemcdnppgnobmaaGreatDoor
open Go.RowKit

theorem sizedRat_add (cap : Array Value) (r : Rat) (w : World) (h : ∀ w', Below w.heap.size w w' → Calls Tryz.prog 75 cap w' (RetRat r w')) :
    Calls Tryz.prog 74 #[.func (Fn.func 75) #[] cap] w (RetRatOk r w) := by
  have hmf : ∀ (fn : Fn) (first cap : Array Value) (w : World), (Instr.makeFunc fn first cap).run Tryz.prog w = .ok (.func fn first cap) w := fun _ _ _ _ => rfl
  have Hh := Lib.hid h
  have hb0 := (Blk.new w 68 ratZ).keep (below_new _ (.cells #[.int .i64 0] 32))
  have hb1 := Blk.new (w.alloc (.cells ratZ 68)) 32 #[.int .i64 0]
  rw [size_new] at hb1
  have hbel := (below_new w (.cells ratZ 68)).more (.cells #[.int .i64 0] 32)
  have Hb0 := Lib.hid hb0
  have Hb1 := Lib.hid hb1
  have Hbel := Lib.hid hbel
  clear h hb0 hb1 hbel
  go_enter_defers Tryz.func74, Tryz.ntmps74
  go_wp2_with fail
  refine (Hh.out _ Hbel.out).mono ?_
  rintro e w1 ⟨A, n, B, m, rfl, hrg, hb⟩
  have hk0 := Hb0.out.keep hb
  have hk1 := Hb1.out.keep hb
  have hbe := Hbel.out.and hb
  obtain ⟨c0, c1, c2, f0, f1, f2⟩ := hk0.three
  have d0 := hk1.cell 0
  have e0 := hk1.free 0
  simp only [List.getElem?_toArray, List.getElem?_cons_zero] at d0
  have hne1 : w.heap.size ≠ w.heap.size + 1 := by omega
  have hne2 : w.heap.size + 1 ≠ w.heap.size := by omega
  unfold ratV
  go_wp2_with fail
  refine leaves_cons (f := 98) (args := #[.pointer (some ⟨w.heap.size, 0, none⟩), .pointer (some ⟨w.heap.size + 1, 0, none⟩)]) (by simp) (by simp [go_sem]) ?_
  refine (sizedRat_idle ⟨w.heap.size, 0, none⟩ ⟨w.heap.size + 1, 0, none⟩ _).mono ?_
  rintro e u' w'' ⟨rfl, rfl, rfl⟩
  obtain ⟨w6, hw6⟩ : ∃ w6, w6 = (((w1.setCell ⟨w.heap.size, 0, none⟩ (.bool (decide (r.num < 0)))).setCell ⟨w.heap.size, 1, none⟩ (.slice A n n)).setCell ⟨w.heap.size, 2, none⟩ (.slice B m m)).setCell ⟨w.heap.size + 1, 0, none⟩ (.int .i64 0) := ⟨_, rfl⟩
  rw [← hw6]
  obtain ⟨h1, h2, h3, h4⟩ := rat_err_stored hk0 hk1 hne1 hrg hw6
  clear hw6 c0 c1 c2 f0 f1 f2 d0 e0 hk0 hk1
  obtain ⟨c0, c1, c2, f0, f1, f2⟩ := h1.three
  have d0 := h2.cell 0
  simp only [List.getElem?_toArray, List.getElem?_cons_zero] at d0
  refine ⟨.tuple #[ratV r A n B m, .int .i64 0], by simp [results, Tryz.results74, go_sem, c0, c1, c2, d0, ratV], A, n, B, m, rfl, h3, hbe.trans (h4 _ (Nat.le_refl _) (by omega))⟩
theorem addFunc_any (g1 g2 : Nat) (A B C D : Option Addr) (n m c d : Nat) (r s : Rat) (w : World) (hb1 : Blk w g1 68 (ratC r A n B m)) (hb2 : Blk w g2 68 (ratC s C c D d))
    (h : Rg w A n B m r) (k : Rg w C c D d s) (hs : Short (r + s)) (hn : n ≤ 100000000) (hm : m ≤ 100000000) (hc : c ≤ 100000000) (hd : d ≤ 100000000) :
    Calls Tryz.prog 75 #[.pointer (some ⟨g1, 0, none⟩), .pointer (some ⟨g2, 0, none⟩)] w (RetRat (r + s) w) := by
  have hres := Blk.new w 68 #[.bool false, .slice none 0 0, .slice none 0 0]
  have hbel := below_new w (.cells #[.bool false, .slice none 0 0, .slice none 0 0] 68)
  have hk1 := hb1.keep hbel
  have hk2 := hb2.keep hbel
  have ht := ratPlus_any A B C D n m c d r s _ (h.below hbel) (k.below hbel) hn hm hc hd
  obtain ⟨c0, c1, c2, f0, f1, f2⟩ := hk1.three
  obtain ⟨d0, d1, d2, e0, e1, e2⟩ := hk2.three
  have Ht := Lib.hid ht
  have Hres := Lib.hid hres
  have Hbel := Lib.hid hbel
  have Hs := Lib.hid hs
  clear ht hres hbel h k hb1 hb2 hs
  unfold ratV at Ht
  go_enter Tryz.func75, Tryz.ntmps75
  go_wp2_with fail
  refine Ht.out.mono ?_
  rintro e w1 ⟨A1, n1, B1, m1, rfl, hr1, hb1⟩
  have hkp := ratKept_short A1 B1 n1 m1 (r + s) w1 hr1 (Hs.out.num hr1) (Hs.out.den hr1)
  have Hkp := Lib.hid hkp
  clear hkp
  unfold ratV
  unfold ratV at Hkp
  generalize hq : r + s = q at *
  clear hq
  go_wp2_with fail
  refine Hkp.out.mono ?_
  rintro e w2 ⟨rfl, hr2, hb2⟩
  have hk0 := Hres.out.keep (hb1.and hb2)
  obtain ⟨z0, z1, z2, y0, y1, y2⟩ := hk0.three
  go_wp2_with fail
  refine ret_rat_stored (r := q) (A := A1) (n := n1) (B := B1) (m := m1) rfl rfl rfl hk0 hr2 (Hbel.out.and (hb1.and hb2)) (Nat.le_refl _) rfl ?_
  exact fun w' h1 h2 => ⟨A1, n1, B1, m1, rfl, h1, h2⟩

theorem add_rat_any (A B C D : Option Addr) (n m c d : Nat) (r s : Rat) (w : World)
    (h : Rg w A n B m r) (k : Rg w C c D d s) (hs : Short (r + s)) (hn : n ≤ 100000000) (hm : m ≤ 100000000) (hc : c ≤ 100000000) (hd : d ≤ 100000000) :
    Calls Tryz.prog 49 #[ratV r A n B m, ratV s C c D d] w (RetRatOk (r + s) w) := by
  obtain ⟨W, hW, hb0, hb1, hres, hbel⟩ := three_new w 68 68 68 #[.bool (decide (r.num < 0)), .slice A n n, .slice B m m] #[.bool (decide (s.num < 0)), .slice C c c, .slice D d d] #[.bool false, .slice none 0 0, .slice none 0 0]
  have hz := sizedRat_add #[.pointer (some ⟨w.heap.size, 0, none⟩), .pointer (some ⟨w.heap.size + 1, 0, none⟩)] (r + s) W
    (fun w' hw => addFunc_any _ _ A B C D n m c d r s w' (hb0.keep hw) (hb1.keep hw) ((h.below hbel).below hw) ((k.below hbel).below hw) hs hn hm hc hd)
  have hmf : ∀ (fn : Fn) (first cap : Array Value) (w : World), (Instr.makeFunc fn first cap).run Tryz.prog w = .ok (.func fn first cap) w := fun _ _ _ _ => rfl
  have Hz := Lib.hid hz
  have HW := Lib.hid hW
  have Hres := Lib.hid hres
  have Hbel := Lib.hid hbel
  clear hz hW hres hbel hb0 hb1 h k hs
  generalize hq : r + s = q at *
  clear hq
  unfold ratV
  go_enter Tryz.func49, Tryz.ntmps49
  go_wp2_with fail
  rw [← HW.out]
  refine Hz.out.mono ?_
  rintro e w1 ⟨A1, n1, B1, m1, rfl, hr1, hb1⟩
  have hk0 := Hres.out.keep hb1
  obtain ⟨z0, z1, z2, y0, y1, y2⟩ := hk0.three
  unfold ratV
  go_wp2_with fail
  refine ret_rat_err (r := q) (A := A1) (n := n1) (B := B1) (m := m1) (v := .int .i64 0) rfl rfl rfl rfl hk0 hr1 (Hbel.out.and hb1) (by omega) ?_
  exact fun w' h1 h2 => ⟨A1, n1, B1, m1, rfl, h1, h2⟩
end Go.Proofs.YtemcdnppgnobmaaGreatDoor
