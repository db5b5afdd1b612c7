/-
  The walk of frac's kept of integers that are much shorter than the limit.
  The walks of frac's Add, Sub and Mul of integers that stay small.
  The walks of frac's isDecimal, read, readInt and ParseInt, of the letters of an integer.
  The walks of frac's ParseInt, of the letters of an integer; of Gcd; and of Div by 0.
-/
import Derived.Test.YtemcdnppgnobmaaGreatDoorInt4
import Derived.Test.YtemcdnppgnobmaaGreatDoorMake1
import Derived.Test.YtemcdnppgnobmaaGreatDoorInt7
import Derived.Test.YtemcdnppgnobmaaGreatDoorRdN
namespace Go.Proofs.YtemcdnppgnobmaaGreatDoor
open Go.RowKit

theorem kept_short (A : Option Addr) (n : Nat) (z : Int) (w : World) (h : Dg w A n z.natAbs) (hn : n < 3345) :
    Calls Tryz.prog 28 #[intV z A n] w (fun e w' => e = .returned (intV z A n) ∧ Dg w' A n z.natAbs ∧ Below w.heap.size w w') := by
  have hb0 := Blk.new w 25 #[.bool (decide (z < 0)), .slice A n n]
  have hbel := (below_new w (.cells #[.bool (decide (z < 0)), .slice A n n] 25)).more (.cells intZ 25)
  have hb0' := hb0.keep (below_new _ (.cells intZ 25))
  have hres := Blk.new (w.alloc (.cells #[.bool (decide (z < 0)), .slice A n n] 25)) 25 intZ
  rw [size_new] at hres
  have hd := h.below hbel
  have hk := fun w' => keepSmall_short A n n w' hn
  have Hk := Lib.hid hk
  have Hbel := Lib.hid hbel
  have Hd := Lib.hid hd
  clear hbel hb0 h hd hk
  obtain ⟨c0, c1, f0, f1⟩ := hb0'.two
  obtain ⟨d0, d1, e0, e1⟩ := hres.two
  unfold intV
  go_enter Tryz.func28, Tryz.ntmps28
  go_wp2_with fail
  refine (Hk.out _).mono ?_
  rintro e w1 ⟨rfl, q, rfl⟩
  go_wp2_with fail
  have hbd := below_drewN Hbel.out q
  exact ret_int_stored rfl rfl rfl (hres.drewN q) (Hd.out.drewN q) hbd (by omega) rfl (fun w' h1 h2 => ⟨rfl, h1, h2⟩)
end Go.Proofs.YtemcdnppgnobmaaGreatDoor

set_option linter.unusedVariables false
namespace Go.Proofs.YtemcdnppgnobmaaGreatDoor
open Go.RowKit

theorem sizedInt_idle (a b : Addr) (w : World) :
    CallsD Tryz.prog 58 #[.pointer (some a), .pointer (some b)] .returning w fun e u' w' => e = .returned (.tuple #[]) ∧ u' = .returning ∧ w' = w := by
  refine callsD_of_wpS Tryz.func58 rfl fun c₀ cs hu => ?_
  apply wpS_seq
  apply wpS_region
  simp [wpOpsS, go_sem, recoverD, hu, Tryz.ntmps58, Exit.thenS]
  refine wpS_cond (t := false) (by simp [Act.eval, Array.replicate]) ?_
  simp only [Bool.false_eq_true, if_false]
  refine wpS_of_wp (wp_skip ?_)
  cases c₀
  simp_all [bodyPostS, results, Tryz.results58]

/-- An integer and an error are stored into their cells. -/
theorem int_err_stored {w1 w6 : World} {g k n : Nat} {A : Option Addr} {z : Int} {v : Int} (hb : Blk w1 g 25 intZ) (hk : Blk w1 k 32 #[.int .i64 0]) (hgk : g ≠ k) (hr : Dg w1 A n z.natAbs)
    (hw : w6 = ((w1.setCell ⟨g, 0, none⟩ (.bool (decide (z < 0)))).setCell ⟨g, 1, none⟩ (.slice A n n)).setCell ⟨k, 0, none⟩ (.int .i64 v)) :
    Blk w6 g 25 #[.bool (decide (z < 0)), .slice A n n] ∧ Blk w6 k 32 #[.int .i64 v] ∧ Dg w6 A n z.natAbs ∧ ∀ b, b ≤ g → b ≤ k → Below b w1 w6 := by
  subst hw
  have ho := ((Only.refl g w1).setCell 0 (.bool (decide (z < 0)))).setCell 1 (.slice A n n)
  have hb' := Blk.set2 hb (.bool (decide (z < 0))) (.slice A n n)
  have hk' := ho.blk (Ne.symm hgk) hk
  have hr' := hr.only ho hb intZ_free
  have ho2 := (Only.refl k ((w1.setCell ⟨g, 0, none⟩ (.bool (decide (z < 0)))).setCell ⟨g, 1, none⟩ (.slice A n n))).setCell 0 (.int .i64 v)
  have hfree : ∀ (i : Nat) (z : Int), (#[Value.int .i64 0] : Array Value)[i]? ≠ some (Value.int .u32 z) := by
    intro i z
    match i with
    | 0 => simp
    | i + 1 => simp
  refine ⟨ho2.blk hgk hb', ?_, hr'.only ho2 hk' hfree, fun b h1 h2 => (ho.below h1).trans (ho2.below h2)⟩
  have := hk'.store 0 (.int .i64 v)
  simpa using this

/-- An integer and OK. -/
def RetIntOk (z : Int) (w : World) (e : Ending) (w' : World) : Prop :=
  ∃ A n, e = .returned (.tuple #[intV z A n, .int .i64 0]) ∧ Dg w' A n z.natAbs ∧ Below w.heap.size w w'

/-- An integer is stored into the cell of the result, and returned with an error that lies in a slot. -/
theorem ret_int_err {fn : Func} {R : Ending → World → Prop} {a : Act} {w w1 : World} {s t g n : Nat} {A : Option Addr} {z : Int} {v : Value}
    (hf : fn.results = #[.cell s 25, .tmp t]) (h4 : a.tmps[s]? = some (.pointer (some ⟨g, 0, none⟩))) (h5 : a.tmps[t]? = some v) (hd : a.defers = [])
    (hb : Blk w1 g 25 intZ) (hdg : Dg w1 A n z.natAbs) (hbel : Below w.heap.size w w1) (hg : w.heap.size ≤ g)
    (hR : ∀ w', Dg w' A n z.natAbs → Below w.heap.size w w' → R (.returned (.tuple #[intV z A n, v])) w') :
    bodyPost Tryz.prog fn R .ret a ((w1.setCell ⟨g, 0, none⟩ (.bool (decide (z < 0)))).setCell ⟨g, 1, none⟩ (.slice A n n)) := by
  have ho := ((Only.refl g w1).setCell 0 (.bool (decide (z < 0)))).setCell 1 (.slice A n n)
  have hbb := Blk.set2 hb (.bool (decide (z < 0))) (.slice A n n)
  have c0 := hbb.cell 0
  have c1 := hbb.cell 1
  have hrg := hdg.only ho hb intZ_free
  have hbe := hbel.trans (ho.below hg)
  generalize (w1.setCell ⟨g, 0, none⟩ (.bool (decide (z < 0)))).setCell ⟨g, 1, none⟩ (.slice A n n) = w6 at *
  exact bodyPost_ret (v := .tuple #[intV z A n, v]) (by simp [results, hf, go_sem, c0, c1, h4, h5, intV]) hd (hR _ hrg hbe)

theorem sizedInt_Add (cap : Array Value) (z : Int) (w : World) (h : ∀ w', Below w.heap.size w w' → Calls Tryz.prog 26 cap w' (RetInt z w')) :
    Calls Tryz.prog 25 #[.func (Fn.func 26) #[] cap] w (RetIntOk z w) := by
  have hmf : ∀ (fn : Fn) (first cap : Array Value) (w : World), (Instr.makeFunc fn first cap).run Tryz.prog w = .ok (.func fn first cap) w := fun _ _ _ _ => rfl
  have Hh := Lib.hid h
  have hb0 := (Blk.new w 25 intZ).keep (below_new _ (.cells #[.int .i64 0] 32))
  have hb1 := Blk.new (w.alloc (.cells intZ 25)) 32 #[.int .i64 0]
  rw [size_new] at hb1
  have hbel := (below_new w (.cells intZ 25)).more (.cells #[.int .i64 0] 32)
  have Hb0 := Lib.hid hb0
  have Hb1 := Lib.hid hb1
  have Hbel := Lib.hid hbel
  clear h hb0 hb1 hbel
  go_enter_defers Tryz.func25, Tryz.ntmps25
  go_wp2_with fail
  refine (Hh.out _ Hbel.out).mono ?_
  rintro e w1 ⟨A, n, rfl, hrg, hb⟩
  have hk0 := Hb0.out.keep hb
  have hk1 := Hb1.out.keep hb
  have hbe := Hbel.out.and hb
  obtain ⟨c0, c1, f0, f1⟩ := hk0.two
  have d0 := hk1.cell 0
  have e0 := hk1.free 0
  simp only [List.getElem?_toArray, List.getElem?_cons_zero] at d0
  have hne1 : w.heap.size ≠ w.heap.size + 1 := by omega
  have hne2 : w.heap.size + 1 ≠ w.heap.size := by omega
  unfold intV
  go_wp2_with fail
  refine leaves_cons (f := 58) (args := #[.pointer (some ⟨w.heap.size, 0, none⟩), .pointer (some ⟨w.heap.size + 1, 0, none⟩)]) (by simp) (by simp [go_sem]) ?_
  refine (sizedInt_idle ⟨w.heap.size, 0, none⟩ ⟨w.heap.size + 1, 0, none⟩ _).mono ?_
  rintro e u' w'' ⟨rfl, rfl, rfl⟩
  obtain ⟨w6, hw6⟩ : ∃ w6, w6 = ((w1.setCell ⟨w.heap.size, 0, none⟩ (.bool (decide (z < 0)))).setCell ⟨w.heap.size, 1, none⟩ (.slice A n n)).setCell ⟨w.heap.size + 1, 0, none⟩ (.int .i64 0) := ⟨_, rfl⟩
  rw [← hw6]
  obtain ⟨h1, h2, h3, h4⟩ := int_err_stored hk0 hk1 hne1 hrg hw6
  clear hw6 c0 c1 f0 f1 d0 e0 hk0 hk1
  obtain ⟨c0, c1, f0, f1⟩ := h1.two
  have d0 := h2.cell 0
  simp only [List.getElem?_toArray, List.getElem?_cons_zero] at d0
  refine ⟨.tuple #[intV z A n, .int .i64 0], by simp [results, Tryz.results25, go_sem, c0, c1, d0, intV], A, n, rfl, h3, hbe.trans (h4 _ (Nat.le_refl _) (by omega))⟩

theorem addFn_any (g1 g2 : Nat) (A B : Option Addr) (n m : Nat) (y z : Int) (w : World) (hb1 : Blk w g1 25 #[.bool (decide (y < 0)), .slice A n n]) (hb2 : Blk w g2 25 #[.bool (decide (z < 0)), .slice B m m])
    (h : Dg w A n y.natAbs) (k : Dg w B m z.natAbs) (hs : limbs (y + z).natAbs < 3345) (hn : n ≤ 100000000) (hm : m ≤ 100000000) :
    Calls Tryz.prog 26 #[.pointer (some ⟨g1, 0, none⟩), .pointer (some ⟨g2, 0, none⟩)] w (RetInt (y + z) w) := by
  have hres := Blk.new w 25 #[.bool false, .slice none 0 0]
  have hbel := below_new w (.cells #[.bool false, .slice none 0 0] 25)
  have hk1 := hb1.keep hbel
  have hk2 := hb2.keep hbel
  have ht := plus_any A B n m y z _ (h.below hbel) (k.below hbel) (by omega) (by omega)
  obtain ⟨c0, c1, f0, f1⟩ := hk1.two
  obtain ⟨d0, d1, e0, e1⟩ := hk2.two
  have Ht := Lib.hid ht
  have Hres := Lib.hid hres
  have Hbel := Lib.hid hbel
  have Hs := Lib.hid hs
  clear ht hres hbel h k hb1 hb2 hs
  unfold intV at Ht
  go_enter Tryz.func26, Tryz.ntmps26
  go_wp2_with fail
  refine Ht.out.mono ?_
  rintro e w1 ⟨A1, n1, rfl, hr1, hb1⟩
  have hkp := kept_short A1 n1 (y + z) w1 hr1 (by rw [← hr1.len]; exact Hs.out)
  have Hkp := Lib.hid hkp
  clear hkp Hs
  unfold intV
  unfold intV at Hkp
  generalize hq : y + z = q at *
  clear hq
  go_wp2_with fail
  refine Hkp.out.mono ?_
  rintro e w2 ⟨rfl, hr2, hb2⟩
  have hk0 := Hres.out.keep (hb1.and hb2)
  obtain ⟨z0, z1, y0, y1⟩ := hk0.two
  go_wp2_with fail
  exact ret_int_stored (z := q) rfl rfl rfl hk0 hr2 (Hbel.out.and (hb1.and hb2)) (Nat.le_refl _) rfl (fun w' h1 h2 => ⟨A1, n1, rfl, h1, h2⟩)

theorem intAdd_any (A B : Option Addr) (n m : Nat) (y z : Int) (w : World)
    (h : Dg w A n y.natAbs) (k : Dg w B m z.natAbs) (hs : limbs (y + z).natAbs < 3345) (hn : n ≤ 100000000) (hm : m ≤ 100000000) :
    Calls Tryz.prog 5 #[intV y A n, intV z B m] w (RetIntOk (y + z) w) := by
  obtain ⟨W, hW, hb0, hb1, hres, hbel⟩ := three_new w 25 25 25 #[.bool (decide (y < 0)), .slice A n n] #[.bool (decide (z < 0)), .slice B m m] #[.bool false, .slice none 0 0]
  have hz := sizedInt_Add #[.pointer (some ⟨w.heap.size, 0, none⟩), .pointer (some ⟨w.heap.size + 1, 0, none⟩)] (y + z) W
    (fun w' hw => addFn_any _ _ A B n m y z w' (hb0.keep hw) (hb1.keep hw) ((h.below hbel).below hw) ((k.below hbel).below hw) hs hn hm)
  have hmf : ∀ (fn : Fn) (first cap : Array Value) (w : World), (Instr.makeFunc fn first cap).run Tryz.prog w = .ok (.func fn first cap) w := fun _ _ _ _ => rfl
  have Hz := Lib.hid hz
  have HW := Lib.hid hW
  have Hres := Lib.hid hres
  have Hbel := Lib.hid hbel
  clear hz hW hres hbel hb0 hb1 h k hs
  generalize hq : y + z = q at *
  clear hq
  unfold intV
  go_enter Tryz.func5, Tryz.ntmps5
  go_wp2_with fail
  rw [← HW.out]
  refine Hz.out.mono ?_
  rintro e w1 ⟨A1, n1, rfl, hr1, hb1⟩
  have hk0 := Hres.out.keep hb1
  obtain ⟨z0, z1, y0, y1⟩ := hk0.two
  unfold intV
  go_wp2_with fail
  refine ret_int_err (z := q) (A := A1) (n := n1) (v := .int .i64 0) rfl rfl rfl rfl hk0 hr1 (Hbel.out.and hb1) (by omega) ?_
  exact fun w' h1 h2 => ⟨A1, n1, rfl, h1, h2⟩

theorem sizedInt_Sub (cap : Array Value) (z : Int) (w : World) (h : ∀ w', Below w.heap.size w w' → Calls Tryz.prog 29 cap w' (RetInt z w')) :
    Calls Tryz.prog 25 #[.func (Fn.func 29) #[] cap] w (RetIntOk z w) := by
  have hmf : ∀ (fn : Fn) (first cap : Array Value) (w : World), (Instr.makeFunc fn first cap).run Tryz.prog w = .ok (.func fn first cap) w := fun _ _ _ _ => rfl
  have Hh := Lib.hid h
  have hb0 := (Blk.new w 25 intZ).keep (below_new _ (.cells #[.int .i64 0] 32))
  have hb1 := Blk.new (w.alloc (.cells intZ 25)) 32 #[.int .i64 0]
  rw [size_new] at hb1
  have hbel := (below_new w (.cells intZ 25)).more (.cells #[.int .i64 0] 32)
  have Hb0 := Lib.hid hb0
  have Hb1 := Lib.hid hb1
  have Hbel := Lib.hid hbel
  clear h hb0 hb1 hbel
  go_enter_defers Tryz.func25, Tryz.ntmps25
  go_wp2_with fail
  refine (Hh.out _ Hbel.out).mono ?_
  rintro e w1 ⟨A, n, rfl, hrg, hb⟩
  have hk0 := Hb0.out.keep hb
  have hk1 := Hb1.out.keep hb
  have hbe := Hbel.out.and hb
  obtain ⟨c0, c1, f0, f1⟩ := hk0.two
  have d0 := hk1.cell 0
  have e0 := hk1.free 0
  simp only [List.getElem?_toArray, List.getElem?_cons_zero] at d0
  have hne1 : w.heap.size ≠ w.heap.size + 1 := by omega
  have hne2 : w.heap.size + 1 ≠ w.heap.size := by omega
  unfold intV
  go_wp2_with fail
  refine leaves_cons (f := 58) (args := #[.pointer (some ⟨w.heap.size, 0, none⟩), .pointer (some ⟨w.heap.size + 1, 0, none⟩)]) (by simp) (by simp [go_sem]) ?_
  refine (sizedInt_idle ⟨w.heap.size, 0, none⟩ ⟨w.heap.size + 1, 0, none⟩ _).mono ?_
  rintro e u' w'' ⟨rfl, rfl, rfl⟩
  obtain ⟨w6, hw6⟩ : ∃ w6, w6 = ((w1.setCell ⟨w.heap.size, 0, none⟩ (.bool (decide (z < 0)))).setCell ⟨w.heap.size, 1, none⟩ (.slice A n n)).setCell ⟨w.heap.size + 1, 0, none⟩ (.int .i64 0) := ⟨_, rfl⟩
  rw [← hw6]
  obtain ⟨h1, h2, h3, h4⟩ := int_err_stored hk0 hk1 hne1 hrg hw6
  clear hw6 c0 c1 f0 f1 d0 e0 hk0 hk1
  obtain ⟨c0, c1, f0, f1⟩ := h1.two
  have d0 := h2.cell 0
  simp only [List.getElem?_toArray, List.getElem?_cons_zero] at d0
  refine ⟨.tuple #[intV z A n, .int .i64 0], by simp [results, Tryz.results25, go_sem, c0, c1, d0, intV], A, n, rfl, h3, hbe.trans (h4 _ (Nat.le_refl _) (by omega))⟩

theorem subFn_any (g1 g2 : Nat) (A B : Option Addr) (n m : Nat) (y z : Int) (w : World) (hb1 : Blk w g1 25 #[.bool (decide (y < 0)), .slice A n n]) (hb2 : Blk w g2 25 #[.bool (decide (z < 0)), .slice B m m])
    (h : Dg w A n y.natAbs) (k : Dg w B m z.natAbs) (hs : limbs (y - z).natAbs < 3345) (hn : n ≤ 100000000) (hm : m ≤ 100000000) :
    Calls Tryz.prog 29 #[.pointer (some ⟨g1, 0, none⟩), .pointer (some ⟨g2, 0, none⟩)] w (RetInt (y - z) w) := by
  have hres := Blk.new w 25 #[.bool false, .slice none 0 0]
  have hbel := below_new w (.cells #[.bool false, .slice none 0 0] 25)
  have hk1 := hb1.keep hbel
  have hk2 := hb2.keep hbel
  have ht := minus_any A B n m y z _ (h.below hbel) (k.below hbel) (by omega) (by omega)
  obtain ⟨c0, c1, f0, f1⟩ := hk1.two
  obtain ⟨d0, d1, e0, e1⟩ := hk2.two
  have Ht := Lib.hid ht
  have Hres := Lib.hid hres
  have Hbel := Lib.hid hbel
  have Hs := Lib.hid hs
  clear ht hres hbel h k hb1 hb2 hs
  unfold intV at Ht
  go_enter Tryz.func29, Tryz.ntmps29
  go_wp2_with fail
  refine Ht.out.mono ?_
  rintro e w1 ⟨A1, n1, rfl, hr1, hb1⟩
  have hkp := kept_short A1 n1 (y - z) w1 hr1 (by rw [← hr1.len]; exact Hs.out)
  have Hkp := Lib.hid hkp
  clear hkp Hs
  unfold intV
  unfold intV at Hkp
  generalize hq : y - z = q at *
  clear hq
  go_wp2_with fail
  refine Hkp.out.mono ?_
  rintro e w2 ⟨rfl, hr2, hb2⟩
  have hk0 := Hres.out.keep (hb1.and hb2)
  obtain ⟨z0, z1, y0, y1⟩ := hk0.two
  go_wp2_with fail
  exact ret_int_stored (z := q) rfl rfl rfl hk0 hr2 (Hbel.out.and (hb1.and hb2)) (Nat.le_refl _) rfl (fun w' h1 h2 => ⟨A1, n1, rfl, h1, h2⟩)

theorem intSub_any (A B : Option Addr) (n m : Nat) (y z : Int) (w : World)
    (h : Dg w A n y.natAbs) (k : Dg w B m z.natAbs) (hs : limbs (y - z).natAbs < 3345) (hn : n ≤ 100000000) (hm : m ≤ 100000000) :
    Calls Tryz.prog 6 #[intV y A n, intV z B m] w (RetIntOk (y - z) w) := by
  obtain ⟨W, hW, hb0, hb1, hres, hbel⟩ := three_new w 25 25 25 #[.bool (decide (y < 0)), .slice A n n] #[.bool (decide (z < 0)), .slice B m m] #[.bool false, .slice none 0 0]
  have hz := sizedInt_Sub #[.pointer (some ⟨w.heap.size, 0, none⟩), .pointer (some ⟨w.heap.size + 1, 0, none⟩)] (y - z) W
    (fun w' hw => subFn_any _ _ A B n m y z w' (hb0.keep hw) (hb1.keep hw) ((h.below hbel).below hw) ((k.below hbel).below hw) hs hn hm)
  have hmf : ∀ (fn : Fn) (first cap : Array Value) (w : World), (Instr.makeFunc fn first cap).run Tryz.prog w = .ok (.func fn first cap) w := fun _ _ _ _ => rfl
  have Hz := Lib.hid hz
  have HW := Lib.hid hW
  have Hres := Lib.hid hres
  have Hbel := Lib.hid hbel
  clear hz hW hres hbel hb0 hb1 h k hs
  generalize hq : y - z = q at *
  clear hq
  unfold intV
  go_enter Tryz.func6, Tryz.ntmps6
  go_wp2_with fail
  rw [← HW.out]
  refine Hz.out.mono ?_
  rintro e w1 ⟨A1, n1, rfl, hr1, hb1⟩
  have hk0 := Hres.out.keep hb1
  obtain ⟨z0, z1, y0, y1⟩ := hk0.two
  unfold intV
  go_wp2_with fail
  refine ret_int_err (z := q) (A := A1) (n := n1) (v := .int .i64 0) rfl rfl rfl rfl hk0 hr1 (Hbel.out.and hb1) (by omega) ?_
  exact fun w' h1 h2 => ⟨A1, n1, rfl, h1, h2⟩

theorem sizedInt_Mul (cap : Array Value) (z : Int) (w : World) (h : ∀ w', Below w.heap.size w w' → Calls Tryz.prog 31 cap w' (RetInt z w')) :
    Calls Tryz.prog 25 #[.func (Fn.func 31) #[] cap] w (RetIntOk z w) := by
  have hmf : ∀ (fn : Fn) (first cap : Array Value) (w : World), (Instr.makeFunc fn first cap).run Tryz.prog w = .ok (.func fn first cap) w := fun _ _ _ _ => rfl
  have Hh := Lib.hid h
  have hb0 := (Blk.new w 25 intZ).keep (below_new _ (.cells #[.int .i64 0] 32))
  have hb1 := Blk.new (w.alloc (.cells intZ 25)) 32 #[.int .i64 0]
  rw [size_new] at hb1
  have hbel := (below_new w (.cells intZ 25)).more (.cells #[.int .i64 0] 32)
  have Hb0 := Lib.hid hb0
  have Hb1 := Lib.hid hb1
  have Hbel := Lib.hid hbel
  clear h hb0 hb1 hbel
  go_enter_defers Tryz.func25, Tryz.ntmps25
  go_wp2_with fail
  refine (Hh.out _ Hbel.out).mono ?_
  rintro e w1 ⟨A, n, rfl, hrg, hb⟩
  have hk0 := Hb0.out.keep hb
  have hk1 := Hb1.out.keep hb
  have hbe := Hbel.out.and hb
  obtain ⟨c0, c1, f0, f1⟩ := hk0.two
  have d0 := hk1.cell 0
  have e0 := hk1.free 0
  simp only [List.getElem?_toArray, List.getElem?_cons_zero] at d0
  have hne1 : w.heap.size ≠ w.heap.size + 1 := by omega
  have hne2 : w.heap.size + 1 ≠ w.heap.size := by omega
  unfold intV
  go_wp2_with fail
  refine leaves_cons (f := 58) (args := #[.pointer (some ⟨w.heap.size, 0, none⟩), .pointer (some ⟨w.heap.size + 1, 0, none⟩)]) (by simp) (by simp [go_sem]) ?_
  refine (sizedInt_idle ⟨w.heap.size, 0, none⟩ ⟨w.heap.size + 1, 0, none⟩ _).mono ?_
  rintro e u' w'' ⟨rfl, rfl, rfl⟩
  obtain ⟨w6, hw6⟩ : ∃ w6, w6 = ((w1.setCell ⟨w.heap.size, 0, none⟩ (.bool (decide (z < 0)))).setCell ⟨w.heap.size, 1, none⟩ (.slice A n n)).setCell ⟨w.heap.size + 1, 0, none⟩ (.int .i64 0) := ⟨_, rfl⟩
  rw [← hw6]
  obtain ⟨h1, h2, h3, h4⟩ := int_err_stored hk0 hk1 hne1 hrg hw6
  clear hw6 c0 c1 f0 f1 d0 e0 hk0 hk1
  obtain ⟨c0, c1, f0, f1⟩ := h1.two
  have d0 := h2.cell 0
  simp only [List.getElem?_toArray, List.getElem?_cons_zero] at d0
  refine ⟨.tuple #[intV z A n, .int .i64 0], by simp [results, Tryz.results25, go_sem, c0, c1, d0, intV], A, n, rfl, h3, hbe.trans (h4 _ (Nat.le_refl _) (by omega))⟩

theorem mulFn_any (g1 g2 : Nat) (A B : Option Addr) (n m : Nat) (y z : Int) (w : World) (hb1 : Blk w g1 25 #[.bool (decide (y < 0)), .slice A n n]) (hb2 : Blk w g2 25 #[.bool (decide (z < 0)), .slice B m m])
    (h : Dg w A n y.natAbs) (k : Dg w B m z.natAbs) (hs : limbs (y * z).natAbs < 3345) (hn : n ≤ 100000000) (hm : m ≤ 100000000) :
    Calls Tryz.prog 31 #[.pointer (some ⟨g1, 0, none⟩), .pointer (some ⟨g2, 0, none⟩)] w (RetInt (y * z) w) := by
  have hres := Blk.new w 25 #[.bool false, .slice none 0 0]
  have hbel := below_new w (.cells #[.bool false, .slice none 0 0] 25)
  have hk1 := hb1.keep hbel
  have hk2 := hb2.keep hbel
  have ht := times_any A B n m y z _ (h.below hbel) (k.below hbel) (by omega) (by omega)
  obtain ⟨c0, c1, f0, f1⟩ := hk1.two
  obtain ⟨d0, d1, e0, e1⟩ := hk2.two
  have Ht := Lib.hid ht
  have Hres := Lib.hid hres
  have Hbel := Lib.hid hbel
  have Hs := Lib.hid hs
  clear ht hres hbel h k hb1 hb2 hs
  unfold intV at Ht
  go_enter Tryz.func31, Tryz.ntmps31
  go_wp2_with fail
  refine Ht.out.mono ?_
  rintro e w1 ⟨A1, n1, rfl, hr1, hb1⟩
  have hkp := kept_short A1 n1 (y * z) w1 hr1 (by rw [← hr1.len]; exact Hs.out)
  have Hkp := Lib.hid hkp
  clear hkp Hs
  unfold intV
  unfold intV at Hkp
  generalize hq : y * z = q at *
  clear hq
  go_wp2_with fail
  refine Hkp.out.mono ?_
  rintro e w2 ⟨rfl, hr2, hb2⟩
  have hk0 := Hres.out.keep (hb1.and hb2)
  obtain ⟨z0, z1, y0, y1⟩ := hk0.two
  go_wp2_with fail
  exact ret_int_stored (z := q) rfl rfl rfl hk0 hr2 (Hbel.out.and (hb1.and hb2)) (Nat.le_refl _) rfl (fun w' h1 h2 => ⟨A1, n1, rfl, h1, h2⟩)

theorem intMul_any (A B : Option Addr) (n m : Nat) (y z : Int) (w : World)
    (h : Dg w A n y.natAbs) (k : Dg w B m z.natAbs) (hs : limbs (y * z).natAbs < 3345) (hn : n ≤ 100000000) (hm : m ≤ 100000000) :
    Calls Tryz.prog 7 #[intV y A n, intV z B m] w (RetIntOk (y * z) w) := by
  obtain ⟨W, hW, hb0, hb1, hres, hbel⟩ := three_new w 25 25 25 #[.bool (decide (y < 0)), .slice A n n] #[.bool (decide (z < 0)), .slice B m m] #[.bool false, .slice none 0 0]
  have hz := sizedInt_Mul #[.pointer (some ⟨w.heap.size, 0, none⟩), .pointer (some ⟨w.heap.size + 1, 0, none⟩)] (y * z) W
    (fun w' hw => mulFn_any _ _ A B n m y z w' (hb0.keep hw) (hb1.keep hw) ((h.below hbel).below hw) ((k.below hbel).below hw) hs hn hm)
  have hmf : ∀ (fn : Fn) (first cap : Array Value) (w : World), (Instr.makeFunc fn first cap).run Tryz.prog w = .ok (.func fn first cap) w := fun _ _ _ _ => rfl
  have Hz := Lib.hid hz
  have HW := Lib.hid hW
  have Hres := Lib.hid hres
  have Hbel := Lib.hid hbel
  clear hz hW hres hbel hb0 hb1 h k hs
  generalize hq : y * z = q at *
  clear hq
  unfold intV
  go_enter Tryz.func7, Tryz.ntmps7
  go_wp2_with fail
  rw [← HW.out]
  refine Hz.out.mono ?_
  rintro e w1 ⟨A1, n1, rfl, hr1, hb1⟩
  have hk0 := Hres.out.keep hb1
  obtain ⟨z0, z1, y0, y1⟩ := hk0.two
  unfold intV
  go_wp2_with fail
  refine ret_int_err (z := q) (A := A1) (n := n1) (v := .int .i64 0) rfl rfl rfl rfl hk0 hr1 (Hbel.out.and hb1) (by omega) ?_
  exact fun w' h1 h2 => ⟨A1, n1, rfl, h1, h2⟩
end Go.Proofs.YtemcdnppgnobmaaGreatDoor

set_option linter.unusedVariables false
namespace Go.Proofs.YtemcdnppgnobmaaGreatDoor
open Go.RowKit

set_option maxRecDepth 100000 in
theorem isDecimal_ok (s : ByteArray) (w : World) (hne : 0 < s.size) (hsz : s.size ≤ 1000000) (hdig : ∀ j (h : j < s.size), 48 ≤ (s[j]'h).toNat ∧ (s[j]'h).toNat ≤ 57) (h0 : (s[0]'hne).toNat ≠ 48 ∨ s.toList = [48]) :
    Calls Tryz.prog 85 #[.string s] w (fun e w' => e = .returned (.bool true) ∧ w' = w) := by
  have hl : s.toList.length = s.size := by rw [ByteArray.toList_eq]; rfl
  go_enter Tryz.func85, Tryz.ntmps85
  go_wp2
  go_loopw [6] (fun i wr => ∃ j : Nat, j ≤ s.size ∧ i = .int .i64 j ∧ wr = w) (fun i _ => s.size - (intOf i).toNat)
  case atStart => exact ⟨0, Nat.zero_le _, rfl, rfl⟩
  case round =>
    obtain ⟨j, hj, rfl, rfl⟩ := hrel
    by_cases hjs : j < s.size
    · obtain ⟨c, hc⟩ : ∃ c, (s[j]'hjs).toNat = c := ⟨_, rfl⟩
      obtain ⟨hc1, hc2⟩ := hdig j hjs
      rw [hc] at hc1 hc2
      clear hdig h0
      go_wp2
      go_roundw
      case rel => exact ⟨j + 1, by omega, by go_num, trivial⟩
      case measure => simp [intOf] <;> omega
    · obtain rfl : j = s.size := by omega
      have hs0 : (s.toList == []) = false := by
        rw [beq_eq_false_iff_ne]
        intro e
        rw [e] at hl
        simp at hl
        omega
      obtain ⟨c, hc⟩ : ∃ c, (s[0]'hne).toNat = c := ⟨_, rfl⟩
      rw [hc] at h0
      clear hdig
      by_cases hc0 : c = 48
      · have hE : s.toList = [48] := h0.resolve_left (fun e => e hc0)
        clear h0
        go_wp2
        go_ret
        exact ⟨rfl, rfl⟩
      · clear h0
        go_wp2
        go_ret
        exact ⟨rfl, rfl⟩
theorem info_u32' : (Tryz.prog.info? 66).map (fun i => (i.zero, i.size, i.bytes)) = some (some (.int .u32 0), 1, 4) := by kernel_rfl

set_option maxRecDepth 100000 in
set_option maxHeartbeats 1600000 in
theorem read_any (x L : Nat) (s : ByteArray) (w : World) (hx : x < 10 ^ L) (hsz : s.size = L) (hL : L ≤ 1000000) (hdig : ∀ j (h : j < s.size), (s[j]'h).toNat = dig x (L - 1 - j)) :
    Calls Tryz.prog 86 #[.string s] w (fun e w' => ∃ A n, e = .returned (.slice A n n) ∧ Dg w' A n x ∧ Below w.heap.size w w') := by
  obtain ⟨i0, hi, hz0, hz1, hz2⟩ := info_parts info_u32'
  have hmk : ∀ W : World, (Instr.makeSlice 22 (.int .i64 0) (.int .i64 ((L : Int) / 9 + 1))).run Tryz.prog W = .ok (.slice (some ⟨W.heap.size, 0, none⟩) 0 (L / 9 + 1)) (W.alloc (.cells (cellsOf .u32 (List.replicate (L / 9 + 1) 0)) 66)) :=
    fun W => run_makeInts0 Tryz.underlying22 info_u32' (by omega) .i64 .i64 (L / 9 + 1) (by omega) W
  have Hx := Lib.hid hx
  clear hx
  go_enter Tryz.func86, Tryz.ntmps86
  go_wp2
  go_loopw [3, 4] (RdRel w x L) (fun _ e _ => (intOf e).toNat)
  case atStart =>
    refine ⟨0, by simp, by omega, [], own_made _ (by unfold maxLen; omega), Low.nil, by simp [ofL, Nat.mod_one], below_new _ _⟩
  case round =>
    obtain ⟨k, rfl, hk, xs, hown, hlow, hof, hbel⟩ := hrel
    have Hlen := Lib.hid (own_len hown)
    have Hof := Lib.hid hof
    have hszw := hbel.size
    clear hof hmk
    obtain ⟨E, hE⟩ : ∃ E : Nat, E = L - 9 * k := ⟨_, rfl⟩
    by_cases hend : 9 * k < L
    · have hEi : (L : Int) - 9 * k = E := by omega
      obtain ⟨S, hS⟩ : ∃ S : Nat, S = E - 9 := ⟨_, rfl⟩
      have hmax : max 0 ((E : Int) - 9) = S := by omega
      have hES : S ≤ E := by omega
      have hE9 : E ≤ S + 9 := by omega
      have hE0 : 0 < E := by omega
      have hEL : E ≤ L := by omega
      have HE := Lib.hid hE
      have HS := Lib.hid hS
      have Hend := Lib.hid hend
      rw [hEi]
      clear hE hS hend hEi
      go_upto_region 7 with fail
      obtain ⟨wo, hwo⟩ : ∃ wo : World, wo = wr := ⟨_, rfl⟩
      subst hwo
      go_loopw [5, 6] (fun v i wx => RdIn x L S E v i ∧ wx = wo) (fun _ i _ => E - (intOf i).toNat)
      case atStart => exact ⟨⟨S, Nat.le_refl _, hES, rfl, by rw [Nat.sub_self, Nat.pow_zero, Nat.mod_one]; rfl⟩, rfl⟩
      case round =>
        obtain ⟨⟨p, hp1, hp2, rfl, rfl⟩, rfl⟩ := hrel
        by_cases hpE : p < E
        · have hps : p < s.size := by omega
          have hc := hdig p hps
          have hc1 := dig_ge x (L - 1 - p)
          have hc2 := dig_lt x (L - 1 - p)
          have Hst := Lib.hid (RdIn.step x L S p (by omega) hp1)
          have hV := RdIn.bound x L S E p hpE hE9 hp1
          generalize dig x (L - 1 - p) = c at *
          generalize x / 10 ^ (L - p) % 10 ^ (p - S) = V at *
          clear hdig
          go_wp2
          go_roundw
          case rel => exact ⟨⟨p + 1, by omega, by omega, by go_num, congrArg (Value.int .u32) (by have := Hst.out; omega)⟩, trivial⟩
          case measure => simp [intOf] <;> omega
        · obtain rfl : p = E := by omega
          have hVe : Hid (x / 10 ^ (L - p) % 10 ^ (p - S) = x / 10 ^ (9 * k) % 10 ^ (min 9 (L - 9 * k))) := by
            have e1 := HE.out
            have e2 := HS.out
            have e3 := Hend.out
            show _ = _
            rw [show L - p = 9 * k by omega, show p - S = min 9 (L - 9 * k) by omega]
          generalize x / 10 ^ (L - p) % 10 ^ (p - S) = V at *
          clear hdig
          go_wp2_with (at_builtin; refine wpList_append_own _ rfl _ _ 22 rfl w.heap.size 66 i0 (.int .u32 0) 1 4 Tryz.underlying22 hi hz0 hz1 hz2 rfl (by decide) _ _ _ rfl (hown.alloc _) ⟨wr.heap.size, 0, none⟩ 1 1 [.int .u32 (V : Nat)] rfl rfl ?c1 ?c2 ?c3 ?c4 ?c5 ?_)
          case c1 => exact cell_one_new _ _ _
          case c2 => exact one_ofs _ rfl
          case c3 => unfold maxLen; omega
          case c4 => omega
          case c5 => simp; omega
          intro v' w1 hown' hgrow _
          have hb' := hbel.trans (own_below hown hszw hgrow)
          go_wp2
          go_roundw
          case rel => exact RdRel.next Hx.out Hend.out Hlen.out hown' hlow Hof.out hb' (congrArg (Value.int .u32) (by rw [hVe.out])) (congrArg (Value.int .i64) (by have := HE.out; have := Hend.out; omega))
          case measure => simp [intOf] <;> omega
    · have hEi : (L : Int) - 9 * k ≤ 0 := by omega
      have Hfin : Hid (ofL xs = x) := by
        have e1 := Hof.out
        rw [mod_all x L k Hx.out (by omega)] at e1
        exact e1
      obtain ⟨A1, c1, rfl, hc1, hs1, hf1⟩ := own_row hown (by omega)
      clear hdig hE
      go_wp2_with fail
      refine (cut_at A1 k c1 xs _ hs1 hlow hc1).mono ?_
      rintro e w1 ⟨A2, m, rfl, hd1, hb1, hm1⟩
      rw [Hfin.out] at hd1
      go_wp2
      go_ret
      exact ⟨A2, m, rfl, hd1, hbel.trans hb1.below⟩
theorem strL_digits (x : Nat) (j : Nat) (h : j < (strL (decL x)).size) : ((strL (decL x))[j]'h).toNat = dig x (dn x - 1 - j) := by
  have hj : j < dn x := by rw [strL_size, decL_length] at h; exact h
  have e := decL_get x j hj
  rw [strL_get _ _ h (by rw [e]; have := dig_lt x (dn x - 1 - j); omega), e]

/-- The letters of a number, as the walks read them. -/
structure Digs (s : ByteArray) (x : Nat) : Prop where
  size : s.size = dn x
  dig : ∀ j (h : j < s.size), (s[j]'h).toNat = dig x (dn x - 1 - j)
  one : x = 0 → s.toList = [48]
  two : 0 < x → (s.toList == [48]) = false
  none : (s.toList == []) = false
theorem digs_of (x : Nat) : Digs (strL (decL x)) x where
  size := by rw [strL_size, decL_length]
  dig := strL_digits x
  one h := by subst h; kernel_rfl
  two h := by rw [beq_eq_false_iff_ne]; exact fun e => strL_inj_zero h e
  none := by
    rw [beq_eq_false_iff_ne]
    intro e
    have h1 := congrArg List.length e
    rw [ByteArray.toList_eq] at h1
    have h2 : (strL (decL x)).data.toList.length = (strL (decL x)).size := rfl
    rw [h2, strL_size, decL_length] at h1
    have := dn_pos x
    simp at h1
    omega

theorem isDecimal_digs (s : ByteArray) (x : Nat) (w : World) (h : Digs s x) (hL : dn x ≤ 1000000) :
    Calls Tryz.prog 85 #[.string s] w (fun e w' => e = .returned (.bool true) ∧ w' = w) := by
  have hp := dn_pos x
  have hne : 0 < s.size := by rw [h.size]; exact hp
  refine isDecimal_ok s w hne (by rw [h.size]; exact hL) (fun j hj => ?_) ?_
  · rw [h.dig j hj]
    have h1 := dig_ge x (dn x - 1 - j)
    have h2 := dig_lt x (dn x - 1 - j)
    omega
  · rcases Nat.eq_zero_or_pos x with e | e
    · exact Or.inr (h.one e)
    · left
      have := decL_first e
      rw [decL_get x 0 hp] at this
      rw [h.dig 0 hne]
      exact this

theorem read_digs (s : ByteArray) (x : Nat) (w : World) (h : Digs s x) (hL : dn x ≤ 1000000) :
    Calls Tryz.prog 86 #[.string s] w (fun e w' => ∃ A n, e = .returned (.slice A n n) ∧ Dg w' A n x ∧ Below w.heap.size w w') :=
  read_any x (dn x) s w (lt_pow_dn x) h.size hL h.dig

/-- An integer and true. -/
def RetRead (z : Int) (w : World) (e : Ending) (w' : World) : Prop :=
  ∃ A n, e = .returned (.tuple #[intV z A n, .bool true]) ∧ Dg w' A n z.natAbs ∧ Below w.heap.size w w'

set_option maxRecDepth 100000 in
set_option maxHeartbeats 800000 in
theorem readInt_pos (s : ByteArray) (x : Nat) (w : World) (h : Digs s x) (hL : dn x ≤ 1000000) :
    Calls Tryz.prog 57 #[.string s] w (RetRead (x : Int) w) := by
  obtain ⟨W, hW⟩ : ∃ W, W = w.alloc (.cells intZ 25) := ⟨_, rfl⟩
  have hres : Blk W w.heap.size 25 intZ := by rw [hW]; exact Blk.new _ _ _
  have hbel : Below w.heap.size w W := by rw [hW]; exact below_new _ _
  have hp := dn_pos x
  have hne : 0 < s.size := by rw [h.size]; exact hp
  have h0 := h.dig 0 hne
  have h1 := dig_ge x (dn x - 1 - 0)
  have h2 := dig_lt x (dn x - 1 - 0)
  have hno := h.none
  have His := Lib.hid (fun X => isDecimal_digs s x X h hL)
  have Hre := Lib.hid (fun X => read_digs s x X h hL)
  have HW := Lib.hid hW
  have Hres := Lib.hid hres
  have Hbel := Lib.hid hbel
  generalize dig x (dn x - 1 - 0) = c at *
  have h45 : ((c : Int) == 45) = false := by rw [beq_eq_false_iff_ne]; omega
  clear hW hres hbel h hL hp
  unfold intZ at HW
  go_enter Tryz.func57, Tryz.ntmps57
  go_upto_region 1 with fail
  rw [← HW.out]
  clear HW
  go_wp2_with fail
  refine (His.out _).mono ?_
  rintro e w1 ⟨rfl, rfl⟩
  go_wp2_with fail
  refine (Hre.out _).mono ?_
  rintro e w2 ⟨A, n, rfl, hd, hb⟩
  have Hsi := Lib.hid (signed_any false A n x (x : Int) w2 hd rfl)
  unfold intV at Hsi
  go_wp2_with fail
  refine Hsi.out.mono ?_
  rintro e w3 ⟨rfl, hd3, hb3⟩
  have hr := Hres.out.keep (hb.and hb3)
  obtain ⟨z0, z1, y0, y1⟩ := hr.two
  go_wp2_with fail
  refine ret_int_err (z := (x : Int)) (A := A) (n := n) (v := .bool true) rfl rfl rfl rfl hr hd3 (Hbel.out.and (hb.and hb3)) (by omega) ?_
  exact fun w' h1 h2 => ⟨A, n, rfl, h1, h2⟩

set_option maxRecDepth 100000 in
set_option maxHeartbeats 1600000 in
theorem readInt_neg (s0 s : ByteArray) (x : Nat) (w : World) (h : Digs s x) (hL : dn x ≤ 1000000) (hx : 0 < x) (hs : s0.extract 1 s0.size = s) (h0 : 0 < s0.size) (hc : (s0[0]'h0).toNat = 45) (hn0 : (s0.toList == []) = false) (hsz : s0.size ≤ 2000000) (z : Int) (hz : z = -(x : Int)) :
    Calls Tryz.prog 57 #[.string s0] w (RetRead z w) := by
  obtain ⟨W, hW⟩ : ∃ W, W = w.alloc (.cells intZ 25) := ⟨_, rfl⟩
  have hres : Blk W w.heap.size 25 intZ := by rw [hW]; exact Blk.new _ _ _
  have hbel : Below w.heap.size w W := by rw [hW]; exact below_new _ _
  have htw := h.two hx
  have Hz := Lib.hid hz
  clear hz
  have His := Lib.hid (fun X => isDecimal_digs s x X h hL)
  have Hre := Lib.hid (fun X => read_digs s x X h hL)
  have HW := Lib.hid hW
  have Hres := Lib.hid hres
  have Hbel := Lib.hid hbel
  clear hW hres hbel h hL
  unfold intZ at HW
  go_enter Tryz.func57, Tryz.ntmps57
  go_upto_region 1 with fail
  rw [← HW.out]
  clear HW
  go_wp2_with fail
  refine (His.out _).mono ?_
  rintro e w1 ⟨rfl, rfl⟩
  go_wp2_with fail
  refine (Hre.out _).mono ?_
  rintro e w2 ⟨A, n, rfl, hd, hb⟩
  have Hsi := Lib.hid (signed_any true A n x z w2 hd (by rw [Hz.out]; rfl))
  unfold intV at Hsi
  go_wp2_with fail
  refine Hsi.out.mono ?_
  rintro e w3 ⟨rfl, hd3, hb3⟩
  have hr := Hres.out.keep (hb.and hb3)
  obtain ⟨z0, z1, y0, y1⟩ := hr.two
  go_wp2_with fail
  refine ret_int_err (z := z) (A := A) (n := n) (v := .bool true) rfl rfl rfl rfl hr hd3 (Hbel.out.and (hb.and hb3)) (by omega) ?_
  exact fun w' h1 h2 => ⟨A, n, rfl, h1, h2⟩
end Go.Proofs.YtemcdnppgnobmaaGreatDoor

set_option linter.unusedVariables false
namespace Go.Proofs.YtemcdnppgnobmaaGreatDoor
open Go.RowKit

theorem digs_size (x : Nat) (h : dn x ≤ 1000000) : (strL (decL x)).size ≤ 1000000 := by rw [(digs_of x).size]; exact h

theorem readInt_any (z : Int) (w : World) (hL : dn z.natAbs ≤ 1000000) :
    Calls Tryz.prog 57 #[.string (strL (decZ z))] w (RetRead z w) := by
  rcases Int.lt_or_le z 0 with hz | hz
  · have e : decZ z = 45 :: decL z.natAbs := by unfold decZ; rw [if_pos hz]; rfl
    have hsz : (strL (decZ z)).size = dn z.natAbs + 1 := by rw [strL_size, e, List.length_cons, decL_length]
    have h0 : 0 < (strL (decZ z)).size := by omega
    have hd : (strL (decZ z)).extract 1 (strL (decZ z)).size = strL (decL z.natAbs) := by rw [strL_drop, e]; rfl
    refine readInt_neg (strL (decZ z)) (strL (decL z.natAbs)) z.natAbs w (digs_of _) hL (by omega) hd h0 ?_ ?_ (by omega) z (by omega)
    · rw [strL_get _ _ _ (by rw [e]; show (45 : Nat) < 256; omega), e]; rfl
    · rw [beq_eq_false_iff_ne]
      intro e1
      have h1 := congrArg List.length e1
      rw [ByteArray.toList_eq] at h1
      have h2 : (strL (decZ z)).data.toList.length = (strL (decZ z)).size := rfl
      rw [h2, hsz] at h1
      simp at h1
  · have e : decZ z = decL z.natAbs := by unfold decZ; rw [if_neg (show ¬ z < 0 by omega)]; rfl
    have hz' : z = (z.natAbs : Int) := by omega
    rw [e]
    have := readInt_pos (strL (decL z.natAbs)) z.natAbs w (digs_of _) hL
    rw [← hz'] at this
    exact this

theorem sizedInt_kept (v : Value) (z : Int) (w : World) (h : ∀ w', Below w.heap.size w w' → Calls Tryz.prog 28 #[v] w' (RetInt z w')) :
    Calls Tryz.prog 25 #[.func (Fn.func 28) #[v] #[]] w (RetIntOk z w) := by
  have hmf : ∀ (fn : Fn) (first cap : Array Value) (w : World), (Instr.makeFunc fn first cap).run Tryz.prog w = .ok (.func fn first cap) w := fun _ _ _ _ => rfl
  have Hh := Lib.hid h
  have hb0 := (Blk.new w 25 intZ).keep (below_new _ (.cells #[.int .i64 0] 32))
  have hb1 := Blk.new (w.alloc (.cells intZ 25)) 32 #[.int .i64 0]
  rw [size_new] at hb1
  have hbel := (below_new w (.cells intZ 25)).more (.cells #[.int .i64 0] 32)
  have Hb0 := Lib.hid hb0
  have Hb1 := Lib.hid hb1
  have Hbel := Lib.hid hbel
  clear h hb0 hb1 hbel
  go_enter_defers Tryz.func25, Tryz.ntmps25
  go_wp2_with fail
  refine (Hh.out _ Hbel.out).mono ?_
  rintro e w1 ⟨A, n, rfl, hrg, hb⟩
  have hk0 := Hb0.out.keep hb
  have hk1 := Hb1.out.keep hb
  have hbe := Hbel.out.and hb
  obtain ⟨c0, c1, f0, f1⟩ := hk0.two
  have d0 := hk1.cell 0
  have e0 := hk1.free 0
  simp only [List.getElem?_toArray, List.getElem?_cons_zero] at d0
  have hne1 : w.heap.size ≠ w.heap.size + 1 := by omega
  have hne2 : w.heap.size + 1 ≠ w.heap.size := by omega
  unfold intV
  go_wp2_with fail
  refine leaves_cons (f := 58) (args := #[.pointer (some ⟨w.heap.size, 0, none⟩), .pointer (some ⟨w.heap.size + 1, 0, none⟩)]) (by simp) (by simp [go_sem]) ?_
  refine (sizedInt_idle ⟨w.heap.size, 0, none⟩ ⟨w.heap.size + 1, 0, none⟩ _).mono ?_
  rintro e u' w'' ⟨rfl, rfl, rfl⟩
  obtain ⟨w6, hw6⟩ : ∃ w6, w6 = ((w1.setCell ⟨w.heap.size, 0, none⟩ (.bool (decide (z < 0)))).setCell ⟨w.heap.size, 1, none⟩ (.slice A n n)).setCell ⟨w.heap.size + 1, 0, none⟩ (.int .i64 0) := ⟨_, rfl⟩
  rw [← hw6]
  obtain ⟨h1, h2, h3, h4⟩ := int_err_stored hk0 hk1 hne1 hrg hw6
  clear hw6 c0 c1 f0 f1 d0 e0 hk0 hk1
  obtain ⟨c0, c1, f0, f1⟩ := h1.two
  have d0 := h2.cell 0
  simp only [List.getElem?_toArray, List.getElem?_cons_zero] at d0
  refine ⟨.tuple #[intV z A n, .int .i64 0], by simp [results, Tryz.results25, go_sem, c0, c1, d0, intV], A, n, rfl, h3, hbe.trans (h4 _ (Nat.le_refl _) (by omega))⟩

theorem decZ_len (z : Int) (n : Nat) (h : limbs z.natAbs = n) : (decZ z).length ≤ 9 * n + 2 ∧ dn z.natAbs ≤ 9 * n + 1 := by
  have h1 := dn_le z.natAbs
  unfold decZ
  rw [List.length_append, decL_length]
  rw [h] at h1
  constructor
  · split <;> simp <;> omega
  · omega

set_option maxRecDepth 100000 in
set_option maxHeartbeats 1600000 in
theorem parseInt_any (z : Int) (w : World) (hz : limbs z.natAbs ≤ 3000) :
    Calls Tryz.prog 23 #[.string (strL (decZ z))] w (RetIntOk z w) := by
  obtain ⟨W, hW⟩ : ∃ W, W = w.alloc (.cells intZ 25) := ⟨_, rfl⟩
  have hres : Blk W w.heap.size 25 intZ := by rw [hW]; exact Blk.new _ _ _
  have hbel : Below w.heap.size w W := by rw [hW]; exact below_new _ _
  have hmf : ∀ (fn : Fn) (first cap : Array Value) (w : World), (Instr.makeFunc fn first cap).run Tryz.prog w = .ok (.func fn first cap) w := fun _ _ _ _ => rfl
  obtain ⟨l1, l2⟩ := decZ_len z _ rfl
  have Hrd := Lib.hid (fun X => readInt_any z X (by omega))
  have hsz : (strL (decZ z)).size ≤ 35000 := by rw [strL_size]; omega
  have Hz := Lib.hid hz
  have HW := Lib.hid hW
  have Hres := Lib.hid hres
  have Hbel := Lib.hid hbel
  clear hW hres hbel l1 l2 hz
  unfold intZ at HW
  generalize strL (decZ z) = s at *
  go_enter Tryz.func23, Tryz.ntmps23
  go_upto_region 1 with fail
  rw [← HW.out]
  clear HW
  go_wp2_with fail
  refine (Hrd.out _).mono ?_
  rintro e w1 ⟨A, n, rfl, hd, hb⟩
  have hn : n < 3345 := by rw [← hd.len]; have := Hz.out; omega
  have Hkp := Lib.hid (fun X (hX : Below w1.heap.size w1 X) => kept_short A n z X (hd.below hX) hn)
  have Hszd := Lib.hid (fun X (hX : Below w1.heap.size w1 X) => sizedInt_kept (intV z A n) z X (fun w' hw => (kept_short A n z w' ((hd.below hX).below hw) hn).mono (fun e w'' ⟨h1, h2, h3⟩ => ⟨A, n, h1, h2, h3⟩)))
  clear Hrd Hkp hn
  unfold intV at Hszd ⊢
  go_upto_region 4 with fail
  obtain ⟨W1, hW1⟩ : ∃ W1, W1 = w1.alloc (.cells #[.bool (decide (z < 0)), .slice A n n] 25) := ⟨_, rfl⟩
  have hk1 : Blk W1 w1.heap.size 25 #[.bool (decide (z < 0)), .slice A n n] := by rw [hW1]; exact Blk.new _ _ _
  have hb1' : Below w1.heap.size w1 W1 := by rw [hW1]; exact below_new _ _
  rw [← hW1]
  obtain ⟨c0, c1, -, -⟩ := hk1.two
  have Hszd1 := Lib.hid (Hszd.out _ hb1')
  clear hW1 Hszd
  go_wp2_with fail
  refine Hszd1.out.mono ?_
  rintro e w2 ⟨A2, n2, rfl, hd2, hb2⟩
  have hr := Hres.out.keep (hb.and (hb1'.and hb2))
  obtain ⟨z0, z1, y0, y1⟩ := hr.two
  unfold intV
  go_wp2_with fail
  refine ret_int_err (z := z) (A := A2) (n := n2) (v := .int .i64 0) rfl rfl rfl rfl hr hd2 (Hbel.out.and (hb.and (hb1'.and hb2))) (by omega) ?_
  exact fun w' h1 h2 => ⟨A2, n2, rfl, h1, h2⟩

set_option maxRecDepth 100000 in
theorem intGcd_any (y z : Int) (A B : Option Addr) (n m : Nat) (w : World) (h : Dg w A n y.natAbs) (k : Dg w B m z.natAbs) (hn9 : n ≤ 1000000000) (hm9 : m ≤ 1000000000) :
    Calls Tryz.prog 14 #[intV y A n, intV z B m] w (RetInt (Nat.gcd y.natAbs z.natAbs : Nat) w) := by
  obtain ⟨W, hW, hb0, hb1, hb2, hbel⟩ := three_new w 25 25 25 #[.bool (decide (y < 0)), .slice A n n] #[.bool (decide (z < 0)), .slice B m m] intZ
  have hgc := gcd_any A B n m _ _ W (h.below hbel) (k.below hbel) (by omega) (by omega)
  obtain ⟨c0, c1, f0, f1⟩ := hb0.two
  obtain ⟨d0, d1, e0, e1⟩ := hb1.two
  have Hgc := Lib.hid hgc
  have HW := Lib.hid hW
  have Hbel := Lib.hid hbel
  clear hgc hW hbel h k
  unfold intZ at HW
  unfold intV
  go_enter Tryz.func14, Tryz.ntmps14
  go_upto_region 1 with fail
  rw [← HW.out]
  clear HW
  go_wp2_with fail
  refine Hgc.out.mono ?_
  rintro e w1 ⟨G, g, rfl, hd, hb⟩
  have hin := signed_any false G g _ ((Nat.gcd y.natAbs z.natAbs : Nat) : Int) w1 hd rfl
  have Hin := Lib.hid hin
  clear hin
  unfold intV at Hin
  go_wp2_with fail
  refine Hin.out.mono ?_
  rintro e w2 ⟨rfl, hd2, hbb⟩
  have hr := hb2.keep (hb.and hbb)
  obtain ⟨z0, z1, y0, y1⟩ := hr.two
  go_wp2_with fail
  exact ret_int_stored (z := ((Nat.gcd y.natAbs z.natAbs : Nat) : Int)) rfl rfl rfl hr hd2 (Hbel.out.and (hb.and hbb)) (by omega) rfl (fun w' h1 h2 => ⟨G, g, rfl, h1, h2⟩)
end Go.Proofs.YtemcdnppgnobmaaGreatDoor
