/-
  The walk of frac's sized, of fractions that stay small.
  The walks of frac's Mul of fractions that stay small.
  The walks of frac's Quo and Make of fractions that stay small.
  The walk of frac's Quo of fractions that stay small.
  The walk of frac's Make.
-/
import Derived.Test.YtemcdnppgnobmaaGreatDoorRat4
import Derived.Defers
import Derived.Recover
set_option linter.unusedVariables false
namespace Go.Proofs.YtemcdnppgnobmaaGreatDoor
open Go.RowKit

theorem sizedRat_idle (a b : Addr) (w : World) :
    CallsD Tryz.prog 98 #[.pointer (some a), .pointer (some b)] .returning w fun e u' w' => e = .returned (.tuple #[]) ∧ u' = .returning ∧ w' = w := by
  refine callsD_of_wpS Tryz.func98 rfl fun c₀ cs hu => ?_
  apply wpS_seq
  apply wpS_region
  simp [wpOpsS, go_sem, recoverD, hu, Tryz.ntmps98, Exit.thenS]
  refine wpS_cond (t := false) (by simp [Act.eval, Array.replicate]) ?_
  simp only [Bool.false_eq_true, if_false]
  refine wpS_of_wp (wp_skip ?_)
  cases c₀
  simp_all [bodyPostS, results, Tryz.results98]

/-- A fraction and an error are stored into their cells. -/
theorem rat_err_stored {w1 w6 : World} {g k n m : Nat} {A B : Option Addr} {r : Rat} {v : Int} (hb : Blk w1 g 68 ratZ) (hk : Blk w1 k 32 #[.int .i64 0]) (hgk : g ≠ k) (hr : Rg w1 A n B m r)
    (hw : w6 = (((w1.setCell ⟨g, 0, none⟩ (.bool (decide (r.num < 0)))).setCell ⟨g, 1, none⟩ (.slice A n n)).setCell ⟨g, 2, none⟩ (.slice B m m)).setCell ⟨k, 0, none⟩ (.int .i64 v)) :
    Blk w6 g 68 (ratC r A n B m) ∧ Blk w6 k 32 #[.int .i64 v] ∧ Rg w6 A n B m r ∧ ∀ b, b ≤ g → b ≤ k → Below b w1 w6 := by
  subst hw
  have ho := (((Only.refl g w1).setCell 0 (.bool (decide (r.num < 0)))).setCell 1 (.slice A n n)).setCell 2 (.slice B m m)
  have hb' := Blk.set3 hb (.bool (decide (r.num < 0))) (.slice A n n) (.slice B m m)
  have hk' := ho.blk (Ne.symm hgk) hk
  have hr' : Rg _ A n B m r := ⟨hr.num.only ho hb ratZ_free, hr.den.only ho hb ratZ_free⟩
  have ho2 := (Only.refl k (((w1.setCell ⟨g, 0, none⟩ (.bool (decide (r.num < 0)))).setCell ⟨g, 1, none⟩ (.slice A n n)).setCell ⟨g, 2, none⟩ (.slice B m m))).setCell 0 (.int .i64 v)
  have hfree : ∀ (i : Nat) (z : Int), (#[Value.int .i64 0] : Array Value)[i]? ≠ some (Value.int .u32 z) := by
    intro i z
    match i with
    | 0 => simp
    | i + 1 => simp
  refine ⟨ho2.blk hgk hb', ?_, ⟨hr'.num.only ho2 hk' hfree, hr'.den.only ho2 hk' hfree⟩, fun b h1 h2 => (ho.below h1).trans (ho2.below h2)⟩
  have := hk'.store 0 (.int .i64 v)
  simpa using this

/-- A fraction and OK. -/
def RetRatOk (r : Rat) (w : World) (e : Ending) (w' : World) : Prop :=
  ∃ A n B m, e = .returned (.tuple #[ratV r A n B m, .int .i64 0]) ∧ Rg w' A n B m r ∧ Below w.heap.size w w'

theorem sizedRat_ok (cap : Array Value) (r : Rat) (w : World) (h : ∀ w', Below w.heap.size w w' → Calls Tryz.prog 117 cap w' (RetRat r w')) :
    Calls Tryz.prog 74 #[.func (Fn.func 117) #[] cap] w (RetRatOk r w) := by
  have hmf : ∀ (fn : Fn) (first cap : Array Value) (w : World), (Instr.makeFunc fn first cap).run Tryz.prog w = .ok (.func fn first cap) w := fun _ _ _ _ => rfl
  have Hh := Lib.hid h
  have hb0 := (Blk.new w 68 ratZ).keep (below_new _ (.cells #[.int .i64 0] 32))
  have hb1 := Blk.new (w.alloc (.cells ratZ 68)) 32 #[.int .i64 0]
  rw [size_new] at hb1
  have hbel := (below_new w (.cells ratZ 68)).more (.cells #[.int .i64 0] 32)
  have Hb0 := Lib.hid hb0
  have Hb1 := Lib.hid hb1
  have Hbel := Lib.hid hbel
  clear h hb0 hb1 hbel
  go_enter_defers Tryz.func74, Tryz.ntmps74
  go_wp2_with fail
  refine (Hh.out _ Hbel.out).mono ?_
  rintro e w1 ⟨A, n, B, m, rfl, hrg, hb⟩
  have hk0 := Hb0.out.keep hb
  have hk1 := Hb1.out.keep hb
  have hbe := Hbel.out.and hb
  obtain ⟨c0, c1, c2, f0, f1, f2⟩ := hk0.three
  have d0 := hk1.cell 0
  have e0 := hk1.free 0
  simp only [List.getElem?_toArray, List.getElem?_cons_zero] at d0
  have hne1 : w.heap.size ≠ w.heap.size + 1 := by omega
  have hne2 : w.heap.size + 1 ≠ w.heap.size := by omega
  unfold ratV
  go_wp2_with fail
  refine leaves_cons (f := 98) (args := #[.pointer (some ⟨w.heap.size, 0, none⟩), .pointer (some ⟨w.heap.size + 1, 0, none⟩)]) (by simp) (by simp [go_sem]) ?_
  refine (sizedRat_idle ⟨w.heap.size, 0, none⟩ ⟨w.heap.size + 1, 0, none⟩ _).mono ?_
  rintro e u' w'' ⟨rfl, rfl, rfl⟩
  obtain ⟨w6, hw6⟩ : ∃ w6, w6 = (((w1.setCell ⟨w.heap.size, 0, none⟩ (.bool (decide (r.num < 0)))).setCell ⟨w.heap.size, 1, none⟩ (.slice A n n)).setCell ⟨w.heap.size, 2, none⟩ (.slice B m m)).setCell ⟨w.heap.size + 1, 0, none⟩ (.int .i64 0) := ⟨_, rfl⟩
  rw [← hw6]
  obtain ⟨h1, h2, h3, h4⟩ := rat_err_stored hk0 hk1 hne1 hrg hw6
  clear hw6 c0 c1 c2 f0 f1 f2 d0 e0 hk0 hk1
  obtain ⟨c0, c1, c2, f0, f1, f2⟩ := h1.three
  have d0 := h2.cell 0
  simp only [List.getElem?_toArray, List.getElem?_cons_zero] at d0
  refine ⟨.tuple #[ratV r A n B m, .int .i64 0], by simp [results, Tryz.results74, go_sem, c0, c1, c2, d0, ratV], A, n, B, m, rfl, h3, hbe.trans (h4 _ (Nat.le_refl _) (by omega))⟩
end Go.Proofs.YtemcdnppgnobmaaGreatDoor

namespace Go.Proofs.YtemcdnppgnobmaaGreatDoor
open Go.RowKit

/-- Both parts have fewer digits than the limit. -/
def Short (r : Rat) : Prop := limbs r.num.natAbs < 3345 ∧ limbs r.den < 3345

theorem Short.num {w : World} {A B : Option Addr} {n m : Nat} {r : Rat} (h : Short r) (k : Rg w A n B m r) : n < 3345 := by rw [← k.num.len]; exact h.1
theorem Short.den {w : World} {A B : Option Addr} {n m : Nat} {r : Rat} (h : Short r) (k : Rg w A n B m r) : m < 3345 := by
  rw [← k.den.len]
  unfold denN
  split
  · rw [limbs_zero]; omega
  · exact h.2

/-- A fraction is stored into the cell of the result, and returned with an error that lies in a slot. -/
theorem ret_rat_err {fn : Func} {R : Ending → World → Prop} {a : Act} {w w1 : World} {s t g n m : Nat} {A B : Option Addr} {r : Rat} {v : Value}
    (hf : fn.results = #[.cell s 68, .tmp t]) (h4 : a.tmps[s]? = some (.pointer (some ⟨g, 0, none⟩))) (h5 : a.tmps[t]? = some v) (hd : a.defers = [])
    (hb : Blk w1 g 68 ratZ) (hdg : Rg w1 A n B m r) (hbel : Below w.heap.size w w1) (hg : w.heap.size ≤ g)
    (hR : ∀ w', Rg w' A n B m r → Below w.heap.size w w' → R (.returned (.tuple #[ratV r A n B m, v])) w') :
    bodyPost Tryz.prog fn R .ret a (((w1.setCell ⟨g, 0, none⟩ (.bool (decide (r.num < 0)))).setCell ⟨g, 1, none⟩ (.slice A n n)).setCell ⟨g, 2, none⟩ (.slice B m m)) := by
  have ho := (((Only.refl g w1).setCell 0 (.bool (decide (r.num < 0)))).setCell 1 (.slice A n n)).setCell 2 (.slice B m m)
  have hbb := Blk.set3 hb (.bool (decide (r.num < 0))) (.slice A n n) (.slice B m m)
  have c0 := hbb.cell 0
  have c1 := hbb.cell 1
  have c2 := hbb.cell 2
  have hrg : Rg _ A n B m r := ⟨hdg.num.only ho hb ratZ_free, hdg.den.only ho hb ratZ_free⟩
  have hbe := hbel.trans (ho.below hg)
  generalize (((w1.setCell ⟨g, 0, none⟩ (.bool (decide (r.num < 0)))).setCell ⟨g, 1, none⟩ (.slice A n n)).setCell ⟨g, 2, none⟩ (.slice B m m)) = w6 at *
  exact bodyPost_ret (v := .tuple #[ratV r A n B m, v]) (by simp [results, hf, go_sem, c0, c1, c2, h4, h5, ratV]) hd (hR _ hrg hbe)

theorem mulFunc_any (g1 g2 : Nat) (A B C D : Option Addr) (n m c d : Nat) (r s : Rat) (w : World) (hb1 : Blk w g1 68 (ratC r A n B m)) (hb2 : Blk w g2 68 (ratC s C c D d))
    (h : Rg w A n B m r) (k : Rg w C c D d s) (hs : Short (r * s)) (hn : n ≤ 1000000000) (hm : m ≤ 1000000000) (hc : c ≤ 1000000000) (hd : d ≤ 1000000000) :
    Calls Tryz.prog 117 #[.pointer (some ⟨g1, 0, none⟩), .pointer (some ⟨g2, 0, none⟩)] w (RetRat (r * s) w) := by
  have hres := Blk.new w 68 #[.bool false, .slice none 0 0, .slice none 0 0]
  have hbel := below_new w (.cells #[.bool false, .slice none 0 0, .slice none 0 0] 68)
  have hk1 := hb1.keep hbel
  have hk2 := hb2.keep hbel
  have ht := ratTimes_any A B C D n m c d r s _ (h.below hbel) (k.below hbel) hn hm hc hd
  obtain ⟨c0, c1, c2, f0, f1, f2⟩ := hk1.three
  obtain ⟨d0, d1, d2, e0, e1, e2⟩ := hk2.three
  have Ht := Lib.hid ht
  have Hres := Lib.hid hres
  have Hbel := Lib.hid hbel
  have Hs := Lib.hid hs
  clear ht hres hbel h k hb1 hb2 hs
  unfold ratV at Ht
  go_enter Tryz.func117, Tryz.ntmps117
  go_wp2_with fail
  refine Ht.out.mono ?_
  rintro e w1 ⟨A1, n1, B1, m1, rfl, hr1, hb1⟩
  have hkp := ratKept_short A1 B1 n1 m1 (r * s) w1 hr1 (Hs.out.num hr1) (Hs.out.den hr1)
  have Hkp := Lib.hid hkp
  clear hkp
  unfold ratV
  unfold ratV at Hkp
  generalize hq : r * s = q at *
  clear hq
  go_wp2_with fail
  refine Hkp.out.mono ?_
  rintro e w2 ⟨rfl, hr2, hb2⟩
  have hk0 := Hres.out.keep (hb1.and hb2)
  obtain ⟨z0, z1, z2, y0, y1, y2⟩ := hk0.three
  go_wp2_with fail
  refine ret_rat_stored (r := q) (A := A1) (n := n1) (B := B1) (m := m1) rfl rfl rfl hk0 hr2 (Hbel.out.and (hb1.and hb2)) (Nat.le_refl _) rfl ?_
  exact fun w' h1 h2 => ⟨A1, n1, B1, m1, rfl, h1, h2⟩

theorem mul_any (A B C D : Option Addr) (n m c d : Nat) (r s : Rat) (w : World)
    (h : Rg w A n B m r) (k : Rg w C c D d s) (hs : Short (r * s)) (hn : n ≤ 1000000000) (hm : m ≤ 1000000000) (hc : c ≤ 1000000000) (hd : d ≤ 1000000000) :
    Calls Tryz.prog 97 #[ratV r A n B m, ratV s C c D d] w (RetRatOk (r * s) w) := by
  obtain ⟨W, hW, hb0, hb1, hres, hbel⟩ := three_new w 68 68 68 #[.bool (decide (r.num < 0)), .slice A n n, .slice B m m] #[.bool (decide (s.num < 0)), .slice C c c, .slice D d d] #[.bool false, .slice none 0 0, .slice none 0 0]
  have hz := sizedRat_ok #[.pointer (some ⟨w.heap.size, 0, none⟩), .pointer (some ⟨w.heap.size + 1, 0, none⟩)] (r * s) W
    (fun w' hw => mulFunc_any _ _ A B C D n m c d r s w' (hb0.keep hw) (hb1.keep hw) ((h.below hbel).below hw) ((k.below hbel).below hw) hs hn hm hc hd)
  have hmf : ∀ (fn : Fn) (first cap : Array Value) (w : World), (Instr.makeFunc fn first cap).run Tryz.prog w = .ok (.func fn first cap) w := fun _ _ _ _ => rfl
  have Hz := Lib.hid hz
  have HW := Lib.hid hW
  have Hres := Lib.hid hres
  have Hbel := Lib.hid hbel
  clear hz hW hres hbel hb0 hb1 h k hs
  generalize hq : r * s = q at *
  clear hq
  unfold ratV
  go_enter Tryz.func97, Tryz.ntmps97
  go_wp2_with fail
  rw [← HW.out]
  refine Hz.out.mono ?_
  rintro e w1 ⟨A1, n1, B1, m1, rfl, hr1, hb1⟩
  have hk0 := Hres.out.keep hb1
  obtain ⟨z0, z1, z2, y0, y1, y2⟩ := hk0.three
  unfold ratV
  go_wp2_with fail
  refine ret_rat_err (r := q) (A := A1) (n := n1) (B := B1) (m := m1) (v := .int .i64 0) rfl rfl rfl rfl hk0 hr1 (Hbel.out.and hb1) (by omega) ?_
  exact fun w' h1 h2 => ⟨A1, n1, B1, m1, rfl, h1, h2⟩
end Go.Proofs.YtemcdnppgnobmaaGreatDoor

namespace Go.Proofs.YtemcdnppgnobmaaGreatDoor
open Go.RowKit

theorem inv_parts (s : Rat) (h : s.num ≠ 0) : (s⁻¹).num = (if decide (s.num < 0) then -(s.den : Int) else s.den) ∧ (s⁻¹).den = s.num.natAbs := by
  show (Rat.inv s).num = _ ∧ (Rat.inv s).den = _
  rw [Rat.inv]
  by_cases h1 : s.num < 0
  · simp [h1]
  · have h2 : 0 < s.num := by omega
    simp [h1, h2]

/-- A fraction and an error. -/
def RetRatErr (r : Rat) (v : Int) (w : World) (e : Ending) (w' : World) : Prop :=
  ∃ A n B m, e = .returned (.tuple #[ratV r A n B m, .int .i64 v]) ∧ Rg w' A n B m r ∧ Below w.heap.size w w'

theorem Rg.zero (w : World) : Rg w none 0 none 0 0 := ⟨Sl.nil, Sl.nil⟩

theorem quo_zero (A B C D : Option Addr) (n m c d : Nat) (r s : Rat) (w : World) (k : Rg w C c D d s) (hz : s.num = 0) :
    Calls Tryz.prog 73 #[ratV r A n B m, ratV s C c D d] w (RetRatErr 0 6 w) := by
  obtain ⟨W, hW, hb0, hb1, hres, hbel⟩ := three_new w 68 68 68 #[.bool (decide (r.num < 0)), .slice A n n, .slice B m m] #[.bool (decide (s.num < 0)), .slice C c c, .slice D d d] #[.bool false, .slice none 0 0, .slice none 0 0]
  have hs := ratSign_any C D c d s W (k.below hbel)
  rw [hz] at hs
  obtain ⟨d0, d1, d2, e0, e1, e2⟩ := hb1.three
  have Hs := Lib.hid hs
  have HW := Lib.hid hW
  have Hres := Lib.hid hres
  have Hbel := Lib.hid hbel
  clear hs hW hres hbel hb0 hb1 k hz
  unfold ratV
  unfold ratV at Hs
  go_enter Tryz.func73, Tryz.ntmps73
  go_upto_region 1 with fail
  rw [← HW.out]
  go_wp2_with fail
  refine Hs.out.mono ?_
  rintro e w1 ⟨rfl, hb1⟩
  have hk0 := Hres.out.keep hb1
  obtain ⟨z0, z1, z2, y0, y1, y2⟩ := hk0.three
  go_wp2_with fail
  refine ret_rat_err (r := 0) (A := none) (n := 0) (B := none) (m := 0) (v := .int .i64 6) rfl rfl rfl rfl hk0 (Rg.zero _) (Hbel.out.and hb1) (by omega) ?_
  exact fun w' h1 h2 => ⟨none, 0, none, 0, rfl, h1, h2⟩
end Go.Proofs.YtemcdnppgnobmaaGreatDoor

namespace Go.Proofs.YtemcdnppgnobmaaGreatDoor
open Go.RowKit

set_option maxRecDepth 100000 in
set_option maxHeartbeats 1600000 in
theorem quo_any (A B C D : Option Addr) (n m c d : Nat) (r s : Rat) (w : World) (h : Rg w A n B m r) (k : Rg w C c D d s) (hs0 : s.num ≠ 0) (hsm : Short (r * s⁻¹))
    (hn : n ≤ 100000000) (hm : m ≤ 100000000) (hc : c ≤ 100000000) (hd : d ≤ 100000000) :
    Calls Tryz.prog 73 #[ratV r A n B m, ratV s C c D d] w (RetRatOk (r * s⁻¹) w) := by
  obtain ⟨W, hW, hb0, hb1, hres, hbel⟩ := three_new w 68 68 68 #[.bool (decide (r.num < 0)), .slice A n n, .slice B m m] #[.bool (decide (s.num < 0)), .slice C c c, .slice D d d] #[.bool false, .slice none 0 0, .slice none 0 0]
  have hT : T2 w r s A B C D n m c d W := ⟨hb0, hb1, hres, h.below hbel, k.below hbel, hbel⟩
  obtain ⟨hinv, hind⟩ := inv_parts s hs0
  have hsg := ratSign_any C D c d s W hT.r1
  have hsne : (s.num.sign == 0) = false := by
    rw [beq_eq_false_iff_ne]
    intro e
    exact hs0 (Int.sign_eq_zero_iff_zero.1 e)
  obtain ⟨z, hz⟩ : ∃ z, z = (s⁻¹).num := ⟨_, rfl⟩
  have hl : ∀ X, T2 w r s A B C D n m c d X → Calls Tryz.prog 96 #[ratV s C c D d] X (RetVal s.den X) := fun X hX => lower_any C D c d s X hX.r1
  have hsi : ∀ X L l, Dg X L l s.den → Calls Tryz.prog 41 #[.bool (decide (s.num < 0)), .slice L l l] X (fun e w' => e = .returned (intV z L l) ∧ Dg w' L l z.natAbs ∧ Below X.heap.size X w') :=
    fun X L l hL => signed_any (decide (s.num < 0)) L l s.den z X hL (by rw [hz, hinv])
  have hlw : ∀ X L l, T2 w r s A B C D n m c d X → Dg X L l z.natAbs → Calls Tryz.prog 95 #[intV z L l, .slice C c c] X (RetRat s⁻¹ X) :=
    fun X L l hX hL => lowest_any L C l c s.num.natAbs z s⁻¹ X hL hX.r1.num hz.symm hind
  have hmu : ∀ X E e F f, T2 w r s A B C D n m c d X → Rg X E e F f s⁻¹ → Calls Tryz.prog 97 #[ratV r A n B m, ratV s⁻¹ E e F f] X (RetRatOk (r * s⁻¹) X) := by
    intro X E e F f hX hE
    have h1 : e ≤ d + 1 := by
      have e1 : (s⁻¹).num.natAbs = s.den := by rw [hinv]; split <;> simp
      have := hE.num
      rw [e1] at this
      exact len_lower hX.r1.den this
    have h2 : f ≤ c + 1 := by
      have e1 := hE.den.len
      have e2 := hX.r1.num.len
      rw [← hind] at e2
      unfold denN at e1
      split at e1
      · rw [limbs_zero] at e1; omega
      · omega
    exact mul_any A B E F n m e f r s⁻¹ X hX.r0 hE hsm (by omega) (by omega) (by omega) (by omega)
  have Hsg := Lib.hid hsg
  have HW := Lib.hid hW
  have Hl := Lib.hid hl
  have Hsi := Lib.hid hsi
  have Hlw := Lib.hid hlw
  have Hmu := Lib.hid hmu
  have Hsne := Lib.hid hsne
  clear hsg hW hbel hb0 hb1 hres h k hl hsi hlw hmu hs0 hsm hinv hind hz
  obtain ⟨c0, c1, c2, d0, d1, d2⟩ := hT.cells
  unfold ratV at Hl Hmu Hsg
  unfold intV at Hsi Hlw
  unfold ratV
  generalize hq : r * s⁻¹ = q at *
  generalize hx : s⁻¹ = x at *
  clear hq hx
  go_enter Tryz.func73, Tryz.ntmps73
  go_upto_region 1 with fail
  rw [← HW.out]
  clear HW
  go_wp2_with fail
  refine Hsg.out.mono ?_
  rintro e w1 ⟨rfl, hb1⟩
  have hT1 := hT.keep hb1
  clear hb1 Hsg c0 c1 c2 d0 d1 d2 hT
  obtain ⟨c0, c1, c2, d0, d1, d2⟩ := hT1.cells
  go_upto_region 3 with fail
  go_cut [6] (fun s6 wx => T2 w r s A B C D n m c d wx ∧ Rb w x s6 wx)
  case first =>
    go_region_held3 (fun w' => w'.cell? ⟨w.heap.size, 0, none⟩ = some (.bool (decide (r.num < 0))) ∧ w'.cell? ⟨w.heap.size, 1, none⟩ = some (.slice A n n) ∧ w'.cell? ⟨w.heap.size, 2, none⟩ = some (.slice B m m) ∧
        w'.cell? ⟨w.heap.size + 1, 0, none⟩ = some (.bool (decide (s.num < 0))) ∧ w'.cell? ⟨w.heap.size + 1, 1, none⟩ = some (.slice C c c) ∧ w'.cell? ⟨w.heap.size + 1, 2, none⟩ = some (.slice D d d))
      (first | exact T2.cells hT1 | exact T2.cells (T2.drew hT1) | exact T2.cells (T2.drew (T2.new hT1 _)) | exact T2.cells hT4 | exact T2.cells (T2.new hT4 _) | exact T2.cells hT3 | exact T2.cells (T2.new hT3 _) | exact T2.cells hT2 | exact T2.cells (T2.new hT2 _) | exact T2.cells (T2.store hT4 hg3 hz3 hx).1 | exact T2.cells (T2.stored hT4 hx).1)
      (first
      | (go_at_call 96; refine (Hl.out _ ?_).mono ?_; (first | exact T2.drew hT1 | exact T2.drew (T2.new hT1 _)); rintro e w2 ⟨L, l, rfl, hl, hb2⟩; (first | (have hT2 := T2.keep (T2.drew hT1) hb2) | (have hT2 := T2.keep (T2.drew (T2.new hT1 _)) hb2)))
      | (go_at_call 41; refine (Hsi.out _ L l ?_).mono ?_; (first | exact hl | exact Dg.below hl (below_new _ _)); rintro e w3 ⟨rfl, hl3, hb3⟩; (first | (have hT3 := T2.keep hT2 hb3) | (have hT3 := T2.keep (T2.new hT2 _) hb3)))
      | (go_at_call 95; refine (Hlw.out _ L l ?_ ?_).mono ?_; (first | exact hT3 | exact T2.new hT3 _); (first | exact hl3 | exact Dg.below hl3 (below_new _ _)); rintro e w4 ⟨A1, n1, B1, m1, rfl, hx, hb4⟩; unfold ratV; (first | (have hT4 := T2.keep hT3 hb4) | (have hT4 := T2.keep (T2.new hT3 _) hb4)); (first | (have hz3 := Blk.keep (Blk.keep (Blk.keep (w := (w1.alloc (.cells ratZ 68)).drew) (Blk.new w1 68 ratZ) hb2) hb3) hb4; have hg3 := hT1.lt) | (have hz3 := Blk.keep (Blk.keep (Blk.new _ 68 ratZ) hb3) hb4; have hg3 := hT2.lt) | (have hz3 := Blk.keep (Blk.new _ 68 ratZ) hb4; have hg3 := hT3.lt) | skip); try (obtain ⟨z0, z1, z2, y0, y1, y2⟩ := hz3.three)))
    all_goals (go_wp2_with fail; go_meet; first | exact T2.store hT4 hg3 hz3 hx | exact T2.stored hT4 hx)
  case rest =>
    obtain ⟨hT2, g1, E, e, F, f, rfl, hg1, hbx, hrx⟩ := hcut
    clear hT1 c0 c1 c2 d0 d1 d2
    obtain ⟨c0, c1, c2, d0, d1, d2⟩ := hT2.cells
    obtain ⟨z0, z1, z2, y0, y1, y2⟩ := hbx.three
    go_wp2_with fail
    refine (Hmu.out _ E e F f hT2 hrx).mono ?_
    rintro e w5 ⟨A1, n1, B1, m1, rfl, hr5, hb5⟩
    have hT5 := hT2.keep hb5
    obtain ⟨u0, u1, u2, v0, v1, v2⟩ := hT5.b2.three
    unfold ratV
    go_wp2_with fail
    refine ret_rat_err (r := q) (A := A1) (n := n1) (B := B1) (m := m1) (v := .int .i64 0) rfl rfl rfl rfl hT5.b2 hr5 hT5.bel (by omega) ?_
    exact fun w' h1 h2 => ⟨A1, n1, B1, m1, rfl, h1, h2⟩
end Go.Proofs.YtemcdnppgnobmaaGreatDoor

namespace Go.Proofs.YtemcdnppgnobmaaGreatDoor
open Go.RowKit

theorem limbs_word {x : Nat} (h : x ≤ 9223372036854775808) : limbs x ≤ 3 := limbs_le_three (by omega)

theorem make_short (a b : Int) (ha : a.natAbs ≤ 9223372036854775808) (hb : b.natAbs ≤ 9223372036854775808) (hb0 : b ≠ 0) : Short ((a : Rat) * (b : Rat)⁻¹) := by
  obtain ⟨h1, h2⟩ := inv_parts (b : Rat) (by simpa using hb0)
  rw [Rat.num_intCast, Rat.den_intCast] at h1
  rw [Rat.num_intCast] at h2
  have e1 : (((a : Rat) * (b : Rat)⁻¹).num).natAbs ≤ a.natAbs := by
    rw [Rat.num_mul, Rat.num_intCast]
    have hdv : ((Nat.gcd (a * ((b : Rat)⁻¹).num).natAbs ((a : Rat).den * ((b : Rat)⁻¹).den) : Nat) : Int) ∣ a * ((b : Rat)⁻¹).num := Int.ofNat_dvd_left.2 (Nat.gcd_dvd_left _ _)
    rw [Int.natAbs_ediv_of_dvd hdv]
    refine Nat.le_trans (Nat.div_le_self _ _) ?_
    rw [Int.natAbs_mul, h1]
    split <;> simp
  have e2 : ((a : Rat) * (b : Rat)⁻¹).den ≤ b.natAbs := by
    rw [Rat.den_mul, Rat.den_intCast, h2, Nat.one_mul]
    exact Nat.div_le_self _ _
  exact ⟨Nat.lt_of_le_of_lt (limbs_word (Nat.le_trans e1 ha)) (by omega), Nat.lt_of_le_of_lt (limbs_word (Nat.le_trans e2 hb)) (by omega)⟩

theorem Rg.lens {w : World} {A B : Option Addr} {n m : Nat} {a : Int} (h : Rg w A n B m (a : Rat)) (ha : a.natAbs ≤ 9223372036854775808) : n ≤ 3 ∧ m ≤ 3 := by
  have h1 := h.num.len
  have h2 := h.den.len
  rw [Rat.num_intCast] at h1
  unfold denN at h2
  rw [Rat.den_intCast, if_pos rfl, limbs_zero] at h2
  exact ⟨by rw [← h1]; exact limbs_word ha, by omega⟩

set_option maxRecDepth 100000 in
theorem make_any (a b : Int) (w : World) (ha : -9223372036854775808 ≤ a ∧ a ≤ 9223372036854775807) (hb : -9223372036854775808 ≤ b ∧ b ≤ 9223372036854775807) :
    Calls Tryz.prog 48 #[.int .i64 a, .int .i64 b] w (if b = 0 then RetRatErr 0 6 w else RetRatOk ((a : Rat) * (b : Rat)⁻¹) w) := by
  have hres := Blk.new w 68 ratZ
  have hbel := below_new w (.cells ratZ 68)
  have h1 := fun X => of_any a (a : Rat) ⟨Rat.num_intCast a, Rat.den_intCast a⟩ X ha.1 ha.2
  have h2 := fun X => of_any b (b : Rat) ⟨Rat.num_intCast b, Rat.den_intCast b⟩ X hb.1 hb.2
  have ha9 : a.natAbs ≤ 9223372036854775808 := by omega
  have hb9 : b.natAbs ≤ 9223372036854775808 := by omega
  have Ha9 := Lib.hid ha9
  have Hb9 := Lib.hid hb9
  have H1 := Lib.hid h1
  have H2 := Lib.hid h2
  have Hres := Lib.hid hres
  have Hbel := Lib.hid hbel
  clear h1 h2 ha hb ha9 hb9 hres hbel
  by_cases hb0 : b = 0
  · rw [if_pos hb0]
    have Hb0 := Lib.hid hb0
    clear hb0
    go_enter Tryz.func48, Tryz.ntmps48
    go_wp2_with fail
    refine (H1.out _).mono ?_
    rintro e w1 ⟨A, n, B, m, rfl, hr1, hb1⟩
    unfold ratV
    go_wp2_with fail
    refine (H2.out _).mono ?_
    rintro e w2 ⟨C, c, D, d, rfl, hr2, hb2⟩
    have hq := quo_zero A B C D n m c d (a : Rat) (b : Rat) w2 hr2 (by rw [Rat.num_intCast]; exact Hb0.out)
    have Hq := Lib.hid hq
    clear hq
    unfold ratV at Hq
    unfold ratV
    go_wp2_with fail
    refine Hq.out.mono ?_
    rintro e w3 ⟨A1, n1, B1, m1, rfl, hr3, hb3⟩
    have hk := Hres.out.keep ((hb1.and hb2).and hb3)
    obtain ⟨z0, z1, z2, y0, y1, y2⟩ := hk.three
    unfold ratV
    go_wp2_with fail
    refine ret_rat_err (r := 0) (A := A1) (n := n1) (B := B1) (m := m1) (v := .int .i64 6) rfl rfl rfl rfl hk hr3 (Hbel.out.and ((hb1.and hb2).and hb3)) (Nat.le_refl _) ?_
    exact fun w' h1 h2 => ⟨A1, n1, B1, m1, rfl, h1, h2⟩
  · rw [if_neg hb0]
    have hsh := make_short a b Ha9.out Hb9.out hb0
    have Hsh := Lib.hid hsh
    have Hb0 := Lib.hid hb0
    clear hb0 hsh
    go_enter Tryz.func48, Tryz.ntmps48
    go_wp2_with fail
    refine (H1.out _).mono ?_
    rintro e w1 ⟨A, n, B, m, rfl, hr1, hb1⟩
    unfold ratV
    go_wp2_with fail
    refine (H2.out _).mono ?_
    rintro e w2 ⟨C, c, D, d, rfl, hr2, hb2⟩
    obtain ⟨l1, l2⟩ := hr1.lens Ha9.out
    obtain ⟨l3, l4⟩ := hr2.lens Hb9.out
    have hq := quo_any A B C D n m c d (a : Rat) (b : Rat) w2 (hr1.below hb2) hr2 (by rw [Rat.num_intCast]; exact Hb0.out) Hsh.out (by omega) (by omega) (by omega) (by omega)
    have Hq := Lib.hid hq
    clear hq l1 l2 l3 l4 Hsh
    unfold ratV at Hq
    unfold ratV
    generalize (a : Rat) * (b : Rat)⁻¹ = q at *
    go_wp2_with fail
    refine Hq.out.mono ?_
    rintro e w3 ⟨A1, n1, B1, m1, rfl, hr3, hb3⟩
    have hk := Hres.out.keep ((hb1.and hb2).and hb3)
    obtain ⟨z0, z1, z2, y0, y1, y2⟩ := hk.three
    unfold ratV
    go_wp2_with fail
    refine ret_rat_err (r := q) (A := A1) (n := n1) (B := B1) (m := m1) (v := .int .i64 0) rfl rfl rfl rfl hk hr3 (Hbel.out.and ((hb1.and hb2).and hb3)) (Nat.le_refl _) ?_
    exact fun w' h1 h2 => ⟨A1, n1, B1, m1, rfl, h1, h2⟩
end Go.Proofs.YtemcdnppgnobmaaGreatDoor
