/-
  The walks of frac's Int: signed, Whole, Sign, Neg, zero, Cmp.
  The walks of frac's Sign, Neg, zero, Whole.
  The walk of frac's Whole.
  The walks of frac's small and keepSmall, of numbers that are much shorter than the limit.
-/
import Derived.Test.YtemcdnppgnobmaaGreatDoorGcd6
set_option linter.unusedVariables false
namespace Go.Proofs.YtemcdnppgnobmaaGreatDoor
open Go.RowKit

/-- The value of the integer z whose digits lie at A. -/
def intV (z : Int) (A : Option Addr) (n : Nat) : Value := .agg #[.bool (decide (z < 0)), .slice A n n]

theorem size_new (w : World) (o : Obj) : (w.alloc o).heap.size = w.heap.size + 1 := by simp
theorem below_new (w : World) (o : Obj) : Below w.heap.size w (w.alloc o) := (Below.refl _ _).alloc (Nat.le_refl _) o
end Go.Proofs.YtemcdnppgnobmaaGreatDoor
namespace Go.RowKit
theorem Below.more {w w' : World} (h : Below w.heap.size w w') (o : Obj) : Below w.heap.size w (w'.alloc o) := h.alloc h.size o
theorem Below.and {w w' w'' : World} (h : Below w.heap.size w w') (k : Below w'.heap.size w' w'') : Below w.heap.size w w'' := h.trans (k.mono h.size)
end Go.RowKit
namespace Go.Proofs.YtemcdnppgnobmaaGreatDoor
open Go.RowKit

/-- An integer's value; nothing that was there has turned. -/
def RetInt (z : Int) (w : World) (e : Ending) (w' : World) : Prop :=
  ∃ A n, e = .returned (intV z A n) ∧ Dg w' A n z.natAbs ∧ Below w.heap.size w w'

theorem signed_at (neg : Bool) (A : Option Addr) (n x : Nat) (z : Int) (w : World) (h : Dg w A n x)
    (hz : decide (z < 0) = (neg && decide (0 < n))) (ha : z.natAbs = x) :
    Calls Tryz.prog 41 #[.bool neg, .slice A n n] w (fun e w' => e = .returned (intV z A n) ∧ Dg w' A n z.natAbs ∧ Below w.heap.size w w') := by
  subst ha
  have Hz := Lib.hid hz
  clear hz
  have hblk := fun (b : Bool) => Blk.new w 25 #[.bool b, .slice A n n]
  have hend : ∀ b : Bool, decide (z < 0) = b → ∀ a : Act, a.tmps[4]? = some (.pointer (some ⟨w.heap.size, 0, none⟩)) → a.defers = [] →
      bodyPost Tryz.prog Tryz.f41 (fun e w' => e = .returned (intV z A n) ∧ Dg w' A n z.natAbs ∧ Below w.heap.size w w') .ret a (w.alloc (.cells #[.bool b, .slice A n n] 25)) := by
    intro b hb a h4 hd
    have c0 := (hblk b).cell 0
    have c1 := (hblk b).cell 1
    refine bodyPost_ret (v := .agg #[.bool b, .slice A n n]) (by simp [results, Tryz.results41, go_sem, c0, c1, h4]) hd ⟨by rw [← hb]; rfl, h.below ((Below.refl _ _).alloc (Nat.le_refl _) _), (Below.refl _ _).alloc (Nat.le_refl _) _⟩
  have Hend := Lib.hid hend
  clear hend hblk
  cases neg
  · go_enter Tryz.func41, Tryz.ntmps41
    go_wp2_with fail
    exact Hend.out false (by simpa using Hz.out) _ rfl rfl
  · by_cases hn : 0 < n
    · go_enter Tryz.func41, Tryz.ntmps41
      go_wp2_with fail
      exact Hend.out true (by simpa [hn] using Hz.out) _ rfl rfl
    · go_enter Tryz.func41, Tryz.ntmps41
      go_wp2_with fail
      exact Hend.out false (by simpa [hn] using Hz.out) _ rfl rfl

theorem signed_any (neg : Bool) (A : Option Addr) (n x : Nat) (z : Int) (w : World) (h : Dg w A n x) (hzx : z = if neg then -(x : Int) else x) :
    Calls Tryz.prog 41 #[.bool neg, .slice A n n] w (fun e w' => e = .returned (intV z A n) ∧ Dg w' A n z.natAbs ∧ Below w.heap.size w w') := by
  have hn := h.len
  refine signed_at neg A n x z w h ?_ (by subst hzx; cases neg <;> simp)
  subst hzx
  rcases Nat.eq_zero_or_pos x with rfl | hx
  · rw [limbs_zero] at hn; subst hn; cases neg <;> simp
  · have hn0 : 0 < n := by
      rcases Nat.eq_zero_or_pos n with rfl | e
      · exact absurd (limbs_eq_zero hn) (by omega)
      · exact e
    cases neg <;> simp [hn0] <;> omega

/-- An integer's parts lie in a block. -/
theorem Blk.int {w : World} {g : Nat} {A : Option Addr} {n : Nat} {z : Int} (h : Blk w g 25 #[.bool (decide (z < 0)), .slice A n n]) :
    w.cell? ⟨g, 0, none⟩ = some (.bool (decide (z < 0))) ∧ w.cell? ⟨g, 1, none⟩ = some (.slice A n n) ∧ w.frozen? ⟨g, 0, none⟩ = false ∧ w.frozen? ⟨g, 1, none⟩ = false :=
  ⟨h.cell 0, h.cell 1, h.free 0, h.free 1⟩

theorem Blk.keep {w w' : World} {g : Nat} {t : TypeId} {cs : Array Value} (h : Blk w g t cs) (hb : Below w.heap.size w w') : Blk w' g t cs := h.below hb h.lt
theorem Blk.two {w : World} {g : Nat} {t : TypeId} {u v : Value} (h : Blk w g t #[u, v]) :
    w.cell? ⟨g, 0, none⟩ = some u ∧ w.cell? ⟨g, 1, none⟩ = some v ∧ w.frozen? ⟨g, 0, none⟩ = false ∧ w.frozen? ⟨g, 1, none⟩ = false :=
  ⟨h.cell 0, h.cell 1, h.free 0, h.free 1⟩
theorem Blk.set2 {w : World} {g : Nat} {t : TypeId} {u v : Value} (h : Blk w g t #[u, v]) (u' v' : Value) :
    Blk ((w.setCell ⟨g, 0, none⟩ u').setCell ⟨g, 1, none⟩ v') g t #[u', v'] := by
  have := (h.store 0 u').store 1 v'
  simpa using this

/-- A function whose only result is an integer in a cell returns it. -/
theorem ret_intCell {fn : Func} {R : Ending → World → Prop} {a : Act} {w : World} {s g : Nat} {b : Bool} {A : Option Addr} {n : Nat}
    (hf : fn.results = #[.cell s 25]) (h4 : a.tmps[s]? = some (.pointer (some ⟨g, 0, none⟩))) (hb : Blk w g 25 #[.bool b, .slice A n n])
    (hd : a.defers = []) (hR : R (.returned (.agg #[.bool b, .slice A n n])) w) : bodyPost Tryz.prog fn R .ret a w := by
  have c0 := hb.cell 0
  have c1 := hb.cell 1
  exact bodyPost_ret (v := .agg #[.bool b, .slice A n n]) (by simp [results, hf, go_sem, c0, c1, h4]) hd hR


/-- Digits aren't touched by what changes a block that holds none. -/
theorem Dg.only {w w' : World} {A : Option Addr} {n x g : Nat} {t : TypeId} {cs : Array Value} (h : Dg w A n x) (ho : Only g w w') (hb : Blk w g t cs)
    (hcs : ∀ (i : Nat) (z : Int), cs[i]? ≠ some (Value.int .u32 z)) : Dg w' A n x := by
  obtain ⟨h1, h2, h3⟩ := h
  refine ⟨h1, h2, fun hn => ?_⟩
  obtain ⟨b, off, e, hs, hc⟩ := h3 hn
  have hne : b ≠ g := by
    rintro rfl
    have := hc 0 hn
    rw [hb.cell] at this
    exact hcs _ _ this
  exact ⟨b, off, e, by rw [ho.size]; exact hs, fun i hi => (ho.cell hne).trans (hc i hi)⟩

/-- The zero integer in a cell. -/
def intZ : Array Value := #[.bool false, .slice none 0 0]
theorem intZ_free : ∀ (i : Nat) (z : Int), intZ[i]? ≠ some (Value.int .u32 z) := by
  intro i z
  unfold intZ
  match i with
  | 0 => simp
  | 1 => simp
  | i + 2 => simp

/-- An integer is stored into the cell of the result, which is then returned. -/
theorem ret_int_stored {fn : Func} {R : Ending → World → Prop} {a : Act} {w w1 : World} {s g n : Nat} {A : Option Addr} {z : Int} {b : Bool}
    (hf : fn.results = #[.cell s 25]) (h4 : a.tmps[s]? = some (.pointer (some ⟨g, 0, none⟩))) (hd : a.defers = [])
    (hb : Blk w1 g 25 intZ) (hdg : Dg w1 A n z.natAbs) (hbel : Below w.heap.size w w1) (hg : w.heap.size ≤ g) (hz : b = decide (z < 0))
    (hR : ∀ w', Dg w' A n z.natAbs → Below w.heap.size w w' → R (.returned (intV z A n)) w') :
    bodyPost Tryz.prog fn R .ret a ((w1.setCell ⟨g, 0, none⟩ (.bool b)).setCell ⟨g, 1, none⟩ (.slice A n n)) := by
  have ho := ((Only.refl g w1).setCell 0 (.bool b)).setCell 1 (.slice A n n)
  refine ret_intCell hf h4 (Blk.set2 hb _ _) hd ?_
  subst hz
  exact hR _ (hdg.only ho hb intZ_free) (hbel.trans (ho.below hg))

end Go.Proofs.YtemcdnppgnobmaaGreatDoor

namespace Go.Proofs.YtemcdnppgnobmaaGreatDoor
open Go.RowKit

theorem sign_any (A : Option Addr) (n : Nat) (z : Int) (w : World) (h : Dg w A n z.natAbs) :
    Calls Tryz.prog 18 #[intV z A n] w (fun e w' => e = .returned (.int .i64 z.sign) ∧ Below w.heap.size w w') := by
  have hn := h.len
  have hb := Blk.new w 25 #[.bool (decide (z < 0)), .slice A n n]
  obtain ⟨c0, c1, f0, f1⟩ := hb.int
  have hbel : Below w.heap.size w (w.alloc (.cells #[.bool (decide (z < 0)), .slice A n n] 25)) := (Below.refl _ _).alloc (Nat.le_refl _) _
  unfold intV
  rcases Int.lt_trichotomy z 0 with hz | hz | hz
  · rw [decide_eq_true hz] at c0 hbel ⊢
    have Hz := Lib.hid (Int.sign_eq_neg_one_of_neg hz)
    clear hz hn
    go_enter Tryz.func18, Tryz.ntmps18
    go_wp2
    go_ret
    exact ⟨ret_int Hz.out.symm, hbel⟩
  · subst hz
    have : n = 0 := by rw [← hn]; rfl
    subst this
    go_enter Tryz.func18, Tryz.ntmps18
    go_wp2
    go_ret
    exact ⟨ret_int rfl, hbel⟩
  · have hf : decide (z < 0) = false := decide_eq_false (by omega)
    rw [hf] at c0 hbel ⊢
    have hn1 : 1 ≤ n := by
      rcases Nat.eq_zero_or_pos n with rfl | e
      · exact absurd (limbs_eq_zero hn) (by omega)
      · exact e
    have Hz := Lib.hid (Int.sign_eq_one_of_pos hz)
    clear hz hn hf
    go_enter Tryz.func18, Tryz.ntmps18
    go_wp2
    go_ret
    exact ⟨ret_int (by rw [Hz.out]; omega), hbel⟩

theorem neg_any (A : Option Addr) (n : Nat) (z : Int) (w : World) (h : Dg w A n z.natAbs) :
    Calls Tryz.prog 60 #[intV z A n] w (fun e w' => e = .returned (intV (-z) A n) ∧ Dg w' A n (-z).natAbs ∧ Below w.heap.size w w') := by
  have hb := Blk.new w 25 #[.bool (decide (z < 0)), .slice A n n]
  obtain ⟨c0, c1, f0, f1⟩ := hb.int
  have hbel := below_new w (.cells #[.bool (decide (z < 0)), .slice A n n] 25)
  have hb2 := hbel.more (.cells #[.bool false, .slice none 0 0] 25)
  have hs := fun w' (hw : Below w.heap.size w w') => signed_any (!decide (z < 0)) A n z.natAbs (-z) w' (h.below hw) (by rcases Int.lt_or_le z 0 with hz | hz <;> simp [hz] <;> omega)
  have hres := Blk.new (w.alloc (.cells #[.bool (decide (z < 0)), .slice A n n] 25)) 25 #[.bool false, .slice none 0 0]
  rw [size_new] at hres
  have Hres := Lib.hid hres
  have Hs := Lib.hid hs
  have Hb2 := Lib.hid hb2
  clear hs h hb hb2 hbel hres
  unfold intV
  unfold intV at Hs
  generalize decide (z < 0) = b at *
  generalize hb' : decide (-z < 0) = b' at *
  have Hb' := Lib.hid hb'
  clear hb'
  go_enter Tryz.func60, Tryz.ntmps60
  go_wp2_with fail
  refine (Hs.out _ Hb2.out).mono ?_
  rintro e w1 ⟨rfl, hd, hbw⟩
  have hr1 := Hres.out.keep hbw
  obtain ⟨d0, d1, e0, e1⟩ := hr1.two
  go_wp2
  exact ret_int_stored rfl rfl rfl hr1 hd (Hb2.out.and hbw) (by omega) Hb'.out.symm (fun w' h1 h2 => ⟨by rw [Hb'.out.symm]; rfl, h1, h2⟩)

theorem zero_any (A : Option Addr) (n : Nat) (z : Int) (w : World) (h : Dg w A n z.natAbs) :
    Calls Tryz.prog 44 #[intV z A n] w (fun e w' => e = .returned (.bool (decide (z = 0))) ∧ Below w.heap.size w w') := by
  have hb := Blk.new w 25 #[.bool (decide (z < 0)), .slice A n n]
  obtain ⟨c0, c1, f0, f1⟩ := hb.int
  have hbel := below_new w (.cells #[.bool (decide (z < 0)), .slice A n n] 25)
  have hz : decide (z = 0) = ((n : Int) == 0) := by
    have hn := h.len
    rw [Bool.eq_iff_iff, decide_eq_true_iff, beq_iff_eq]
    constructor
    · rintro rfl; rw [← hn]; rfl
    · intro e
      have : n = 0 := by omega
      subst this
      have := limbs_eq_zero hn
      omega
  have Hz := Lib.hid hz
  clear hz h hb
  unfold intV
  generalize decide (z < 0) = b at *
  generalize decide (z = 0) = c at *
  go_enter Tryz.func44, Tryz.ntmps44
  go_wp2_with fail
  go_ret
  exact ⟨ret_bool (by rw [Hz.out]), hbel⟩
end Go.Proofs.YtemcdnppgnobmaaGreatDoor

namespace Go.Proofs.YtemcdnppgnobmaaGreatDoor
open Go.RowKit

theorem whole_any (z : Int) (w : World) (hlo : -9223372036854775808 ≤ z) (hhi : z ≤ 9223372036854775807) :
    Calls Tryz.prog 50 #[.int .i64 z] w (RetInt z w) := by
  have hres := Blk.new w 25 intZ
  have hbel := below_new w (.cells intZ 25)
  have Hres := Lib.hid hres
  have Hbel := Lib.hid hbel
  have hx : z.natAbs / 1000000000 / 1000000000 ≤ 18 := by omega
  have Hx := Lib.hid hx
  clear hres hbel hx
  by_cases hz : z < 0
  · have hw : IntKind.u64.wrap (-(IntKind.u64.wrap z)) = (z.natAbs : Nat) := by
      simp [IntKind.wrap, IntKind.bits, IntKind.signed]
      omega
    have Hw := Lib.hid hw
    have Hz := Lib.hid hz
    have Hdz := Lib.hid (show true = decide (z < 0) from (decide_eq_true hz).symm)
    clear hw
    go_enter Tryz.func50, Tryz.ntmps50
    go_wp2_with fail
    refine (natural_int _ z.natAbs _ Hw.out Hx.out).mono ?_
    rintro e w1 ⟨A, n, rfl, hd, hb, ho⟩
    go_wp2_with fail
    refine (signed_any true A n z.natAbs z w1 hd (by have := Hz.out; simp; omega)).mono ?_
    rintro e w2 ⟨rfl, hd2, hb2⟩
    have hr1 := Hres.out.keep (hb.and hb2)
    obtain ⟨d0, d1, e0, e1⟩ := hr1.two
    unfold intV
    go_wp2_with fail
    exact ret_int_stored rfl rfl rfl hr1 hd2 (Hbel.out.and (hb.and hb2)) (Nat.le_refl _) Hdz.out (fun w' h1 h2 => ⟨A, n, rfl, h1, h2⟩)
  · have hw : IntKind.u64.wrap z = (z.natAbs : Nat) := by
      simp [IntKind.wrap, IntKind.bits, IntKind.signed]
      omega
    have hz' : 0 ≤ z := by omega
    have Hw := Lib.hid hw
    have Hz := Lib.hid hz'
    have Hdz := Lib.hid (show false = decide (z < 0) from (decide_eq_false hz).symm)
    clear hw
    go_enter Tryz.func50, Tryz.ntmps50
    go_wp2_with fail
    refine (natural_int _ z.natAbs _ (by have := Hz.out; first | omega | exact Hw.out) Hx.out).mono ?_
    rintro e w1 ⟨A, n, rfl, hd, hb, ho⟩
    go_wp2_with fail
    refine (signed_any false A n z.natAbs z w1 hd (by have := Hz.out; simp; omega)).mono ?_
    rintro e w2 ⟨rfl, hd2, hb2⟩
    have hr1 := Hres.out.keep (hb.and hb2)
    obtain ⟨d0, d1, e0, e1⟩ := hr1.two
    unfold intV
    go_wp2_with fail
    exact ret_int_stored rfl rfl rfl hr1 hd2 (Hbel.out.and (hb.and hb2)) (Nat.le_refl _) rfl (fun w' h1 h2 => ⟨A, n, rfl, h1, h2⟩)

theorem cmpN_sign {x y : Nat} {z : Int} (h : z = (x : Int) - y) : cmpN x y = z.sign := by
  subst h
  unfold cmpN
  split
  · exact (Int.sign_eq_neg_one_of_neg (by omega)).symm
  · split
    · exact (Int.sign_eq_one_of_pos (by omega)).symm
    · rw [show (x : Int) - y = 0 by omega]; rfl

end Go.Proofs.YtemcdnppgnobmaaGreatDoor

namespace Go.Proofs.YtemcdnppgnobmaaGreatDoor
open Go.RowKit

theorem small_short (A : Option Addr) (n cap : Nat) (w : World) (hn : n < 3345) :
    Calls Tryz.prog 87 #[.slice A n cap] w (fun e w' => e = .returned (.bool true) ∧ Drew w w') := by
  have hb : ((n : Int) != 3345) = true := by rw [bne_iff_ne]; omega
  have hl : (n : Int) < 3345 := by omega
  clear hn
  go_enter Tryz.func87, Tryz.ntmps87
  go_wp2_with fail
  go_ret
  exact ⟨ret_bool rfl, 0, rfl⟩

theorem keepSmall_short (A : Option Addr) (n cap : Nat) (w : World) (hn : n < 3345) :
    Calls Tryz.prog 59 #[.slice A n cap] w (fun e w' => e = .returned (.tuple #[]) ∧ Drew w w') := by
  have hs := small_short A n cap w hn
  have Hs := Lib.hid hs
  clear hs hn
  go_enter Tryz.func59, Tryz.ntmps59
  go_wp2_with fail
  refine Hs.out.mono ?_
  rintro e w1 ⟨rfl, q, rfl⟩
  go_wp2_with fail
  go_end0
  exact ⟨rfl, q, rfl⟩

end Go.Proofs.YtemcdnppgnobmaaGreatDoor
