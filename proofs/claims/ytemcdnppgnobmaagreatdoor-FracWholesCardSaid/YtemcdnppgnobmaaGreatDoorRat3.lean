/-
  The walks of frac's Rat: lower, Of, kept.
  The walk of frac's reduced.
-/
import Derived.Test.YtemcdnppgnobmaaGreatDoorStr
set_option linter.unusedVariables false
namespace Go.Proofs.YtemcdnppgnobmaaGreatDoor
open Go.RowKit

theorem lower_any (A B : Option Addr) (n m : Nat) (r : Rat) (w : World) (h : Rg w A n B m r) :
    Calls Tryz.prog 96 #[ratV r A n B m] w (RetVal r.den w) := by
  have hb := Blk.new w 68 (ratC r A n B m)
  have hbel := below_new w (.cells (ratC r A n B m) 68)
  have hy := h.den.below hbel
  have hm := h.den.len
  obtain ⟨c0, c1, c2, f0, f1, f2⟩ := hb.three
  unfold ratV
  by_cases hd : r.den = 1
  · have hm0 : m = 0 := by rw [← hm, hd]; rfl
    subst hm0
    have h1 : Dg ((w.alloc (.cells (ratC r A n B 0) 68)).alloc (.cells (cellsOf .u32 [1]) 66)) (some ⟨w.heap.size + 1, 0, none⟩) 1 r.den := by
      have := Sl.of_blk (n := 1) (Blk.new (w.alloc (.cells (ratC r A n B 0) 68)) 66 (cellsOf .u32 [1])) rfl (by omega)
      rw [size_new] at this
      rw [hd]
      exact this
    have hb2 := hbel.more (.cells (cellsOf .u32 [1]) 66)
    have H1 := Lib.hid h1
    have Hb2 := Lib.hid hb2
    clear h1 hb2 hy hm hd hb hbel h
    go_enter Tryz.func96, Tryz.ntmps96
    go_wp2_with fail
    go_ret
    exact ⟨some ⟨w.heap.size + 1, 0, none⟩, 1, rfl, H1.out, Hb2.out⟩
  · have hden : denN r.den = r.den := by unfold denN; rw [if_neg hd]
    have hm0 : ((m : Int) == 0) = false := by
      rw [beq_eq_false_iff_ne]
      intro e
      have : m = 0 := by omega
      subst this
      have := limbs_eq_zero hm
      rw [hden] at this
      exact r.den_nz this
    rw [hden] at hy
    have Hy := Lib.hid hy
    have Hbel := Lib.hid hbel
    clear hy hbel hden hm hd hb h
    go_enter Tryz.func96, Tryz.ntmps96
    go_wp2_with fail
    go_ret
    exact ⟨B, m, rfl, Hy.out, Hbel.out⟩

theorem of_any (z : Int) (r : Rat) (hr : r.num = z ∧ r.den = 1) (w : World) (hlo : -9223372036854775808 ≤ z) (hhi : z ≤ 9223372036854775807) :
    Calls Tryz.prog 51 #[.int .i64 z] w (RetRat r w) := by
  obtain ⟨rfl, hr1⟩ := hr
  have hres := Blk.new w 68 ratZ
  have hbel := below_new w (.cells ratZ 68)
  have hw := fun w' => whole_any r.num w' hlo hhi
  have hden : denN r.den = 0 := by unfold denN; rw [if_pos hr1]
  have Hw := Lib.hid hw
  have Hres := Lib.hid hres
  have Hbel := Lib.hid hbel
  have Hden := Lib.hid hden
  clear hw hres hbel hden hlo hhi hr1
  go_enter Tryz.func51, Tryz.ntmps51
  go_wp2_with fail
  refine (Hw.out _).mono ?_
  rintro e w1 ⟨A, n, rfl, hd, hb⟩
  have hr1 := Hres.out.keep hb
  obtain ⟨d0, d1, d2, e0, e1, e2⟩ := hr1.three
  unfold intV
  go_wp2_with fail
  refine ret_rat_stored (r := r) (A := A) (n := n) (B := none) (m := 0) rfl rfl rfl hr1 ⟨hd, by rw [Hden.out]; exact Sl.nil⟩ (Hbel.out.and hb) (Nat.le_refl _) rfl ?_
  exact fun w' h1 h2 => ⟨A, n, none, 0, rfl, h1, h2⟩

theorem ratKept_short (A B : Option Addr) (n m : Nat) (r : Rat) (w : World) (h : Rg w A n B m r) (hn : n < 3345) (hm : m < 3345) :
    Calls Tryz.prog 77 #[ratV r A n B m] w (fun e w' => e = .returned (ratV r A n B m) ∧ Rg w' A n B m r ∧ Below w.heap.size w w') := by
  have hb0 := Blk.new w 68 (ratC r A n B m)
  have hbel := (below_new w (.cells (ratC r A n B m) 68)).more (.cells ratZ 68)
  have hb0' := hb0.keep (below_new _ (.cells ratZ 68))
  have hres := Blk.new (w.alloc (.cells (ratC r A n B m) 68)) 68 ratZ
  rw [size_new] at hres
  have hd := h.below hbel
  have hk1 := fun w' => keepSmall_short A n n w' hn
  have hk2 := fun w' => keepSmall_short B m m w' hm
  have Hk1 := Lib.hid hk1
  have Hk2 := Lib.hid hk2
  have Hbel := Lib.hid hbel
  have Hd := Lib.hid hd
  clear hbel hb0 h hd hk1 hk2 hn hm
  obtain ⟨c0, c1, c2, f0, f1, f2⟩ := hb0'.three
  unfold ratV
  go_enter Tryz.func77, Tryz.ntmps77
  go_wp2_with fail
  refine (Hk1.out _).mono ?_
  rintro e w1 ⟨rfl, q1, rfl⟩
  go_wp2_with fail
  refine (Hk2.out _).mono ?_
  rintro e w1 ⟨rfl, q2, hw1⟩
  have hr1 := (hres.drewN q1).drewN q2
  have hb1 := (hb0'.drewN q1).drewN q2
  have hd1 := Hd.out.below (below_drewN (below_drewN (Below.refl _ _) q1) q2)
  have hbd := below_drewN (below_drewN Hbel.out q1) q2
  clear c0 c1 c2 f0 f1 f2 hres hb0'
  have hw2 := hw1
  clear hw1
  unfold ratC at *
  change w1 = _ at hw2
  rw [show ((w.alloc (.cells #[.bool (decide (r.num < 0)), .slice A n n, .slice B m m] 68)).alloc (.cells ratZ 68)) = ((w.alloc (.cells #[.bool (decide (r.num < 0)), .slice A n n, .slice B m m] 68)).alloc (.cells #[.bool false, .slice none 0 0, .slice none 0 0] 68)) from rfl] at *
  rw [← hw2] at hr1 hb1 hd1 hbd
  obtain ⟨d0, d1, d2, e0, e1, e2⟩ := hr1.three
  obtain ⟨c0, c1, c2, f0, f1, f2⟩ := hb1.three
  clear hw2
  go_wp2_with fail
  refine ret_rat_stored (r := r) (A := A) (n := n) (B := B) (m := m) rfl rfl rfl hr1 hd1 hbd (by omega) rfl ?_
  exact fun w' h1 h2 => ⟨rfl, h1, h2⟩
end Go.Proofs.YtemcdnppgnobmaaGreatDoor

namespace Go.Proofs.YtemcdnppgnobmaaGreatDoor
open Go.RowKit

theorem int_free (b : Bool) (A : Option Addr) (n c : Nat) : ∀ (i : Nat) (z : Int), (#[Value.bool b, Value.slice A n c] : Array Value)[i]? ≠ some (Value.int .u32 z) := by
  intro i z
  match i with
  | 0 => simp
  | 1 => simp
  | i + 2 => simp

theorem Blk.setSecond {w : World} {g : Nat} {t : TypeId} {u v : Value} (h : Blk w g t #[u, v]) (v' : Value) :
    Blk (w.setCell ⟨g, 1, none⟩ v') g t #[u, v'] := by
  have := h.store 1 v'
  simpa using this

theorem reduced_any (A B : Option Addr) (n m d : Nat) (z : Int) (r : Rat) (w : World) (h : Dg w A n z.natAbs) (k : Dg w B m d) (hd0 : 0 < d)
    (hn9 : n ≤ 10000000000) (hm9 : m ≤ 10000000000)
    (hz : r.num = z / (Nat.gcd z.natAbs d : Nat)) (hd : r.den = d / Nat.gcd z.natAbs d) :
    Calls Tryz.prog 99 #[intV z A n, .slice B m m] w (RetRat r w) := by
  have hg0 : 0 < Nat.gcd z.natAbs d := Nat.gcd_pos_of_pos_right _ hd0
  have hnum : r.num.natAbs = z.natAbs / Nat.gcd z.natAbs d := by
    obtain ⟨c, hc⟩ := Nat.gcd_dvd_left z.natAbs d
    have hdv : ((Nat.gcd z.natAbs d : Nat) : Int) ∣ z := Int.ofNat_dvd_left.2 (Nat.gcd_dvd_left z.natAbs d)
    rw [hz, Int.natAbs_ediv_of_dvd hdv, Int.natAbs_natCast]
  have hsg : decide (z < 0) = decide (r.num < 0) := by
    have hdv : ((Nat.gcd z.natAbs d : Nat) : Int) ∣ z := Int.ofNat_dvd_left.2 (Nat.gcd_dvd_left z.natAbs d)
    obtain ⟨c, hc⟩ := hdv
    have e : r.num = c := by rw [hz]; exact Int.ediv_eq_of_eq_mul_right (by omega) hc
    rw [e, Bool.eq_iff_iff, decide_eq_true_iff, decide_eq_true_iff]
    have hgi : (0 : Int) < (Nat.gcd z.natAbs d : Nat) := by omega
    generalize ((Nat.gcd z.natAbs d : Nat) : Int) = g at *
    rw [hc]
    constructor
    · intro h1
      rcases Int.lt_or_le c 0 with h2 | h2
      · exact h2
      · have := Int.mul_nonneg (Int.le_of_lt hgi) h2; omega
    · intro h2; exact Int.mul_neg_of_pos_of_neg hgi h2
  clear hz
  have hb0 := Blk.new w 25 #[.bool (decide (z < 0)), .slice A n n]
  have hbel := (below_new w (.cells #[.bool (decide (z < 0)), .slice A n n] 25)).more (.cells ratZ 68)
  have hb0' := hb0.keep (below_new _ (.cells ratZ 68))
  have hres := Blk.new (w.alloc (.cells #[.bool (decide (z < 0)), .slice A n n] 25)) 68 ratZ
  rw [size_new] at hres
  have hx := h.below hbel
  have hy := k.below hbel
  have hg := gcd_any A B n m z.natAbs d _ hx hy hn9 hm9
  have Hg := Lib.hid hg
  have Hx := Lib.hid hx
  have Hy := Lib.hid hy
  have Hbel := Lib.hid hbel
  have Hd := Lib.hid hd
  have Hnum := Lib.hid hnum
  have Hsg := Lib.hid hsg
  obtain ⟨c0, c1, f0, f1⟩ := hb0'.two
  clear hg hx hy hbel hb0 h k hd hnum hsg
  unfold intV
  generalize Nat.gcd z.natAbs d = g at *
  generalize z.natAbs = x at *
  generalize hbz : decide (z < 0) = b at *
  clear hbz
  go_enter Tryz.func99, Tryz.ntmps99
  go_wp2_with fail
  refine (Hg.out).mono ?_
  rintro e w1 ⟨C, c, rfl, hdC, hb1⟩
  clear c0 c1 f0 f1 Hg
  have hi := isOne_dg C c c g w1 hdC
  have hr1 := hres.keep hb1
  have hbi1 := hb0'.keep hb1
  have hx1 := Hx.out.below hb1
  have hy1 := Hy.out.below hb1
  have hbe1 := Hbel.out.and hb1
  clear hres hb0' Hx Hy Hbel
  have Hi := Lib.hid hi
  have Hx1 := Lib.hid hx1
  have Hy1 := Lib.hid hy1
  have Hbe1 := Lib.hid hbe1
  clear hi hx1 hy1 hbe1 hb1
  by_cases hg1 : g = 1
  · subst hg1
    rw [decide_eq_true rfl] at Hi
    obtain ⟨c0, c1, f0, f1⟩ := hbi1.two
    have hlow := lowest_any A B n m d r.num r w1 (by rw [Hnum.out, Nat.div_one]; exact Hx1.out) Hy1.out rfl (by rw [Hd.out, Nat.div_one])
    unfold intV at hlow
    rw [← Hsg.out] at hlow
    have Hlow := Lib.hid hlow
    clear hlow
    go_wp2_with fail
    refine Hi.out.mono ?_
    rintro e w2 ⟨rfl, rfl⟩
    go_wp2_with fail
    refine Hlow.out.mono ?_
    rintro e w3 ⟨A1, n1, B1, m1, rfl, hrg, hb2⟩
    have hr2 := hr1.keep hb2
    obtain ⟨d0, d1, d2, e0, e1, e2⟩ := hr2.three
    unfold ratV
    go_wp2_with fail
    refine ret_rat_stored (r := r) (A := A1) (n := n1) (B := B1) (m := m1) rfl rfl rfl hr2 hrg (Hbe1.out.and hb2) (by omega) rfl ?_
    exact fun w' h1 h2 => ⟨A1, n1, B1, m1, rfl, h1, h2⟩
  · rw [decide_eq_false hg1] at Hi
    have hc9 : n ≤ 10000000000 ∧ m ≤ 10000000000 := ⟨hn9, hm9⟩
    obtain ⟨c0, c1, f0, f1⟩ := hbi1.two
    have hdv := divide_any A C n c c x g w1 Hx1.out hdC hg0 hn9
    have Hdv := Lib.hid hdv
    clear hdv
    go_wp2_with fail
    refine Hi.out.mono ?_
    rintro e w2 ⟨rfl, rfl⟩
    go_wp2_with fail
    refine Hdv.out.mono ?_
    rintro e w3 ⟨A1, n1, A2, n2, rfl, hq, hrr, hb2, ho1, ho2⟩
    have hr2 := hr1.keep hb2
    have hbi2 := hbi1.keep hb2
    have hdC2 := hdC.below hb2
    have hy2 := Hy1.out.below hb2
    have hbe2 := Hbe1.out.and hb2
    clear c0 c1 f0 f1 hr1 hbi1 hb2 ho1 ho2 hrr Hdv Hi
    obtain ⟨c0, c1, f0, f1⟩ := hbi2.two
    go_wp2_with fail
    have hon := (Only.refl w.heap.size w3).setCell 1 (.slice A1 n1 n1)
    have hq4 := hq.only hon hbi2 (int_free _ _ _ _)
    have hC4 := hdC2.only hon hbi2 (int_free _ _ _ _)
    have hy4 := hy2.only hon hbi2 (int_free _ _ _ _)
    have hbe4 := hbe2.trans (hon.below (Nat.le_refl _))
    have hr4 := hon.blk (by omega) hr2
    have hbi4 := hbi2.setSecond (.slice A1 n1 n1)
    clear c0 c1 f0 f1 hon hq hdC2 hy2 hbe2 hr2 hbi2
    refine (divide_any B C m c c d g _ hy4 hC4 hg0 hm9).mono ?_
    rintro e w5 ⟨A3, n3, A4, n4, rfl, hq3, hrr3, hb3, ho3, ho4⟩
    have hr5 := hr4.keep hb3
    have hbi5 := hbi4.keep hb3
    have hq5 := hq4.below hb3
    have hbe5 := hbe4.and hb3
    clear hb3 ho3 ho4 hrr3 hr4 hbi4 hq4 hC4 hy4 hbe4
    obtain ⟨c0, c1, f0, f1⟩ := hbi5.two
    go_wp2_with fail
    have hlow := lowest_any A1 A3 n1 n3 (d / g) r.num r w5 (by rw [Hnum.out]; exact hq5) hq3 rfl Hd.out
    unfold intV at hlow
    rw [← Hsg.out] at hlow
    refine hlow.mono ?_
    rintro e w6 ⟨A5, n5, B5, m5, rfl, hrg, hb6⟩
    have hr6 := hr5.keep hb6
    obtain ⟨d0, d1, d2, e0, e1, e2⟩ := hr6.three
    unfold ratV
    go_wp2_with fail
    refine ret_rat_stored (r := r) (A := A5) (n := n5) (B := B5) (m := m5) rfl rfl rfl hr6 hrg (hbe5.and hb6) (by omega) rfl ?_
    exact fun w' h1 h2 => ⟨A5, n5, B5, m5, rfl, h1, h2⟩
end Go.Proofs.YtemcdnppgnobmaaGreatDoor
