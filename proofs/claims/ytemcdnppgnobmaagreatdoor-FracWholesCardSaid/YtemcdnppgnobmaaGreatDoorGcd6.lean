/-
  The walk of frac's gcd.
-/
import Derived.Test.YtemcdnppgnobmaaGreatDoorGcd5
import Derived.Test.YtemcdnppgnobmaaGreatDoorDiv4
import Derived.Deep.LoopGhost
set_option linter.unusedVariables false
namespace Go.Proofs.YtemcdnppgnobmaaGreatDoor
open Go.RowKit

theorem isOneL_toL (x : Nat) : isOneL (toL x) = decide (x = 1) := by
  rw [Bool.eq_iff_iff]
  simp only [isOneL, Bool.and_eq_true, beq_iff_eq, decide_eq_true_iff]
  constructor
  · rintro ⟨h1, h2⟩
    have e := lt_pow_limbs x
    rw [show limbs x = 1 from h1, Nat.pow_one] at e
    rw [getD_toL, Nat.pow_zero, Nat.div_one, Nat.mod_eq_of_lt e] at h2
    exact h2
  · rintro rfl
    exact ⟨rfl, rfl⟩

theorem isOne_dg (A : Option Addr) (n cap x : Nat) (w : World) (h : Dg w A n x) :
    Calls Tryz.prog 63 #[.slice A n cap] w fun e w' => e = .returned (.bool (decide (x = 1))) ∧ w' = w := by
  have := isOne_any A n cap (toL x) w h
  rwa [isOneL_toL] at this

/-- A digits value; nothing that was there has turned. -/
def RetVal (x : Nat) (w : World) (e : Ending) (w' : World) : Prop := ∃ A n, e = .returned (.slice A n n) ∧ Dg w' A n x ∧ Below w.heap.size w w'

def GcdRel (w : World) (n0 x y k : Nat) (av bv : Value) (wr : World) : Prop :=
  ∃ A n B m X Y g1 g2, av = .slice A n n ∧ bv = .slice B m m ∧ Dg wr A n X ∧ Dg wr B m Y ∧ OwnAt g1 wr A n X ∧ OwnAt g2 wr B m Y ∧ g1 ≠ g2 ∧ w.heap.size ≤ g1 ∧ w.heap.size ≤ g2 ∧ Y ≤ X ∧ Nat.gcd X Y = Nat.gcd x y ∧ n ≤ n0 ∧ X + Y ≤ k ∧ Below w.heap.size w wr

/-- The end of gcd, where both numbers are short: Euclid on words. -/
def WordRel (w : World) (x y : Nat) (av bv : Value) (wr : World) : Prop :=
  ∃ X Y : Nat, av = .int .u64 X ∧ bv = .int .u64 Y ∧ X < 1000000000000000000 ∧ Y < 1000000000000000000 ∧ Nat.gcd X Y = Nat.gcd x y ∧ Below w.heap.size w wr

set_option maxRecDepth 100000 in
set_option maxHeartbeats 1600000 in
theorem gcd_short (A B : Option Addr) (n m x y : Nat) (w : World) (h : Dg w A n x) (k : Dg w B m y) (hyx : y ≤ x) (hx1 : x ≠ 1) (hy1 : y ≠ 1) (hn2 : n ≤ 2) :
    Calls Tryz.prog 42 #[.slice A n n, .slice B m m] w (RetVal (Nat.gcd x y) w) ∧
    (y < x → Calls Tryz.prog 42 #[.slice B m m, .slice A n n] w (RetVal (Nat.gcd x y) w)) := by
  have hi1 := isOne_dg A n n x w h
  have hi2 := isOne_dg B m m y w k
  rw [decide_eq_false hx1] at hi1
  rw [decide_eq_false hy1] at hi2
  have Hi1 := Lib.hid hi1
  have Hi2 := Lib.hid hi2
  have hc1 := compare_dg A B n m n m x y w h k
  have hc2 := compare_dg B A m n m n y x w k h
  have hcn : 0 ≤ cmpN x y := by unfold cmpN; rw [if_neg (by omega)]; split <;> omega
  clear hi1 hi2 hx1 hy1
  have Hn := h.len
  have HNx := fun q => narrow_any A n n x (w.drewN q) (Sl.drewN h q)
  have HNy := fun q => narrow_any B m m y (w.drewN q) (Sl.drewN k q)
  have hmn : m ≤ n := by have := limbs_mono hyx; rw [h.len, k.len] at this; exact this
  have hxb : x < 1000000000000000000 := by
    have e := lt_pow_limbs x
    rw [h.len] at e
    exact Nat.lt_of_lt_of_le e (Nat.pow_le_pow_right bas_pos hn2)
  have fx : fitsWord x = true := by unfold fitsWord; rw [decide_eq_true_iff]; omega
  have fy : fitsWord y = true := by unfold fitsWord; rw [decide_eq_true_iff]; omega
  simp only [fx, fy, if_true] at HNx HNy
  have HX := Lib.hid HNx
  have HY := Lib.hid HNy
  have HN := Lib.hid Hn
  clear HNx HNy Hn fx fy
  refine ⟨?a, fun hlt => ?b⟩
  case' a =>
    generalize cmpN x y = g at *
    have Hc := Lib.hid hc1
    clear hc1 hc2
    go_enter Tryz.func42, Tryz.ntmps42
    go_wp2_with fail
    refine (Hi1.out).mono ?_
    rintro e w1 ⟨rfl, rfl⟩
    go_wp2_with fail
    refine (Hi2.out).mono ?_
    rintro e w1 ⟨rfl, rfl⟩
    go_wp2_with fail
    refine (Hc.out).mono ?_
    rintro e w1 ⟨rfl, q, rfl⟩
    go_wp2_with fail
  case' b =>
    rw [show cmpN y x = -1 from if_pos hlt] at hc2
    have Hc := Lib.hid hc2
    clear hc1 hc2
    go_enter Tryz.func42, Tryz.ntmps42
    go_wp2_with fail
    refine (Hi2.out).mono ?_
    rintro e w1 ⟨rfl, rfl⟩
    go_wp2_with fail
    refine (Hi1.out).mono ?_
    rintro e w1 ⟨rfl, rfl⟩
    go_wp2_with fail
    refine (Hc.out).mono ?_
    rintro e w1 ⟨rfl, q, rfl⟩
    go_wp2_with fail
  all_goals
    refine wp_loop_rounds 1 ?_
    rw [rounds_succ]
    by_cases hm0 : m = 0
    · have hy0 : y = 0 := by subst hm0; exact limbs_eq_zero k.len
      subst hm0
      have Hy0 := Lib.hid hy0
      clear hy0
      go_wp2_with fail
      go_ret
      refine ⟨A, n, rfl, ?_, below_drewN (Below.refl _ _) q⟩
      rw [Hy0.out, Nat.gcd_zero_right]
      exact Sl.drewN h q
    · have hm1 : 0 < m := by omega
      have hmb : ((m : Int) == 0) = false := by rw [beq_eq_false_iff_ne]; omega
      go_wp2_with fail
      refine (HX.out q).mono ?_
      rintro e w2 ⟨rfl, q2, rfl⟩
      go_wp2_with fail
      have HY2 := HY.out (q + q2)
      refine HY2.mono ?_
      rintro e w2 ⟨rfl, q3, rfl⟩
      go_wp2_with fail
      go_loopw [11, 13] (WordRel w1 x y) (fun _ b _ => (intOf b).toNat)
      case atStart => exact ⟨x, y, rfl, rfl, hxb, by omega, rfl, below_drewN (Below.refl _ _) _⟩
      case round =>
        obtain ⟨X, Y, rfl, rfl, hX, hY, hg, hbel⟩ := hrel
        have Hg := Lib.hid hg
        clear hg
        by_cases hY0 : Y = 0
        · subst hY0
          have hgX : X = Nat.gcd x y := by rw [← Hg.out, Nat.gcd_zero_right]
          have HgX := Lib.hid hgX
          clear hgX
          go_wp2_with fail
          refine (natural_any X wr (by omega)).mono ?_
          rintro e w3 ⟨A1, n1, rfl, hd1, hb1, ho1⟩
          have hfin := hbel.trans (hb1.mono hbel.size)
          clear hb1 ho1 hbel
          go_wp2
          go_ret
          refine ⟨A1, n1, rfl, ?_, hfin⟩
          rw [← HgX.out]
          exact hd1
        · have hYb : ((Y : Int) != 0) = true := by rw [bne_iff_ne]; omega
          have hY1 : (1 : Int) ≤ Y := by omega
          have hmod : X % Y < Y := Nat.mod_lt _ (by omega)
          have hgn : Nat.gcd Y (X % Y) = Nat.gcd x y := by rw [← Hg.out, Nat.gcd_comm X Y, Nat.gcd_rec Y X, Nat.gcd_comm Y]
          have Hgn := Lib.hid hgn
          clear hgn
          go_wp2_with fail
          go_quiet (fail)
          go_wp2_with fail
          go_roundw
          case rel => exact ⟨Y, X % Y, rfl, rfl, hY, by omega, Hgn.out, below_drewN hbel nq⟩
          case measure =>
            have e3 : (X : Int) % Y = ((X % Y : Nat) : Int) := rfl
            simp only [intOf]
            omega

set_option maxRecDepth 100000 in
set_option maxHeartbeats 3200000 in
theorem gcd_long (A B : Option Addr) (n m x y : Nat) (w : World) (h : Dg w A n x) (k : Dg w B m y) (hyx : y ≤ x) (hx1 : x ≠ 1) (hy1 : y ≠ 1) (hn2 : 2 < n) (hn9 : n ≤ 10000000000) :
    Calls Tryz.prog 42 #[.slice A n n, .slice B m m] w (RetVal (Nat.gcd x y) w) ∧
    (y < x → Calls Tryz.prog 42 #[.slice B m m, .slice A n n] w (RetVal (Nat.gcd x y) w)) := by
  have hi1 := isOne_dg A n n x w h
  have hi2 := isOne_dg B m m y w k
  rw [decide_eq_false hx1] at hi1
  rw [decide_eq_false hy1] at hi2
  have Hi1 := Lib.hid hi1
  have Hi2 := Lib.hid hi2
  have hc1 := compare_dg A B n m n m x y w h k
  have hc2 := compare_dg B A m n m n y x w k h
  have hcn : 0 ≤ cmpN x y := by unfold cmpN; rw [if_neg (by omega)]; split <;> omega
  have hmn : m ≤ n := by have := limbs_mono hyx; rw [h.len, k.len] at this; exact this
  have hcl := fun q => clone_any A n n x (w.drewN q) (Sl.drewN h q) (by omega)
  have hcm := fun (w' : World) (hb : Below w.heap.size w w') => clone_any B m m y w' (Sl.below k hb) (by omega)
  have HC1 := Lib.hid hcl
  have HC2 := Lib.hid hcm
  clear hi1 hi2 hcl hcm
  refine ⟨?a, fun hlt => ?b⟩
  case' a =>
    generalize cmpN x y = g at *
    have Hc := Lib.hid hc1
    clear hc1 hc2
    go_enter Tryz.func42, Tryz.ntmps42
    go_wp2_with fail
    refine (Hi1.out).mono ?_
    rintro e w1 ⟨rfl, rfl⟩
    go_wp2_with fail
    refine (Hi2.out).mono ?_
    rintro e w1 ⟨rfl, rfl⟩
    go_wp2_with fail
    refine (Hc.out).mono ?_
    rintro e w1 ⟨rfl, q, rfl⟩
    go_wp2_with fail
  case' b =>
    rw [show cmpN y x = -1 from if_pos hlt] at hc2
    have Hc := Lib.hid hc2
    clear hc1 hc2
    go_enter Tryz.func42, Tryz.ntmps42
    go_wp2_with fail
    refine (Hi2.out).mono ?_
    rintro e w1 ⟨rfl, rfl⟩
    go_wp2_with fail
    refine (Hi1.out).mono ?_
    rintro e w1 ⟨rfl, rfl⟩
    go_wp2_with fail
    refine (Hc.out).mono ?_
    rintro e w1 ⟨rfl, q, rfl⟩
    go_wp2_with fail
  all_goals
    refine (HC1.out q).mono ?_
    rintro e w2 ⟨A1, n1, rfl, hd1, hb1, ho1⟩
    have hb01 : Below w1.heap.size w1 w2 := (below_drewN (Below.refl w1.heap.size w1) q).trans hb1
    go_wp2_with fail
    refine (HC2.out w2 hb01).mono ?_
    rintro e w3 ⟨B1, m1, rfl, hd2, hb2, ho2⟩
    have hn1 : n1 = n := by rw [← hd1.len, h.len]
    have hm1 : m1 = m := by rw [← hd2.len, k.len]
    subst hn1 hm1
    have hstart : GcdRel w1 n1 x y (x + y) (.slice A1 n1 n1) (.slice B1 m1 m1) w3 := by
      have hsz : w1.heap.size ≤ w2.heap.size := hb01.size
      obtain ⟨ga, ga1, ga2, gao⟩ := ho1.at hb1.size
      obtain ⟨gb, gb1, gb2, gbo⟩ := ho2.at hb2.size
      rcases gao with ⟨_, h0, _⟩ | ⟨rfl, xs, hxs, hrest⟩
      · omega
      · exact ⟨_, _, _, _, x, y, ga, gb, rfl, rfl, hd1.below hb2, hd2, Or.inr ⟨rfl, xs, hxs.below hb2 hxs.lt, hrest⟩, gbo, by have := hxs.lt; omega, ga1, by omega, hyx, rfl, Nat.le_refl _, Nat.le_refl _, hb01.trans (hb2.mono hsz)⟩
    have Hst := Lib.hid hstart
    clear hb1 hb2 ho1 ho2 hd1 hd2 hstart hb01 Hi1 Hi2 HC1 HC2
    go_wp2_with fail
    go_loopg [0, 1] (x + y) (fun kk av bv wr => GcdRel w1 n1 x y kk av bv wr)
    case atStart => exact Hst.out
    case round =>
      obtain ⟨A', a, B', b, X, Y, g1, g2, rfl, rfl, hdX, hdY, hoX, hoY, hgg, hg1, hg2, hYX, hgcd, han, hsum, hbel⟩ := hrel
      have Hgcd := Lib.hid hgcd
      have hba : b ≤ a := by have := limbs_mono hYX; rw [hdX.len, hdY.len] at this; exact this
      clear hgcd Hst
      have hg1f : 0 < a → g1 < wr.heap.size := by
        intro ha0
        rcases hoX with ⟨_, h0, _⟩ | ⟨_, ys, hb, _⟩
        · omega
        · exact hb.lt
      have hg2f : 0 < b → g2 < wr.heap.size := by
        intro hb0
        rcases hoY with ⟨_, h0, _⟩ | ⟨_, ys, hb, _⟩
        · omega
        · exact hb.lt
      by_cases hb0 : b = 0
      · have hy0 : Y = 0 := by subst hb0; exact limbs_eq_zero hdY.len
        subst hb0
        have hfin : Nat.gcd x y = X := by rw [← Hgcd.out, hy0, Nat.gcd_zero_right]
        have Hfin := Lib.hid hfin
        clear hfin hy0
        by_cases ha2 : 2 < a
        all_goals
          go_wp2_with fail
          go_ret
          refine ⟨A', a, rfl, ?_, hbel⟩
          rw [Hfin.out]
          exact hdX
      · have hbp : 0 < b := by omega
        have hg2lt := hg2f hbp
        have hg1lt := hg1f (by omega)
        clear hg1f hg2f
        have hbb : ((b : Int) == 0) = false := by rw [beq_eq_false_iff_ne]; omega
        by_cases ha2 : 2 < a
        · obtain ⟨kk, rfl⟩ : ∃ kk, a = kk + 3 := ⟨a - 3, by omega⟩
          have hld := leading_any A' B' b (kk + 3) b kk X Y wr hdX hdY hba (by omega) hYX
          have HL := Lib.hid hld
          have hYpos : 0 < Y := by
            rcases Nat.eq_zero_or_pos Y with e | e
            · have := hdY.len
              rw [e, limbs_zero] at this
              omega
            · exact e
          have hdv := fun (w' : World) (hb : Below wr.heap.size wr w') => divide_any A' B' (kk + 3) b b X Y w' (hdX.below hb) (hdY.below hb) hYpos (by omega)
          have HD := Lib.hid hdv
          clear hld hdv
          go_wp2_with fail
          refine (HL.out).mono ?_
          rintro e w4 ⟨s, rfl, hlt, hpos, hb4⟩
          have hle : Y / bas ^ kk / 2 ^ s ≤ X / bas ^ kk / 2 ^ s := Nat.div_le_div_right (Nat.div_le_div_right hYX)
          have hst := steps_any (X / bas ^ kk / 2 ^ s) (Y / bas ^ kk / 2 ^ s) w4 hpos hlt hle
          have eX : X / (bas ^ kk * 2 ^ s) = X / bas ^ kk / 2 ^ s := (Nat.div_div_eq_div_mul ..).symm
          have eY : Y / (bas ^ kk * 2 ^ s) = Y / bas ^ kk / 2 ^ s := (Nat.div_div_eq_div_mul ..).symm
          have hM : 0 < bas ^ kk * 2 ^ s := Nat.mul_pos (Nat.pow_pos bas_pos) (Nat.pow_pos (by decide))
          generalize X / bas ^ kk / 2 ^ s = X0 at *
          generalize Y / bas ^ kk / 2 ^ s = Y0 at *
          generalize bas ^ kk * 2 ^ s = M at *
          have HS := Lib.hid hst
          have HeX := Lib.hid eX
          have HeY := Lib.hid eY
          clear hst eX eY
          go_wp2_with fail
          refine (HS.out).mono ?_
          rintro e w5 ⟨aa, ab, ba, bb, X1, Y1, rfl, hLe, hstr, hb5⟩
          have HLe := Lib.hid hLe
          have hb45 := hb4.trans (hb5.mono hb4.size)
          clear hLe hb4 hb5 HL HS
          by_cases hab : ab = 0
          · have hok : (ab != 0) = false := by rw [bne_eq_false_iff_eq]; exact hab
            have Hab := Lib.hid hab
            clear hab hstr
            have hbw : Below wr.heap.size wr (w5.alloc (.cells (fourOf aa ab ba bb) 92)) := hb45.alloc hb45.size _
            go_wp2_with fail
            refine (HD.out _ hbw).mono ?_
            rintro e w6 ⟨A5, n5, A6, n6, rfl, hdq, hdr, hb6, hoq, hor⟩
            have hb06 := hbw.trans (hb6.mono hbw.size)
            obtain ⟨g6, hg6, hg6', ho6⟩ := (hor hYX).at hb6.size
            have hsz := hbw.size
            have hdY' := hdY.below hb06
            have hoY' := hoY.below hb06 hg2lt
            have hb16 := hbel.trans (hb06.mono hbel.size)
            have hmod : X % Y < Y := Nat.mod_lt _ hYpos
            have hgn : Nat.gcd Y (X % Y) = Nat.gcd x y := by rw [← Hgcd.out, Nat.gcd_comm X Y, Nat.gcd_rec Y X, Nat.gcd_comm Y]
            have Hgn := Lib.hid hgn
            clear hgn hor hoq hdq hb6
            go_wp2_with fail
            go_roundg (Y + X % Y)
            case measure => omega
            case rel => exact ⟨B', b, A6, n6, Y, X % Y, g2, g6, rfl, rfl, hdY', hdr, hoY', ho6, by omega, hg2, by have := hbel.size; omega, Nat.le_of_lt hmod, Hgn.out, by omega, Nat.le_refl _, hb16⟩
          · have hok : (ab != 0) = true := by rw [bne_iff_ne]; exact hab
            have hbw : Below wr.heap.size wr (w5.alloc (.cells (fourOf aa ab ba bb) 92)) := hb45.alloc hb45.size _
            obtain ⟨t1, t2, t3, t4, t5⟩ := HLe.out.all M X Y hM HeX.out HeY.out hYX
            have tstr := (hstr.resolve_left hab) M X Y hM HeX.out HeY.out hYX
            have ex' : aa * X + ab * Y = ((aa * X + ab * Y).toNat : Nat) := (Int.toNat_of_nonneg (by omega)).symm
            have ey' : ba * X + bb * Y = ((ba * X + bb * Y).toNat : Nat) := (Int.toNat_of_nonneg (by omega)).symm
            generalize hx'v : (aa * X + ab * Y).toNat = x' at *
            generalize hy'v : (ba * X + bb * Y).toNat = y' at *
            rw [ex', ey'] at t2 tstr t4
            rw [ex'] at t3
            have hXb := lt_pow_limbs X
            rw [hdX.len] at hXb
            have hcom := combine_any w1.heap.size g1 g2 (kk + 3) b X Y x' y' aa ab ba bb A' B' (w5.alloc (.cells (fourOf aa ab ba bb) 92)) (hoX.below hbw hg1lt) (hoY.below hbw hg2lt) hgg hg1 hg2 (by have := hbel.size; have := hbw.size; omega) (by omega) hbp hba (by omega) HLe.out.b1 HLe.out.b2 HLe.out.b3 HLe.out.b4 ex' ey' (by omega) (by omega)
            have hgn : Nat.gcd x' y' = Nat.gcd x y := by rw [← Hgcd.out, ← t4]; rfl
            have Hcom := Lib.hid hcom
            have Hgn := Lib.hid hgn
            have Hss := Lib.hid (show x' + y' < X + Y ∧ y' ≤ x' ∧ x' ≤ X by omega)
            clear hcom hgn t1 t2 t3 t4 t5 tstr ex' ey' hx'v hy'v hXb hab hstr
            go_wp2_with fail
            refine (Hcom.out).mono ?_
            rintro e w6 ⟨g5, g6, A5, n5, A6, n6, rfl, hd5, hd6, ho5, ho6, hne, h05, h06, hl5, hl6, hb6⟩
            have hb16 := hbel.trans ((hbw.mono hbel.size).trans hb6)
            have hn5 : n5 ≤ kk + 3 := by
              have := limbs_mono Hss.out.2.2
              rw [hd5.len, hdX.len] at this
              exact this
            clear hb6
            go_wp2_with fail
            go_roundg (x' + y')
            case measure => have := Hss.out; omega
            case rel => exact ⟨A5, n5, A6, n6, x', y', g5, g6, rfl, rfl, hd5, hd6, ho5, ho6, hne, h05, h06, Hss.out.2.1, Hgn.out, by omega, Nat.le_refl _, hb16⟩
        · have han2 : a ≤ 2 := by omega
          have HNx := fun q => narrow_any A' a a X (wr.drewN q) (Sl.drewN hdX q)
          have HNy := fun q => narrow_any B' b b Y (wr.drewN q) (Sl.drewN hdY q)
          have hXb : X < 1000000000000000000 := by
            have e := lt_pow_limbs X
            rw [hdX.len] at e
            exact Nat.lt_of_lt_of_le e (Nat.pow_le_pow_right bas_pos han2)
          have fx : fitsWord X = true := by unfold fitsWord; rw [decide_eq_true_iff]; omega
          have fy : fitsWord Y = true := by unfold fitsWord; rw [decide_eq_true_iff]; omega
          simp only [fx, fy, if_true] at HNx HNy
          have HX := Lib.hid (HNx 0)
          have HY := Lib.hid HNy
          clear HNx HNy fx fy
          go_wp2_with fail
          refine (HX.out).mono ?_
          rintro e w4 ⟨rfl, q2, rfl⟩
          go_wp2_with fail
          have HY2 := HY.out q2
          refine HY2.mono ?_
          rintro e w4 ⟨rfl, q3, rfl⟩
          go_wp2_with fail
          go_loopw [11, 13] (WordRel w1 x y) (fun _ b _ => (intOf b).toNat)
          case atStart => exact ⟨X, Y, rfl, rfl, hXb, by omega, Hgcd.out, below_drewN hbel _⟩
          case round =>
            obtain ⟨X, Y, rfl, rfl, hX, hY, hg, hbel⟩ := hrel
            have Hg := Lib.hid hg
            clear hg
            by_cases hY0 : Y = 0
            · subst hY0
              have hgX : X = Nat.gcd x y := by rw [← Hg.out, Nat.gcd_zero_right]
              have HgX := Lib.hid hgX
              clear hgX
              go_wp2_with fail
              refine (natural_any X _ (by omega)).mono ?_
              rintro e w6 ⟨A3, n3, rfl, hd3, hb3, ho3⟩
              have hfin := hbel.trans (hb3.mono hbel.size)
              clear hb3 ho3 hbel
              go_wp2
              go_ret
              refine ⟨A3, n3, rfl, ?_, hfin⟩
              rw [← HgX.out]
              exact hd3
            · have hYb : ((Y : Int) != 0) = true := by rw [bne_iff_ne]; omega
              have hY1 : (1 : Int) ≤ Y := by omega
              have hmod : X % Y < Y := Nat.mod_lt _ (by omega)
              have hgn : Nat.gcd Y (X % Y) = Nat.gcd x y := by rw [← Hg.out, Nat.gcd_comm X Y, Nat.gcd_rec Y X, Nat.gcd_comm Y]
              have Hgn := Lib.hid hgn
              clear hgn
              go_wp2_with fail
              go_quiet (fail)
              go_wp2_with fail
              go_roundw
              case rel => exact ⟨Y, X % Y, rfl, rfl, hY, by omega, Hgn.out, below_drewN hbel nq⟩
              case measure =>
                have e3 : (X : Int) % Y = ((X % Y : Nat) : Int) := rfl
                simp only [intOf]
                omega

theorem one_dg (w : World) : Dg (w.alloc (.cells #[.int .u32 1] 66)) (some ⟨w.heap.size, 0, none⟩) 1 1 :=
  Sl.of_blk (l := [1]) (Blk.new w 66 #[.int .u32 1]) rfl (by omega)

/-- Where one of both is 1. -/
theorem gcd_one1 (A B : Option Addr) (n m : Nat) (w : World) (h : Dg w A n 1) : Calls Tryz.prog 42 #[.slice A n n, .slice B m m] w (RetVal 1 w) := by
  have hi1 := isOne_dg A n n 1 w h
  have Hi1 := Lib.hid hi1
  clear hi1
  go_enter Tryz.func42, Tryz.ntmps42
  go_wp2_with fail
  refine (Hi1.out).mono ?_
  rintro e w1 ⟨rfl, rfl⟩
  go_wp2_with fail
  go_ret
  exact ⟨_, 1, rfl, one_dg w1, (Below.refl _ _).alloc (Nat.le_refl _) _⟩

theorem gcd_one2 (A B : Option Addr) (n m x : Nat) (w : World) (h : Dg w A n x) (hx : x ≠ 1) (k : Dg w B m 1) : Calls Tryz.prog 42 #[.slice A n n, .slice B m m] w (RetVal 1 w) := by
  have hi1 := isOne_dg A n n x w h
  have hi2 := isOne_dg B m m 1 w k
  rw [decide_eq_false hx] at hi1
  have Hi1 := Lib.hid hi1
  have Hi2 := Lib.hid hi2
  clear hi1 hi2
  go_enter Tryz.func42, Tryz.ntmps42
  go_wp2_with fail
  refine (Hi1.out).mono ?_
  rintro e w1 ⟨rfl, rfl⟩
  go_wp2_with fail
  refine (Hi2.out).mono ?_
  rintro e w1 ⟨rfl, rfl⟩
  go_wp2_with fail
  go_ret
  exact ⟨_, 1, rfl, one_dg w1, (Below.refl _ _).alloc (Nat.le_refl _) _⟩

theorem gcd_any (A B : Option Addr) (n m x y : Nat) (w : World) (h : Dg w A n x) (k : Dg w B m y) (hn9 : n ≤ 10000000000) (hm9 : m ≤ 10000000000) :
    Calls Tryz.prog 42 #[.slice A n n, .slice B m m] w (RetVal (Nat.gcd x y) w) := by
  by_cases hx1 : x = 1
  · subst hx1
    rw [Nat.gcd_one_left]
    exact gcd_one1 A B n m w h
  · by_cases hy1 : y = 1
    · subst hy1
      rw [Nat.gcd_one_right]
      exact gcd_one2 A B n m x w h hx1 k
    · by_cases hyx : y ≤ x
      · by_cases hn : n ≤ 2
        · exact (gcd_short A B n m x y w h k hyx hx1 hy1 hn).1
        · exact (gcd_long A B n m x y w h k hyx hx1 hy1 (by omega) hn9).1
      · rw [Nat.gcd_comm]
        by_cases hn : m ≤ 2
        · exact (gcd_short B A m n y x w k h (by omega) hy1 hx1 hn).2 (by omega)
        · exact (gcd_long B A m n y x w k h (by omega) hy1 hx1 (by omega) hm9).2 (by omega)

end Go.Proofs.YtemcdnppgnobmaaGreatDoor
