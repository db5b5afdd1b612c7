/-
  The walks of the reference's GcdN, Sign, Neg, Gcd and Quo.
-/
import Derived.Test.YtemcdnppgnobmaaGreatDoorRfD
import Derived.Test.YtemcdnppgnobmaaGreatDoorRat4
set_option linter.unusedVariables false
namespace Go.Proofs.YtemcdnppgnobmaaGreatDoor
open Go.RowKit

/-- The number that a slice reads as. -/
def numN (w : World) : Value → Nat
  | .slice (some a) n _ => ofL ((List.range n).map fun i => cellN w a.block (a.off + i))
  | _ => 0
theorem numN_nd {w : World} {A : Option Addr} {n c x : Nat} (h : Nd w A n c x) : numN w (.slice A n c) = x := by
  rcases Nat.eq_zero_or_pos n with h0 | h0
  · subst h0
    have hx := limbs_eq_zero h.len
    subst hx
    cases A <;> rfl
  · obtain ⟨b, off, rfl, hb, hc⟩ := h.1.at h0
    show ofL ((List.range n).map fun i => cellN w b (off + i)) = x
    have e : (List.range n).map (fun i => cellN w b (off + i)) = toL x := by
      apply List.ext_getElem
      · rw [List.length_map, List.length_range]
        exact h.1.len.symm
      · intro i h1 h2
        rw [List.getElem_map, List.getElem_range]
        unfold cellN
        rw [hc i (by simpa using h1), List.getD_eq_getElem?_getD, List.getElem?_eq_getElem h2]
        simp
    rw [e, ofL_toL]

def RGcd (w : World) (x y k : Nat) (av bv : Value) (wr : World) : Prop :=
  ∃ X Y A n c B m d, av = .slice A n c ∧ bv = .slice B m d ∧ Nd wr A n c X ∧ Nd wr B m d Y ∧ Nat.gcd X Y = Nat.gcd x y ∧ n ≤ k ∧ m ≤ k ∧ Below w.heap.size w wr

set_option maxRecDepth 100000 in
set_option maxHeartbeats 800000 in
theorem rgcdN_any (A B : Option Addr) (n m c d : Nat) (x y : Nat) (w : World) (h : Nd w A n c x) (k : Nd w B m d y) (hn9 : n ≤ 1000000000) (hm9 : m ≤ 1000000000) :
    Calls Tryz.prog 43 #[.slice A n c, .slice B m d] w (fun e w' => ∃ A' n' c', e = .returned (.slice A' n' c') ∧ Nd w' A' n' c' (Nat.gcd x y) ∧ Below w.heap.size w w') := by
  have H := Lib.hid h
  have K := Lib.hid k
  clear h k
  go_enter Tryz.func43, Tryz.ntmps43
  go_wp2
  go_loopw [0, 1] (RGcd w x y 1000000000) (fun _ v wr => numN wr v)
  case atStart => exact ⟨x, y, A, n, c, B, m, d, rfl, rfl, H.out, K.out, rfl, hn9, hm9, Below.refl _ _⟩
  case round =>
    obtain ⟨X, Y, A', n', c', B', m', d', rfl, rfl, hX, hY, hg, hn, hm, hbel⟩ := hrel
    have Hg := Lib.hid hg
    have hlY := hY.len
    clear hg
    rcases Nat.eq_zero_or_pos m' with h0 | h0
    · subst h0
      have hY0 := limbs_eq_zero hlY
      have Hfin : Hid (Nat.gcd x y = X) := by
        show Nat.gcd x y = X
        rw [← Hg.out, hY0, Nat.gcd_zero_right]
      clear hlY hY0
      go_wp2_with fail
      go_ret
      rw [Hfin.out]
      exact ⟨A', n', c', rfl, hX, hbel⟩
    · have hYp : 0 < Y := by
        rcases Nat.eq_zero_or_pos Y with e | e
        · rw [e, limbs_zero] at hlY; omega
        · exact e
      have Hd := Lib.hid (rdivN_any A' B' n' m' c' d' X Y wr hX hY hYp hn hm)
      have Hnum := Lib.hid (numN_nd hY)
      have HYp := Lib.hid hYp
      have HlY := Lib.hid hlY
      clear hlY hYp
      go_wp2_with fail
      refine Hd.out.mono ?_
      rintro e w1 ⟨A1, n1, c1, A2, n2, c2, rfl, hq, hr, hb1⟩
      have hY1 := hY.below hb1
      have hb2 := hbel.and hb1
      have hn2 : n2 ≤ 1000000000 := by
        rw [← hr.len]
        refine Nat.le_trans (limbs_mono (Nat.le_of_lt (Nat.mod_lt _ HYp.out))) ?_
        rw [HlY.out]; exact hm
      have Hnum2 := Lib.hid (numN_nd hr)
      clear hq hX hY Hd
      go_wp2_with fail
      go_roundw
      case rel => exact ⟨Y, X % Y, B', m', d', A2, n2, c2, rfl, rfl, hY1, hr, by rw [← Hg.out, Nat.gcd_comm X Y, Nat.gcd_rec Y X, Nat.gcd_comm], hm, hn2, hb2⟩
      case measure =>
        rw [Hnum2.out, Hnum.out]
        exact Nat.mod_lt _ HYp.out

/-- An integer of the reference in a block. -/
theorem Blk.zz {w : World} {g : Nat} {A : Option Addr} {n c : Nat} {b : Bool} (h : Blk w g 29 #[.bool b, .slice A n c]) :
    w.cell? ⟨g, 0, none⟩ = some (.bool b) ∧ w.cell? ⟨g, 1, none⟩ = some (.slice A n c) ∧ w.frozen? ⟨g, 0, none⟩ = false ∧ w.frozen? ⟨g, 1, none⟩ = false :=
  ⟨h.cell 0, h.cell 1, h.free 0, h.free 1⟩

theorem rsign_any (z : Int) (A : Option Addr) (n c : Nat) (w : World) (h : Nd w A n c z.natAbs) :
    Calls Tryz.prog 17 #[zV z A n c] w (fun e w' => e = .returned (.int .i64 z.sign) ∧ Below w.heap.size w w') := by
  have hb := Blk.new w 29 #[.bool (decide (z < 0)), .slice A n c]
  obtain ⟨c0, c1, f0, f1⟩ := hb.zz
  have hbel := below_new w (.cells #[.bool (decide (z < 0)), .slice A n c] 29)
  have Hbel := Lib.hid hbel
  have hl := h.len
  unfold zV
  rcases Int.lt_trichotomy z 0 with hz | hz | hz
  · have hn : 0 < n := by
      rcases Nat.eq_zero_or_pos n with e | e
      · have := limbs_eq_zero (hl.trans e); omega
      · exact e
    have hs : z.sign = -1 := Int.sign_eq_neg_one_of_neg hz
    have hd : decide (z < 0) = true := decide_eq_true hz
    have hne : ((n : Int) == 0) = false := by rw [beq_eq_false_iff_ne]; omega
    rw [hs]
    rw [hd] at hb c0 c1 f0 f1 Hbel ⊢
    clear hs hd hl hbel hz
    go_enter Tryz.func17, Tryz.ntmps17
    go_wp2_with fail
    go_ret
    exact ⟨rfl, Hbel.out⟩
  · subst hz
    have hn : n = 0 := hl.symm
    subst hn
    clear hl hbel
    go_enter Tryz.func17, Tryz.ntmps17
    go_wp2_with fail
    go_ret
    exact ⟨rfl, Hbel.out⟩
  · have hn : 0 < n := by
      rcases Nat.eq_zero_or_pos n with e | e
      · have := limbs_eq_zero (hl.trans e); omega
      · exact e
    have hs : z.sign = 1 := Int.sign_eq_one_of_pos hz
    have hd : decide (z < 0) = false := decide_eq_false (by omega)
    have hne : ((n : Int) == 0) = false := by rw [beq_eq_false_iff_ne]; omega
    rw [hs]
    rw [hd] at hb c0 c1 f0 f1 Hbel ⊢
    clear hs hd hl hbel hz
    go_enter Tryz.func17, Tryz.ntmps17
    go_wp2_with fail
    go_ret
    exact ⟨rfl, Hbel.out⟩

theorem two_newZ (w : World) (c c' : Array Value) (t t' : TypeId) : ∃ W, W = (w.alloc (.cells c t)).alloc (.cells c' t') ∧
    Blk W w.heap.size t c ∧ Blk W (w.heap.size + 1) t' c' ∧ Below w.heap.size w W := by
  refine ⟨_, rfl, (Blk.new w t c).keep (below_new _ _), ?_, (below_new w _).more _⟩
  have := Blk.new (w.alloc (.cells c t)) t' c'
  rwa [size_new] at this

set_option maxRecDepth 100000 in
theorem rneg_any (z : Int) (A : Option Addr) (n c : Nat) (w : World) (h : Nd w A n c z.natAbs) :
    Calls Tryz.prog 38 #[zV z A n c] w (fun e w' => e = .returned (zV (-z) A n c) ∧ Nd w' A n c (-z).natAbs ∧ Below w.heap.size w w') := by
  obtain ⟨W, hW, hb0, hb1, hbel⟩ := two_newZ w #[.bool (decide (z < 0)), .slice A n c] intZ 29 29
  have hx := h.below hbel
  have hin := rint_any (!decide (z < 0)) A n c z.natAbs (-z) W hx (by
    by_cases hz : z < 0
    · simp [hz]; omega
    · simp [hz]; omega)
  obtain ⟨c0, c1, f0, f1⟩ := hb0.zz
  have Hin := Lib.hid hin
  have HW := Lib.hid hW
  have Hbel := Lib.hid hbel
  clear hin hW hbel hx h
  unfold intZ at HW
  unfold zV at *
  generalize decide (z < 0) = b at *
  go_enter Tryz.func38, Tryz.ntmps38
  go_upto_region 1 with fail
  rw [← HW.out]
  clear HW
  go_wp2_with fail
  refine Hin.out.mono ?_
  rintro e w1 ⟨rfl, hd, hb⟩
  have hr := hb1.keep hb
  obtain ⟨z0, z1, y0, y1⟩ := hr.two
  go_wp2_with fail
  exact ret_z_stored (z := -z) rfl rfl rfl hr hd (Hbel.out.and hb) (by omega) (decide_eq_decide.2 (by omega)) (fun w' h1 h2 => ⟨rfl, h1, h2⟩)

set_option maxRecDepth 100000 in
theorem rgcd_any (y z : Int) (A B : Option Addr) (n m c d : Nat) (w : World) (h : Nd w A n c y.natAbs) (k : Nd w B m d z.natAbs) (hn9 : n ≤ 1000000000) (hm9 : m ≤ 1000000000) :
    Calls Tryz.prog 15 #[zV y A n c, zV z B m d] w (RetZ (Nat.gcd y.natAbs z.natAbs : Nat) w) := by
  obtain ⟨W, hW, hb0, hb1, hb2, hbel⟩ := three_new w 29 29 29 #[.bool (decide (y < 0)), .slice A n c] #[.bool (decide (z < 0)), .slice B m d] intZ
  have hgc := rgcdN_any A B n m c d _ _ W (h.below hbel) (k.below hbel) hn9 hm9
  obtain ⟨c0, c1, f0, f1⟩ := hb0.zz
  obtain ⟨d0, d1, e0, e1⟩ := hb1.zz
  have Hgc := Lib.hid hgc
  have HW := Lib.hid hW
  have Hbel := Lib.hid hbel
  clear hgc hW hbel h k
  unfold intZ at HW
  unfold zV
  go_enter Tryz.func15, Tryz.ntmps15
  go_upto_region 1 with fail
  rw [← HW.out]
  clear HW
  go_wp2_with fail
  refine Hgc.out.mono ?_
  rintro e w1 ⟨G, g, cg, rfl, hd, hb⟩
  have hin := rint_any false G g cg _ ((Nat.gcd y.natAbs z.natAbs : Nat) : Int) w1 hd rfl
  have Hin := Lib.hid hin
  clear hin
  go_wp2_with fail
  refine Hin.out.mono ?_
  rintro e w2 ⟨rfl, hd2, hbb⟩
  have hr := hb2.keep (hb.and hbb)
  obtain ⟨z0, z1, y0, y1⟩ := hr.two
  unfold zV
  go_wp2_with fail
  exact ret_z_stored (z := ((Nat.gcd y.natAbs z.natAbs : Nat) : Int)) rfl rfl rfl hr hd2 (Hbel.out.and (hb.and hbb)) (by omega) rfl (fun w' h1 h2 => ⟨G, g, cg, rfl, h1, h2⟩)

/-- A quotient with its sign. -/
def qZ (y z : Int) : Int := if (decide (y < 0) != decide (z < 0)) then -((y.natAbs / z.natAbs : Nat) : Int) else ((y.natAbs / z.natAbs : Nat) : Int)
end Go.Proofs.YtemcdnppgnobmaaGreatDoor
