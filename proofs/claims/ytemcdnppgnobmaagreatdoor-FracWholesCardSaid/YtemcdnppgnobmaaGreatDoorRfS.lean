/-
  The walk of the reference's String of integers.
-/
import Derived.Test.YtemcdnppgnobmaaGreatDoorRfE
import Derived.Test.YtemcdnppgnobmaaGreatDoorStr
set_option linter.unusedVariables false
namespace Go.Proofs.YtemcdnppgnobmaaGreatDoor
open Go.RowKit

theorem own_take {w : World} {B g cap n m : Nat} {e : TypeId} {k : IntKind} {l : List Nat} (h : w.ownsRow B e 1 (.slice (some ⟨g, 0, none⟩) n cap) n (nums k l)) (hm : m ≤ n) : w.ownsRow B e 1 (.slice (some ⟨g, 0, none⟩) m cap) m (nums k (l.take m)) := by
  have hl := own_len h
  obtain ⟨hl', ⟨e1, _⟩ | ⟨g', cap', cur, e1, hb, hg, hc, hx, hs, ht⟩⟩ := h
  · cases e1
  · injection e1 with e1 e2 e3
    injection e1 with e1
    injection e1 with e1
    subst e1 e3
    refine ⟨by rw [nums_length, List.length_take]; omega, .inr ⟨g, cap, cur, rfl, hb, hg, by omega, hx, hs, ?_⟩⟩
    have e4 : nums k (l.take m) = (nums k l).take m := by simp [nums, List.map_take]
    rw [e4, ← ht, List.take_take]
    congr 1
    omega

def RLow (W : World) (x n : Nat) (b i : Value) (wr : World) : Prop :=
  ∃ k, k ≤ n ∧ i = .int .i64 (k : Nat) ∧ wr.ownsRow W.heap.size 5 1 b (9 * k) (nums .u8 (lowD x (9 * k))) ∧ Below W.heap.size W wr
def RLim (W : World) (x i Y : Nat) (b v k : Value) (wr : World) : Prop :=
  ∃ t, t ≤ 9 ∧ k = .int .i64 (t : Nat) ∧ v = .int .i64 (Y / 10 ^ t : Nat) ∧ wr.ownsRow W.heap.size 5 1 b (9 * i + t) (nums .u8 (lowD x (9 * i + t))) ∧ Below W.heap.size W wr
def RStr (W : World) (x n g cap : Nat) (b : Value) (wr : World) : Prop :=
  ∃ j, dl x ≤ j ∧ j ≤ 9 * n ∧ b = .slice (some ⟨g, 0, none⟩) j cap ∧ wr.ownsRow W.heap.size 5 1 (.slice (some ⟨g, 0, none⟩) j cap) j (nums .u8 (lowD x j)) ∧ Below W.heap.size W wr
def RRev (W : World) (l : List Nat) (g cap L : Nat) (i k : Value) (wr : World) : Prop :=
  ∃ t, t ≤ L ∧ i = .int .i64 (t : Nat) ∧ k = .int .i64 ((L : Int) - 1 - t) ∧ wr.ownsRow W.heap.size 5 1 (.slice (some ⟨g, 0, none⟩) L cap) L (nums .u8 (revP l t)) ∧ Below W.heap.size W wr

theorem decZ_zero : strL (decZ 0) = { data := #[48] } := by kernel_rfl

set_option maxRecDepth 100000 in
set_option maxHeartbeats 3200000 in
theorem rstring_any (z : Int) (A : Option Addr) (n c : Nat) (w : World) (h : Nd w A n c z.natAbs) (hn9 : n ≤ 100000) :
    Calls Tryz.prog 24 #[zV z A n c] w (fun e w' => e = .returned (.string (strL (decZ z))) ∧ Below w.heap.size w w') := by
  obtain ⟨i0, hi, hz0, hz1, hz2⟩ := info_parts info_u8
  obtain ⟨W, hW⟩ : ∃ W, W = w.alloc (.cells #[.bool (decide (z < 0)), .slice A n c] 29) := ⟨_, rfl⟩
  have hb0 : Blk W w.heap.size 29 #[.bool (decide (z < 0)), .slice A n c] := by rw [hW]; exact Blk.new _ _ _
  have hbel : Below w.heap.size w W := by rw [hW]; exact below_new _ _
  have hx := h.below hbel
  have hl := h.len
  rcases Nat.eq_zero_or_pos n with h0 | h0
  · subst h0
    have hz : z = 0 := by have := limbs_eq_zero hl; omega
    subst hz
    rw [show decide ((0 : Int) < 0) = false from rfl] at hW hb0
    rw [decZ_zero]
    obtain ⟨c0, c1, f0, f1⟩ := hb0.zz
    have HW := Lib.hid hW
    have Hbel := Lib.hid hbel
    clear hW hbel hx h hl
    unfold zV
    rw [show decide ((0 : Int) < 0) = false from rfl]
    go_enter Tryz.func24, Tryz.ntmps24
    go_upto_region 1 with fail
    rw [← HW.out]
    go_wp2_with fail
    go_ret
    exact ⟨rfl, Hbel.out⟩
  have hxp : 0 < z.natAbs := by
    rcases Nat.eq_zero_or_pos z.natAbs with e | e
    · rw [e, limbs_zero] at hl; omega
    · exact e
  have hne : ((n : Int) == 0) = false := by rw [beq_eq_false_iff_ne]; omega
  have Hrev := Lib.hid (decZ_rev z.natAbs (decide (z < 0)) z rfl rfl)
  obtain ⟨x, hxe⟩ : ∃ x, z.natAbs = x := ⟨_, rfl⟩
  rw [hxe] at hx hl hxp Hrev
  have HW := Lib.hid hW
  have Hbel := Lib.hid hbel
  have Hx := Lib.hid hx
  have hdl : dl x ≤ 9 * n := by rw [← hl]; exact dl_le_limbs x
  have hdp : 0 < dl x := dl_pos hxp
  have Hdn : Hid (dn x = dl x) := Lib.hid (dn_ne hxp)
  have Hdtop := Lib.hid (dig_top hxp)
  obtain ⟨bA, oA', rfl, hbA, hcA⟩ := Sl.at hx.1 h0
  have HcA := Lib.hid hcA
  have Hl := Lib.hid hl
  clear hW hbel hx h hl hxp hcA hxe
  unfold zV
  have hcellA : ∀ X, Below W.heap.size W X → X.cell? ⟨w.heap.size, 0, none⟩ = some (.bool (decide (z < 0))) ∧ X.cell? ⟨w.heap.size, 1, none⟩ = some (.slice (some ⟨bA, oA', none⟩) n c) := fun X hX => ⟨(hb0.keep hX).cell 0, (hb0.keep hX).cell 1⟩
  have HcellA := Lib.hid hcellA
  obtain ⟨c0, c1⟩ := hcellA _ (Below.refl _ _)
  clear hcellA hb0
  obtain ⟨bz, hbz⟩ : ∃ bz, decide (z < 0) = bz := ⟨_, rfl⟩
  rw [hbz] at Hrev HcellA c0 HW ⊢
  clear hbz
  go_enter Tryz.func24, Tryz.ntmps24
  go_upto_region 1 with fail
  rw [← HW.out]
  clear HW
  go_wp2_with fail
  go_loopw [3, 4] (RLow W x n) (fun _ i _ => n - (intOf i).toNat)
  case atStart => exact ⟨0, Nat.zero_le _, rfl, World.ownsRow_nil _ _ _ _, Below.refl _ _⟩
  case round =>
    obtain ⟨k, hk, rfl, hown, hbelr⟩ := hrel
    clear c0 c1
    obtain ⟨c0, c1⟩ := HcellA.out _ hbelr
    by_cases hkn : k < n
    · have hck := (hbelr.cell (p := ⟨bA, oA' + k, none⟩) hbA).trans (HcA.out k hkn)
      have hYl : (toL x).getD k 0 < 1000000000 := (low_toL x).get k
      have Hdig := Lib.hid (fun t (ht : t < 9) => dig_of_limb x k t ht)
      obtain ⟨Y, hY⟩ : ∃ Y, Y = (toL x).getD k 0 := ⟨_, rfl⟩
      rw [← hY] at hck hYl Hdig
      clear hY
      have Hown := Lib.hid hown
      have Hbelr := Lib.hid hbelr
      clear hown hbelr
      go_wp2_with fail
      go_loopw [3, 5, 6] (RLim W x k Y) (fun _ _ t _ => 9 - (intOf t).toNat)
      case atStart => exact ⟨0, by omega, rfl, by rw [Nat.pow_zero, Nat.div_one], Hown.out, Hbelr.out⟩
      case round =>
        obtain ⟨t, ht, rfl, rfl, hown, hbel⟩ := hrel
        by_cases ht9 : t < 9
        · have hd := Hdig.out t ht9
          have hv : Y / 10 ^ t < 1000000000 := Nat.lt_of_le_of_lt (Nat.div_le_self _ _) hYl
          have Hv1 : Hid (Y / 10 ^ (t + 1) = Y / 10 ^ t / 10) := by
            show Y / 10 ^ (t + 1) = Y / 10 ^ t / 10
            rw [Nat.pow_succ, Nat.div_div_eq_div_mul]
          obtain ⟨V, hV⟩ : ∃ V, V = Y / 10 ^ t := ⟨_, rfl⟩
          rw [← hV] at hd hv Hv1 ⊢
          have Hd := Lib.hid hd
          have hsz := hbel.size
          clear hd hV
          go_wp2_with (at_builtin; refine wpList_append_own _ rfl _ _ 84 rfl W.heap.size 5 i0 (.int .u8 0) 1 1 Tryz.underlying84 hi hz0 hz1 hz2 rfl (by decide) _ _ _ rfl (hown.alloc _) ⟨wr.heap.size, 0, none⟩ 1 1 [.int .u8 (48 + (V : Int) % 10)] rfl rfl ?c1 ?c2 ?c3 ?c4 ?c5 ?_)
          case c1 => exact cell_one_new _ _ _
          case c2 => exact one_ofs _ rfl
          case c3 => unfold maxLen; omega
          case c4 => omega
          case c5 => simp; omega
          intro v' w1 hown' hgrow _
          have hb' := hbel.trans (own_below hown hsz hgrow)
          have hown2 := own_more (d := dig x (9 * k + t)) hown' (congrArg (Value.int .u8) (by rw [← Hd.out]; omega))
          rw [← lowD_succ] at hown2
          go_wp2
          go_roundw
          case rel => exact ⟨t + 1, by omega, by go_num, by rw [Hv1.out]; exact congrArg (Value.int .i64) (by omega), hown2, hb'⟩
          case measure => simp [intOf] <;> omega
        · obtain rfl : t = 9 := by omega
          clear ht ht9
          go_wp2
          go_roundw
          case rel => exact ⟨k + 1, by omega, by go_num, hown, hbel⟩
          case measure => simp [intOf] <;> omega
    · obtain rfl : k = n := by omega
      obtain ⟨g, cap, rfl⟩ := own_pos hown (by omega)
      have Hown := Lib.hid hown
      have Hbelr := Lib.hid hbelr
      clear hown hbelr hkn
      go_wp2_with fail
      go_loopw [3] (RStr W x k g cap) (fun v _ => lenV v)
      case atStart => exact ⟨9 * k, hdl, Nat.le_refl _, rfl, Hown.out, Hbelr.out⟩
      case round =>
        obtain ⟨j, hj1, hj2, rfl, hown, hbel⟩ := hrel
        clear c0 c1
        obtain ⟨c0, c1⟩ := HcellA.out _ hbel
        have hcj := own_num hown (j - 1) (by omega)
        rw [lowD_get _ _ _ (by omega)] at hcj
        have hcap := own_capd hown
        obtain ⟨j', hj'⟩ : ∃ j', j = j' + 1 := ⟨j - 1, by omega⟩
        subst hj'
        rw [Nat.add_sub_cancel] at hcj
        by_cases hjd : j' + 1 = dl x
        · have hdt : dig x j' ≠ 48 := by
            have := Hdtop.out
            rw [← hjd, Nat.add_sub_cancel] at this
            exact this
          have hde : ((dig x j' : Nat) == (48 : Int)) = false := by rw [beq_eq_false_iff_ne]; omega
          have hlen : j' + 1 ≤ 1000000 := by omega
          have Hown2 := Lib.hid hown
          have hsz := hbel.size
          have HB := Lib.hid hbel
          rw [Hdn.out, ← hjd] at Hrev
          clear hown hbel hdt hj1 hj2 hjd hdl hdp
          cases bz
          · have HDz : Hid (strL ((lowD x (j' + 1) ++ []).reverse) = strL (decZ z)) := by
              show strL ((lowD x (j' + 1) ++ []).reverse) = strL (decZ z)
              rw [← Hrev.out]; rfl
            have hrow : Hid (wr.ownsRow W.heap.size 5 1 (.slice (some ⟨g, 0, none⟩) (j' + 1) cap) (j' + 1) (nums .u8 (lowD x (j' + 1) ++ []))) := by
              show wr.ownsRow _ _ _ _ _ _
              rw [List.append_nil]; exact Hown2.out
            have hbel' := HB.out
            go_wp2_with fail
            go_loopw [7, 8] (RRev W (lowD x (j' + 1) ++ []) g cap (j' + 1)) (fun i _ _ => (j' + 1) - (intOf i).toNat)
            case atStart => exact ⟨0, Nat.zero_le _, rfl, by go_num, by rw [revP_zero]; exact hrow.out, hbel'⟩
            case round =>
              obtain ⟨t, ht, rfl, rfl, hown, hb⟩ := hrel
              have hll : (lowD x (j' + 1) ++ []).length = (j' + 1) := by rw [List.length_append, lowD_length]; rfl
              have Hll := Lib.hid hll
              clear hll
              by_cases hlt : t < (j' + 1) - 1 - t
              · have r1 := own_num hown t (by omega)
                have r2 := own_num hown ((j' + 1) - 1 - t) (by omega)
                have fr1 := own_free hown t
                have fr2 := own_free hown ((j' + 1) - 1 - t)
                rw [revP_get _ _ _ (by rw [Hll.out]; omega), if_neg (by rw [Hll.out]; omega)] at r1
                rw [revP_get _ _ _ (by rw [Hll.out]; omega), if_neg (by rw [Hll.out]; omega)] at r2
                have hst := revP_step (lowD x (j' + 1) ++ []) t (by rw [Hll.out]; exact hlt)
                rw [Hll.out] at hst
                obtain ⟨u1, hu1⟩ : ∃ u1, u1 = (lowD x (j' + 1) ++ []).getD t 0 := ⟨_, rfl⟩
                obtain ⟨u2, hu2⟩ : ∃ u2, u2 = (lowD x (j' + 1) ++ []).getD ((j' + 1) - 1 - t) 0 := ⟨_, rfl⟩
                rw [← hu1] at r1 hst
                rw [← hu2] at r2 hst
                have hown1 := own_set hown t u2 (z := (u2 : Nat)) rfl
                have hown2 := own_set hown1 ((j' + 1) - 1 - t) u1 (z := (u1 : Nat)) rfl
                rw [hst] at hown2
                have hg := own_lt hown
                have hb2 := (hb.setCell (p := ⟨g, t, none⟩) hg.2 (.int .u8 (u2 : Nat))).setCell (p := ⟨g, (j' + 1) - 1 - t, none⟩) hg.2 (.int .u8 (u1 : Nat))
                obtain ⟨k, hk⟩ : ∃ k, k = (j' + 1) - 1 - t := ⟨_, rfl⟩
                rw [← hk] at r2 fr2 hown2 hb2 hlt
                rw [show (((j' + 1) : Nat) : Int) - 1 - (t : Int) = (k : Nat) by omega]
                have hkt : k ≠ t := by omega
                have hkl : k < (j' + 1) := by omega
                have HK := Lib.hid hk
                have Hown2 := Lib.hid hown2
                have Hb2 := Lib.hid hb2
                have hcap := own_capd hown
                clear hst hu1 hu2 hown1 hown2 hb2 hk hown hb
                go_wp2_with fail
                go_roundw
                case rel => exact ⟨t + 1, by have := HK.out; omega, by go_num, congrArg (Value.int .i64) (by have := HK.out; omega), Hown2.out, Hb2.out⟩
                case measure => simp [intOf] <;> omega
              · have hfull := revP_full (lowD x (j' + 1) ++ []) t (by rw [Hll.out]; omega)
                rw [hfull] at hown
                have hconv := own_string Tryz.underlying84 hown
                rw [HDz.out] at hconv
                have hlt' : ¬ (t : Int) < ((j' + 1) : Nat) - 1 - (t : Int) := by omega
                have Hfin := Lib.hid (Hbel.out.and hb)
                clear hfull hown hlt hb
                go_wp2_with fail
                go_ret
                exact ⟨rfl, Hfin.out⟩
          · have HDz : Hid (strL ((lowD x (j' + 1) ++ [45]).reverse) = strL (decZ z)) := by
              show strL ((lowD x (j' + 1) ++ [45]).reverse) = strL (decZ z)
              rw [← Hrev.out]; rfl
            have hown := Hown2.out
            go_wp2_with (at_builtin; refine wpList_append_lies _ rfl _ _ 84 rfl W.heap.size 5 i0 (.int .u8 0) 1 1 Tryz.underlying84 hi hz0 hz1 hz2 rfl (by decide) _ (j' + 1) _ rfl (hown.alloc _) ⟨wr.heap.size, 0, none⟩ 1 1 [.int .u8 45] rfl rfl ?e1 ?e2 ?e3 ?e4 ?e5 ?e6 (wr.heap.size + 1) (size_new' _ _) ?_)
            case e2 => first | rfl | exact one_ofs _ rfl
            case e4 => first | omega | (unfold maxLen; omega)
            case e5 => first | omega | (unfold maxLen; omega)
            case e6 => first | omega | (rw [World.size_alloc]; omega)
            intro g2 cap2 w3 hown3 hgrow3 _ _
            have hbel' := HB.out.trans (own_below hown hsz hgrow3)
            have hrow : Hid (w3.ownsRow W.heap.size 5 1 (.slice (some ⟨g2, 0, none⟩) (j' + 1 + 1) cap2) (j' + 1 + 1) (nums .u8 (lowD x (j' + 1) ++ [45]))) := by
              show w3.ownsRow _ _ _ _ _ _
              rw [← nums_snoc]; exact hown3
            clear hown hown3 hgrow3
            go_wp2_with fail
            go_loopw [7, 8] (RRev W (lowD x (j' + 1) ++ [45]) g2 cap2 (j' + 1 + 1)) (fun i _ _ => (j' + 1 + 1) - (intOf i).toNat)
            case atStart => exact ⟨0, Nat.zero_le _, rfl, by go_num, by rw [revP_zero]; exact hrow.out, hbel'⟩
            case round =>
              obtain ⟨t, ht, rfl, rfl, hown, hb⟩ := hrel
              have hll : (lowD x (j' + 1) ++ [45]).length = (j' + 1 + 1) := by rw [List.length_append, lowD_length]; rfl
              have Hll := Lib.hid hll
              clear hll
              by_cases hlt : t < (j' + 1 + 1) - 1 - t
              · have r1 := own_num hown t (by omega)
                have r2 := own_num hown ((j' + 1 + 1) - 1 - t) (by omega)
                have fr1 := own_free hown t
                have fr2 := own_free hown ((j' + 1 + 1) - 1 - t)
                rw [revP_get _ _ _ (by rw [Hll.out]; omega), if_neg (by rw [Hll.out]; omega)] at r1
                rw [revP_get _ _ _ (by rw [Hll.out]; omega), if_neg (by rw [Hll.out]; omega)] at r2
                have hst := revP_step (lowD x (j' + 1) ++ [45]) t (by rw [Hll.out]; exact hlt)
                rw [Hll.out] at hst
                obtain ⟨u1, hu1⟩ : ∃ u1, u1 = (lowD x (j' + 1) ++ [45]).getD t 0 := ⟨_, rfl⟩
                obtain ⟨u2, hu2⟩ : ∃ u2, u2 = (lowD x (j' + 1) ++ [45]).getD ((j' + 1 + 1) - 1 - t) 0 := ⟨_, rfl⟩
                rw [← hu1] at r1 hst
                rw [← hu2] at r2 hst
                have hown1 := own_set hown t u2 (z := (u2 : Nat)) rfl
                have hown2 := own_set hown1 ((j' + 1 + 1) - 1 - t) u1 (z := (u1 : Nat)) rfl
                rw [hst] at hown2
                have hg2 := own_lt hown
                have hb2 := (hb.setCell (p := ⟨g2, t, none⟩) hg2.2 (.int .u8 (u2 : Nat))).setCell (p := ⟨g2, (j' + 1 + 1) - 1 - t, none⟩) hg2.2 (.int .u8 (u1 : Nat))
                obtain ⟨k, hk⟩ : ∃ k, k = (j' + 1 + 1) - 1 - t := ⟨_, rfl⟩
                rw [← hk] at r2 fr2 hown2 hb2 hlt
                rw [show (((j' + 1 + 1) : Nat) : Int) - 1 - (t : Int) = (k : Nat) by omega]
                have hkt : k ≠ t := by omega
                have hkl : k < (j' + 1 + 1) := by omega
                have HK := Lib.hid hk
                have Hown2 := Lib.hid hown2
                have Hb2 := Lib.hid hb2
                have hcap := own_capd hown
                clear hst hu1 hu2 hown1 hown2 hb2 hk hown hb
                go_wp2_with fail
                go_roundw
                case rel => exact ⟨t + 1, by have := HK.out; omega, by go_num, congrArg (Value.int .i64) (by have := HK.out; omega), Hown2.out, Hb2.out⟩
                case measure => simp [intOf] <;> omega
              · have hfull := revP_full (lowD x (j' + 1) ++ [45]) t (by rw [Hll.out]; omega)
                rw [hfull] at hown
                have hconv := own_string Tryz.underlying84 hown
                rw [HDz.out] at hconv
                have hlt' : ¬ (t : Int) < ((j' + 1 + 1) : Nat) - 1 - (t : Int) := by omega
                have Hfin := Lib.hid (Hbel.out.and hb)
                clear hfull hown hlt hb
                go_wp2_with fail
                go_ret
                exact ⟨rfl, Hfin.out⟩
        · have hdh := dig_high (x := x) (p := j') (by omega)
          rw [hdh] at hcj
          have hown2 := own_take hown (Nat.le_succ j')
          rw [lowD_take _ _ _ (Nat.le_succ j')] at hown2
          clear hown
          go_wp2
          go_roundw
          case rel => exact ⟨j', by omega, by omega, rfl, hown2, hbel⟩
          case measure => simp [lenV]
end Go.Proofs.YtemcdnppgnobmaaGreatDoor
