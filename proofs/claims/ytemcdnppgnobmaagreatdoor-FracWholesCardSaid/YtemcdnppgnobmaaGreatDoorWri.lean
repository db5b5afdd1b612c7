/-
  Decimal digits of natural numbers, as letters.
  The walk of frac's write: decimal digits of a number behind a row of letters.
-/
import Derived.Test.YtemcdnppgnobmaaGreatDoorDig3
import Derived.Test.YtemcdnppgnobmaaGreatDoorZer
set_option linter.unusedVariables false
namespace Go.Proofs.YtemcdnppgnobmaaGreatDoor

/-- How many decimal digits a number has; none of 0. -/
abbrev dl (x : Nat) : Nat := count 10 x

theorem dl_shift (t q r : Nat) (hr : r < 10 ^ t) (hq : 0 < q) : dl (q * 10 ^ t + r) = dl q + t := by
  have h1 := pow_count_le (q := 10) (by omega) hq
  have h2 := lt_pow_count (q := 10) (by omega) q
  have hc : count 10 q = count 10 (q / 10) + 1 := count_pos (by omega) hq
  have hp : 0 < 10 ^ t := Nat.pow_pos (by omega)
  obtain ⟨c, hcc⟩ : ∃ c, count 10 q = c + 1 := ⟨_, hc⟩
  have h3 : count 10 (q * 10 ^ t + r) = (c + t) + 1 := by
    refine count_eq_of (by omega) ?_ ?_
    · rw [hcc] at h2
      have h4 : q + 1 ≤ 10 ^ (c + 1) := h2
      have h5 := Nat.mul_le_mul_right (10 ^ t) h4
      rw [← Nat.pow_add, Nat.add_mul] at h5
      rw [show c + t + 1 = c + 1 + t by omega]
      omega
    · rw [hcc, Nat.add_sub_cancel] at h1
      have h5 := Nat.mul_le_mul_right (10 ^ t) h1
      rw [← Nat.pow_add] at h5
      omega
  show count 10 _ = count 10 q + t
  omega

/-- How many digits are written. -/
def dn (x : Nat) : Nat := max 1 (dl x)
theorem dn_pos (x : Nat) : 0 < dn x := by unfold dn; omega
theorem dn_ne {x : Nat} (h : 0 < x) : dn x = dl x := by
  have : count 10 x = count 10 (x / 10) + 1 := count_pos (by omega) h
  show max 1 (count 10 x) = count 10 x
  omega

theorem decimalsOf_eq (x : Nat) : decimalsOf x = dn x := by
  unfold decimalsOf
  by_cases h : x = 0
  · subst h; rfl
  · rw [if_neg h, dn_ne (by omega)]
    have hx : 0 < x := by omega
    have h1 := pow_limbs_le hx
    have h2 := lt_pow_limbs x
    have hl := limbs_pos hx
    obtain ⟨k, hk⟩ : ∃ k, limbs x = k + 1 := ⟨_, hl⟩
    rw [hk, Nat.add_sub_cancel] at h1 ⊢
    rw [hk, Nat.pow_succ] at h2
    have hb : bas ^ k = 10 ^ (9 * k) := by rw [Nat.pow_mul]; rfl
    have htop : topOf x = x / bas ^ k := by
      unfold topOf
      rw [hk, Nat.add_sub_cancel]
      exact Nat.mod_eq_of_lt (Nat.div_lt_of_lt_mul h2)
    have hp : 0 < bas ^ k := Nat.pow_pos bas_pos
    have hq : 0 < x / bas ^ k := Nat.div_pos h1 hp
    have e : x = x / bas ^ k * bas ^ k + x % bas ^ k := by rw [Nat.mul_comm]; exact (Nat.div_add_mod _ _).symm
    have hd := dl_shift (9 * k) (x / bas ^ k) (x % bas ^ k) (by rw [← hb]; exact Nat.mod_lt _ hp) hq
    rw [← hb, ← e] at hd
    rw [hd, htop]
    show 9 * k + count 10 _ = count 10 _ + 9 * k
    omega

/-- The digit of x with p digits behind it, as a letter. -/
def dig (x p : Nat) : Nat := 48 + x / 10 ^ p % 10
theorem dig_lt (x p : Nat) : dig x p < 58 := by unfold dig; omega

/-- The decimal digits of x as letters. -/
def decL (x : Nat) : List Nat := (List.range (dn x)).map fun i => dig x (dn x - 1 - i)
theorem decL_length (x : Nat) : (decL x).length = dn x := by simp [decL]

/-- The letters of an integer. -/
def decZ (z : Int) : List Nat := (if z < 0 then [45] else []) ++ decL z.natAbs

/-- The row of n letters of which the last p are written. -/
def partL (x n p : Nat) : List Nat := (List.range n).map fun i => if n - p ≤ i then dig x (n - 1 - i) else if i = 0 then 48 else 0
theorem partL_length (x n p : Nat) : (partL x n p).length = n := by simp [partL]
theorem partL_full (x : Nat) : partL x (dn x) (dn x) = decL x := by
  unfold partL decL
  apply List.map_congr_left
  intro i _
  rw [if_pos (by omega)]
theorem partL_start (x n : Nat) (h : 0 < n) : partL x n 0 = (List.replicate n 0).set 0 48 := by
  apply List.ext_getElem
  · simp [partL]
  · intro i h1 h2
    simp only [partL, List.length_map, List.length_range] at h1
    rw [List.getElem_set]
    simp only [partL, List.getElem_map, List.getElem_range, List.getElem_replicate]
    rw [if_neg (by omega)]
    by_cases hi : i = 0
    · rw [if_pos hi, if_pos (by omega)]
    · rw [if_neg hi, if_neg (by omega)]
theorem partL_over (x n p q : Nat) (hp : n ≤ p) (hq : n ≤ q) : partL x n p = partL x n q := by
  unfold partL
  apply List.map_congr_left
  intro i _
  rw [if_pos (by omega), if_pos (by omega)]
theorem set_append_right' (l m : List Nat) (S i v : Nat) (h : l.length = S) : (l ++ m).set (S + i) v = l ++ m.set i v := by
  subst h
  rw [List.set_append_right _ _ (by omega), Nat.add_sub_cancel_left]
theorem partL_step (x n p : Nat) (h : p < n) : (partL x n p).set (n - 1 - p) (dig x p) = partL x n (p + 1) := by
  apply List.ext_getElem
  · simp [partL]
  · intro i h1 h2
    simp only [partL, List.length_set, List.length_map, List.length_range] at h1
    rw [List.getElem_set]
    simp only [partL, List.getElem_map, List.getElem_range]
    by_cases hi : n - 1 - p = i
    · rw [if_pos hi, if_pos (by omega)]
      congr 1
      omega
    · rw [if_neg hi]
      by_cases h3 : n - p ≤ i
      · rw [if_pos h3, if_pos (by omega)]
      · have h4 : ¬ (n - (p + 1) ≤ i) := by omega
        rw [if_neg h3, if_neg h4]

/-- The digits within a limb are those of the number. -/
theorem dig_limb (x k t : Nat) (ht : t < 9) : x / bas ^ k % bas / 10 ^ t % 10 = x / 10 ^ (9 * k + t) % 10 := by
  have hb : bas ^ k = 10 ^ (9 * k) := by rw [Nat.pow_mul]; rfl
  have h9 : bas = 10 ^ t * 10 ^ (9 - t) := by rw [← Nat.pow_add, show t + (9 - t) = 9 by omega]; rfl
  rw [hb, Nat.pow_add, ← Nat.div_div_eq_div_mul]
  generalize x / 10 ^ (9 * k) = y
  have : y % bas / 10 ^ t = y / 10 ^ t % 10 ^ (9 - t) := by
    rw [h9, Nat.mod_mul_right_div_self]
  rw [this]
  have h10 : 10 ^ (9 - t) = 10 * 10 ^ (8 - t) := by
    rw [show 9 - t = (8 - t) + 1 by omega, Nat.pow_succ, Nat.mul_comm]
  rw [h10, Nat.mod_mul_right_mod]
end Go.Proofs.YtemcdnppgnobmaaGreatDoor

namespace Go.Proofs.YtemcdnppgnobmaaGreatDoor
open Go.RowKit

theorem info_u8 : (Tryz.prog.info? 5).map (fun i => (i.zero, i.size, i.bytes)) = some (some (.int .u8 0), 1, 1) := by kernel_rfl

/-- The row g of S letters and N further ones, of which the last p are written. -/
structure WriRow (w0 : World) (g cap : Nat) (l : List Nat) (x S N p : Nat) (wr : World) : Prop where
  own : wr.ownsRow w0.heap.size 5 1 (.slice (some ⟨g, 0, none⟩) (S + N) cap) (S + N) (nums .u8 (l ++ partL x N p))
  bel : Below w0.heap.size w0 wr

def WriIn (w0 : World) (g cap : Nat) (l : List Nat) (x S N k Y MM : Nat) (yv av jv : Value) (wr : World) : Prop :=
  ∃ t, t ≤ MM ∧ yv = .int .u32 (Y / 10 ^ t : Nat) ∧ av = .int .i64 ((S : Int) + N - 1 - (9 * k + t)) ∧ jv = .int .i64 t ∧ WriRow w0 g cap l x S N (9 * k + t) wr
def WriOut (w0 : World) (g cap : Nat) (l : List Nat) (x S N m : Nat) (av kv : Value) (wr : World) : Prop :=
  ∃ k p, k ≤ m ∧ p = min (9 * k) N ∧ kv = .int .i64 k ∧ av = .int .i64 ((S : Int) + N - 1 - p) ∧ WriRow w0 g cap l x S N p wr

/-- A digit is written. -/
theorem WriRow.step {w0 wr : World} {g cap : Nat} {l : List Nat} {x S N p y : Nat} {i : Nat} {z : Int} (h : WriRow w0 g cap l x S N p wr) (hl : l.length = S) (hp : p < N) (hi : i = S + (N - 1 - p)) (hz : z = (48 + y % 10 : Nat)) (hy : y % 10 = x / 10 ^ p % 10) :
    WriRow w0 g cap l x S N (p + 1) (wr.setCell ⟨g, i, none⟩ (.int .u8 z)) := by
  have h1 := own_set h.own i (dig x p) (z := z) (by rw [hz]; unfold dig; rw [← hy])
  have hg := own_lt h.own
  rw [hi, set_append_right' _ _ _ _ _ hl, partL_step _ _ _ hp] at h1
  rw [hi]
  exact ⟨h1, h.bel.setCell (p := ⟨g, _, none⟩) hg.2 _⟩

theorem own_slice {w : World} {B n : Nat} {e : TypeId} {v : Value} {xs : List Value} (h : w.ownsRow B e 1 v n xs) : ∃ A c, v = .slice A n c := by
  obtain ⟨hl, ⟨rfl, rfl⟩ | ⟨g', cap', cur, e1, _⟩⟩ := h
  · exact ⟨none, 0, rfl⟩
  · exact ⟨_, _, e1⟩

theorem dn_le (x : Nat) : dn x ≤ 9 * limbs x + 1 := by
  have : dl x ≤ 9 * limbs x := count_le_of_lt (by omega) (by
    have := lt_pow_limbs x
    rwa [show bas ^ limbs x = 10 ^ (9 * limbs x) by rw [Nat.pow_mul]; rfl] at this)
  unfold dn
  omega
theorem dn_gt {x k : Nat} (h : k < limbs x) : 9 * k < dn x := by
  have hx : 0 < x := by
    rcases Nat.eq_zero_or_pos x with rfl | e
    · rw [limbs_zero] at h; omega
    · exact e
  rw [dn_ne hx]
  have h1 := pow_limbs_le hx
  have h2 := lt_pow_count (q := 10) (by omega) x
  rw [show bas ^ (limbs x - 1) = 10 ^ (9 * (limbs x - 1)) by rw [Nat.pow_mul]; rfl] at h1
  have h3 : 10 ^ (9 * (limbs x - 1)) < 10 ^ count 10 x := Nat.lt_of_le_of_lt h1 h2
  have h4 : 9 * (limbs x - 1) < count 10 x := (Nat.pow_lt_pow_iff_right (by omega)).1 h3
  show 9 * k < count 10 x
  omega
theorem dn_max (x : Nat) (h : 0 < limbs x) : dn x ≤ 9 * limbs x := by
  have h1 := dn_le x
  have : dl x ≤ 9 * limbs x := count_le_of_lt (by omega) (by
    have := lt_pow_limbs x
    rwa [show bas ^ limbs x = 10 ^ (9 * limbs x) by rw [Nat.pow_mul]; rfl] at this)
  unfold dn
  omega

set_option maxRecDepth 100000 in
set_option maxHeartbeats 1600000 in
theorem write_any (v : Value) (l : List Nat) (S m c x : Nat) (A : Option Addr) (w0 w : World) (hown : w.ownsRow w0.heap.size 5 1 v S (nums .u8 l)) (hbel : Below w0.heap.size w0 w) (h : Dg w0 A m x) (hm : m ≤ 1000000) (hS : S ≤ 1000000) :
    Calls Tryz.prog 82 #[v, .slice A m c] w fun e w' => ∃ g cap, e = .returned (.slice (some ⟨g, 0, none⟩) (S + dn x) cap) ∧ w'.ownsRow w0.heap.size 5 1 (.slice (some ⟨g, 0, none⟩) (S + dn x) cap) (S + dn x) (nums .u8 (l ++ decL x)) ∧ Below w0.heap.size w0 w' := by
  have hn := h.len
  have hl := own_len hown
  have hdec := decimals_any A m c x w (h.below hbel) (by omega)
  rw [decimalsOf_eq] at hdec
  have hN := dn_pos x
  have hNm : dn x ≤ 9 * m + 1 := by rw [← hn]; exact dn_le x
  have Hgt := Lib.hid (fun k (hk : k < m) => dn_gt (x := x) (k := k) (by omega))
  have Hmax := Lib.hid (fun (h0 : 0 < m) => show dn x ≤ 9 * m by rw [← hn]; exact dn_max x (by omega))
  obtain ⟨N, hNN⟩ : ∃ N, dn x = N := ⟨_, rfl⟩
  have HNN := Lib.hid hNN
  rw [hNN] at hdec hN hNm Hgt Hmax ⊢
  obtain ⟨A0, c0, rfl⟩ := own_slice hown
  have hrun := run_append_own_zeros (P := Tryz.prog) (ty := 84) Tryz.underlying84 Tryz.underlying3 info_u8 (by omega) w0.heap.size S N _ l w hown hbel.size hN (by omega)
  obtain ⟨g, cap, w2, hrun, hown2, hgr⟩ := hrun
  have hbel2 := hbel.trans (own_below0 hown hbel.size hgr)
  have Hrow : Hid (WriRow w0 g cap l x S N 0 (w2.setCell ⟨g, S, none⟩ (.int .u8 48))) := by
    refine ⟨?_, hbel2.setCell (p := ⟨g, _, none⟩) (own_lt hown2).2 _⟩
    have := own_set hown2 S 48 (z := 48) rfl
    rw [show S = S + 0 by omega, set_append_right' _ _ _ _ _ hl, ← partL_start x N hN] at this
    simpa using this
  have hfr := own_free hown2 S
  have hcs := own_num hown2 S (by omega)
  have Hdec := Lib.hid hdec
  have Hbel := Lib.hid hbel
  have Hown := Lib.hid hown
  clear hbel2 hown2 hgr hdec hbel hown
  clear hNN
  have Hrun := Lib.hid hrun
  clear hrun
  have hSN : (S : Int) < (S : Int) + (N : Int) := by omega
  go_enter Tryz.func82, Tryz.ntmps82
  go_wp2_with fail
  refine Hdec.out.mono ?_
  rintro e w1 ⟨rfl, rfl⟩
  clear Hdec
  go_wp2_with (at_builtin; refine wpList_append_run rfl rfl rfl rfl Hrun.out ?_)
  go_loopw [7, 26] (WriOut w0 g cap l x S N m) (fun _ k _ => m - (intOf k).toNat)
  case atStart => exact ⟨0, 0, Nat.zero_le _, by omega, rfl, by go_num, Hrow.out⟩
  case round =>
    obtain ⟨k, p, hk, hp, rfl, rfl, hrow⟩ := hrel
    have Hr := Lib.hid hrow
    clear hrow hfr hcs Hrow
    have hpN : p ≤ N := by omega
    by_cases hkm : k < m
    · have h9 := Hgt.out k hkm
      have hp9 : p = 9 * k := by omega
      have Hp := Lib.hid hp9
      obtain ⟨b, off, rfl, hbs, hcells⟩ := Sl.at h (by omega)
      have hck := (Hr.out.bel.cell (p := ⟨b, off + k, none⟩) hbs).trans (hcells k hkm)
      have hY : x / bas ^ k % bas = (toL x).getD k 0 := (getD_toL x k).symm
      have hYl : (toL x).getD k 0 < 1000000000 := (low_toL x).get k
      obtain ⟨Y, hYY⟩ : ∃ Y, (toL x).getD k 0 = Y := ⟨_, rfl⟩
      rw [hYY] at hck hY hYl
      have HY := Lib.hid hY
      clear hcells hYY hY hp9
      by_cases hM : 9 ≤ N - 9 * k
      · have hmin : (9 : Int) ≤ (S : Int) + N - 1 - p - S + 1 := by omega
        have hmin2 : decide ((S : Int) + N - 1 - p - S + 1 < 9) = false := decide_eq_false (by omega)
        go_wp2_with fail
        go_loopw [9, 7, 35] (WriIn w0 g cap l x S N k Y 9) (fun _ _ j _ => 9 - (intOf j).toNat)
        case atStart => exact ⟨0, Nat.zero_le _, by simp, by have := Hp.out; go_num, rfl, by rw [Nat.add_zero, ← Hp.out]; exact Hr.out⟩
        case round =>
          obtain ⟨t, ht, rfl, rfl, rfl, hrow⟩ := hrel
          have hfr := fun i => own_free hrow.own i
          have hlo := own_len hrow.own
          by_cases htm : t < 9
          · have hyl : Y / 10 ^ t < 1000000000 := Nat.lt_of_le_of_lt (Nat.div_le_self _ _) hYl
            have hdg : Y / 10 ^ t % 10 = x / 10 ^ (9 * k + t) % 10 := by rw [← HY.out]; exact dig_limb x k t (by omega)
            have hpN : 9 * k + t < N := by omega
            have hnext := fun (i : Nat) (z : Int) hi hz => hrow.step (y := Y / 10 ^ t) (i := i) (z := z) hl hpN hi hz hdg
            have hdv : Y / 10 ^ (t + 1) = Y / 10 ^ t / 10 := by rw [Nat.pow_succ, Nat.div_div_eq_div_mul]
            have hcs := own_num hrow.own (S + (N - 1 - (9 * k + t))) (by omega)
            have Hnext := Lib.hid hnext
            have Hdv := Lib.hid hdv
            obtain ⟨at', hat⟩ : ∃ at' : Nat, at' = S + (N - 1 - (9 * k + t)) := ⟨_, rfl⟩
            have hat2 : (S : Int) + N - 1 - (9 * k + t) = (at' : Int) := by omega
            have hatl : (at' : Int) < (S : Int) + (N : Int) := by omega
            rw [← hat] at hcs Hnext
            rw [hat2]
            have Hat := Lib.hid hat
            have Hat2 := Lib.hid hat2
            obtain ⟨y, hy⟩ : ∃ y, Y / 10 ^ t = y := ⟨_, rfl⟩
            rw [hy] at hyl Hnext Hdv ⊢
            have h256 : (48 + (y : Int) % 10) % 256 = 48 + (y : Int) % 10 := by omega
            clear hnext hdv hdg hy hat hat2 hlo hl hpN
            have hfr2 := hfr at'
            clear hfr
            go_wp2_with fail
            go_roundw
            case rel => exact ⟨t + 1, htm, by rw [Hdv.out]; go_num, by rw [Int.natCast_add]; have := Hat2.out; go_num, by go_num, by rw [← Nat.add_assoc]; exact Hnext.out at' _ rfl (by go_num)⟩
            case measure => simp [intOf]; omega
          · obtain rfl : t = 9 := by omega
            clear hfr hlo
            go_wp2_with fail
            go_roundw
            case rel => exact ⟨k + 1, 9 * k + 9, by omega, by omega, by go_num, by rw [Int.natCast_add]; go_num, hrow⟩
            case measure => simp [intOf]; omega
      · have hmin : ¬ ((9 : Int) ≤ (S : Int) + N - 1 - p - S + 1) := by omega
        have hmin2 : decide ((S : Int) + N - 1 - p - S + 1 < 9) = true := decide_eq_true (by omega)
        go_wp2_with fail
        go_loopw [9, 7, 35] (WriIn w0 g cap l x S N k Y (N - 9 * k)) (fun _ _ j _ => (N - 9 * k) - (intOf j).toNat)
        case atStart => exact ⟨0, Nat.zero_le _, by simp, by have := Hp.out; go_num, rfl, by rw [Nat.add_zero, ← Hp.out]; exact Hr.out⟩
        case round =>
          obtain ⟨t, ht, rfl, rfl, rfl, hrow⟩ := hrel
          have hfr := fun i => own_free hrow.own i
          have hlo := own_len hrow.own
          by_cases htm : t < (N - 9 * k)
          · have hyl : Y / 10 ^ t < 1000000000 := Nat.lt_of_le_of_lt (Nat.div_le_self _ _) hYl
            have hdg : Y / 10 ^ t % 10 = x / 10 ^ (9 * k + t) % 10 := by rw [← HY.out]; exact dig_limb x k t (by omega)
            have hpN : 9 * k + t < N := by omega
            have hnext := fun (i : Nat) (z : Int) hi hz => hrow.step (y := Y / 10 ^ t) (i := i) (z := z) hl hpN hi hz hdg
            have hdv : Y / 10 ^ (t + 1) = Y / 10 ^ t / 10 := by rw [Nat.pow_succ, Nat.div_div_eq_div_mul]
            have hcs := own_num hrow.own (S + (N - 1 - (9 * k + t))) (by omega)
            have Hnext := Lib.hid hnext
            have Hdv := Lib.hid hdv
            obtain ⟨at', hat⟩ : ∃ at' : Nat, at' = S + (N - 1 - (9 * k + t)) := ⟨_, rfl⟩
            have hat2 : (S : Int) + N - 1 - (9 * k + t) = (at' : Int) := by omega
            have hatl : (at' : Int) < (S : Int) + (N : Int) := by omega
            rw [← hat] at hcs Hnext
            rw [hat2]
            have Hat := Lib.hid hat
            have Hat2 := Lib.hid hat2
            obtain ⟨y, hy⟩ : ∃ y, Y / 10 ^ t = y := ⟨_, rfl⟩
            rw [hy] at hyl Hnext Hdv ⊢
            have h256 : (48 + (y : Int) % 10) % 256 = 48 + (y : Int) % 10 := by omega
            clear hnext hdv hdg hy hat hat2 hlo hl hpN
            have hfr2 := hfr at'
            clear hfr
            go_wp2_with fail
            go_roundw
            case rel => exact ⟨t + 1, htm, by rw [Hdv.out]; go_num, by rw [Int.natCast_add]; have := Hat2.out; go_num, by go_num, by rw [← Nat.add_assoc]; exact Hnext.out at' _ rfl (by go_num)⟩
            case measure => simp [intOf]; omega
          · obtain rfl : t = (N - 9 * k) := by omega
            clear hfr hlo
            go_wp2_with fail
            go_roundw
            case rel => exact ⟨k + 1, 9 * k + (N - 9 * k), by omega, by omega, by go_num, by rw [Int.natCast_add]; go_num, hrow⟩
            case measure => simp [intOf]; omega
    · obtain rfl : k = m := by omega
      have Hfin : Hid (partL x N p = decL x) := by
        show _ = _
        rcases Nat.eq_zero_or_pos k with h0 | h0
        · have hx0 := limbs_eq_zero (hn.trans h0)
          subst hx0 h0
          have hN1 : N = 1 := by rw [← HNN.out]; rfl
          subst hN1
          have : p = 0 := by omega
          subst this
          rfl
        · have := Hmax.out h0
          have hpe : p = N := by omega
          rw [hpe, ← HNN.out, partL_full]
      have Ho := Lib.hid Hr.out.own
      rw [Hfin.out] at Ho
      have Hb := Lib.hid Hr.out.bel
      go_wp2_with fail
      go_ret
      exact ⟨g, cap, rfl, Ho.out, Hb.out⟩
end Go.Proofs.YtemcdnppgnobmaaGreatDoor
