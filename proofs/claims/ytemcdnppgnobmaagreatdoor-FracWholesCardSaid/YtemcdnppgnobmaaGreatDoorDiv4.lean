/-
  The walk of frac's divideLong.
  The walk of frac's divide.
-/
import Derived.Test.YtemcdnppgnobmaaGreatDoorDiv2
import Derived.Deep.RegionWith
import Derived.Deep.DeepMust
set_option linter.unusedVariables false
namespace Go.Proofs.YtemcdnppgnobmaaGreatDoor
open Go.RowKit

/-- Two digits values in new memory. -/
def RetDg2 (q r : Nat) (w : World) (e : Ending) (w' : World) : Prop :=
  ∃ A n A' n', e = .returned (.tuple #[.slice A n n, .slice A' n' n']) ∧ Dg w' A n q ∧ Dg w' A' n' r ∧ Below w.heap.size w w' ∧ Own w.heap.size w' A n q ∧ Own w.heap.size w' A' n' r

/-- What holds ahead of place k: w the world ahead of the call, g1 g2 g3 the blocks, D V0 what they held, m the digits of the divisor. -/
def LongRel (w : World) (g1 g2 g3 n m : Nat) (D V0 : List Nat) (V : Nat) (i : Value) (wr : World) : Prop :=
  ∃ k : Nat, k ≤ n - m + 1 ∧ i = .int .i64 ((k : Int) - 1) ∧ ∃ xs qs, Blk wr g1 66 (cellsOf .u32 xs) ∧ Blk wr g2 66 (cellsOf .u32 V0) ∧ Blk wr g3 66 (cellsOf .u32 qs) ∧
    xs.length = n + 1 ∧ Low xs ∧ qs.length = n - m + 1 ∧ Low qs ∧ xs.take k = D.take k ∧ seg xs k m < V ∧ ofL (D.drop k) = ofL (qs.drop k) * V + seg xs k m ∧ Below w.heap.size w wr

theorem top_bounds {y m : Nat} (h : limbs y = m + 1) : topOf y * bas ^ m ≤ y ∧ y < (topOf y + 1) * bas ^ m ∧ 0 < topOf y := by
  have h0 : 0 < y := by
    rcases Nat.eq_zero_or_pos y with e | e
    · rw [e, limbs_zero] at h; omega
    · exact e
  have h1 := lt_pow_limbs y
  have h2 := pow_limbs_le h0
  rw [h] at h1 h2
  rw [Nat.add_sub_cancel] at h2
  have hp : 0 < bas ^ m := Nat.pow_pos bas_pos
  have h3 : topOf y = y / bas ^ m := by
    unfold topOf
    rw [h, Nat.add_sub_cancel]
    apply Nat.mod_eq_of_lt
    rw [Nat.div_lt_iff_lt_mul hp, Nat.mul_comm, ← Nat.pow_succ]
    exact h1
  rw [h3]
  refine ⟨Nat.div_mul_le_self _ _, ?_, ?_⟩
  · rw [Nat.mul_comm]; exact Nat.lt_mul_div_succ _ hp
  · exact (Nat.le_div_iff_mul_le hp).2 (by omega)

/-- The divisor, multiplied: it keeps its digits, and the dividend's first digits are less than it. -/
theorem scaled {x y t f n m : Nat} (hy1 : t * bas ^ (m + 1) ≤ y) (hy2 : y < (t + 1) * bas ^ (m + 1)) (ht : 0 < t) (hf0 : 0 < f) (hft : f * (t + 1) ≤ bas) (hx : x < bas ^ n) (hmn : m + 2 ≤ n) :
    y * f < bas ^ (m + 2) ∧ bas ^ (m + 1) ≤ y * f ∧ x * f / bas ^ (n - (m + 2) + 1) < y * f := by
  have hp : 0 < bas ^ (m + 1) := Nat.pow_pos bas_pos
  have h1 : y * f < bas ^ (m + 2) := by
    have a : y * f < (t + 1) * bas ^ (m + 1) * f := Nat.mul_lt_mul_of_pos_right hy2 hf0
    have b : (t + 1) * bas ^ (m + 1) * f = f * (t + 1) * bas ^ (m + 1) := by rw [Nat.mul_comm, ← Nat.mul_assoc]
    have c : f * (t + 1) * bas ^ (m + 1) ≤ bas * bas ^ (m + 1) := Nat.mul_le_mul_right _ hft
    rw [Nat.pow_succ bas (m + 1), Nat.mul_comm _ bas]; omega
  have h2 : bas ^ (m + 1) ≤ y := Nat.le_trans (Nat.le_mul_of_pos_left _ ht) hy1
  refine ⟨h1, Nat.le_trans h2 (Nat.le_mul_of_pos_right _ hf0), ?_⟩
  rw [Nat.div_lt_iff_lt_mul (Nat.pow_pos bas_pos)]
  have h3 : x < y * bas ^ (n - (m + 2) + 1) := by
    refine Nat.lt_of_lt_of_le hx ?_
    have : bas ^ n = bas ^ (m + 1) * bas ^ (n - (m + 2) + 1) := by rw [← Nat.pow_add]; congr 1; omega
    rw [this]
    exact Nat.mul_le_mul_right _ h2
  calc x * f < y * bas ^ (n - (m + 2) + 1) * f := Nat.mul_lt_mul_of_pos_right h3 hf0
    _ = y * f * bas ^ (n - (m + 2) + 1) := by rw [Nat.mul_assoc, Nat.mul_comm (bas ^ _), Nat.mul_assoc]

theorem ofL_drop_div {l : List Nat} (h : Low l) (k : Nat) (hk : k ≤ l.length) : ofL (l.drop k) = ofL l / bas ^ k := by
  have e := ofL_append (l.take k) (l.drop k)
  rw [List.take_append_drop, List.length_take, Nat.min_eq_left hk] at e
  have hl := ofL_lt (h.take k)
  rw [List.length_take, Nat.min_eq_left hk] at hl
  rw [e, Nat.add_mul_div_left _ _ (Nat.pow_pos bas_pos), Nat.div_eq_of_lt hl, Nat.zero_add]

theorem LongRel.next {w : World} {g1 g2 g3 n m : Nat} {D V0 : List Nat} {V j : Nat} {wr : World} {xs qs xs' : List Nat} {q : Nat} (hj : j < n - m + 1) (hmn : m ≤ n)
    (hlen : xs.length = n + 1) (hqlen : qs.length = n - m + 1) (hqlow : Low qs) (htake : xs.take (j + 1) = D.take (j + 1)) (hDl : D.length = n + 1)
    (hV : 0 < V) (hdrop : ofL (D.drop (j + 1)) = ofL (qs.drop (j + 1)) * V + seg xs (j + 1) m)
    (hb1 : Blk wr g1 66 (cellsOf .u32 xs')) (hb2 : Blk wr g2 66 (cellsOf .u32 V0)) (hb3 : Blk wr g3 66 (cellsOf .u32 (qs.set j q)))
    (hlen' : xs'.length = xs.length) (hlow' : Low xs') (htake' : xs'.take j = xs.take j) (hq : q = seg xs j (m + 1) / V) (hqb : q < bas) (hT : seg xs' j m = seg xs j (m + 1) % V) (hbel : Below w.heap.size w wr) {i : Value} (hi : i = .int .i64 ((j : Int) - 1)) :
    LongRel w g1 g2 g3 n m D V0 V i wr := by
  refine ⟨j, by omega, hi, xs', qs.set j q, hb1, hb2, hb3, by omega, hlow', by rw [List.length_set]; exact hqlen, hqlow.set j hqb, ?_, ?_, ?_, hbel⟩
  · rw [htake', take_of_take htake (by omega)]
  · rw [hT]; exact Nat.mod_lt _ hV
  · rw [ofL_drop D j (by omega), hdrop, ofL_set_drop _ _ _ (by omega), hT, hq]
    have e1 : D.getD j 0 = xs.getD j 0 := (getD_of_take htake (by omega)).symm
    have e2 := seg_head xs j m (by omega)
    have e3 := Nat.div_add_mod (seg xs j (m + 1)) V
    rw [e1]
    generalize seg xs j (m + 1) = U at *
    rw [Nat.add_mul, Nat.mul_add, Nat.mul_assoc, Nat.mul_comm (U / V)]
    omega

/-- What guess needs to know. -/
theorem long_guess {xs V0 : List Nat} {j m : Nat} (hlow : Low xs) (hvlow : Low V0) (hUV : seg xs j (m + 3) < seg V0 0 (m + 2) * bas) (hV1 : bas ^ (m + 1) ≤ seg V0 0 (m + 2)) :
    0 < V0.getD (m + 1) 0 ∧ xs.getD (j + (m + 2)) 0 ≤ V0.getD (m + 1) 0 ∧
    seg xs j (m + 3) / seg V0 0 (m + 2) ≤ guessOf (xs.getD (j + (m + 2)) 0) (xs.getD (j + (m + 1)) 0) (xs.getD (j + m) 0) (V0.getD (m + 1) 0) (V0.getD m 0) ∧
    guessOf (xs.getD (j + (m + 2)) 0) (xs.getD (j + (m + 1)) 0) (xs.getD (j + m) 0) (V0.getD (m + 1) 0) (V0.getD m 0) ≤ seg xs j (m + 3) / seg V0 0 (m + 2) + 1 := by
  have u1 := seg_lt hlow j m
  have v1 := seg_lt hvlow 0 m
  have v2 := seg_lt hvlow 0 (m + 1)
  have eU : seg xs j (m + 3) = ((xs.getD (j + (m + 2)) 0 * bas + xs.getD (j + (m + 1)) 0) * bas + xs.getD (j + m) 0) * bas ^ m + seg xs j m := by
    rw [seg_succ, seg_succ, seg_succ, Nat.add_mul, Nat.add_mul, Nat.add_mul, show bas ^ (m + 2) = bas ^ m * bas * bas from rfl, show bas ^ (m + 1) = bas ^ m * bas from rfl]
    have a1 : bas ^ m * bas * bas * xs.getD (j + (m + 2)) 0 = xs.getD (j + (m + 2)) 0 * bas * bas * bas ^ m := by simp only [Nat.mul_assoc, Nat.mul_comm, Nat.mul_left_comm]
    have a2 : bas ^ m * bas * xs.getD (j + (m + 1)) 0 = xs.getD (j + (m + 1)) 0 * bas * bas ^ m := by simp only [Nat.mul_assoc, Nat.mul_comm, Nat.mul_left_comm]
    have a3 : bas ^ m * xs.getD (j + m) 0 = xs.getD (j + m) 0 * bas ^ m := Nat.mul_comm _ _
    omega
  have eV : seg V0 0 (m + 2) = (V0.getD (m + 1) 0 * bas + V0.getD m 0) * bas ^ m + seg V0 0 m := by
    rw [seg_succ, seg_succ, Nat.zero_add, Nat.zero_add, Nat.add_mul, Nat.pow_succ]
    have a2 : bas ^ m * bas * V0.getD (m + 1) 0 = V0.getD (m + 1) 0 * bas * bas ^ m := by simp only [Nat.mul_assoc, Nat.mul_comm, Nat.mul_left_comm]
    have a3 : bas ^ m * V0.getD m 0 = V0.getD m 0 * bas ^ m := Nat.mul_comm _ _
    omega
  have eV1 : seg V0 0 (m + 2) = seg V0 0 (m + 1) + bas ^ (m + 1) * V0.getD (m + 1) 0 := by rw [seg_succ, Nat.zero_add]
  have ht : 0 < V0.getD (m + 1) 0 := by
    rcases Nat.eq_zero_or_pos (V0.getD (m + 1) 0) with e | e
    · rw [e] at eV1; omega
    · exact e
  refine ⟨ht, ?_, guess_near eU u1 eV v1 ht hUV⟩
  rcases Nat.lt_or_ge (V0.getD (m + 1) 0) (xs.getD (j + (m + 2)) 0) with hlt | hle
  · exfalso
    have eU1 : seg xs j (m + 3) = seg xs j (m + 2) + bas ^ (m + 2) * xs.getD (j + (m + 2)) 0 := seg_succ _ _ _
    have h1 : bas ^ (m + 2) * (V0.getD (m + 1) 0 + 1) ≤ bas ^ (m + 2) * xs.getD (j + (m + 2)) 0 := Nat.mul_le_mul_left _ hlt
    have h2 : (seg V0 0 (m + 2)) * bas < bas ^ (m + 2) * (V0.getD (m + 1) 0 + 1) := by
      have : seg V0 0 (m + 2) < bas ^ (m + 1) * (V0.getD (m + 1) 0 + 1) := by rw [eV1, Nat.mul_add]; omega
      have := Nat.mul_lt_mul_of_pos_right this bas_pos
      rw [Nat.pow_succ bas (m + 1), Nat.mul_right_comm]
      exact this
    omega
  · exact hle

set_option maxRecDepth 100000 in
set_option maxHeartbeats 1600000 in
theorem divideLong_any (A B : Option Addr) (n m c d : Nat) (x y : Nat) (w : World) (h : Dg w A n x) (k : Dg w B (m + 2) y) (hmn : m + 2 ≤ n) (hn9 : n ≤ 10000000000) :
    Calls Tryz.prog 71 #[.slice A n c, .slice B (m + 2) d] w (RetDg2 (x / y) (x % y) w) := by
  obtain ⟨bb, boff, rfl, hbs, hbt⟩ := Dg.top (n := m + 1) k
  have htl := topOf_lt y
  generalize hty : topOf y = t at *
  have Hty := Lib.hid hty
  clear hty
  have hk := k.below (w' := w) (Below.refl _ _)
  clear k
  have hff : ((1000000000 / (t + 1) : Nat) : Int) = (1000000000 : Int) / ((t : Int) + 1) := rfl
  have Hff := Lib.hid hff
  clear hff
  obtain ⟨hy1, hy2, ht⟩ := top_bounds (m := m + 1) hk.len
  rw [Hty.out] at hy1 hy2 ht
  have hfb : 1000000000 / (t + 1) * (t + 1) ≤ bas := Nat.div_mul_le_self _ _
  have hf0 : 0 < 1000000000 / (t + 1) := Nat.div_pos (by omega) (by omega)
  have hf1 : 1000000000 / (t + 1) < 1000000000 := by
    rw [Nat.div_lt_iff_lt_mul (by omega)]; omega
  generalize hfe : 1000000000 / (t + 1) = f at *
  clear hfe
  have hx : x < bas ^ n := by have := lt_pow_limbs x; rwa [h.len] at this
  have Hsc := Lib.hid (scaled hy1 hy2 ht hf0 hfb hx hmn)
  clear hy1 hy2 hfb hx
  go_enter Tryz.func71, Tryz.ntmps71
  go_wp2_with fail
  rw [← Hff.out]
  refine (timesDigit_any A n c f x w h (by omega) hf1).mono ?_
  rintro e w1 ⟨g1, D, rfl, hg1, hD, hDl, hDlow, hDv, hb1⟩
  have HDl := Lib.hid hDl
  have HDv := Lib.hid hDv
  clear hDl hDv
  have hk1 := hk.below hb1
  go_wp2_with fail
  refine (timesDigit_any (some ⟨bb, boff, none⟩) (m + 2) d f y w1 hk1 (by omega) hf1).mono ?_
  rintro e w2 ⟨g2, V0, rfl, hg2, hV, hVl, hVlow, hVv, hb2⟩
  have HVl := Lib.hid hVl
  have HVv := Lib.hid hVv
  clear hVl hVv
  have hD2 := hD.below hb2 hD.lt
  have hg1lt := hD.lt
  have hg2lt := hV.lt
  have hb02 := hb1.trans (hb2.mono hb1.size)
  have hs02 := hb02.size
  clear hb1 hb2 hk hk1 hD hbt
  have hmk : ∀ W : World, (Instr.makeSlice 22 (.int .i64 ((n : Int) - ((m : Int) + 2) + 1)) (.int .i64 ((n : Int) - ((m : Int) + 2) + 1))).run Tryz.prog W = .ok (.slice (some ⟨W.heap.size, 0, none⟩) (n - (m + 2) + 1) (n - (m + 2) + 1)) (W.alloc (.cells (cellsOf .u32 (List.replicate (n - (m + 2) + 1) 0)) 66)) := by
    intro W
    have e := run_makeInts (P := Tryz.prog) Tryz.underlying22 info_u32 (by omega) .i64 .i64 (n - (m + 2) + 1) (by omega) W
    rwa [show (((n - (m + 2) + 1 : Nat)) : Int) = (n : Int) - ((m : Int) + 2) + 1 by omega] at e
  go_wp2_with fail
  go_loopw [11] (LongRel w g1 g2 w2.heap.size n (m + 2) D V0 (y * f)) (fun i _ => (intOf i + 1).toNat)
  case atStart =>
    refine ⟨n - (m + 2) + 1, Nat.le_refl _, by go_num, D, List.replicate (n - (m + 2) + 1) 0, ?_, ?_, Blk.new _ _ _, HDl.out, hDlow, by simp, Low.replicate _, rfl, ?_, ?_, hb02.alloc hs02 _⟩
    · exact hD2.below ((Below.refl _ _).alloc (Nat.le_refl _) _) hD2.lt
    · exact hV.below ((Below.refl _ _).alloc (Nat.le_refl _) _) hV.lt
    · unfold seg
      rw [List.take_of_length_le (by rw [List.length_drop, HDl.out]; omega), ofL_drop_div hDlow _ (by rw [HDl.out]; omega), HDv.out]
      exact Hsc.out.2.2
    · unfold seg
      rw [List.take_of_length_le (by rw [List.length_drop, HDl.out]; omega), List.drop_of_length_le (l := List.replicate _ _) (by simp)]
      simp [ofL]
  case round =>
    obtain ⟨k, hk, rfl, xs, qs, hx1, hx2, hx3, hxl, hxlow, hql, hqlow, htake, hT, hsum, hbel⟩ := hrel
    have Hxl := Lib.hid hxl
    have Hql := Lib.hid hql
    have Htake := Lib.hid htake
    have HT := Lib.hid hT
    have Hsum := Lib.hid hsum
    clear hxl hql htake hT hsum hmk
    by_cases hk0 : k = 0
    · subst hk0
      have Hq : Hid (ofL qs = x / y) := by
        show ofL qs = x / y
        have e := Hsum.out
        rw [List.drop_zero, List.drop_zero, HDv.out] at e
        have hyf : 0 < y * f := by have := HT.out; omega
        have e2 : x * f / (y * f) = ofL qs := by rw [e, Nat.mul_comm, Nat.mul_add_div hyf, Nat.div_eq_of_lt HT.out, Nat.add_zero]
        rw [← e2, Nat.mul_div_mul_right _ _ hf0]
      have Hr : Hid (ofL (xs.take (m + 2)) / f = x % y) := by
        show ofL (xs.take (m + 2)) / f = x % y
        have e := Hsum.out
        rw [List.drop_zero, List.drop_zero, HDv.out] at e
        have e2 : x * f % (y * f) = seg xs 0 (m + 2) := by rw [e, Nat.mul_comm, Nat.mul_add_mod, Nat.mod_eq_of_lt HT.out]
        rw [Nat.mul_mod_mul_right] at e2
        have e3 : ofL (xs.take (m + 2)) = seg xs 0 (m + 2) := by unfold seg; rw [List.drop_zero]
        rw [e3, ← e2, Nat.mul_div_cancel _ hf0]
      have hsl := (Sl.of_blk hx1 Hxl.out (by omega)).take (m := m + 2) (by omega)
      go_wp2_with fail
      refine (overDigit_any (some ⟨g1, 0, none⟩) (m + 2) (n + 1) f (xs.take (m + 2)) wr hsl (hxlow.take _) (by omega) hf1 hf0).mono ?_
      rintro e w3 ⟨A1, n1, rfl, hd1, hb3, hf3⟩
      rw [Hr.out] at hd1 hf3
      have hq3 := hx3.below hb3 hx3.lt
      have hb03 := hbel.trans (hb3.mono hbel.size)
      have hfA := hf3.mono hbel.size
      clear hx1 hx2 hx3 hsl hb3 hf3
      go_wp2_with fail
      refine (cut_any w2.heap.size (n - (m + 2) + 1) (n - (m + 2) + 1) qs w3 (Bl.of_blk hq3 Hql.out (by omega)) hqlow (Nat.le_refl _)).mono ?_
      rintro e w4 ⟨A2, n2, rfl, hd2, hb4, hf4⟩
      rw [Hq.out] at hd2 hf4
      have hd1' := hd1.below hb4
      have hfA' := hfA.below hb4
      have hb04 := hb03.trans (hb4.mono hb03.size)
      have hfA2 := hf4.mono hs02
      clear hq3 hb4 hf4 hd1 hfA
      go_wp2
      go_ret2
      exact ⟨A2, n2, A1, n1, rfl, hd2, hd1', hb04, hfA2, hfA'⟩
    · obtain ⟨j, rfl⟩ : ∃ j, k = j + 1 := ⟨k - 1, by omega⟩
      rw [show (((j + 1 : Nat) : Int) - 1) = (j : Int) from by omega]
      have HVseg : Hid (seg V0 0 (m + 2) = y * f) := by
        show seg V0 0 (m + 2) = y * f
        unfold seg
        rw [List.drop_zero]
        have e1 : V0 = V0.take (m + 2) ++ V0.drop (m + 2) := (List.take_append_drop _ _).symm
        have e2 := ofL_append (V0.take (m + 2)) (V0.drop (m + 2))
        rw [← e1, HVv.out, List.length_take, HVl.out, Nat.min_eq_left (by omega)] at e2
        have e3 := Hsc.out.1
        rcases Nat.eq_zero_or_pos (ofL (V0.drop (m + 2))) with e | e
        · rw [e] at e2; omega
        · have : bas ^ (m + 2) * 1 ≤ bas ^ (m + 2) * ofL (V0.drop (m + 2)) := Nat.mul_le_mul_left _ e
          omega
      have HU : Hid (seg xs j (m + 3) < y * f * bas) := by
        show seg xs j (m + 3) < y * f * bas
        rw [seg_head xs j (m + 2) (by rw [Hxl.out]; omega)]
        have e1 := HT.out
        have e2 : xs.getD j 0 < bas := hxlow.get j
        have e3 : (seg xs (j + 1) (m + 2) + 1) * bas ≤ y * f * bas := Nat.mul_le_mul_right _ e1
        rw [Nat.add_mul, Nat.mul_comm] at e3
        omega
      have hg := long_guess (xs := xs) (V0 := V0) (j := j) (m := m) hxlow hVlow (by rw [HVseg.out]; exact HU.out) (by rw [HVseg.out]; exact Hsc.out.2.1)
      rw [HVseg.out] at hg
      obtain ⟨hg1', hg2', hg3', hg4'⟩ := hg
      have c0 := hx1.num (j + (m + 2)) (by rw [Hxl.out]; omega)
      have c1 := hx1.num (j + (m + 1)) (by rw [Hxl.out]; omega)
      have c2 := hx1.num (j + m) (by rw [Hxl.out]; omega)
      have d1 := hx2.num (m + 1) (by rw [HVl.out]; omega)
      have d2 := hx2.num m (by rw [HVl.out]; omega)
      have l0 : xs.getD (j + (m + 2)) 0 < 1000000000 := hxlow.get _
      have l1 : xs.getD (j + (m + 1)) 0 < 1000000000 := hxlow.get _
      have l2 : xs.getD (j + m) 0 < 1000000000 := hxlow.get _
      have lt : V0.getD (m + 1) 0 < 1000000000 := hVlow.get _
      have ls : V0.getD m 0 < 1000000000 := hVlow.get _
      have hgb : guessOf (xs.getD (j + (m + 2)) 0) (xs.getD (j + (m + 1)) 0) (xs.getD (j + m) 0) (V0.getD (m + 1) 0) (V0.getD m 0) < 1000000000 := by exact guessOf_lt _ _ _ _ _
      have Hgu := guess_any g1 j g2 0 m (n + 1 - j) (m + 2 + 1) _ _ _ _ _ wr c0 c1 c2 (by rw [Nat.zero_add]; exact d1) (by rw [Nat.zero_add]; exact d2) l0 l1 l2 lt ls hg1' hg2' (by omega)
      have Hg3 := Lib.hid hg3'
      have Hg4 := Lib.hid hg4'
      clear hg1' hg2' hg3' hg4' c0 c1 c2 d1 d2 l0 l1 l2 lt ls
      generalize guessOf (xs.getD (j + (m + 2)) 0) (xs.getD (j + (m + 1)) 0) (xs.getD (j + m) 0) (V0.getD (m + 1) 0) (V0.getD m 0) = q at *
      have HGU := Lib.hid Hgu
      clear Hgu
      go_wp2_with fail
      rw [show j + (m + 2) + 1 - j = m + 2 + 1 by omega]
      refine (HGU.out).mono ?_
      rintro e w3 ⟨rfl, d3, rfl⟩
      have HV0 := Lib.hid hVlow
      have hx1' := hx1.drewN d3
      have hx2' := hx2.drewN d3
      have hx3' := hx3.drewN d3
      have hbel' := below_drewN hbel d3
      have hqf := hx3'.free j
      have hqc := hx3'.num j (by rw [Hql.out]; omega)
      clear hx1 hx2 hx3 hbel
      have HVt : Hid (ofL (V0.take (m + 2)) = y * f) := by
        show ofL (V0.take (m + 2)) = y * f
        rw [← HVseg.out]; unfold seg; rw [List.drop_zero]
      have hVpos : 0 < y * f := Nat.lt_of_lt_of_le (Nat.pow_pos bas_pos) Hsc.out.2.1
      have hVB : y * f ≤ bas ^ (m + 2) := Nat.le_of_lt Hsc.out.1
      have HUe : Hid (seg xs j (m + 2 + 1) = seg xs j (m + 2) + bas ^ (m + 2) * xs.getD (j + (m + 2)) 0) := seg_succ _ _ _
      have hne12 : g1 ≠ g2 := by omega
      have hne13 : g1 ≠ w2.heap.size := by omega
      have hne23 : g2 ≠ w2.heap.size := by omega
      by_cases hq0 : q = 0
      · subst hq0
        go_wp2_with fail
        go_roundw
        case rel =>
          have hon := (Only.refl w2.heap.size (wr.drewN d3)).setCell j (.int .u32 0)
          have h0 : seg xs j (m + 2 + 1) / (y * f) = 0 := Nat.le_zero.1 Hg3.out
          have hU0 : seg xs j (m + 2 + 1) < y * f := by
            rcases Nat.lt_or_ge (seg xs j (m + 2 + 1)) (y * f) with hl | hge
            · exact hl
            · have := Nat.div_pos hge hVpos; omega
          have htop : seg xs j (m + 2) = seg xs j (m + 2 + 1) := by
            rw [HUe.out]
            have e1 := HUe.out
            rcases Nat.eq_zero_or_pos (xs.getD (j + (m + 2)) 0) with e | e
            · rw [e]; omega
            · have : bas ^ (m + 2) * 1 ≤ bas ^ (m + 2) * xs.getD (j + (m + 2)) 0 := Nat.mul_le_mul_left _ e
              omega
          exact LongRel.next (q := 0) (by omega) (by omega) Hxl.out Hql.out hqlow Htake.out HDl.out hVpos Hsum.out (hon.blk hne13 hx1') (hon.blk hne23 hx2') (hx3'.put j 0 rfl) rfl hxlow rfl h0.symm bas_pos (by rw [Nat.mod_eq_of_lt hU0, htop]) (hbel'.setCell (p := ⟨w2.heap.size, j, none⟩) hs02 _) rfl
        case measure => simp [intOf]
      · have hqp : 0 < q := by omega
        go_wp2_with fail
        refine (takeOff_any g1 j g2 0 (m + 2) (n + 1 - j) (m + 2 + 1) q xs (V0.take (m + 2)) (wr.drewN d3) hx1' hxlow (by rw [Hxl.out]; omega) ((Sl.of_blk hx2' HVl.out (by omega)).take (by omega)) (HV0.out.take _) (Ne.symm hne12) hgb (by omega)).mono ?_
        rintro e w4 ⟨cy, xs1, rfl, hpart, hsum1⟩
        obtain ⟨p1, p2, p3, p4, p5, p6⟩ := hpart
        rw [HVt.out] at hsum1
        have Hsum1 := Lib.hid hsum1
        have Hp2 := Lib.hid p2
        have Hp4 := Lib.hid p4
        have hx2'' := p6.blk (Ne.symm hne12) hx2'
        have hx3'' := p6.blk (Ne.symm hne13) hx3'
        have hbel'' := hbel'.trans (p6.below (by omega))
        have hqf := hx3''.free j
        have hqc := hx3''.num j (by rw [Hql.out]; omega)
        clear hsum1 p2 p4 p5 p6 hx2' hx3' hx1' hbel'
        by_cases hc : xs.getD (j + (m + 2)) 0 < cy
        · have hd : decide (xs.getD (j + (m + 2)) 0 < cy) = true := decide_eq_true hc
          go_wp2_with fail
          have Hc := Lib.hid hc
          have Hd := Lib.hid hd
          clear hc hd
          refine (putBack_any g1 j g2 0 (m + 2) (n + 1 - j) (m + 2 + 1) xs1 (V0.take (m + 2)) w4 p1 p3 (by rw [Hp2.out, Hxl.out]; omega) ((Sl.of_blk hx2'' HVl.out (by omega)).take (by omega)) (HV0.out.take _) (Ne.symm hne12) (by omega)).mono ?_
          rintro e w5 ⟨cy2, xs2, rfl, hpart2, hsum2⟩
          obtain ⟨q1, q2, q3, q4, q5, q6⟩ := hpart2
          rw [HVt.out] at hsum2
          have Hsum2 := Lib.hid hsum2
          have Hq2 := Lib.hid q2
          have Hq4 := Lib.hid q4
          have hy2 := q6.blk (Ne.symm hne12) hx2''
          have hy3 := q6.blk (Ne.symm hne13) hx3''
          have hbel3 := hbel''.trans (q6.below (by omega))
          have hqf := hy3.free j
          have hqc := hy3.num j (by rw [Hql.out]; omega)
          clear hsum2 q2 q4 q5 q6 hx2'' hx3'' hbel'' p1
          go_wp2_with fail
          go_roundw
          case rel =>
            have hon := (Only.refl w2.heap.size w5).setCell j (.int .u32 ((q : Int) - 1))
            obtain ⟨r1, r2⟩ := rest_back (V := y * f) HUe.out Hsum1.out Hsum2.out (seg_lt p3 _ _) (seg_lt q3 _ _) Hc.out Hg4.out Hg3.out hVpos hVB
            exact LongRel.next (q := q - 1) (by omega) (by omega) Hxl.out Hql.out hqlow Htake.out HDl.out hVpos Hsum.out (hon.blk hne13 q1) (hon.blk hne23 hy2) (hy3.put j (q - 1) (by omega)) (by rw [Hq2.out, Hp2.out]) q3 (by rw [Hq4.out, Hp4.out]) (by omega) (by unfold bas; omega) r2 (hbel3.setCell (p := ⟨w2.heap.size, j, none⟩) hs02 _) rfl
          case measure => simp [intOf]
        · have hd : decide (xs.getD (j + (m + 2)) 0 < cy) = false := decide_eq_false hc
          have Hc := Lib.hid hc
          clear hc
          go_wp2_with fail
          go_roundw
          case rel =>
            have hon := (Only.refl w2.heap.size w4).setCell j (.int .u32 (q : Int))
            obtain ⟨r1, r2⟩ := rest_right (V := y * f) HUe.out Hsum1.out Hc.out Hg4.out Hg3.out hVpos hVB
            exact LongRel.next (q := q) (by omega) (by omega) Hxl.out Hql.out hqlow Htake.out HDl.out hVpos Hsum.out (hon.blk hne13 p1) (hon.blk hne23 hx2'') (hx3''.put j q rfl) Hp2.out p3 Hp4.out r1 (by unfold bas; omega) r2 (hbel''.setCell (p := ⟨w2.heap.size, j, none⟩) hs02 _) rfl
          case measure => simp [intOf]

end Go.Proofs.YtemcdnppgnobmaaGreatDoor

namespace Go.Proofs.YtemcdnppgnobmaaGreatDoor
open Go.RowKit

/-- A quotient and a rest: in new memory, but for the rest where the quotient is 0. -/
def RetDiv (x y : Nat) (w : World) (e : Ending) (w' : World) : Prop :=
  ∃ A n A' n', e = .returned (.tuple #[.slice A n n, .slice A' n' n']) ∧ Dg w' A n (x / y) ∧ Dg w' A' n' (x % y) ∧ Below w.heap.size w w' ∧ Own w.heap.size w' A n (x / y) ∧ (y ≤ x → Own w.heap.size w' A' n' (x % y))

theorem divide_less (A B : Option Addr) (n m d : Nat) (x y : Nat) (w : World) (h : Dg w A n x) (k : Dg w B m y) (hxy : x < y) :
    Calls Tryz.prog 45 #[.slice A n n, .slice B m d] w (RetDiv x y w) := by
  have hc := compare_dg A B n m n d x y w h k
  have e : cmpN x y = -1 := if_pos hxy
  rw [e] at hc
  have Hc := Lib.hid hc
  have Hxy := Lib.hid hxy
  clear hc e hxy
  go_enter Tryz.func45, Tryz.ntmps45
  go_wp2_with fail
  refine (Hc.out).mono ?_
  rintro e w1 ⟨rfl, q, rfl⟩
  go_wp2
  go_ret2
  refine ⟨none, 0, A, n, rfl, ?_, ?_, below_drewN (Below.refl _ _) q, ?_, fun hle => absurd hle (by have := Hxy.out; omega)⟩
  · rw [Nat.div_eq_of_lt Hxy.out]; exact Sl.nil
  · rw [Nat.mod_eq_of_lt Hxy.out]; exact Sl.drewN h q
  · rw [Nat.div_eq_of_lt Hxy.out]; exact Own.none _ _

theorem wrap_nat (n : Nat) (h : n ≤ 999999999999999999) : IntKind.u64.wrap ((n : Nat) : Int) = n := IntWalk.u64_in _ (by omega)

set_option maxRecDepth 100000 in
theorem divide_small (A B : Option Addr) (n m d : Nat) (x y : Nat) (w : World) (h : Dg w A n x) (k : Dg w B m y) (hxy : y ≤ x) (hy : 0 < y) (hn : n ≤ 2) :
    Calls Tryz.prog 45 #[.slice A n n, .slice B m d] w (RetDiv x y w) := by
  have hc := compare_dg A B n m n d x y w h k
  have hcn : 0 ≤ cmpN x y := by unfold cmpN; rw [if_neg (by omega)]; split <;> omega
  have hx : x < 1000000000 * 1000000000 := by
    have e := lt_pow_limbs x
    rw [h.len] at e
    exact Nat.lt_of_lt_of_le e (Nat.pow_le_pow_right bas_pos hn)
  have fx : fitsWord x = true := by unfold fitsWord; rw [decide_eq_true_iff]; omega
  have fy : fitsWord y = true := by unfold fitsWord; rw [decide_eq_true_iff]; omega
  have hqx : x / y ≤ x := Nat.div_le_self _ _
  have hrx : x % y ≤ x := Nat.mod_le _ _
  generalize hgc : cmpN x y = g at *
  have Hc := Lib.hid hc
  clear hgc hc
  go_enter Tryz.func45, Tryz.ntmps45
  go_wp2_with fail
  refine (Hc.out).mono ?_
  rintro e w1 ⟨rfl, q, rfl⟩
  have N1 := narrow_any A n n x (w.drewN q) (Sl.drewN h q)
  rw [fx, if_pos rfl] at N1
  have HN1 := Lib.hid N1
  clear N1
  go_wp2_with fail
  refine (HN1.out).mono ?_
  rintro e w1 ⟨rfl, q1, rfl⟩
  have N2 := narrow_any B m d y ((w.drewN q).drewN q1) (Sl.drewN (Sl.drewN k q) q1)
  rw [fy, if_pos rfl] at N2
  have HN2 := Lib.hid N2
  clear N2 fx fy
  go_wp2_with fail
  rw [World.drewN_drewN] at HN2
  refine (HN2.out).mono ?_
  rintro e w1 ⟨rfl, q2, rfl⟩
  have hy1 : (1 : Int) ≤ y := by omega
  have hq' : x / y / 1000000000 / 1000000000 ≤ 18 := by omega
  have hr' : x % y / 1000000000 / 1000000000 ≤ 18 := by omega
  go_wp2_with fail
  have E1 : Hid (IntKind.u64.wrap ((x : Int) / (y : Int)) = ((x / y : Nat) : Int)) := wrap_nat (x / y) (by omega)
  have E2 : Hid (Int.tmod (x : Int) (y : Int) = ((x % y : Nat) : Int)) := rfl
  have E3 : Hid (((x : Int) % (y : Int)) = ((x % y : Nat) : Int)) := rfl
  have E4 : Hid (((x : Int) / (y : Int)) = ((x / y : Nat) : Int)) := rfl
  go_region_with (first
    | (go_at_call_of 69 (IntKind.u64.wrap ((x : Int) / (y : Int))); refine (natural_int _ (x / y) _ E1.out hq').mono ?_; rintro e w3 ⟨A1, n1, rfl, hd1, hb1, hf1⟩)
    | (go_at_call_of 69 (Int.tmod (x : Int) (y : Int)); refine (natural_int _ (x % y) _ E2.out hr').mono ?_; rintro e w4 ⟨A2, n2, rfl, hd2, hb2, hf2⟩)
    | (go_at_call_of 69 ((x : Int) % (y : Int)); refine (natural_int _ (x % y) _ E3.out hr').mono ?_; rintro e w4 ⟨A2, n2, rfl, hd2, hb2, hf2⟩)
    | (go_at_call_of 69 ((x : Int) / (y : Int)); refine (natural_int _ (x / y) _ E4.out hq').mono ?_; rintro e w3 ⟨A1, n1, rfl, hd1, hb1, hf1⟩))
  all_goals
    go_wp2
    go_ret2
    refine ⟨A1, n1, A2, n2, rfl, hd1.below hb2, hd2, ?_, hf1.below hb2, fun _ => hf2.mono hb1.size⟩
    exact (Below.trans (below_drewN (Below.refl _ _) _) hb1).trans (hb2.mono hb1.size)

set_option maxRecDepth 100000 in
theorem divide_digit (A B : Option Addr) (n d : Nat) (x y : Nat) (w : World) (h : Dg w A n x) (k : Dg w B 1 y) (hxy : y ≤ x) (hn : 2 < n) (hn9 : n ≤ 10000000000) :
    Calls Tryz.prog 45 #[.slice A n n, .slice B 1 d] w (RetDiv x y w) := by
  have hc := compare_dg A B n 1 n d x y w h k
  have hcn : 0 ≤ cmpN x y := by unfold cmpN; rw [if_neg (by omega)]; split <;> omega
  have hy1 : y < 1000000000 := by
    have e := lt_pow_limbs y
    rw [k.len, Nat.pow_one] at e
    exact e
  have hy : 0 < y := by
    rcases Nat.eq_zero_or_pos y with e | e
    · have := k.len; rw [e, limbs_zero] at this; omega
    · exact e
  obtain ⟨b, off, rfl, hbs, hcell⟩ := Sl.at k (by omega)
  have hb0 := hcell 0 (by omega)
  rw [getD_toL, Nat.pow_zero, Nat.div_one, show y % bas = y from Nat.mod_eq_of_lt hy1, Nat.add_zero] at hb0
  have hov := fun q => overDigit_any A n n y (toL x) (w.drewN q) (Sl.drewN h q) (low_toL x) (by omega) hy1 hy
  rw [ofL_toL] at hov
  have Hov := Lib.hid hov
  have hr : x % y < 1000000000 := Nat.lt_trans (Nat.mod_lt _ hy) hy1
  generalize hgc : cmpN x y = g at *
  have Hc := Lib.hid hc
  clear hgc hc hcell hov
  go_enter Tryz.func45, Tryz.ntmps45
  go_wp2_with fail
  refine (Hc.out).mono ?_
  rintro e w1 ⟨rfl, q, rfl⟩
  go_wp2_with fail
  refine (Hov.out q).mono ?_
  rintro e w1 ⟨A1, n1, rfl, hd1, hb1, hf1⟩
  go_wp2_with fail
  refine (natural_int _ (x % y) _ (by omega) (by omega)).mono ?_
  rintro e w2 ⟨A2, n2, rfl, hd2, hb2, hf2⟩
  have hb02 := (Below.trans (below_drewN (Below.refl w.heap.size w) q) hb1).trans (hb2.mono hb1.size)
  have hd1' := hd1.below hb2
  have hf2' := hf2.mono hb1.size
  have hf1' := hf1.below hb2
  clear hb1 hb2 hd1
  go_wp2
  go_ret2
  exact ⟨A1, n1, A2, n2, rfl, hd1', hd2, hb02, hf1', fun _ => hf2'⟩

set_option maxRecDepth 100000 in
theorem divide_big (A B : Option Addr) (n m d : Nat) (x y : Nat) (w : World) (h : Dg w A n x) (k : Dg w B (m + 2) y) (hxy : y ≤ x) (hn : 2 < n) (hn9 : n ≤ 10000000000) :
    Calls Tryz.prog 45 #[.slice A n n, .slice B (m + 2) d] w (RetDiv x y w) := by
  have hc := compare_dg A B n (m + 2) n d x y w h k
  have hcn : 0 ≤ cmpN x y := by unfold cmpN; rw [if_neg (by omega)]; split <;> omega
  have hmn : m + 2 ≤ n := by have e := limbs_mono hxy; rw [h.len, k.len] at e; exact e
  have hov := fun q => divideLong_any A B n m n d x y (w.drewN q) (Sl.drewN h q) (Sl.drewN k q) hmn hn9
  have Hov := Lib.hid hov
  have hm1 : ((m : Int) + 2 == 1) = false := by rw [beq_eq_false_iff_ne]; omega
  generalize hgc : cmpN x y = g at *
  have Hc := Lib.hid hc
  clear hgc hc hov
  go_enter Tryz.func45, Tryz.ntmps45
  go_wp2_with fail
  refine (Hc.out).mono ?_
  rintro e w1 ⟨rfl, q, rfl⟩
  go_wp2_with fail
  refine (Hov.out q).mono ?_
  rintro e w1 ⟨A1, n1, A2, n2, rfl, hd1, hd2, hb1, hf1, hf2⟩
  have hb02 := (Below.trans (below_drewN (Below.refl w.heap.size w) q) hb1)
  clear hb1
  go_wp2
  go_ret2
  exact ⟨A1, n1, A2, n2, rfl, hd1, hd2, hb02, hf1, fun _ => hf2⟩

theorem divide_any (A B : Option Addr) (n m d : Nat) (x y : Nat) (w : World) (h : Dg w A n x) (k : Dg w B m y) (hy : 0 < y) (hn9 : n ≤ 10000000000) :
    Calls Tryz.prog 45 #[.slice A n n, .slice B m d] w (RetDiv x y w) := by
  by_cases hxy : x < y
  · exact divide_less A B n m d x y w h k hxy
  · by_cases hn : n ≤ 2
    · exact divide_small A B n m d x y w h k (by omega) hy hn
    · match m, k with
      | 0, k => exact absurd (limbs_eq_zero k.len) (by omega)
      | 1, k => exact divide_digit A B n d x y w h k (by omega) (by omega) hn9
      | m + 2, k => exact divide_big A B n m d x y w h k (by omega) (by omega) hn9

end Go.Proofs.YtemcdnppgnobmaaGreatDoor
