/-
  The walk of the reference's AddN.
  Plain numbers and rows for the reference's MulN.
  The walks of the reference's MulN and Mul.
-/
import Derived.Test.YtemcdnppgnobmaaGreatDoorRfF
import Derived.Test.YtemcdnppgnobmaaGreatDoorDig7
import Derived.Deep.DeepCutAuto
set_option linter.unusedVariables false
namespace Go.Proofs.YtemcdnppgnobmaaGreatDoor
open Go.RowKit

theorem pow_le_of_lt_limbs {x j : Nat} (h : j < limbs x) : bas ^ j ≤ x := Nat.le_of_not_lt fun h' => by
  have := limbs_le_of_lt h'
  omega
theorem lt_limbs_of_pow_le {x j : Nat} (h : bas ^ j ≤ x) : j < limbs x := by
  rcases Nat.lt_or_ge j (limbs x) with h' | h'
  · exact h'
  · have h1 := lt_pow_limbs x
    have h2 : bas ^ limbs x ≤ bas ^ j := Nat.pow_le_pow_right bas_pos h'
    omega
theorem low_is_toL {l : List Nat} {x : Nat} (h : Low l) (e : ofL l = x) (hl : l.length = limbs x) : l = toL x := by
  subst e
  have h1 := take_trim h
  rw [← hl, List.take_of_length_le (Nat.le_refl _)] at h1
  rw [← trim_eq_toL h, ← h1]

def RAdd (w : World) (x y : Nat) (o c i : Value) (wr : World) : Prop :=
  ∃ k q : Nat, k ≤ limbs (x + y) ∧ q ≤ 1 ∧ c = .int .i64 q ∧ i = .int .i64 k ∧ ∃ xs, wr.ownsRow w.heap.size 3 1 o k (nums .i64 xs) ∧ Low xs ∧
    ofL xs + q * bas ^ k = ofL ((toL x).take k) + ofL ((toL y).take k) ∧ Below w.heap.size w wr

theorem radd_go {X LX LY q P a b d c' : Nat} (h : X + q * P = LX + LY) (hd : d + c' * bas = q + a + b) : X + P * d + c' * (P * bas) = LX + P * a + (LY + P * b) := by
  have h1 : P * d + c' * (P * bas) = P * (q + a + b) := by
    rw [← hd, Nat.mul_add]; congr 1; rw [Nat.mul_left_comm]
  rw [Nat.mul_add, Nat.mul_add] at h1
  have := Nat.mul_comm q P
  omega

theorem RAdd.next {w : World} {x y : Nat} {w1 : World} {j q : Nat} {xs : List Nat} {o u : Value} (hj : j < limbs (x + y)) (hlen : xs.length = j) (hown : w1.ownsRow w.heap.size 3 1 o (j + 1) (nums .i64 xs ++ [u])) (hlow : Low xs)
    (hsum : ofL xs + q * bas ^ j = ofL ((toL x).take j) + ofL ((toL y).take j)) (hbel : Below w.heap.size w w1) (a b : Nat) (ha : (toL x).getD j 0 = a) (hb : (toL y).getD j 0 = b) (hq' : (q + a + b) / 1000000000 ≤ 1)
    {c i : Value} (hu : u = .int .i64 ((q + a + b) % 1000000000 : Nat)) (hc : c = .int .i64 ((q + a + b) / 1000000000 : Nat)) (hi : i = .int .i64 (j + 1 : Nat)) : RAdd w x y o c i w1 := by
  refine ⟨j + 1, _, by omega, hq', hc, hi, xs ++ [_], own_more hown hu, hlow.snoc (Nat.mod_lt _ bas_pos), ?_, hbel⟩
  rw [ofL_snoc, hlen, ofL_take_succ, ofL_take_succ, Nat.pow_succ, ha, hb]
  exact radd_go hsum (Nat.mod_add_div' _ _)
theorem take_le (x j : Nat) : ofL ((toL x).take j) ≤ x := by
  have h := ofL_append ((toL x).take j) ((toL x).drop j)
  rw [List.take_append_drop, ofL_toL] at h
  omega

set_option maxRecDepth 100000 in
set_option maxHeartbeats 1600000 in
theorem raddN_any (A B : Option Addr) (n n' c d : Nat) (x y : Nat) (w : World) (h : Nd w A n c x) (k : Nd w B n' d y) (hn9 : n ≤ 1000000000) (hm9 : n' ≤ 1000000000) :
    Calls Tryz.prog 35 #[.slice A n c, .slice B n' d] w (RetN (x + y) w) := by
  obtain ⟨i0, hi, hz0, hz1, hz2⟩ := info_parts info_in
  have Hx : Hid (limbs x = n) := Lib.hid h.len
  have Hy : Hid (limbs y = n') := Lib.hid k.len
  have hs9 : limbs (x + y) ≤ 1000000001 := by
    have := limbs_add_le x y
    rw [Hx.out, Hy.out] at this
    omega
  replace h := h.1
  replace k := k.1
  go_enter Tryz.func35, Tryz.ntmps35
  go_wp2
  go_loopw [5, 6, 7] (RAdd w x y) (fun _ _ i _ => limbs (x + y) - (intOf i).toNat)
  case atStart =>
    exact ⟨0, 0, by omega, by omega, rfl, rfl, [], World.ownsRow_nil _ _ _ _, Low.nil, by simp [ofL], Below.refl _ _⟩
  case round =>
    obtain ⟨j, q, hj, hq, rfl, rfl, xs, hown, hlow, hsum, hbel⟩ := hrel
    have Hlen := Lib.hid (own_len hown)
    have Hsum := Lib.hid hsum
    have hsz := hbel.size
    clear hsum
    have hxl : (toL x).getD j 0 < 1000000000 := (low_toL x).get j
    have hyl : (toL y).getD j 0 < 1000000000 := (low_toL y).get j
    have hx0 : n ≤ j → (toL x).getD j 0 = 0 := fun e => by
      have := Hx.out
      unfold limbs at this
      rw [List.getD_eq_getElem?_getD, List.getElem?_eq_none (by omega)]; rfl
    have hy0 : n' ≤ j → (toL y).getD j 0 = 0 := fun e => by
      have := Hy.out
      unfold limbs at this
      rw [List.getD_eq_getElem?_getD, List.getElem?_eq_none (by omega)]; rfl
    have hcx : j < n → ∃ b off, A = some ⟨b, off, none⟩ ∧ wr.cell? ⟨b, off + j, none⟩ = some (.int .i64 ((toL x).getD j 0 : Nat)) := fun e => by
      obtain ⟨b, off, rfl, hbs, ha⟩ := Sl.at h (by omega)
      exact ⟨b, off, rfl, (hbel.cell (p := ⟨b, off + j, none⟩) hbs).trans (ha j e)⟩
    have hcy : j < n' → ∃ b off, B = some ⟨b, off, none⟩ ∧ wr.cell? ⟨b, off + j, none⟩ = some (.int .i64 ((toL y).getD j 0 : Nat)) := fun e => by
      obtain ⟨b, off, rfl, hbs, ha⟩ := Sl.at k (by omega)
      exact ⟨b, off, rfl, (hbel.cell (p := ⟨b, off + j, none⟩) hbs).trans (ha j e)⟩
    have hjx : j < n → j < limbs (x + y) := fun e => by
      have h1 : limbs x ≤ limbs (x + y) := limbs_mono (by omega)
      rw [Hx.out] at h1
      omega
    have hjy : j < n' → j < limbs (x + y) := fun e => by
      have h1 : limbs y ≤ limbs (x + y) := limbs_mono (by omega)
      rw [Hy.out] at h1
      omega
    have hjq : q = 1 → j < limbs (x + y) := fun e => lt_limbs_of_pow_le (by
      have h1 := Hsum.out
      have h2 := take_le x j
      have h3 := take_le y j
      rw [e, Nat.one_mul] at h1
      omega)
    generalize hxa : (toL x).getD j 0 = xa at *
    have Hxa := Lib.hid hxa
    generalize hya : (toL y).getD j 0 = ya at *
    have Hya := Lib.hid hya
    clear hxa hya
    by_cases hjn : j < n
    · obtain ⟨b, off, rfl, hca⟩ := hcx hjn
      have hjl := hjx hjn
      clear hx0 hcx hjx hjy hjq
      by_cases hjm : j < n'
      · obtain ⟨b', off', rfl, hcb⟩ := hcy hjm
        clear hy0 hcy
        go_wp2_with (at_builtin; refine wpList_append_own _ rfl _ _ 27 rfl w.heap.size 3 i0 (.int .i64 0) 1 8 Tryz.underlying27 hi hz0 hz1 hz2 rfl (by decide) _ _ _ rfl (hown.alloc _) ⟨wr.heap.size, 0, none⟩ 1 1 [.int .i64 (((q : Int) + xa + ya) % 1000000000)] rfl rfl ?c1 ?c2 ?c3 ?c4 ?c5 ?_)
        case c1 => exact cell_one_new _ _ _
        case c2 => exact one_ofs _ rfl
        case c3 => unfold maxLen; omega
        case c4 => omega
        case c5 => simp; omega
        intro v' w1 hown' hgrow _
        have hb' := hbel.trans (own_below hown hsz hgrow)
        go_wp2
        go_roundw
        case rel => exact RAdd.next hjl Hlen.out hown' hlow Hsum.out hb' xa ya Hxa.out Hya.out (by omega) (congrArg (Value.int .i64) (by omega)) (by go_num) (by go_num)
        case measure => simp [intOf] <;> omega
      · have Hy0 := Lib.hid (hy0 (by omega))
        clear hy0 hcy
        go_wp2_with (at_builtin; refine wpList_append_own _ rfl _ _ 27 rfl w.heap.size 3 i0 (.int .i64 0) 1 8 Tryz.underlying27 hi hz0 hz1 hz2 rfl (by decide) _ _ _ rfl (hown.alloc _) ⟨wr.heap.size, 0, none⟩ 1 1 [.int .i64 (((q : Int) + xa) % 1000000000)] rfl rfl ?d1 ?d2 ?d3 ?d4 ?d5 ?_)
        case d1 => exact cell_one_new _ _ _
        case d2 => exact one_ofs _ rfl
        case d3 => unfold maxLen; omega
        case d4 => omega
        case d5 => simp; omega
        intro v' w1 hown' hgrow _
        have hb' := hbel.trans (own_below hown hsz hgrow)
        go_wp2
        go_roundw
        case rel => exact RAdd.next hjl Hlen.out hown' hlow Hsum.out hb' xa ya Hxa.out Hya.out (by omega) (congrArg (Value.int .i64) (by have := Hy0.out; omega)) (congrArg (Value.int .i64) (by have := Hy0.out; omega)) (by go_num)
        case measure => simp [intOf] <;> omega
    · have Hx0 := Lib.hid (hx0 (by omega))
      clear hx0 hcx hjx
      by_cases hjm : j < n'
      · obtain ⟨b', off', rfl, hcb⟩ := hcy hjm
        have hjl := hjy hjm
        clear hy0 hcy hjy hjq
        go_wp2_with (at_builtin; refine wpList_append_own _ rfl _ _ 27 rfl w.heap.size 3 i0 (.int .i64 0) 1 8 Tryz.underlying27 hi hz0 hz1 hz2 rfl (by decide) _ _ _ rfl (hown.alloc _) ⟨wr.heap.size, 0, none⟩ 1 1 [.int .i64 (((q : Int) + ya) % 1000000000)] rfl rfl ?e1 ?e2 ?e3 ?e4 ?e5 ?_)
        case e1 => exact cell_one_new _ _ _
        case e2 => exact one_ofs _ rfl
        case e3 => unfold maxLen; omega
        case e4 => omega
        case e5 => simp; omega
        intro v' w1 hown' hgrow _
        have hb' := hbel.trans (own_below hown hsz hgrow)
        go_wp2
        go_roundw
        case rel => exact RAdd.next hjl Hlen.out hown' hlow Hsum.out hb' xa ya Hxa.out Hya.out (by omega) (congrArg (Value.int .i64) (by have := Hx0.out; omega)) (congrArg (Value.int .i64) (by have := Hx0.out; omega)) (by go_num)
        case measure => simp [intOf] <;> omega
      · have Hy0 := Lib.hid (hy0 (by omega))
        clear hy0 hcy hjy
        have hend : ofL ((toL x).take j) = x ∧ ofL ((toL y).take j) = y := by
          have e1 := Hx.out
          have e2 := Hy.out
          unfold limbs at e1 e2
          rw [ofL_take_ge _ _ (by omega), ofL_take_ge _ _ (by omega), ofL_toL, ofL_toL]
          exact ⟨rfl, rfl⟩
        have Hend := Lib.hid hend
        clear hend
        by_cases hq0 : q = 0
        · subst hq0
          have Hfin : Hid (xs = toL (x + y)) := by
            have e1 := Hsum.out
            rw [Hend.out.1, Hend.out.2, Nat.zero_mul, Nat.add_zero] at e1
            refine low_is_toL hlow e1 ?_
            have h1 := ofL_lt hlow
            rw [e1] at h1
            have h2 := limbs_le_of_lt h1
            rw [Hlen.out] at h2 ⊢
            omega
          obtain ⟨A1, c1, rfl, hc1, hs1, hf1⟩ := own_row hown (by omega)
          rw [Hfin.out] at hs1
          clear hjq
          go_wp2
          go_ret
          exact ⟨A1, j, c1, rfl, ⟨hs1, hc1⟩, hbel, hf1⟩
        · obtain rfl : q = 1 := by omega
          have hjl := hjq rfl
          clear hjq
          go_wp2_with (at_builtin; refine wpList_append_own _ rfl _ _ 27 rfl w.heap.size 3 i0 (.int .i64 0) 1 8 Tryz.underlying27 hi hz0 hz1 hz2 rfl (by decide) _ _ _ rfl (hown.alloc _) ⟨wr.heap.size, 0, none⟩ 1 1 [.int .i64 1] rfl rfl ?f1 ?f2 ?f3 ?f4 ?f5 ?_)
          case f1 => exact cell_one_new _ _ _
          case f2 => exact one_ofs _ rfl
          case f3 => unfold maxLen; omega
          case f4 => omega
          case f5 => simp; omega
          intro v' w1 hown' hgrow _
          have hb' := hbel.trans (own_below hown hsz hgrow)
          go_wp2
          go_roundw
          case rel => exact RAdd.next hjl Hlen.out hown' hlow Hsum.out hb' xa ya Hxa.out Hya.out (by omega) (congrArg (Value.int .i64) (by have := Hx0.out; have := Hy0.out; omega)) (congrArg (Value.int .i64) (by have := Hx0.out; have := Hy0.out; omega)) (by go_num)
          case measure => simp [intOf] <;> omega


theorem sum_same {y z : Int} (h : decide (y < 0) = decide (z < 0)) : y + z = if decide (y < 0) then -((y.natAbs + z.natAbs : Nat) : Int) else ((y.natAbs + z.natAbs : Nat) : Int) := by
  rw [decide_eq_decide] at h
  by_cases hy : y < 0
  · rw [decide_eq_true hy, if_pos rfl]
    have := h.1 hy
    omega
  · rw [decide_eq_false hy, if_neg (by decide)]
    have : ¬ z < 0 := fun e => hy (h.2 e)
    omega

set_option maxRecDepth 100000 in
set_option maxHeartbeats 1600000 in
theorem radd_same (y z : Int) (A B : Option Addr) (n m c d : Nat) (w : World) (h : Nd w A n c y.natAbs) (k : Nd w B m d z.natAbs) (hs : decide (y < 0) = decide (z < 0)) (hn9 : n ≤ 1000000000) (hm9 : m ≤ 1000000000) :
    Calls Tryz.prog 9 #[zV y A n c, zV z B m d] w (RetZ (y + z) w) := by
  obtain ⟨W, hW, hb0, hb1, hb2, hbel⟩ := three_new w 29 29 29 #[.bool (decide (y < 0)), .slice A n c] #[.bool (decide (z < 0)), .slice B m d] intZ
  have hx := h.below hbel
  have hy := k.below hbel
  have Hsb := Lib.hid (fun X (hX : Below W.heap.size W X) => raddN_any A B n m c d _ _ X (hx.below hX) (hy.below hX) hn9 hm9)
  have hsum := sum_same hs
  have Hin := Lib.hid (fun X P p cp (hP : Nd X P p cp (y.natAbs + z.natAbs)) => rint_any (decide (y < 0)) P p cp _ (y + z) X hP hsum)
  have Hcells := Lib.hid (fun X (hX : Below W.heap.size W X) => show X.cell? ⟨w.heap.size, 0, none⟩ = some (.bool (decide (y < 0))) ∧ X.cell? ⟨w.heap.size, 1, none⟩ = some (.slice A n c) ∧ X.cell? ⟨w.heap.size + 1, 0, none⟩ = some (.bool (decide (z < 0))) ∧ X.cell? ⟨w.heap.size + 1, 1, none⟩ = some (.slice B m d) from ⟨(hb0.keep hX).cell 0, (hb0.keep hX).cell 1, (hb1.keep hX).cell 0, (hb1.keep hX).cell 1⟩)
  have Hst := Lib.hid (fun X Y (hX : Below W.heap.size W X) (hY : Only (w.heap.size + 1 + 1) X Y) => show Y.cell? ⟨w.heap.size, 0, none⟩ = some (.bool (decide (y < 0))) ∧ Y.cell? ⟨w.heap.size, 1, none⟩ = some (.slice A n c) ∧ Y.cell? ⟨w.heap.size + 1, 0, none⟩ = some (.bool (decide (z < 0))) ∧ Y.cell? ⟨w.heap.size + 1, 1, none⟩ = some (.slice B m d) from
    ⟨(hY.blk (by omega) (hb0.keep hX)).cell 0, (hY.blk (by omega) (hb0.keep hX)).cell 1, (hY.blk (by omega) (hb1.keep hX)).cell 0, (hY.blk (by omega) (hb1.keep hX)).cell 1⟩)
  have HW := Lib.hid hW
  have Hbel := Lib.hid hbel
  obtain ⟨c0, c1, d0, d1⟩ := Hcells.out _ (Below.refl _ _)
  clear hsum hW hbel h k hx hy hb0 hb1
  unfold intZ at HW
  unfold zV at *
  generalize y + z = s at *
  generalize decide (y < 0) = b at *
  generalize decide (z < 0) = b' at *
  subst hs
  go_enter Tryz.func9, Tryz.ntmps9
  go_upto_region 1 with fail
  rw [← HW.out]
  clear HW
  go_wp2_with fail
  have hB := Below.refl W.heap.size W
  go_region_held3 (fun w' => w'.cell? ⟨w.heap.size, 0, none⟩ = some (.bool b) ∧ w'.cell? ⟨w.heap.size, 1, none⟩ = some (.slice A n c) ∧ w'.cell? ⟨w.heap.size + 1, 0, none⟩ = some (.bool b) ∧ w'.cell? ⟨w.heap.size + 1, 1, none⟩ = some (.slice B m d))
    (first | exact Hcells.out _ hB | exact Hcells.out _ (Below.drew hB) | exact Hst.out _ _ hB (Only.setCell (Only.setCell (Only.refl _ _) 0 _) 1 _))
    (first
    | (go_at_call 35; refine (Hsb.out _ ?_).mono ?_; (first | exact Below.drew hB | exact hB); rintro e w2 ⟨P, p, cp, rfl, hP, hb2', -⟩; (first | (have hB := Below.and (Below.drew hB) hb2') | (have hB := Below.and hB hb2')))
    | (go_at_call 34; refine (Hin.out _ _ _ _ hP).mono ?_; rintro e w3 ⟨rfl, hd3, hb3⟩; have hB := Below.and hB hb3; have hr := Blk.keep hb2 hB; obtain ⟨z0, z1, y0, y1⟩ := hr.two))
  all_goals
    go_wp2_with fail
    exact ret_z_stored (z := s) rfl rfl rfl hr hd3 (Hbel.out.and hB) (by omega) rfl (fun w' h1 h2 => ⟨P, p, cp, rfl, h1, h2⟩)

theorem radd_any (y z : Int) (A B : Option Addr) (n m c d : Nat) (w : World) (h : Nd w A n c y.natAbs) (k : Nd w B m d z.natAbs) (hn9 : n ≤ 1000000000) (hm9 : m ≤ 1000000000) :
    Calls Tryz.prog 9 #[zV y A n c, zV z B m d] w (RetZ (y + z) w) := by
  by_cases hs : decide (y < 0) = decide (z < 0)
  · exact radd_same y z A B n m c d w h k hs hn9 hm9
  · exact radd_differ y z A B n m c d w h k hs hn9 hm9

set_option maxRecDepth 100000 in
theorem rsub_any (y z : Int) (A B : Option Addr) (n m c d : Nat) (w : World) (h : Nd w A n c y.natAbs) (k : Nd w B m d z.natAbs) (hn9 : n ≤ 1000000000) (hm9 : m ≤ 1000000000) :
    Calls Tryz.prog 10 #[zV y A n c, zV z B m d] w (RetZ (y - z) w) := by
  obtain ⟨W, hW, hb0, hb1, hb2, hbel⟩ := three_new w 29 29 29 #[.bool (decide (y < 0)), .slice A n c] #[.bool (decide (z < 0)), .slice B m d] intZ
  have hx := h.below hbel
  have hy := k.below hbel
  have Hne := Lib.hid (fun X (hX : Below W.heap.size W X) => rneg_any z B m d X (hy.below hX))
  have Had := Lib.hid (fun X (hX : Below W.heap.size W X) (hN : Nd X B m d (-z).natAbs) => radd_any y (-z) A B n m c d X (hx.below hX) hN hn9 hm9)
  have Hcells := Lib.hid (fun X (hX : Below W.heap.size W X) => show X.cell? ⟨w.heap.size, 0, none⟩ = some (.bool (decide (y < 0))) ∧ X.cell? ⟨w.heap.size, 1, none⟩ = some (.slice A n c) ∧ X.cell? ⟨w.heap.size + 1, 0, none⟩ = some (.bool (decide (z < 0))) ∧ X.cell? ⟨w.heap.size + 1, 1, none⟩ = some (.slice B m d) from ⟨(hb0.keep hX).cell 0, (hb0.keep hX).cell 1, (hb1.keep hX).cell 0, (hb1.keep hX).cell 1⟩)
  have Hst := Lib.hid (fun X Y (hX : Below W.heap.size W X) (hY : Only (w.heap.size + 1 + 1) X Y) => show Y.cell? ⟨w.heap.size, 0, none⟩ = some (.bool (decide (y < 0))) ∧ Y.cell? ⟨w.heap.size, 1, none⟩ = some (.slice A n c) ∧ Y.cell? ⟨w.heap.size + 1, 0, none⟩ = some (.bool (decide (z < 0))) ∧ Y.cell? ⟨w.heap.size + 1, 1, none⟩ = some (.slice B m d) from
    ⟨(hY.blk (by omega) (hb0.keep hX)).cell 0, (hY.blk (by omega) (hb0.keep hX)).cell 1, (hY.blk (by omega) (hb1.keep hX)).cell 0, (hY.blk (by omega) (hb1.keep hX)).cell 1⟩)
  have HW := Lib.hid hW
  have Hbel := Lib.hid hbel
  obtain ⟨c0, c1, d0, d1⟩ := Hcells.out _ (Below.refl _ _)
  have hB := Below.refl W.heap.size W
  clear hW hbel h k hx hy hb0 hb1
  unfold intZ at HW
  unfold zV at *
  rw [Int.sub_eq_add_neg]
  generalize y + -z = s at *
  generalize decide (y < 0) = b at *
  generalize decide (z < 0) = b' at *
  obtain ⟨bn, hbn⟩ : ∃ bn, decide (-z < 0) = bn := ⟨_, rfl⟩
  rw [hbn] at Hne Had
  clear hbn
  go_enter Tryz.func10, Tryz.ntmps10
  go_upto_region 1 with fail
  rw [← HW.out]
  clear HW
  go_region_held3 (fun w' => w'.cell? ⟨w.heap.size, 0, none⟩ = some (.bool b) ∧ w'.cell? ⟨w.heap.size, 1, none⟩ = some (.slice A n c) ∧ w'.cell? ⟨w.heap.size + 1, 0, none⟩ = some (.bool b') ∧ w'.cell? ⟨w.heap.size + 1, 1, none⟩ = some (.slice B m d))
    (first | exact Hcells.out _ hB | exact Hcells.out _ (Below.drew hB) | exact Hst.out _ _ hB (Only.setCell (Only.setCell (Only.refl _ _) 0 _) 1 _))
    (first
    | (go_at_call 38; refine (Hne.out _ ?_).mono ?_; (first | exact Below.drew hB | exact hB); rintro e w2 ⟨rfl, hN, hb2'⟩; (first | (have hB := Below.and (Below.drew hB) hb2') | (have hB := Below.and hB hb2')))
    | (go_at_call 9; refine (Had.out _ hB hN).mono ?_; rintro e w3 ⟨P, p, cp, rfl, hd3, hb3⟩; unfold zV; have hB := Below.and hB hb3; have hr := Blk.keep hb2 hB; obtain ⟨z0, z1, y0, y1⟩ := hr.two))
  all_goals
    go_wp2_with fail
    exact ret_z_stored (z := s) rfl rfl rfl hr hd3 (Hbel.out.and hB) (by omega) rfl (fun w' h1 h2 => ⟨P, p, cp, rfl, h1, h2⟩)

set_option maxRecDepth 100000 in
theorem rcmpZ_any (y z : Int) (A B : Option Addr) (n m c d : Nat) (w : World) (h : Nd w A n c y.natAbs) (k : Nd w B m d z.natAbs) (hn9 : n ≤ 1000000000) (hm9 : m ≤ 1000000000) :
    Calls Tryz.prog 13 #[zV y A n c, zV z B m d] w (fun e w' => e = .returned (.int .i64 (y - z).sign) ∧ Below w.heap.size w w') := by
  obtain ⟨W, hW, hb0, hb1, hbel⟩ := two_newZ w #[.bool (decide (y < 0)), .slice A n c] #[.bool (decide (z < 0)), .slice B m d] 29 29
  have Hsu := Lib.hid (rsub_any y z A B n m c d W (h.below hbel) (k.below hbel) hn9 hm9)
  have Hsi := Lib.hid (fun X P p cp hP => rsign_any (y - z) P p cp X hP)
  obtain ⟨c0, c1, f0, f1⟩ := hb0.zz
  obtain ⟨d0, d1, e0, e1⟩ := hb1.zz
  have HW := Lib.hid hW
  have Hbel := Lib.hid hbel
  clear hW hbel h k
  unfold zV at *
  generalize (y - z).sign = sg at *
  go_enter Tryz.func13, Tryz.ntmps13
  go_upto_region 1 with fail
  rw [← HW.out]
  clear HW
  go_wp2_with fail
  refine Hsu.out.mono ?_
  rintro e w1 ⟨P, p, cp, rfl, hP, hb⟩
  have Hsi1 := Lib.hid (Hsi.out _ _ _ _ hP)
  clear Hsi
  unfold zV
  go_wp2_with fail
  refine Hsi1.out.mono ?_
  rintro e w2 ⟨rfl, hb2⟩
  go_wp2_with fail
  go_ret
  exact ⟨rfl, Hbel.out.and (hb.and hb2)⟩
end Go.Proofs.YtemcdnppgnobmaaGreatDoor

set_option linter.unusedVariables false
namespace Go.Proofs.YtemcdnppgnobmaaGreatDoor
open Go.RowKit

/-- After k rows: the first digits are the product, the others 0. -/
def RMul (w : World) (n m x y : Nat) (i : Value) (wr : World) : Prop :=
  ∃ k : Nat, k ≤ n ∧ i = .int .i64 k ∧ ∃ xs, Blk wr w.heap.size 3 (cellsOf .i64 xs) ∧ xs.length = n + m ∧ Low xs ∧
    ofL (xs.take (k + m)) = ofL ((toL x).take k) * y ∧ xs.drop (k + m) = List.replicate (n - k) 0 ∧ Below w.heap.size w wr

/-- Within a row: xs0 is what the row began with. -/
def RMulIn (w : World) (n m k xa y : Nat) (xs0 : List Nat) (c i : Value) (wr : World) : Prop :=
  ∃ j q : Nat, j ≤ m + 1 ∧ (j = m + 1 → q = 0) ∧ q < 1000000000 ∧ c = .int .i64 q ∧ i = .int .i64 j ∧ ∃ xs, Blk wr w.heap.size 3 (cellsOf .i64 xs) ∧ xs.length = n + m ∧ Low xs ∧
    ofL (xs.take (k + j)) + q * (bas ^ k * bas ^ j) = ofL (xs0.take (k + j)) + bas ^ k * xa * ofL ((toL y).take j) ∧ xs.drop (k + j) = xs0.drop (k + j) ∧ Below w.heap.size w wr

theorem drop_getD {l m : List Nat} {i : Nat} (h : l.drop i = m.drop i) : l.getD i 0 = m.getD i 0 := by
  have e1 := getD_drop l i 0
  have e2 := getD_drop m i 0
  rw [h] at e1
  rw [Nat.add_zero] at e1 e2
  rw [← e1, e2]
theorem drop_more {l m : List Nat} {i : Nat} (h : l.drop i = m.drop i) : l.drop (i + 1) = m.drop (i + 1) := by
  have e := congrArg (List.drop 1) h
  rwa [List.drop_drop, List.drop_drop] at e

theorem RMulIn.next {w : World} {n m k xa y : Nat} {xs0 : List Nat} {wr : World} {j q : Nat} {xs : List Nat} (hkj : k + j < n + m) (hj : j ≤ m) (hblk : Blk wr w.heap.size 3 (cellsOf .i64 xs)) (hlen : xs.length = n + m) (hlow : Low xs)
    (hsum : ofL (xs.take (k + j)) + q * (bas ^ k * bas ^ j) = ofL (xs0.take (k + j)) + bas ^ k * xa * ofL ((toL y).take j)) (hdrop : xs.drop (k + j) = xs0.drop (k + j)) (hbel : Below w.heap.size w wr)
    (ya ta : Nat) (hya : (toL y).getD j 0 = ya) (hta : xs.getD (k + j) 0 = ta) (hz0 : j = m → (xa * ya + ta + q) / 1000000000 = 0)
    {z c i : Value} {u : Int} (hz : z = .int .i64 u) (hu : u = ((xa * ya + ta + q) % 1000000000 : Nat)) (hq' : (xa * ya + ta + q) / 1000000000 < 1000000000) (hc : c = .int .i64 ((xa * ya + ta + q) / 1000000000 : Nat)) (hi : i = .int .i64 (j + 1 : Nat)) :
    RMulIn w n m k xa y xs0 c i (wr.setCell ⟨w.heap.size, k + j, none⟩ z) := by
  subst hz
  have ht0 : xs0.getD (k + j) 0 = ta := by rw [← hta, drop_getD hdrop]
  have hd : (xa * ya + ta + q) % bas + (xa * ya + ta + q) / bas * bas = xa * ya + ta + q := by
    exact Nat.mod_add_div' _ _
  refine ⟨j + 1, _, by omega, fun e => hz0 (by omega), hq', hc, hi, xs.set (k + j) ((xa * ya + ta + q) % 1000000000), hblk.put (k + j) _ hu, by rw [List.length_set]; exact hlen, hlow.set (k + j) (Nat.mod_lt _ bas_pos), ?_, ?_, hbel.setCell (Nat.le_refl _) _⟩
  · rw [← Nat.add_assoc, ofL_set_take _ _ _ (by omega), ofL_take_succ xs0, ht0, ofL_take_succ (toL y), hya, Nat.pow_succ, ← Nat.mul_assoc (bas ^ k), Nat.pow_add]
    exact mul_step hsum rfl hd
  · rw [← Nat.add_assoc, drop_set_of_lt _ _ _ _ (by omega)]
    exact drop_more hdrop

theorem RMul.next {w : World} {n m k xa x y : Nat} {xs0 : List Nat} {wr : World} {j : Nat} {xs : List Nat} (hk : k < n) (hj : j = m ∨ j = m + 1) (hblk : Blk wr w.heap.size 3 (cellsOf .i64 xs)) (hlen : xs.length = n + m) (hlow : Low xs)
    (hsum : ofL (xs.take (k + j)) + 0 * (bas ^ k * bas ^ j) = ofL (xs0.take (k + j)) + bas ^ k * xa * ofL ((toL y).take j)) (hdrop : xs.drop (k + j) = xs0.drop (k + j)) (hbel : Below w.heap.size w wr)
    (h0 : ofL (xs0.take (k + m)) = ofL ((toL x).take k) * y) (h0d : xs0.drop (k + m) = List.replicate (n - k) 0) (hxa : (toL x).getD k 0 = xa) (hy : (toL y).length = m) {i : Value} (hi : i = .int .i64 (k + 1 : Nat)) :
    RMul w n m x y i wr := by
  have hz : xs0.getD (k + m) 0 = 0 := by
    have e := getD_drop xs0 (k + m) 0
    rw [h0d, Nat.add_zero] at e
    rw [← e, List.getD_eq_getElem?_getD, List.getElem?_replicate]
    split <;> rfl
  have hrep : xs0.drop (k + 1 + m) = List.replicate (n - (k + 1)) 0 := by
    have e := congrArg (List.drop 1) h0d
    rw [List.drop_drop, List.drop_replicate] at e
    rw [show k + 1 + m = k + m + 1 by omega, e]
    congr 1
  rw [Nat.zero_mul, Nat.add_zero, ofL_take_ge (toL y) j (by omega), ofL_toL] at hsum
  refine ⟨k + 1, by omega, hi, xs, hblk, hlen, hlow, ?_, ?_, hbel⟩
  · rw [ofL_take_succ (toL x), hxa, Nat.add_mul, ← h0]
    rcases hj with rfl | rfl
    · rw [show k + 1 + j = k + j + 1 by omega, ofL_take_succ, drop_getD hdrop, hz, hsum]
      omega
    · rw [show k + 1 + m = k + (m + 1) by omega, hsum, show k + (m + 1) = k + m + 1 by omega, ofL_take_succ xs0, hz]
      omega
  · rcases hj with rfl | rfl
    · rw [← hrep, show k + 1 + j = k + j + 1 by omega]
      exact drop_more hdrop
    · rw [← hrep, show k + 1 + m = k + (m + 1) by omega]
      exact hdrop
end Go.Proofs.YtemcdnppgnobmaaGreatDoor

set_option linter.unusedVariables false
namespace Go.Proofs.YtemcdnppgnobmaaGreatDoor
open Go.RowKit

set_option maxRecDepth 100000 in
set_option maxHeartbeats 1600000 in
theorem rmulN_any (A B : Option Addr) (n n' c d : Nat) (x y : Nat) (w : World) (h : Nd w A n c x) (k : Nd w B n' d y) (hn9 : n ≤ 1000000000) (hm9 : n' ≤ 1000000000) :
    Calls Tryz.prog 39 #[.slice A n c, .slice B n' d] w (RetN (x * y) w) := by
  have hmk : ∀ W : World, (Instr.makeSlice 27 (.int .i64 ((n : Int) + n')) (.int .i64 ((n : Int) + n'))).run Tryz.prog W = .ok (.slice (some ⟨W.heap.size, 0, none⟩) (n + n') (n + n')) (W.alloc (.cells (cellsOf .i64 (List.replicate (n + n') 0)) 3)) :=
    fun W => run_makeInts Tryz.underlying27 info_in (by omega) .i64 .i64 (n + n') (by omega) W
  have Hx : Hid ((toL x).length = n) := Lib.hid h.len
  have Hy : Hid ((toL y).length = n') := Lib.hid k.len
  replace h := h.1
  replace k := k.1
  go_enter Tryz.func39, Tryz.ntmps39
  go_wp2
  go_loopw [6] (RMul w n n' x y) (fun i _ => n - (intOf i).toNat)
  case atStart =>
    refine ⟨0, by omega, rfl, List.replicate (n + n') 0, Blk.new _ _ _, by simp, Low.replicate _, ?_, ?_, (Below.refl _ _).alloc (Nat.le_refl _) _⟩
    · rw [List.take_replicate, ofL_replicate]; simp [ofL]
    · rw [List.drop_replicate]; congr 1; omega
  case round =>
    obtain ⟨i, hi, rfl, xs0, hblk, hlen, hlow, hsum, hdrop, hbel⟩ := hrel
    have Hlen0 := Lib.hid hlen
    have Hsum0 := Lib.hid hsum
    have Hdrop0 := Lib.hid hdrop
    clear hsum hlen hdrop hmk
    by_cases hin : i < n
    · obtain ⟨b, off, rfl, hbs, ha⟩ := Sl.at h (by omega)
      replace ha := ha i hin
      have hxl : (toL x).getD i 0 < 1000000000 := (low_toL x).get i
      generalize hxa : (toL x).getD i 0 = xa at *
      have Hxa := Lib.hid hxa
      clear hxa
      go_upto_region 7 with fail
      obtain ⟨wo, hwo⟩ : ∃ wo : World, wo = wr := ⟨_, rfl⟩
      subst hwo
      go_loopw [7, 8] (fun c j => RMulIn w n n' i xa y xs0 c j) (fun _ j _ => n' + 1 - (intOf j).toNat)
      case atStart =>
        exact ⟨0, 0, by omega, by omega, by omega, rfl, rfl, xs0, hblk, Hlen0.out, hlow, by simp [ofL], rfl, hbel⟩
      case round =>
        obtain ⟨j, q, hj, hjz, hq, rfl, rfl, xs, hblk', hlen', hlow', hsum', hdrop', hbel'⟩ := hrel
        have Hlen := Lib.hid hlen'
        have Hsum := Lib.hid hsum'
        have Hdrop := Lib.hid hdrop'
        clear hlen' hsum' hdrop' hblk hbel
        have hco : i + j < n + n' → wr.cell? ⟨w.heap.size, i + j, none⟩ = some (.int .i64 (xs.getD (i + j) 0 : Nat)) := fun e => hblk'.num (i + j) (by rw [Hlen.out]; omega)
        have hfo := hblk'.free (i + j)
        have htl : xs.getD (i + j) 0 < 1000000000 := hlow'.get _
        have hca := (hbel'.cell (p := ⟨b, off + i, none⟩) hbs).trans ha
        generalize hta : xs.getD (i + j) 0 = ta at *
        have Hta := Lib.hid hta
        clear hta
        by_cases hjm : j < n'
        · obtain ⟨b', off', rfl, hbs', ha'⟩ := Sl.at k (by omega)
          have hcb := (hbel'.cell (p := ⟨b', off' + j, none⟩) hbs').trans (ha' j hjm)
          have hyl : (toL y).getD j 0 < 1000000000 := (low_toL y).get j
          generalize hya : (toL y).getD j 0 = ya at *
          have Hya := Lib.hid hya
          have hco := hco (by omega)
          clear hya ha' hjz
          have hxy := mul_le xa ya hxl hyl
          have hxy' : (xa : Int) * ya ≤ 999999998000000001 := by rw [← Int.natCast_mul]; omega
          have hxy0 : 0 ≤ (xa : Int) * ya := by rw [← Int.natCast_mul]; omega
          have hdq : (xa * ya + ta + q) / 1000000000 < 1000000000 := by omega
          have e3 : ((xa * ya + ta + q : Nat) : Int) = (ta : Int) + q + (xa : Int) * ya := by simp only [Int.natCast_add, Int.natCast_mul]; omega
          have E3 := Lib.hid e3
          clear e3
          go_wp2
          go_quiet (fail)
          go_wp2
          go_roundw
          case rel =>
            have e3 := E3.out
            exact RMulIn.next (by omega) (by omega) (hblk'.drewN nq) Hlen.out hlow' Hsum.out Hdrop.out (below_drewN hbel' nq) ya ta Hya.out Hta.out (by omega) rfl (by rw [← e3]; omega) hdq (by rw [← e3]; go_num) (by go_num)
          case measure => simp [intOf] <;> omega
        · have hya : (toL y).getD j 0 = 0 := by
            rw [List.getD_eq_getElem?_getD, List.getElem?_eq_none (by rw [Hy.out]; omega)]; rfl
          have Hya := Lib.hid hya
          clear hya
          by_cases hq0 : q = 0
          · subst hq0
            go_wp2
            go_roundw
            case rel =>
              exact RMul.next hin (by omega) hblk' Hlen.out hlow' Hsum.out Hdrop.out hbel' Hsum0.out Hdrop0.out Hxa.out Hy.out (by go_num)
            case measure => simp [intOf] <;> omega
          · obtain rfl : j = n' := by
              rcases Nat.lt_or_ge n' j with e | e
              · exact absurd (hjz (by omega)) hq0
              · omega
            have hta0 : ta = 0 := by
              rw [← Hta.out, drop_getD Hdrop.out]
              have e := getD_drop xs0 (i + j) 0
              rw [Hdrop0.out, Nat.add_zero] at e
              rw [← e, List.getD_eq_getElem?_getD, List.getElem?_replicate]
              split <;> rfl
            subst hta0
            have hco := hco (by omega)
            have hqp : 0 < q := by omega
            have hqm : (q : Int) % 1000000000 = q := by omega
            have hqd : (q : Int) / 1000000000 = 0 := by omega
            clear hjz
            go_wp2
            go_roundw
            case rel =>
              exact RMulIn.next (by omega) (by omega) hblk' Hlen.out hlow' Hsum.out Hdrop.out hbel' 0 0 Hya.out Hta.out (by intro; omega) rfl (by omega) (by omega) (congrArg (Value.int .i64) (by omega)) (by go_num)
            case measure => simp [intOf] <;> omega
    · obtain rfl : i = n := by omega
      have Hfin : Hid (ofL xs0 = x * y) := by
        have e1 := Hsum0.out
        rw [ofL_take_ge xs0 _ (by rw [Hlen0.out]; omega), ofL_take_ge (toL x) _ (by rw [Hx.out]; omega), ofL_toL] at e1
        exact e1
      have hsl := Sl.of_blk hblk Hlen0.out (by omega)
      go_wp2_with fail
      refine (rtrim_any (some ⟨w.heap.size, 0, none⟩) (i + n') (i + n') xs0 _ hsl hlow (Nat.le_refl _)).mono ?_
      rintro e w1 ⟨m1, rfl, hd1, hb1, hm1⟩
      rw [Hfin.out] at hd1
      have hfin := hbel.trans hb1.below
      clear hb1 hbel
      go_wp2
      go_ret
      exact ⟨_, m1, _, rfl, hd1, hfin, fun _ => ⟨_, _, rfl, Nat.le_refl _⟩⟩

theorem mul_sign (y z : Int) : y * z = if (decide (y < 0) != decide (z < 0)) then -((y.natAbs * z.natAbs : Nat) : Int) else ((y.natAbs * z.natAbs : Nat) : Int) := by
  rcases Int.lt_or_le y 0 with hy | hy <;> rcases Int.lt_or_le z 0 with hz | hz
  all_goals
    first
    | rw [decide_eq_true hy]
    | rw [show decide (y < 0) = false from decide_eq_false (by omega)]
    first
    | rw [decide_eq_true hz]
    | rw [show decide (z < 0) = false from decide_eq_false (by omega)]
    rw [Int.natCast_mul]
  · rw [if_neg (by decide), Int.ofNat_natAbs_of_nonpos (by omega), Int.ofNat_natAbs_of_nonpos (by omega), Int.neg_mul_neg]
  · rw [if_pos (by decide), Int.ofNat_natAbs_of_nonpos (by omega), Int.natAbs_of_nonneg hz, Int.neg_mul, Int.neg_neg]
  · rw [if_pos (by decide), Int.natAbs_of_nonneg hy, Int.ofNat_natAbs_of_nonpos (by omega), Int.mul_neg, Int.neg_neg]
  · rw [if_neg (by decide), Int.natAbs_of_nonneg hy, Int.natAbs_of_nonneg hz]

set_option maxRecDepth 100000 in
set_option maxHeartbeats 1600000 in
theorem rmul_any (y z : Int) (A B : Option Addr) (n m c d : Nat) (w : World) (h : Nd w A n c y.natAbs) (k : Nd w B m d z.natAbs) (hn9 : n ≤ 1000000000) (hm9 : m ≤ 1000000000) :
    Calls Tryz.prog 11 #[zV y A n c, zV z B m d] w (RetZ (y * z) w) := by
  obtain ⟨W, hW, hb0, hb1, hb2, hbel⟩ := three_new w 29 29 29 #[.bool (decide (y < 0)), .slice A n c] #[.bool (decide (z < 0)), .slice B m d] intZ
  have hx := h.below hbel
  have hy := k.below hbel
  have Hsb := Lib.hid (fun X (hX : Below W.heap.size W X) => rmulN_any A B n m c d _ _ X (hx.below hX) (hy.below hX) hn9 hm9)
  have hsum := mul_sign y z
  have Hin := Lib.hid (fun X P p cp (hP : Nd X P p cp (y.natAbs * z.natAbs)) => rint_any (decide (y < 0) != decide (z < 0)) P p cp _ (y * z) X hP hsum)
  have Hcells := Lib.hid (fun X (hX : Below W.heap.size W X) => show X.cell? ⟨w.heap.size, 0, none⟩ = some (.bool (decide (y < 0))) ∧ X.cell? ⟨w.heap.size, 1, none⟩ = some (.slice A n c) ∧ X.cell? ⟨w.heap.size + 1, 0, none⟩ = some (.bool (decide (z < 0))) ∧ X.cell? ⟨w.heap.size + 1, 1, none⟩ = some (.slice B m d) from ⟨(hb0.keep hX).cell 0, (hb0.keep hX).cell 1, (hb1.keep hX).cell 0, (hb1.keep hX).cell 1⟩)
  have Hst := Lib.hid (fun X Y (hX : Below W.heap.size W X) (hY : Only (w.heap.size + 1 + 1) X Y) => show Y.cell? ⟨w.heap.size, 0, none⟩ = some (.bool (decide (y < 0))) ∧ Y.cell? ⟨w.heap.size, 1, none⟩ = some (.slice A n c) ∧ Y.cell? ⟨w.heap.size + 1, 0, none⟩ = some (.bool (decide (z < 0))) ∧ Y.cell? ⟨w.heap.size + 1, 1, none⟩ = some (.slice B m d) from
    ⟨(hY.blk (by omega) (hb0.keep hX)).cell 0, (hY.blk (by omega) (hb0.keep hX)).cell 1, (hY.blk (by omega) (hb1.keep hX)).cell 0, (hY.blk (by omega) (hb1.keep hX)).cell 1⟩)
  have HW := Lib.hid hW
  have Hbel := Lib.hid hbel
  obtain ⟨c0, c1, d0, d1⟩ := Hcells.out _ (Below.refl _ _)
  clear hsum hW hbel h k hx hy hb0 hb1
  unfold intZ at HW
  unfold zV at *
  generalize y * z = s at *
  generalize decide (y < 0) = b at *
  generalize decide (z < 0) = b' at *
  go_enter Tryz.func11, Tryz.ntmps11
  go_upto_region 1 with fail
  rw [← HW.out]
  clear HW
  have hB := Below.refl W.heap.size W
  go_region_held3 (fun w' => w'.cell? ⟨w.heap.size, 0, none⟩ = some (.bool b) ∧ w'.cell? ⟨w.heap.size, 1, none⟩ = some (.slice A n c) ∧ w'.cell? ⟨w.heap.size + 1, 0, none⟩ = some (.bool b') ∧ w'.cell? ⟨w.heap.size + 1, 1, none⟩ = some (.slice B m d))
    (first | exact Hcells.out _ hB | exact Hcells.out _ (Below.drew hB) | exact Hst.out _ _ hB (Only.setCell (Only.setCell (Only.refl _ _) 0 _) 1 _))
    (first
    | (go_at_call 39; refine (Hsb.out _ ?_).mono ?_; (first | exact Below.drew hB | exact hB); rintro e w2 ⟨P, p, cp, rfl, hP, hb2', -⟩; (first | (have hB := Below.and (Below.drew hB) hb2') | (have hB := Below.and hB hb2')))
    | (go_at_call 34; refine (Hin.out _ _ _ _ hP).mono ?_; rintro e w3 ⟨rfl, hd3, hb3⟩; have hB := Below.and hB hb3; have hr := Blk.keep hb2 hB; obtain ⟨z0, z1, y0, y1⟩ := hr.two))
  all_goals
    go_wp2_with fail
    exact ret_z_stored (z := s) rfl rfl rfl hr hd3 (Hbel.out.and hB) (by omega) rfl (fun w' h1 h2 => ⟨P, p, cp, rfl, h1, h2⟩)
end Go.Proofs.YtemcdnppgnobmaaGreatDoor
