/-
  The walks of the reference's SubN and times.
-/
import Derived.Test.YtemcdnppgnobmaaGreatDoorRfA
import Derived.Laws.AppendOwn
set_option linter.unusedVariables false
namespace Go.Proofs.YtemcdnppgnobmaaGreatDoor
open Go.RowKit

theorem info_in : (Tryz.prog.info? 3).map (fun i => (i.zero, i.size, i.bytes)) = some (some (.int .i64 0), 1, 8) := by kernel_rfl

theorem own_capd {w : World} {B g cap n : Nat} {e : TypeId} {xs : List Value} (h : w.ownsRow B e 1 (.slice (some ⟨g, 0, none⟩) n cap) n xs) : n ≤ cap := by
  obtain ⟨hl, ⟨e1, _⟩ | ⟨g', cap', cur, e1, hb, hg, hc, _, hs, ht⟩⟩ := h
  · cases e1
  · injection e1 with e1 e2 e3
    omega
theorem own_row {w : World} {B n : Nat} {e : TypeId} {v : Value} {k : IntKind} {l : List Nat} (h : w.ownsRow B e 1 v n (nums k l)) (hn : n ≤ 4611686018427387904) : ∃ A c, v = .slice A n c ∧ n ≤ c ∧ Sl k w A n l ∧ Fr B A n := by
  have hl := own_len h
  rcases Nat.eq_zero_or_pos n with h0 | h0
  · subst h0
    obtain rfl := List.eq_nil_of_length_eq_zero hl
    rcases h.2 with ⟨rfl, _⟩ | ⟨g, cap, cur, rfl, _⟩
    · exact ⟨none, 0, rfl, Nat.le_refl _, Sl.nil, Fr.nil⟩
    · exact ⟨_, cap, rfl, Nat.zero_le _, Sl.nil, Fr.nil⟩
  · obtain ⟨g, cap, rfl⟩ := own_pos h h0
    exact ⟨_, cap, rfl, own_capd h, ⟨own_len h, hn, fun _ => ⟨g, 0, rfl, (own_lt h).1, fun i hi => by rw [Nat.zero_add]; exact own_num h i hi⟩⟩, fun _ => ⟨g, 0, rfl, (own_lt h).2⟩⟩
theorem own_more {w : World} {B n : Nat} {e : TypeId} {v u : Value} {k : IntKind} {l : List Nat} {d : Nat} (h : w.ownsRow B e 1 v n (nums k l ++ [u])) (hu : u = .int k (d : Nat)) : w.ownsRow B e 1 v n (nums k (l ++ [d])) := by
  subst hu
  rw [nums_snoc] at h
  exact h
theorem one_ofs (a : Value) (ha : a.oneCell' = true) : ∀ u ∈ [a], u.oneCell' = true := by
  intro u hu
  rw [List.mem_singleton.1 hu]; exact ha
theorem ofL_snoc (xs : List Nat) (d : Nat) : ofL (xs ++ [d]) = ofL xs + bas ^ xs.length * d := by
  rw [ofL_append]; simp [ofL]
theorem Low.snoc {xs : List Nat} {d : Nat} (h : Low xs) (hd : d < bas) : Low (xs ++ [d]) := h.append (Low.cons hd Low.nil)

def RSub (w : World) (n : Nat) (l m : List Nat) (o c i : Value) (wr : World) : Prop :=
  ∃ k q : Nat, k ≤ n ∧ q ≤ 1 ∧ c = .int .i64 q ∧ i = .int .i64 k ∧ ∃ xs, wr.ownsRow w.heap.size 3 1 o k (nums .i64 xs) ∧ Low xs ∧
    ofL xs + ofL (m.take k) = ofL (l.take k) + q * bas ^ k ∧ Below w.heap.size w wr

theorem RSub.next {w : World} {n : Nat} {l m : List Nat} {w1 : World} {j q : Nat} {xs : List Nat} {o u : Value} (hj : j < n) (hlen : xs.length = j) (hown : w1.ownsRow w.heap.size 3 1 o (j + 1) (nums .i64 xs ++ [u])) (hlow : Low xs)
    (hsum : ofL xs + ofL (m.take j) = ofL (l.take j) + q * bas ^ j) (hbel : Below w.heap.size w w1) (d q' : Nat) (hd : d + q + m.getD j 0 = l.getD j 0 + q' * 1000000000) (hd' : d < 1000000000) (hq' : q' ≤ 1)
    {c i : Value} (hu : u = .int .i64 (d : Nat)) (hc : c = .int .i64 q') (hi : i = .int .i64 (j + 1 : Nat)) : RSub w n l m o c i w1 := by
  refine ⟨j + 1, q', by omega, hq', hc, hi, xs ++ [d], own_more hown hu, hlow.snoc hd', ?_, hbel⟩
  rw [ofL_snoc, hlen, ofL_take_succ, ofL_take_succ, Nat.pow_succ]
  exact sub_step hsum hd

theorem rsub_end {X x y q P : Nat} (h : X + y = x + q * P) (hX : X < P) (hxy : y ≤ x) (hq : q ≤ 1) : X = x - y := by
  match q, hq with
  | 0, _ => omega
  | 1, _ => omega

set_option maxRecDepth 100000 in
set_option maxHeartbeats 800000 in
theorem rsubN_any (A B : Option Addr) (n n' c d : Nat) (x y : Nat) (w : World) (h : Nd w A n c x) (k : Nd w B n' d y) (hxy : y ≤ x) (hn9 : n ≤ 10000000000) :
    Calls Tryz.prog 37 #[.slice A n c, .slice B n' d] w (RetN (x - y) w) := by
  obtain ⟨i0, hi, hz0, hz1, hz2⟩ := info_parts info_in
  have hge : n' ≤ n := by have := limbs_mono hxy; rw [h.len, k.len] at this; exact this
  have Hxy := Lib.hid hxy
  have Hx : Hid ((toL x).length = n) := Lib.hid h.len
  have Hy : Hid ((toL y).length = n') := Lib.hid k.len
  replace h := h.1
  replace k := k.1
  clear hxy
  go_enter Tryz.func37, Tryz.ntmps37
  go_wp2
  go_loopw [5, 6, 7] (RSub w n (toL x) (toL y)) (fun _ _ i _ => n - (intOf i).toNat)
  case atStart =>
    exact ⟨0, 0, by omega, by omega, rfl, rfl, [], World.ownsRow_nil _ _ _ _, Low.nil, by simp [ofL], Below.refl _ _⟩
  case round =>
    obtain ⟨j, q, hj, hq, rfl, rfl, xs, hown, hlow, hsum, hbel⟩ := hrel
    have Hlen := Lib.hid (own_len hown)
    have Hsum := Lib.hid hsum
    have hsz := hbel.size
    clear hsum
    by_cases hjn : j < n
    · obtain ⟨b, off, rfl, hbs, ha⟩ := Sl.at h (by omega)
      have hca := (hbel.cell (p := ⟨b, off + j, none⟩) hbs).trans (ha j hjn)
      have hxl : (toL x).getD j 0 < 1000000000 := (low_toL x).get j
      generalize hxa : (toL x).getD j 0 = xa at *
      have Hxa := Lib.hid hxa
      clear ha hxa
      by_cases hjm : j < n'
      · obtain ⟨b', off', rfl, hbs', ha'⟩ := Sl.at k (by omega)
        have hcb := (hbel.cell (p := ⟨b', off' + j, none⟩) hbs').trans (ha' j hjm)
        have hyl : (toL y).getD j 0 < 1000000000 := (low_toL y).get j
        generalize hya : (toL y).getD j 0 = ya at *
        have Hya := Lib.hid hya
        clear ha' hya
        by_cases hbig : (xa : Int) - q - ya < 0
        · go_wp2_with (at_builtin; refine wpList_append_own _ rfl _ _ 27 rfl w.heap.size 3 i0 (.int .i64 0) 1 8 Tryz.underlying27 hi hz0 hz1 hz2 rfl (by decide) _ _ _ rfl (hown.alloc _) ⟨wr.heap.size, 0, none⟩ 1 1 [.int .i64 ((xa : Int) - q - ya + 1000000000)] rfl rfl ?c1 ?c2 ?c3 ?c4 ?c5 ?_)
          case c1 => exact cell_one_new _ _ _
          case c2 => exact one_ofs _ rfl
          case c3 => unfold maxLen; omega
          case c4 => omega
          case c5 => simp; omega
          intro v' w1 hown' hgrow _
          have hb' := hbel.trans (own_below hown hsz hgrow)
          go_wp2
          go_roundw
          case rel => exact RSub.next hjn Hlen.out hown' hlow Hsum.out hb' (xa + 1000000000 - (q + ya)) 1 (by have e1 := Hxa.out; have e2 := Hya.out; omega) (by omega) (by omega) (congrArg (Value.int .i64) (by omega)) rfl (by go_num)
          case measure => simp [intOf] <;> omega
        · go_wp2_with (at_builtin; refine wpList_append_own _ rfl _ _ 27 rfl w.heap.size 3 i0 (.int .i64 0) 1 8 Tryz.underlying27 hi hz0 hz1 hz2 rfl (by decide) _ _ _ rfl (hown.alloc _) ⟨wr.heap.size, 0, none⟩ 1 1 [.int .i64 ((xa : Int) - q - ya)] rfl rfl ?d1 ?d2 ?d3 ?d4 ?d5 ?_)
          case d2 => rfl
          case d3 => unfold maxLen; omega
          case d4 => omega
          case d5 => omega
          intro v' w1 hown' hgrow _
          have hb' := hbel.trans (own_below hown hsz hgrow)
          go_wp2
          go_roundw
          case rel => exact RSub.next hjn Hlen.out hown' hlow Hsum.out hb' (xa - (q + ya)) 0 (by have e1 := Hxa.out; have e2 := Hya.out; omega) (by omega) (by omega) (congrArg (Value.int .i64) (by omega)) rfl (by go_num)
          case measure => simp [intOf] <;> omega
      · have Hya : Hid ((toL y).getD j 0 = 0) := by
          show _ = 0
          rw [List.getD_eq_getElem?_getD, List.getElem?_eq_none (by rw [Hy.out]; omega)]; rfl
        by_cases hbig : (xa : Int) - q < 0
        · go_wp2_with (at_builtin; refine wpList_append_own _ rfl _ _ 27 rfl w.heap.size 3 i0 (.int .i64 0) 1 8 Tryz.underlying27 hi hz0 hz1 hz2 rfl (by decide) _ _ _ rfl (hown.alloc _) ⟨wr.heap.size, 0, none⟩ 1 1 [.int .i64 ((xa : Int) - q + 1000000000)] rfl rfl ?e1 ?e2 ?e3 ?e4 ?e5 ?_)
          case e1 => exact cell_one_new _ _ _
          case e2 => exact one_ofs _ rfl
          case e3 => unfold maxLen; omega
          case e4 => omega
          case e5 => simp; omega
          intro v' w1 hown' hgrow _
          have hb' := hbel.trans (own_below hown hsz hgrow)
          go_wp2
          go_roundw
          case rel => exact RSub.next hjn Hlen.out hown' hlow Hsum.out hb' (xa + 1000000000 - q) 1 (by have e1 := Hxa.out; have e2 := Hya.out; omega) (by omega) (by omega) (congrArg (Value.int .i64) (by omega)) rfl (by go_num)
          case measure => simp [intOf] <;> omega
        · go_wp2_with (at_builtin; refine wpList_append_own _ rfl _ _ 27 rfl w.heap.size 3 i0 (.int .i64 0) 1 8 Tryz.underlying27 hi hz0 hz1 hz2 rfl (by decide) _ _ _ rfl (hown.alloc _) ⟨wr.heap.size, 0, none⟩ 1 1 [.int .i64 ((xa : Int) - q)] rfl rfl ?f1 ?f2 ?f3 ?f4 ?f5 ?_)
          case f2 => rfl
          case f3 => unfold maxLen; omega
          case f4 => omega
          case f5 => omega
          intro v' w1 hown' hgrow _
          have hb' := hbel.trans (own_below hown hsz hgrow)
          go_wp2
          go_roundw
          case rel => exact RSub.next hjn Hlen.out hown' hlow Hsum.out hb' (xa - q) 0 (by have e1 := Hxa.out; have e2 := Hya.out; omega) (by omega) (by omega) (congrArg (Value.int .i64) (by omega)) rfl (by go_num)
          case measure => simp [intOf] <;> omega
    · obtain rfl : j = n := by omega
      have Hfin : Hid (ofL xs = x - y) := by
        have e1 := Hsum.out
        rw [ofL_take_ge (toL x) _ (by rw [Hx.out]; omega), ofL_take_ge (toL y) _ (by rw [Hy.out]; omega), ofL_toL, ofL_toL] at e1
        have e2 := ofL_lt hlow
        rw [Hlen.out] at e2
        exact rsub_end e1 e2 Hxy.out hq
      obtain ⟨A1, c1, rfl, hc1, hs1, hf1⟩ := own_row hown (by omega)
      go_wp2_with fail
      refine (rtrim_any A1 c1 j xs _ hs1 hlow hc1).mono ?_
      rintro e w1 ⟨m1, rfl, hd1, hb1, hm1⟩
      rw [Hfin.out] at hd1
      have hfin := hbel.trans hb1.below
      clear hb1 hbel
      go_wp2
      go_ret
      exact ⟨A1, m1, c1, rfl, hd1, hfin, hf1.le (Nat.le_refl _) hm1⟩

def RTim (w : World) (n f : Nat) (l : List Nat) (o c i : Value) (wr : World) : Prop :=
  ∃ k q : Nat, k ≤ n + 1 ∧ q < 1000000000 ∧ (n < k → q = 0) ∧ c = .int .i64 q ∧ i = .int .i64 k ∧ ∃ xs, wr.ownsRow w.heap.size 3 1 o k (nums .i64 xs) ∧ Low xs ∧
    ofL xs + q * bas ^ k = ofL (l.take k) * f ∧ Below w.heap.size w wr

theorem rtim_step {X L P f x q d c' : Nat} (h : X + q * P = L * f) (hd : d + c' * bas = q + x * f) : X + P * d + c' * (P * bas) = (L + P * x) * f := by
  have h1 : P * d + c' * (P * bas) = P * (q + x * f) := by
    rw [← hd, Nat.mul_add]; congr 1; rw [Nat.mul_left_comm]
  rw [Nat.mul_add] at h1
  rw [Nat.add_mul, Nat.mul_assoc P x f]
  have := Nat.mul_comm q P
  omega

theorem RTim.next {w : World} {n f : Nat} {l : List Nat} {w1 : World} {j q : Nat} {xs : List Nat} {o u : Value} (hj : j ≤ n) (hlen : xs.length = j) (hown : w1.ownsRow w.heap.size 3 1 o (j + 1) (nums .i64 xs ++ [u])) (hlow : Low xs)
    (hsum : ofL xs + q * bas ^ j = ofL (l.take j) * f) (hbel : Below w.heap.size w w1) (x : Nat) (hx : l.getD j 0 = x) (hq' : (q + x * f) / 1000000000 < 1000000000) (hz : n < j + 1 → (q + x * f) / 1000000000 = 0)
    {c i : Value} (hu : u = .int .i64 ((q + x * f) % 1000000000 : Nat)) (hc : c = .int .i64 ((q + x * f) / 1000000000 : Nat)) (hi : i = .int .i64 (j + 1 : Nat)) : RTim w n f l o c i w1 := by
  refine ⟨j + 1, _, by omega, hq', hz, hc, hi, xs ++ [_], own_more hown hu, hlow.snoc (Nat.mod_lt _ bas_pos), ?_, hbel⟩
  rw [ofL_snoc, hlen, ofL_take_succ, Nat.pow_succ, hx]
  exact rtim_step hsum (Nat.mod_add_div' _ _)

set_option maxRecDepth 100000 in
set_option maxHeartbeats 800000 in
theorem rtimes_any (A : Option Addr) (n c f : Nat) (x : Nat) (w : World) (h : Nd w A n c x) (hn9 : n ≤ 10000000000) (hf : f ≤ 1000000000) :
    Calls Tryz.prog 83 #[.slice A n c, .int .i64 f] w (RetN (x * f) w) := by
  obtain ⟨i0, hi, hz0, hz1, hz2⟩ := info_parts info_in
  have Hx : Hid ((toL x).length = n) := Lib.hid h.len
  replace h := h.1
  go_enter Tryz.func83, Tryz.ntmps83
  go_wp2
  go_loopw [5, 6, 7] (RTim w n f (toL x)) (fun _ _ i _ => n + 2 - (intOf i).toNat)
  case atStart =>
    exact ⟨0, 0, by omega, by omega, fun _ => rfl, rfl, rfl, [], World.ownsRow_nil _ _ _ _, Low.nil, by simp [ofL], Below.refl _ _⟩
  case round =>
    obtain ⟨j, q, hj, hq, hjz, rfl, rfl, xs, hown, hlow, hsum, hbel⟩ := hrel
    have Hlen := Lib.hid (own_len hown)
    have Hsum := Lib.hid hsum
    have hsz := hbel.size
    clear hsum
    by_cases hjn : j < n
    · clear hjz
      obtain ⟨b, off, rfl, hbs, ha⟩ := Sl.at h (by omega)
      have hca := (hbel.cell (p := ⟨b, off + j, none⟩) hbs).trans (ha j hjn)
      have hxl : (toL x).getD j 0 < 1000000000 := (low_toL x).get j
      generalize hxa : (toL x).getD j 0 = xa at *
      have Hxa := Lib.hid hxa
      clear ha hxa
      have hxy : xa * f ≤ 999999999 * 1000000000 := Nat.mul_le_mul (by omega) hf
      have hxy' : (xa : Int) * f ≤ 999999999000000000 := by rw [← Int.natCast_mul]; omega
      have hxy0 : 0 ≤ (xa : Int) * f := by rw [← Int.natCast_mul]; omega
      have hdq : (q + xa * f) / 1000000000 < 1000000000 := by omega
      go_wp2_with (at_builtin; refine wpList_append_own _ rfl _ _ 27 rfl w.heap.size 3 i0 (.int .i64 0) 1 8 Tryz.underlying27 hi hz0 hz1 hz2 rfl (by decide) _ _ _ rfl (hown.alloc _) ⟨wr.heap.size, 0, none⟩ 1 1 [.int .i64 (((q : Int) + xa * f) % 1000000000)] rfl rfl ?c1 ?c2 ?c3 ?c4 ?c5 ?_)
      case c1 => exact cell_one_new _ _ _
      case c2 => exact one_ofs _ rfl
      case c3 => unfold maxLen; omega
      case c4 => omega
      case c5 => simp; omega
      intro v' w1 hown' hgrow _
      have hb' := hbel.trans (own_below hown hsz hgrow)
      go_wp2
      go_roundw
      case rel =>
        have e3 : ((q + xa * f : Nat) : Int) = (q : Int) + (xa : Int) * f := by simp only [Int.natCast_add, Int.natCast_mul]
        exact RTim.next (by omega) Hlen.out hown' hlow Hsum.out hb' xa Hxa.out hdq (by omega) (congrArg (Value.int .i64) (by rw [← e3]; omega)) (by rw [← e3]; go_num) (by go_num)
      case measure => simp [intOf] <;> omega
    · have hx0 : (toL x).getD j 0 = 0 := by
        rw [List.getD_eq_getElem?_getD, List.getElem?_eq_none (by rw [Hx.out]; omega)]; rfl
      have Hx0 := Lib.hid hx0
      clear hx0
      by_cases hq0 : q = 0
      · subst hq0
        have Hfin : Hid (ofL xs = x * f) := by
          have e1 := Hsum.out
          rw [ofL_take_ge (toL x) _ (by rw [Hx.out]; omega), ofL_toL, Nat.zero_mul, Nat.add_zero] at e1
          exact e1
        obtain ⟨A1, c1, rfl, hc1, hs1, hf1⟩ := own_row hown (by omega)
        clear hjz
        go_wp2_with fail
        refine (rtrim_any A1 c1 j xs _ hs1 hlow hc1).mono ?_
        rintro e w1 ⟨m1, rfl, hd1, hb1, hm1⟩
        rw [Hfin.out] at hd1
        have hfin := hbel.trans hb1.below
        clear hb1 hbel
        go_wp2
        go_ret
        exact ⟨A1, m1, c1, rfl, hd1, hfin, hf1.le (Nat.le_refl _) hm1⟩
      · obtain rfl : j = n := by
          rcases Nat.lt_or_ge n j with e | e
          · exact absurd (hjz e) hq0
          · omega
        clear hjz
        have hqm : (q : Int) % 1000000000 = q := by omega
        have hqd : (q : Int) / 1000000000 = 0 := by omega
        have hqp : 0 < q := by omega
        go_wp2_with (at_builtin; refine wpList_append_own _ rfl _ _ 27 rfl w.heap.size 3 i0 (.int .i64 0) 1 8 Tryz.underlying27 hi hz0 hz1 hz2 rfl (by decide) _ _ _ rfl (hown.alloc _) ⟨wr.heap.size, 0, none⟩ 1 1 [.int .i64 (q : Int)] rfl rfl ?d1 ?d2 ?d3 ?d4 ?d5 ?_)
        case d1 => exact cell_one_new _ _ _
        case d2 => exact one_ofs _ rfl
        case d3 => unfold maxLen; omega
        case d4 => omega
        case d5 => simp; omega
        intro v' w1 hown' hgrow _
        have hb' := hbel.trans (own_below hown hsz hgrow)
        go_wp2
        go_roundw
        case rel =>
          exact RTim.next (Nat.le_refl _) Hlen.out hown' hlow Hsum.out hb' 0 Hx0.out (by omega) (by omega) (congrArg (Value.int .i64) (by omega)) (congrArg (Value.int .i64) (by omega)) (by go_num)
        case measure => simp [intOf] <;> omega
end Go.Proofs.YtemcdnppgnobmaaGreatDoor
