/-
  The walk of the reference's DivN.
-/
import Derived.Test.YtemcdnppgnobmaaGreatDoorRfC
set_option linter.unusedVariables false
namespace Go.Proofs.YtemcdnppgnobmaaGreatDoor
open Go.RowKit

def RetQR (q r : Nat) (w : World) (e : Ending) (w' : World) : Prop :=
  ∃ A n c B m d, e = .returned (.tuple #[.slice A n c, .slice B m d]) ∧ Nd w' A n c q ∧ Nd w' B m d r ∧ Below w.heap.size w w'

/-- The number in a cell. -/
def cellN (w : World) (g i : Nat) : Nat := match w.cell? ⟨g, i, none⟩ with
  | some (.int _ z) => z.toNat
  | _ => 0

def ROut (W3 : World) (n1 X Y : Nat) (r i : Value) (wr : World) : Prop :=
  ∃ k R Ar nr cr xs, k ≤ n1 ∧ i = .int .i64 ((k : Int) - 1) ∧ r = .slice Ar nr cr ∧ Nd wr Ar nr cr R ∧ Fr (W3.heap.size + 1) Ar nr ∧ R < Y ∧ Blk wr W3.heap.size 3 (cellsOf .i64 xs) ∧ xs.length = n1 ∧ Low xs ∧
    X / bas ^ k = ofL (xs.drop k) * Y + R ∧ (∀ t, t < k → xs.getD t 0 = 0) ∧ Below W3.heap.size W3 wr

def RIn (W3 : World) (j Y R0 : Nat) (xs : List Nat) (r : Value) (wr : World) : Prop :=
  ∃ R q A n c, r = .slice A n c ∧ Nd wr A n c R ∧ Fr (W3.heap.size + 1) A n ∧ R + q * Y = R0 ∧ Blk wr W3.heap.size 3 (cellsOf .i64 (xs.set j q)) ∧ Below W3.heap.size W3 wr

theorem set_same {xs : List Nat} {j : Nat} (h : xs.getD j 0 = 0) : xs.set j 0 = xs := by
  apply List.ext_getElem
  · simp
  · intro i h1 h2
    rw [List.getElem_set]
    by_cases e : j = i
    · subst e
      rw [if_pos rfl]
      rw [List.getD_eq_getElem?_getD, List.getElem?_eq_getElem h2] at h
      exact h.symm
    · rw [if_neg e]

theorem q_lt {R q Y R0 : Nat} (h : R + q * Y = R0) (hR : R0 < Y * bas) : q < bas := by
  rcases Nat.lt_or_ge q bas with e | e
  · exact e
  · have := Nat.mul_le_mul_right Y e
    rw [Nat.mul_comm bas] at this
    omega

theorem top_digit (y : Nat) (hy : 0 < y) : (toL y).getD (limbs y - 1) 0 = y / bas ^ (limbs y - 1) ∧ 0 < y / bas ^ (limbs y - 1) ∧ y / bas ^ (limbs y - 1) < bas := by
  have h1 := pow_limbs_le hy
  have h2 := lt_pow_limbs y
  have hl := limbs_pos hy
  obtain ⟨k, hk⟩ : ∃ k, limbs y = k + 1 := ⟨_, hl⟩
  rw [hk, Nat.add_sub_cancel] at h1 ⊢
  rw [hk, Nat.pow_succ] at h2
  have h3 : y / bas ^ k < bas := Nat.div_lt_of_lt_mul h2
  refine ⟨?_, Nat.div_pos h1 (Nat.pow_pos bas_pos), h3⟩
  rw [getD_toL, Nat.mod_eq_of_lt h3]

theorem drop_digit (X j : Nat) : X / bas ^ j = X / bas ^ j % bas + bas * (X / bas ^ (j + 1)) := by
  rw [Nat.pow_succ, ← Nat.div_div_eq_div_mul]
  exact (Nat.mod_add_div _ _).symm

/-- A round of the outer loop. -/
theorem out_step {X Y Q R R' q x : Nat} {j : Nat} (hx : X / bas ^ j % bas = x) (h : X / bas ^ (j + 1) = Q * Y + R) (hR : R' + q * Y = x + bas * R) : X / bas ^ j = (q + bas * Q) * Y + R' := by
  rw [drop_digit, h, hx, Nat.mul_add, Nat.add_mul, Nat.mul_assoc]
  omega

theorem digit_step (R s : Nat) : R / bas ^ (s + 1) * bas + R / bas ^ s % bas = R / bas ^ s := by
  have := drop_digit R s
  rw [Nat.mul_comm bas] at this
  omega

theorem run_append_none {P : Program} {w : World} (base : Nat) (t tr e : TypeId) (i : TypeInfo) (size : Nat) (ht : P.underlying t = some (.slice e)) (hi : P.info? e = some i)
    (v : Value) (n : Nat) (xs : List Value) (A : Option Addr) (c : Nat) (hown : w.ownsRow base e size v n xs) :
    (Builtin.append_ #[t, t] tr #[v, .slice A 0 c]).run P w = .ok v w := by
  cases A with
  | none =>
    rcases hown.2 with ⟨rfl, rfl⟩ | ⟨g, cap, cur, rfl, _, _, hnc, _⟩
    · simp [Builtin.append_, run_underlying ht, sizeOf, typeInfo, hi, Builtin.lenOf, Builtin.firstCells]
    · simp [Builtin.append_, run_underlying ht, sizeOf, typeInfo, hi, Builtin.lenOf, Builtin.firstCells, hnc, storeCells]
  | some a =>
    rcases hown.2 with ⟨rfl, rfl⟩ | ⟨g, cap, cur, rfl, _, _, hnc, _⟩
    · simp [Builtin.append_, run_underlying ht, sizeOf, typeInfo, hi, Builtin.lenOf, Builtin.firstCells, loadCells, loadCellsFrom]
    · simp [Builtin.append_, run_underlying ht, sizeOf, typeInfo, hi, Builtin.lenOf, Builtin.firstCells, hnc, storeCells, loadCells, loadCellsFrom]

theorem own_lit1 (w : World) (e : TypeId) (u : Value) : (w.alloc (.cells #[u] e)).ownsRow w.heap.size e 1 (.slice (some ⟨w.heap.size, 0, none⟩) 1 1) 1 [u] :=
  ⟨rfl, .inr ⟨w.heap.size, 1, #[u], rfl, Nat.le_refl _, heap_alloc_new w _, Nat.le_refl _, by unfold maxLen; omega, rfl, rfl⟩⟩

/-- The number with one more limb below. -/
def RBr (W3 : World) (x : Nat) (xs : List Nat) (v : Value) (wx : World) : Prop :=
  ∃ A n c, v = .slice A n c ∧ Nd wx A n c x ∧ Fr (W3.heap.size + 1) A n ∧ Blk wx W3.heap.size 3 (cellsOf .i64 xs) ∧ Below W3.heap.size W3 wx

set_option maxRecDepth 100000 in
set_option maxHeartbeats 3200000 in
theorem rdivN_any (A B : Option Addr) (n m c d : Nat) (x y : Nat) (w : World) (h : Nd w A n c x) (k : Nd w B m d y) (hy : 0 < y) (hn9 : n ≤ 1000000000) (hm9 : m ≤ 1000000000) :
    Calls Tryz.prog 55 #[.slice A n c, .slice B m d] w (RetQR (x / y) (x % y) w) := by
  obtain ⟨i0, hi, hz0, hz1, hz2⟩ := info_parts info_in
  obtain ⟨t1, t2, t3⟩ := top_digit y hy
  rw [k.len] at t1 t2 t3
  have hm0 : 0 < m := by
    have := limbs_pos hy
    rw [k.len] at this
    omega
  obtain ⟨m', rfl⟩ : ∃ m', m = m' + 1 := ⟨m - 1, by omega⟩
  rw [Nat.add_sub_cancel] at t1 t2 t3
  obtain ⟨b, off, rfl, hbs, hcb⟩ := Sl.at k.1 (by omega)
  have hyc := hcb m' (by omega)
  rw [t1] at hyc
  generalize y / bas ^ m' = yt at *
  obtain ⟨dd, hdd⟩ : ∃ dd : Nat, dd = 1000000000 / (yt + 1) := ⟨_, rfl⟩
  have hdi : (1000000000 : Int) / ((yt : Int) + 1) = (dd : Nat) := by rw [hdd]; rfl
  have hyt : yt < 1000000000 := t3
  have hd1 : 0 < dd := by rw [hdd]; exact Nat.div_pos (by omega) (by omega)
  have hd2 : dd < 1000000000 := by
    rw [hdd]
    exact Nat.lt_of_le_of_lt (Nat.div_le_div_left (show 2 ≤ yt + 1 by omega) (by omega)) (by decide)
  have Htx := Lib.hid (fun X (hX : Below w.heap.size w X) => rtimes_any A n c dd x X (h.below hX) (by omega) (by omega))
  have Hty := Lib.hid (fun X (hX : Below w.heap.size w X) => rtimes_any (some ⟨b, off, none⟩) (m' + 1) d dd y X (k.below hX) (by omega) (by omega))
  have Hlx := Lib.hid h.len
  have Hly := Lib.hid k.len
  have Hsc := Lib.hid (scaled_div x y dd hd1)
  have Hy := Lib.hid hy
  have hld : limbs dd ≤ 1 := limbs_le_of_lt (by simpa [bas] using hd2)
  have Hld := Lib.hid hld
  clear hcb h k hdd t1 hld hy
  go_enter Tryz.func55, Tryz.ntmps55
  go_upto_region 2 with fail
  go_upto_region 3 with (first
    | (go_at_call_of 83 (Value.slice A n c); refine (Htx.out _ (Below.refl _ _)).mono ?_; rintro e w1 ⟨A1, n1, c1, rfl, hX1, hb1, -⟩)
    | (go_at_call 83; refine (Hty.out _ hb1).mono ?_; rintro e w2 ⟨B1, m1, d1, rfl, hY2, hb2, -⟩))
  have hbW := hb1.and hb2
  have hX2 := hX1.below hb2
  have hn1 : n1 ≤ n + 1 := by
    rw [← hX2.len]
    refine Nat.le_trans (limbs_mul_le _ _) ?_
    rw [Hlx.out]; have := Hld.out; omega
  have hm1 : m1 ≤ m' + 2 := by
    rw [← hY2.len]
    refine Nat.le_trans (limbs_mul_le _ _) ?_
    rw [Hly.out]; have := Hld.out; omega
  have hYp : 0 < y * dd := Nat.mul_pos Hy.out hd1
  have Hq1 := Lib.hid (show x * dd / (y * dd) = x / y from Hsc.out.1)
  have Hq2 := Lib.hid (show x * dd % (y * dd) / dd = x % y from Hsc.out.2)
  clear Htx Hty Hlx Hly Hld hX1 hb1 hb2 hyc Hsc Hy t2 t3 hyt hdi hbs
  generalize x * dd = X at *
  generalize y * dd = Y at *
  generalize x / y = qq at *
  generalize x % y = rr at *
  obtain ⟨t1, t2, t3⟩ := top_digit Y hYp
  rw [hY2.len] at t1 t2 t3
  have hm0' : 0 < m1 := by
    have := limbs_pos hYp
    rw [hY2.len] at this
    omega
  obtain ⟨k1, rfl⟩ : ∃ k1, m1 = k1 + 1 := ⟨m1 - 1, by omega⟩
  rw [Nat.add_sub_cancel] at t1 t2 t3
  have hlY := hY2.len
  obtain ⟨b1, o1, rfl, hbs1, hcb1⟩ := Sl.at hY2.1 (by omega)
  have hyc := hcb1 k1 (by omega)
  rw [t1] at hyc
  obtain ⟨hh, hhe⟩ : ∃ hh, hh = Y / bas ^ k1 := ⟨_, rfl⟩
  rw [← hhe] at hyc t2 t3
  have hhb : hh < 1000000000 := t3
  have hmk : ∀ W : World, (Instr.makeSlice 27 (.int .i64 (n1 : Int)) (.int .i64 (n1 : Int))).run Tryz.prog W = .ok (.slice (some ⟨W.heap.size, 0, none⟩) n1 n1) (W.alloc (.cells (cellsOf .i64 (List.replicate n1 0)) 3)) :=
    fun W => run_makeInts Tryz.underlying27 info_in (by omega) .i64 .i64 n1 (by omega) W
  have HX := Lib.hid hX2
  have HY := Lib.hid hY2
  have HlY := Lib.hid hlY
  have Hhe := Lib.hid hhe
  have HbW := Lib.hid hbW
  have HYp := Lib.hid hYp
  clear hcb1 hX2 hY2 t1 t3 hhe hbW hYp hlY
  go_upto_region 4 with fail
  go_upto_region 5 with fail
  obtain ⟨W4, hW4⟩ : ∃ W4, W4 = w2.alloc (.cells (cellsOf .i64 (List.replicate n1 0)) 3) := ⟨_, rfl⟩
  have hq4 : Blk W4 w2.heap.size 3 (cellsOf .i64 (List.replicate n1 0)) := by rw [hW4]; exact Blk.new _ _ _
  have hb4 : Below w2.heap.size w2 W4 := by rw [hW4]; exact below_new _ _
  rw [← hW4]
  clear hW4 hmk
  go_wp2_with fail
  go_loopw [11, 12] (ROut w2 n1 X Y) (fun _ i _ => (intOf i + 1).toNat)
  case atStart =>
    refine ⟨n1, 0, none, 0, 0, List.replicate n1 0, Nat.le_refl _, by go_num, rfl, Nd.nil, Fr.nil, HYp.out, hq4, by simp, Low.replicate _, ?_, ?_, hb4⟩
    · have h1 := lt_pow_limbs X
      rw [HX.out.len] at h1
      rw [Nat.div_eq_of_lt h1, List.drop_of_length_le (by simp)]
      simp [ofL]
    · intro t ht
      simp [List.getD_eq_getElem?_getD, ht]
  case round =>
    obtain ⟨k, R, Ar, nr, cr, xs, hk, rfl, rfl, hR, hfR, hRY, hqb, hxl, hlow, hval, hzero, hbel⟩ := hrel
    have Hval := Lib.hid hval
    have Hzero := Lib.hid hzero
    have hnr : nr ≤ k1 + 1 := by
      rw [← hR.len, ← HlY.out]
      exact limbs_mono (Nat.le_of_lt hRY)
    clear hval hzero hq4 hb4
    by_cases hk0 : k = 0
    · subst hk0
      have Hfin : Hid (X = ofL xs * Y + R) := by
        have := Hval.out
        rw [Nat.pow_zero, Nat.div_one, List.drop_zero] at this
        exact this
      have Hq : Hid (qq = ofL xs) := by
        show qq = ofL xs
        rw [← Hq1.out, Hfin.out, Nat.mul_comm, Nat.mul_add_div HYp.out, Nat.div_eq_of_lt hRY, Nat.add_zero]
      have Hr : Hid (rr = R / dd) := by
        show rr = R / dd
        rw [← Hq2.out, Hfin.out, Nat.mul_comm, Nat.mul_add_mod, Nat.mod_eq_of_lt hRY]
      have Hsm := Lib.hid (rsmall_any Ar nr cr dd R wr hR (by omega) hd2 hd1)
      clear hRY hR
      go_wp2_with fail
      refine Hsm.out.mono ?_
      rintro e w5 ⟨As, ns, cs, rfl, hs5, hb5⟩
      have hbl := Bl.sl (Bl.of_blk (hqb.keep hb5) hxl (show n1 ≤ 4611686018427387904 by omega))
      have Htr := Lib.hid (rtrim_any (some ⟨w2.heap.size, 0, none⟩) n1 n1 xs w5 hbl hlow (Nat.le_refl _))
      clear hbl hqb Hsm
      go_wp2_with fail
      refine Htr.out.mono ?_
      rintro e w6 ⟨m6, rfl, hd6, hdr6, -⟩
      have hs6 := hs5.below hdr6.below
      have hfin := HbW.out.and (hbel.and (hb5.and hdr6.below))
      go_wp2_with fail
      go_ret2
      rw [Hq.out, Hr.out]
      exact ⟨_, m6, n1, As, ns, cs, rfl, hd6, hs6, hfin⟩
    · obtain ⟨j, rfl⟩ : ∃ j, k = j + 1 := ⟨k - 1, by omega⟩
      obtain ⟨a1, oa, rfl, hbsa, hca⟩ := Sl.at HX.out.1 (by omega)
      have hcj := (hbel.cell (p := ⟨a1, oa + j, none⟩) hbsa).trans (hca j (by omega))
      have hxj : X / bas ^ j % bas = (toL X).getD j 0 := (getD_toL X j).symm
      have hxl9 : (toL X).getD j 0 < 1000000000 := (low_toL X).get j
      generalize (toL X).getD j 0 = xj at *
      have Hxj := Lib.hid hxj
      have Hlow := Lib.hid hlow
      have Hxl := Lib.hid hxl
      have HRY := Lib.hid hRY
      rw [show (((j + 1 : Nat) : Int) - 1) = (j : Int) from by omega]
      clear hca hxj hlow hxl hRY hk0
      go_upto_region 9 with fail
      go_upto_region 10 with fail
      have hg2 : w2.heap.size < wr.heap.size := hqb.lt
      go_cut [11] (RBr w2 (xj + bas * R) xs)
      case first =>
        have hul : (wr.alloc (.cells #[.int .i64 (xj : Nat)] 3)).ownsRow wr.heap.size 3 1 (.slice (some ⟨wr.heap.size, 0, none⟩) 1 1) 1 (nums .i64 [xj]) := own_lit1 wr 3 (.int .i64 (xj : Nat))
        have hRa := hR.below (below_new wr (.cells #[.int .i64 (xj : Nat)] 3))
        have hbn := below_new wr (.cells #[.int .i64 (xj : Nat)] 3)
        have hqa := hqb.keep hbn
        have hlowx : Low (xj :: toL R) := Low.cons hxl9 (low_toL R)
        have hval' : ofL (xj :: toL R) = xj + bas * R := by show xj + bas * ofL (toL R) = _; rw [ofL_toL]
        rcases Nat.eq_zero_or_pos nr with h0 | h0
        · subst h0
          have hR0 : R = 0 := limbs_eq_zero hR.len
          have hap := run_append_none (P := Tryz.prog) wr.heap.size 27 27 3 i0 1 Tryz.underlying27 hi _ 1 (nums .i64 [xj]) Ar cr hul
          obtain ⟨A', c', e1, hc', hs', hf'⟩ := own_row hul (by omega)
          injection e1 with e1 e2 e3
          subst e1 e3
          have htr := rtrim_any (some ⟨wr.heap.size, 0, none⟩) 1 1 [xj] _ hs' (Low.cons hxl9 Low.nil) hc'
          have Htr := Lib.hid htr
          have Hap := Lib.hid hap
          have hval0 : ofL [xj] = xj + bas * R := by rw [hR0]; simp [ofL]
          clear htr hap hul hs' hR hRa hlowx
          go_wp2_with (at_builtin; refine wpList_append_run rfl rfl rfl rfl Hap.out ?_)
          refine Htr.out.mono ?_
          rintro e w6 ⟨m6, rfl, hd6, hdr6, hm6⟩
          rw [hval0] at hd6
          go_wp2_with fail
          go_meet
          exact ⟨_, m6, 1, rfl, hd6, hf'.le (by omega) hm6, hqa.keep hdr6.below, hbel.trans ((hbn.and hdr6.below).mono (by omega))⟩
        · obtain ⟨br, ob, rfl, hbr, hcr⟩ := Sl.at hRa.1 h0
          have hnews := Sl.cellsAt hRa.1
          have Hnews := Lib.hid hnews
          have HlR := Lib.hid (show (nums .i64 (toL R)).length = nr * 1 by rw [nums_length, Nat.mul_one]; exact hR.len)
          clear hcr hnews
          go_wp2_with (at_builtin; refine wpList_append_own _ rfl _ _ 27 rfl wr.heap.size 3 i0 (.int .i64 0) 1 8 Tryz.underlying27 hi hz0 hz1 hz2 rfl (by decide) _ 1 (nums .i64 [xj]) rfl hul ⟨br, ob, none⟩ nr cr (nums .i64 (toL R)) rfl HlR.out Hnews.out ?c2 ?c3 ?c4 ?c5 ?_)
          case c2 => exact nums_one .i64 _
          case c3 => unfold maxLen; omega
          case c4 => omega
          case c5 => rw [World.size_alloc]; omega
          intro v' w3 hown' hgrow _
          rw [nums_append] at hown'
          have hb3 := own_below0 hul (by rw [World.size_alloc]; omega) hgrow
          have hbw3 : Below wr.heap.size wr w3 := hbn.trans hb3
          have hq3 := hqb.below hbw3 hg2
          obtain ⟨A', c', rfl, hc', hs', hf'⟩ := own_row hown' (by omega)
          have htr := rtrim_any A' c' (1 + nr) (xj :: toL R) w3 hs' hlowx hc'
          have Htr := Lib.hid htr
          clear htr hown' hgrow hs' hR hRa hlowx hul hb3
          go_wp2_with fail
          refine Htr.out.mono ?_
          rintro e w6 ⟨m6, rfl, hd6, hdr6, hm6⟩
          rw [hval'] at hd6
          go_wp2_with fail
          go_meet
          exact ⟨A', m6, c', rfl, hd6, hf'.le (by omega) hm6, hq3.keep hdr6.below, hbel.trans ((hbw3.and hdr6.below).mono (by omega))⟩
      case rest =>
        obtain ⟨A0, n0, c0, rfl, hR0, hf0, hq0, hbel0⟩ := hcut
        have HqZ := Lib.hid (set_same (Hzero.out j (by omega)))
        have hR0b : xj + bas * R < Y * bas := bring_lt hxl9 HRY.out
        obtain ⟨R0, hR0e⟩ : ∃ R0, R0 = xj + bas * R := ⟨_, rfl⟩
        rw [← hR0e] at hR0 hR0b
        have HR0e := Lib.hid hR0e
        have HR0b := Lib.hid hR0b
        clear hR0e hR0b hR hqb hbel hcj
        go_wp2_with fail
        go_loopw [11] (RIn w2 j Y R0 xs) (fun _ wr => 1000000000 - cellN wr w2.heap.size j)
        case atStart => exact ⟨R0, 0, A0, n0, c0, rfl, hR0, hf0, by rw [Nat.zero_mul, Nat.add_zero], by rw [HqZ.out]; exact hq0, hbel0⟩
        case round =>
          clear hR0 hq0 hbel0 hf0
          obtain ⟨R', q, A', n', c', rfl, hR', hf', hsum, hqb', hbel'⟩ := hrel
          have hq9 : q < 1000000000 := q_lt hsum HR0b.out
          obtain ⟨wr0, hwr0⟩ : ∃ wr0 : World, wr0 = wr := ⟨_, rfl⟩
          have Hco : Hid (cellN wr0 w2.heap.size j = q) := by
            show cellN wr0 w2.heap.size j = q
            rw [hwr0]
            unfold cellN
            rw [hqb'.num j (by rw [List.length_set, Hxl.out]; omega), List.getD_eq_getElem?_getD, List.getElem?_set_self (by rw [Hxl.out]; omega)]
            simp
          subst hwr0
          have Hsum := Lib.hid hsum
          have hRY' : R' < Y * bas := Nat.lt_of_le_of_lt (by omega) HR0b.out
          have hnl : n' ≤ k1 + 2 := by
            rw [← hR'.len]
            have := limbs_over hRY'
            rw [HlY.out] at this
            exact this
          have HRY' := Lib.hid hRY'
          have Hcm := Lib.hid (rcmp_any A' (some ⟨b1, o1, none⟩) n' (k1 + 1) c' d1 R' Y wr0 hR' (HY.out.below hbel'))
          clear hsum hRY'
          by_cases hlt : R' < Y
          · have hc : cmpN R' Y = -1 := if_pos hlt
            rw [hc] at Hcm
            have Hlt := Lib.hid hlt
            clear hc hlt
            go_wp2_with fail
            refine Hcm.out.mono ?_
            rintro e w6 ⟨rfl, hdr⟩
            have hR6 := hR'.below hdr.below
            have hq6 := hqb'.keep hdr.below
            have hb6 := hbel'.trans (hdr.below (B := w2.heap.size))
            clear hR' hqb' hbel' hdr Hcm
            go_wp2_with fail
            go_roundw
            case rel =>
              refine ⟨j, R', A', n', c', xs.set j q, by omega, rfl, rfl, hR6, hf', Hlt.out, hq6, by rw [List.length_set]; exact Hxl.out, Hlow.out.set j hq9, ?_, ?_, hb6⟩
              · rw [ofL_set_drop _ _ _ (by rw [Hxl.out]; omega)]
                exact out_step Hxj.out Hval.out (by rw [Hsum.out, HR0e.out])
              · intro t ht
                have := Hzero.out t (by omega)
                rw [List.getD_eq_getElem?_getD, List.getElem?_set_ne (by omega), ← List.getD_eq_getElem?_getD]
                exact this
            case measure => simp [intOf] <;> omega
          · have hYR : Y ≤ R' := by omega
            obtain ⟨cc, hcc⟩ : ∃ cc, cc = cmpN R' Y := ⟨_, rfl⟩
            have hc0 : 0 ≤ cc := by rw [hcc]; unfold cmpN; rw [if_neg (by omega)]; split <;> omega
            rw [← hcc] at Hcm
            obtain ⟨gq1, gq2, gq3⟩ := gueN_ok hYR
            have hnk : k1 + 1 ≤ n' := by
              rw [← hR'.len, ← HlY.out]
              exact limbs_mono hYR
            have htop := top_lt HRY'.out
            rw [HlY.out, Nat.add_sub_cancel] at htop
            have Htop := Lib.hid htop
            have Hgq := Lib.hid gq1
            have HYR := Lib.hid hYR
            have hge : gueN R' Y = max 1 (min 999999999 (R' / bas ^ k1 / (hh + 1))) := by
              unfold gueN
              rw [HlY.out, Nat.add_sub_cancel, ← Hhe.out]
              rfl
            have Hge := Lib.hid hge
            obtain ⟨gn, hgn⟩ : ∃ gn, gn = gueN R' Y := ⟨_, rfl⟩
            rw [← hgn] at gq2 gq3 Hgq Hge
            have gq4 : gn < 1000000000 := gq3
            clear hlt hcc htop gq1 gq3 hYR hge hgn
            go_wp2_with fail
            refine Hcm.out.mono ?_
            rintro e w6 ⟨rfl, hdr⟩
            have hR6 := hR'.below hdr.below
            have hq6 := hqb'.keep hdr.below
            have hb6 := hbel'.trans (hdr.below (B := w2.heap.size))
            clear hR' hqb' hbel' hdr Hcm
            go_wp2_with fail
            go_loopw [14, 15] (fun nv kv wx => Drew w6 wx ∧ ∃ t : Nat, k1 ≤ t ∧ t ≤ n' ∧ kv = .int .i64 ((t : Int) - 1) ∧ nv = .int .i64 (R' / bas ^ t : Nat)) (fun _ kv _ => (intOf kv + 1).toNat)
            case atStart =>
              refine ⟨Drew.refl _, n', by omega, Nat.le_refl _, by go_num, ?_⟩
              rw [Nat.div_eq_of_lt (by rw [← hR6.len]; exact lt_pow_limbs _)]
              rfl
            case round =>
              obtain ⟨⟨q7, rfl⟩, t, ht1, ht2, rfl, rfl⟩ := hrel
              by_cases htk : t = k1
              · rw [htk]
                clear htk ht1 ht2
                have hR7 := hR6.below (below_drewN (Below.refl w6.heap.size w6) q7)
                have hq7 := hq6.keep (below_drewN (Below.refl w6.heap.size w6) q7)
                have hb7 := hb6.trans (below_drewN (Below.refl w2.heap.size w6) q7)
                obtain ⟨w7, hw7⟩ : ∃ w7, w7 = w6.drewN q7 := ⟨_, rfl⟩
                rw [← hw7] at hR7 hq7 hb7 ⊢
                clear hw7 hR6 hq6 hb6
                obtain ⟨nn, hnn⟩ : ∃ nn, nn = R' / bas ^ k1 := ⟨_, rfl⟩
                have hnb : nn < 1000000000000000000 := by rw [hnn]; exact Htop.out
                have Hge' : Hid (gn = max 1 (min 999999999 (nn / (hh + 1)))) := by rw [hnn]; exact Hge
                rw [← hnn]
                clear hnn Hge Htop
                go_upto_region 17 with fail
                go_cut [14] (fun s14 wx => s14 = .int .i64 (gn : Nat) ∧ wx = w7)
                case first =>
                  obtain ⟨aa, haa⟩ : ∃ aa, aa = nn / (hh + 1) := ⟨_, rfl⟩
                  have hai : (nn : Int) / ((hh : Int) + 1) = (aa : Nat) := by rw [haa]; rfl
                  have hal : aa < 1000000000000000000 := by rw [haa]; exact Nat.lt_of_le_of_lt (Nat.div_le_self _ _) hnb
                  have hg := Hge'.out
                  rw [← haa] at hg
                  clear haa
                  have Hgn : Hid (max (1 : Int) (min 999999999 (aa : Int)) = (gn : Nat)) := by
                    show max (1 : Int) (min 999999999 (aa : Int)) = (gn : Nat)
                    rw [hg]
                    omega
                  clear hg
                  go_wp2_with fail
                  go_meet
                  exact ⟨congrArg (Value.int .i64) Hgn.out, rfl⟩
                case rest =>
                  obtain ⟨rfl, rfl⟩ := hcut
                  clear Hge'
                  have Hti := Lib.hid (rtimes_any (some ⟨b1, o1, none⟩) (k1 + 1) d1 gn Y wc (HY.out.below hb7) (by omega) (by omega))
                  have hsb := fun X P p c' (hX : Below wc.heap.size wc X) (hP : Nd X P p c' (Y * gn)) => rsubN_any A' P n' p _ c' R' (Y * gn) X (hR7.below hX) hP (by rw [Nat.mul_comm]; exact Hgq.out) (by omega)
                  have Hsb := Lib.hid hsb
                  have hqc := hq7.num j (by rw [List.length_set, Hxl.out]; omega)
                  have hqe : (xs.set j q).getD j 0 = q := by
                    rw [List.getD_eq_getElem?_getD, List.getElem?_set_self (by rw [Hxl.out]; omega)]; rfl
                  rw [hqe] at hqc
                  have hgw : w2.heap.size < wc.heap.size := hq7.lt
                  clear hsb hqe hR7
                  go_upto_region 18 with fail
                  go_upto_region 19 with (first
                    | (go_at_call 83; refine Hti.out.mono ?_; rintro e w8 ⟨P, p, cp, rfl, hP, hb8, -⟩)
                    | (go_at_call 37; refine (Hsb.out _ _ _ _ hb8 hP).mono ?_; rintro e w9 ⟨S, s', cs, rfl, hS, hb9, hfS⟩))
                  have hb89 := hb8.and hb9
                  have hq9' := hq7.keep hb89
                  have hb9' := hb7.trans (hb89.mono (by omega))
                  have hqc9 := hq9'.num j (by rw [List.length_set, Hxl.out]; omega)
                  have hqe : (xs.set j q).getD j 0 = q := by
                    rw [List.getD_eq_getElem?_getD, List.getElem?_set_self (by rw [Hxl.out]; omega)]; rfl
                  rw [hqe] at hqc9
                  have hqf := hq9'.free j
                  have ho : Only w2.heap.size w9 (w9.setCell ⟨w2.heap.size, j, none⟩ (.int .i64 ((q : Int) + gn))) := (Only.refl _ w9).setCell j _
                  have hbp := hq9'.put j (q + gn) (z := (q : Int) + gn) (by omega)
                  rw [List.set_set] at hbp
                  have hfS' : Fr (w2.heap.size + 1) S s' := hfS.le (by have := hb8.size; omega) (Nat.le_refl _)
                  have hSo := hS.other hfS' ho (Nat.lt_succ_self _)
                  have hbo := hb9'.trans (ho.below (Nat.le_refl _))
                  have hnew : R' - Y * gn + (q + gn) * Y = R0 := by
                    have h1 := Hsum.out
                    have h2 := Hgq.out
                    rw [Nat.add_mul, Nat.mul_comm Y gn]
                    omega
                  have hqn : q + gn < 1000000000 := q_lt hnew HR0b.out
                  have hlj : j < n1 := by omega
                  have hcn : cellN (w9.setCell ⟨w2.heap.size, j, none⟩ (.int .i64 ((q : Int) + gn))) w2.heap.size j = q + gn := by
                    unfold cellN
                    rw [hbp.num j (by rw [List.length_set, Hxl.out]; exact hlj), List.getD_eq_getElem?_getD, List.getElem?_set_self (by rw [Hxl.out]; omega)]
                    simp
                    omega
                  have hco : cellN wr0 w2.heap.size j = q := Hco.out
                  have Hfin := Lib.hid (show RIn w2 j Y R0 xs (.slice S s' cs) (w9.setCell ⟨w2.heap.size, j, none⟩ (.int .i64 ((q : Int) + gn))) from ⟨R' - Y * gn, q + gn, S, s', cs, rfl, hSo, hfS', hnew, hbp, hbo⟩)
                  have Hcn := Lib.hid hcn
                  clear hqe hqc hq9' hb9' hb89 hb8 hb9 hP hS hq7 hb7 hbp hSo hbo ho Hti Hsb hcn
                  go_wp2_with fail
                  go_roundw
                  case rel => exact Hfin.out
                  case measure =>
                    rw [Hcn.out, hco]
                    omega
              · obtain ⟨s, rfl⟩ : ∃ s, t = s + 1 := ⟨t - 1, by omega⟩
                obtain ⟨b', o', rfl, hbs', hcs⟩ := Sl.at hR6.1 (by omega)
                have hcr := hcs s (by omega)
                rw [getD_toL] at hcr
                have hst := digit_step R' s
                have hzl : R' / bas ^ s < 1000000000000000000 := by
                  refine Nat.lt_of_le_of_lt ?_ Htop.out
                  exact Nat.div_le_div_left (Nat.pow_le_pow_right bas_pos (by omega)) (Nat.pow_pos bas_pos)
                obtain ⟨u, hu⟩ : ∃ u, u = R' / bas ^ (s + 1) := ⟨_, rfl⟩
                obtain ⟨v, hv⟩ : ∃ v, v = R' / bas ^ s % bas := ⟨_, rfl⟩
                obtain ⟨z, hz⟩ : ∃ z, z = R' / bas ^ s := ⟨_, rfl⟩
                rw [← hu, ← hv, ← hz] at hst
                rw [← hv] at hcr
                rw [← hz] at hzl
                have huv : u * 1000000000 + v < 1000000000000000000 := by rw [show u * 1000000000 + v = z from hst]; exact hzl
                have Hst : Hid ((u : Int) * 1000000000 + (v : Int) = (z : Nat)) := by
                  show (u : Int) * 1000000000 + (v : Int) = (z : Nat)
                  rw [← hst]
                  unfold bas
                  omega
                have Hz := Lib.hid hz
                rw [← hu]
                rw [show (((s + 1 : Nat) : Int) - 1) = (s : Int) from by omega]
                have hks : k1 ≤ s := by omega
                clear hst hu hv hz hzl hcs htk
                go_wp2_with fail
                go_roundw
                case rel => exact ⟨⟨_, rfl⟩, s, by omega, by omega, rfl, by rw [← Hz.out]; exact congrArg (Value.int .i64) Hst.out⟩
                case measure => simp [intOf] <;> omega
end Go.Proofs.YtemcdnppgnobmaaGreatDoor
