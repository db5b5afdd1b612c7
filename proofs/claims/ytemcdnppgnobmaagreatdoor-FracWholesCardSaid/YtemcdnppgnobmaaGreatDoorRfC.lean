/-
  The walks of the reference's small and Of.
-/
import Derived.Test.YtemcdnppgnobmaaGreatDoorRfB
import Derived.Deep.DeepCutAuto
set_option linter.unusedVariables false
namespace Go.Proofs.YtemcdnppgnobmaaGreatDoor
open Go.RowKit

/-- Two results: a number and a rest. -/
def RetQN (q r : Nat) (w : World) (e : Ending) (w' : World) : Prop := ∃ A n c, e = .returned (.tuple #[.slice A n c, .int .i64 r]) ∧ Nd w' A n c q ∧ Below w.heap.size w w'

def RSma (w : World) (n b : Nat) (l : List Nat) (c i : Value) (wr : World) : Prop :=
  ∃ k r : Nat, k ≤ n ∧ r < b ∧ c = .int .i64 r ∧ i = .int .i64 ((k : Int) - 1) ∧ ∃ xs, Blk wr w.heap.size 3 (cellsOf .i64 xs) ∧ xs.length = n ∧ Low xs ∧
    ofL (l.drop k) = ofL (xs.drop k) * b + r ∧ Below w.heap.size w wr

theorem rdiv_digit {r x b : Nat} (hr : r < b) (hx : x < 1000000000) : (r * 1000000000 + x) / b < 1000000000 := by
  apply Nat.div_lt_of_lt_mul
  have : (r + 1) * 1000000000 ≤ b * 1000000000 := Nat.mul_le_mul_right _ hr
  rw [Nat.add_mul] at this
  omega
theorem rdiv_step {L Q r x b q r' : Nat} (h : L = Q * b + r) (hq : q * b + r' = r * 1000000000 + x) : x + bas * L = (q + bas * Q) * b + r' := by
  subst h
  rw [Nat.add_mul, Nat.mul_add, Nat.mul_assoc]
  have := Nat.mul_comm bas r
  unfold bas at *
  omega

theorem RSma.next {w : World} {n b : Nat} {l : List Nat} {wr : World} {j r : Nat} {xs : List Nat} (hj : j < n) (hblk : Blk wr w.heap.size 3 (cellsOf .i64 xs)) (hlen : xs.length = n) (hlow : Low xs) (hl : l.length = n) (hb : 0 < b)
    (hsum : ofL (l.drop (j + 1)) = ofL (xs.drop (j + 1)) * b + r) (hbel : Below w.heap.size w wr) (x : Nat) (hx : l.getD j 0 = x) (hq' : (r * 1000000000 + x) / b < 1000000000)
    {z c i : Value} {u : Int} (hz : z = .int .i64 u) (hu : u = ((r * 1000000000 + x) / b : Nat)) (hc : c = .int .i64 ((r * 1000000000 + x) % b : Nat)) (hi : i = .int .i64 ((j : Int) - 1)) : RSma w n b l c i (wr.setCell ⟨w.heap.size, j, none⟩ z) := by
  subst hz
  refine ⟨j, _, by omega, Nat.mod_lt _ hb, hc, hi, xs.set j _, hblk.put j _ hu, by rw [List.length_set]; exact hlen, hlow.set j hq', ?_, hbel.setCell (Nat.le_refl _) _⟩
  rw [ofL_set_drop _ _ _ (by omega), ofL_drop _ _ (by omega), hx]
  exact rdiv_step hsum (by rw [Nat.mul_comm]; exact Nat.div_add_mod _ _)

set_option maxRecDepth 100000 in
set_option maxHeartbeats 800000 in
theorem rsmall_any (A : Option Addr) (n c b : Nat) (x : Nat) (w : World) (h : Nd w A n c x) (hn9 : n ≤ 10000000000) (hb : b < 1000000000) (hb0 : 0 < b) :
    Calls Tryz.prog 84 #[.slice A n c, .int .i64 b] w (RetQN (x / b) (x % b) w) := by
  have hmk : ∀ W : World, (Instr.makeSlice 27 (.int .i64 (n : Int)) (.int .i64 (n : Int))).run Tryz.prog W = .ok (.slice (some ⟨W.heap.size, 0, none⟩) n n) (W.alloc (.cells (cellsOf .i64 (List.replicate n 0)) 3)) :=
    fun W => run_makeInts Tryz.underlying27 info_in (by omega) .i64 .i64 n (by omega) W
  have Hx : Hid ((toL x).length = n) := Lib.hid h.len
  replace h := h.1
  have hlow0 : Low (toL x) := low_toL x
  have Hof : Hid (ofL (toL x) = x) := Lib.hid (ofL_toL x)
  generalize toL x = l at *
  go_enter Tryz.func84, Tryz.ntmps84
  go_wp2
  go_loopw [7, 8] (RSma w n b l) (fun _ i _ => (intOf i + 1).toNat)
  case atStart =>
    refine ⟨n, 0, by omega, by omega, rfl, by go_num, List.replicate n 0, Blk.new _ _ _, by simp, Low.replicate _, ?_, (Below.refl _ _).alloc (Nat.le_refl _) _⟩
    rw [List.drop_of_length_le (by rw [Hx.out]; omega), List.drop_of_length_le (by simp)]
    simp [ofL]
  case round =>
    obtain ⟨k, r, hk, hr, rfl, rfl, xs, hblk, hlen, hlow, hsum, hbel⟩ := hrel
    have Hlen := Lib.hid hlen
    have Hsum := Lib.hid hsum
    clear hsum hlen hmk
    by_cases hk0 : k = 0
    · subst hk0
      have Hd := Lib.hid (show ofL l = ofL xs * b + r from Hsum.out)
      have Hq : Hid (x / b = ofL xs) := by
        show x / b = ofL xs
        rw [← Hof.out, Hd.out, Nat.mul_comm, Nat.mul_add_div hb0, Nat.div_eq_of_lt hr, Nat.add_zero]
      have Hr : Hid (x % b = r) := by
        show x % b = r
        rw [← Hof.out, Hd.out, Nat.mul_comm, Nat.mul_add_mod, Nat.mod_eq_of_lt hr]
      have hs := Bl.sl (Bl.of_blk hblk Hlen.out (show n ≤ 4611686018427387904 by omega))
      go_wp2_with fail
      refine (rtrim_any (some ⟨w.heap.size, 0, none⟩) n n xs _ hs hlow (Nat.le_refl _)).mono ?_
      rintro e w1 ⟨m1, rfl, hd1, hb1, hm1⟩
      have hfin := hbel.trans hb1.below
      clear hb1 hblk hbel
      go_wp2
      go_ret2
      rw [Hq.out, Hr.out]
      exact ⟨_, m1, n, rfl, hd1, hfin⟩
    · obtain ⟨j, rfl⟩ : ∃ j, k = j + 1 := ⟨k - 1, by omega⟩
      obtain ⟨b', off, rfl, hbs, ha⟩ := Sl.at h (by omega)
      have hca := (hbel.cell (p := ⟨b', off + j, none⟩) hbs).trans (ha j (by omega))
      have hxl : l.getD j 0 < 1000000000 := hlow0.get j
      have hco := hblk.num j (by rw [Hlen.out]; omega)
      have hfo := hblk.free j
      generalize hxa : l.getD j 0 = xa at *
      have Hxa := Lib.hid hxa
      clear ha hxa
      have hdq : (r * 1000000000 + xa) / b < 1000000000 := rdiv_digit hr hxl
      have hdr : (r * 1000000000 + xa) % b < b := Nat.mod_lt _ hb0
      rw [show (((j + 1 : Nat) : Int) - 1) = (j : Int) from by omega]
      have e3 : (((r * 1000000000 + xa) / b : Nat) : Int) = ((r : Int) * 1000000000 + xa) / b := rfl
      have e4 : (((r * 1000000000 + xa) % b : Nat) : Int) = ((r : Int) * 1000000000 + xa) % b := rfl
      have E3 := Lib.hid e3
      have E4 := Lib.hid e4
      clear e3 e4
      go_wp2
      go_roundw
      case rel =>
        exact RSma.next (by omega) hblk Hlen.out hlow Hx.out hb0 Hsum.out hbel xa Hxa.out hdq rfl (by rw [← E3.out]) (by rw [← E4.out]) rfl
      case measure => simp [intOf]

theorem Sl.only {k : IntKind} {w w' : World} {A : Option Addr} {n g : Nat} {l : List Nat} {t : TypeId} {cs : Array Value} (h : Sl k w A n l) (ho : Only g w w') (hb : Blk w g t cs)
    (hcs : ∀ (i : Nat) (z : Int), cs[i]? ≠ some (Value.int k z)) : Sl k w' A n l := by
  obtain ⟨h1, h2, h3⟩ := h
  refine ⟨h1, h2, fun hn => ?_⟩
  obtain ⟨b, off, e, hs, hc⟩ := h3 hn
  have hne : b ≠ g := by
    rintro rfl
    have := hc 0 hn
    rw [hb.cell] at this
    exact hcs _ _ this
  exact ⟨b, off, e, by rw [ho.size]; exact hs, fun i hi => (ho.cell hne).trans (hc i hi)⟩
theorem Nd.only {w w' : World} {A : Option Addr} {n c x g : Nat} {t : TypeId} {cs : Array Value} (h : Nd w A n c x) (ho : Only g w w') (hb : Blk w g t cs)
    (hcs : ∀ (i : Nat) (z : Int), cs[i]? ≠ some (Value.int .i64 z)) : Nd w' A n c x := ⟨h.1.only ho hb hcs, h.2⟩
theorem zz_free (b : Bool) (A : Option Addr) (n c : Nat) : ∀ (i : Nat) (z : Int), (#[Value.bool b, Value.slice A n c] : Array Value)[i]? ≠ some (Value.int .i64 z) := by
  intro i z
  match i with
  | 0 => simp
  | 1 => simp
  | i + 2 => simp

/-- An integer of the reference is stored into the cell of the result, which is then returned. -/
theorem ret_z_stored {fn : Func} {R : Ending → World → Prop} {a : Act} {w w1 : World} {s g n c : Nat} {A : Option Addr} {z : Int} {b : Bool}
    (hf : fn.results = #[.cell s 29]) (h4 : a.tmps[s]? = some (.pointer (some ⟨g, 0, none⟩))) (hd : a.defers = [])
    (hb : Blk w1 g 29 intZ) (hdg : Nd w1 A n c z.natAbs) (hbel : Below w.heap.size w w1) (hg : w.heap.size ≤ g) (hz : b = decide (z < 0))
    (hR : ∀ w', Nd w' A n c z.natAbs → Below w.heap.size w w' → R (.returned (zV z A n c)) w') :
    bodyPost Tryz.prog fn R .ret a ((w1.setCell ⟨g, 0, none⟩ (.bool b)).setCell ⟨g, 1, none⟩ (.slice A n c)) := by
  have ho := ((Only.refl g w1).setCell 0 (.bool b)).setCell 1 (.slice A n c)
  have hb2 := Blk.set2 hb (.bool b) (.slice A n c)
  have c0 := hb2.cell 0
  have c1 := hb2.cell 1
  subst hz
  have hr := hR _ (hdg.only ho hb (zz_free _ _ _ _)) (hbel.trans (ho.below hg))
  exact bodyPost_ret (v := .agg #[.bool (decide (z < 0)), .slice A n c]) (by simp [results, hf, go_sem, c0, c1, h4]) hd hr

def ROf (W : World) (x : Nat) (u v : Value) (wr : World) : Prop :=
  ∃ j y : Nat, y ≤ 9223372036854775808 ∧ j ≤ 4 ∧ u = .int .u64 y ∧ ∃ xs, wr.ownsRow W.heap.size 3 1 v j (nums .i64 xs) ∧ xs ++ toL y = toL x ∧ Below W.heap.size W wr

set_option maxRecDepth 100000 in
set_option maxHeartbeats 800000 in
theorem rof_any (z : Int) (w : World) (hlo : -9223372036854775808 ≤ z) (hhi : z ≤ 9223372036854775807) :
    Calls Tryz.prog 22 #[.int .i64 z] w (RetZ z w) := by
  obtain ⟨i0, hi, hz0, hz1, hz2⟩ := info_parts info_in
  obtain ⟨W, hW⟩ : ∃ W, W = w.alloc (.cells intZ 29) := ⟨_, rfl⟩
  have hres : Blk W w.heap.size 29 intZ := by rw [hW]; exact Blk.new _ _ _
  have hbel : Below w.heap.size w W := by rw [hW]; exact below_new _ _
  have HW := Lib.hid hW
  have Hres := Lib.hid hres
  have Hbel := Lib.hid hbel
  clear hW hres hbel
  unfold intZ at HW
  have hlx : limbs z.natAbs ≤ 4 := limbs_le_of_lt (by unfold bas; omega)
  have Hlx := Lib.hid hlx
  clear hlx
  have hend : ∀ (wr : World) (x : Nat) (b : Bool), x = z.natAbs → b = decide (z < 0) → ∀ v, ROf W x (.int .u64 (0 : Nat)) v wr → ∃ A n c, v = .slice A n c ∧ Below W.heap.size W wr ∧ Calls Tryz.prog 34 #[.bool b, v] wr (fun e w' => e = .returned (zV z A n c) ∧ Nd w' A n c z.natAbs ∧ Below wr.heap.size wr w') := by
    rintro wr x b rfl rfl v ⟨j, y, -, hj, hy, xs, hown, hxs, hb⟩
    obtain rfl : y = 0 := by injection hy with _ e; omega
    rw [toL_zero, List.append_nil] at hxs
    subst hxs
    obtain ⟨A, c, rfl, hc, hs, -⟩ := own_row hown (by omega)
    refine ⟨A, j, c, rfl, hb, rint_any (decide (z < 0)) A j c z.natAbs z wr ⟨hs, hc⟩ ?_⟩
    by_cases h : z < 0
    · simp [h]; omega
    · simp [h]; omega
  have Hend := Lib.hid hend
  clear hend
  have hround : ∀ (wr : World) (x : Nat) (y j : Nat) (xs : List Nat) (v u : Value) (w1 : World), wr.ownsRow W.heap.size 3 1 v j (nums .i64 xs) → xs ++ toL y = toL x → 0 < y → y ≤ 9223372036854775808 → j ≤ 3 →
      Below W.heap.size W w1 → w1.ownsRow W.heap.size 3 1 u (j + 1) (nums .i64 xs ++ [.int .i64 ((y : Int) % 1000000000)]) → ROf W x (.int .u64 ((y / 1000000000 : Nat) : Int)) u w1 := by
    intro wr x y j xs v u w1 hown hxs hy hy9 hj hb hown'
    refine ⟨j + 1, y / 1000000000, by omega, by omega, rfl, xs ++ [y % 1000000000], own_more hown' rfl, ?_, hb⟩
    rw [List.append_assoc, ← hxs, toL_pos hy]
    rfl
  have Hround := Lib.hid hround
  clear hround
  by_cases hz : z < 0
  · have hw : IntKind.u64.wrap (-(IntKind.u64.wrap z)) = (z.natAbs : Nat) := by
      simp [IntKind.wrap, IntKind.bits, IntKind.signed]
      omega
    have Hw := Lib.hid hw
    have Hdz := Lib.hid (show true = decide (z < 0) from (decide_eq_true hz).symm)
    clear hw
    go_enter Tryz.func22, Tryz.ntmps22
    go_upto_region 1 with fail
    rw [← HW.out]
    go_wp2_with fail
    go_loopw [3, 4] (ROf W z.natAbs) (fun u _ _ => (intOf u).toNat)
    case atStart => exact ⟨0, z.natAbs, by omega, by omega, by rw [Hw.out], [], World.ownsRow_nil _ _ _ _, rfl, Below.refl _ _⟩
    case round =>
      obtain ⟨j, y, hy9, hj4, rfl, xs, hown, hxs, hb⟩ := hrel
      by_cases hy0 : y = 0
      · subst hy0
        obtain ⟨A, n, c, rfl, hb', hcall⟩ := Hend.out wr z.natAbs true rfl Hdz.out u4 ⟨j, 0, hy9, hj4, rfl, xs, hown, hxs, hb⟩
        have Hcall := Lib.hid hcall
        have Hb' := Lib.hid hb'
        clear hcall hb' hb hown hxs
        go_wp2_with fail
        refine Hcall.out.mono ?_
        rintro e w1 ⟨rfl, hd, hb1⟩
        have hr1 := Hres.out.keep (Hb'.out.and hb1)
        obtain ⟨d0, d1, e0, e1⟩ := hr1.two
        unfold zV
        go_wp2_with fail
        exact ret_z_stored rfl rfl rfl hr1 hd (Hbel.out.and (Hb'.out.and hb1)) (Nat.le_refl _) Hdz.out (fun w' h1 h2 => ⟨A, n, c, rfl, h1, h2⟩)
      · have hyp : 0 < y := by omega
        have hj3 : j ≤ 3 := by
          have h1 := congrArg List.length hxs
          have h2 := Hlx.out
          have h3 := own_len hown
          have h4 := limbs_pos hyp
          rw [List.length_append] at h1
          unfold limbs at h2 h4
          omega
        have Hxs := Lib.hid hxs
        clear hxs hy0
        have hsz := hb.size
        go_wp2_with (at_builtin; refine wpList_append_own _ rfl _ _ 27 rfl W.heap.size 3 i0 (.int .i64 0) 1 8 Tryz.underlying27 hi hz0 hz1 hz2 rfl (by decide) _ _ _ rfl (hown.alloc _) ⟨wr.heap.size, 0, none⟩ 1 1 [.int .i64 ((y : Int) % 1000000000)] rfl rfl ?p1 ?p2 ?p3 ?p4 ?p5 ?_)
        case p1 => exact cell_one_new _ _ _
        case p2 => exact one_ofs _ rfl
        case p3 => unfold maxLen; omega
        case p4 => omega
        case p5 => simp; omega
        intro v' w1 hown' hgrow _
        have hb2 := hb.trans (own_below hown hsz hgrow)
        go_wp2
        go_roundw
        case rel => exact Hround.out wr z.natAbs y j xs _ _ w1 hown Hxs.out hyp hy9 hj3 hb2 hown'
        case measure => simp [intOf] <;> omega
  · have hw : IntKind.u64.wrap z = (z.natAbs : Nat) := by
      simp [IntKind.wrap, IntKind.bits, IntKind.signed]
      omega
    have hz' : 0 ≤ z := by omega
    have Hw := Lib.hid hw
    have Hdz := Lib.hid (show false = decide (z < 0) from (decide_eq_false hz).symm)
    clear hw
    go_enter Tryz.func22, Tryz.ntmps22
    go_upto_region 1 with fail
    rw [← HW.out]
    go_wp2_with fail
    go_loopw [3, 4] (ROf W z.natAbs) (fun u _ _ => (intOf u).toNat)
    case atStart => exact ⟨0, z.natAbs, by omega, by omega, by first | rw [Hw.out] | exact congrArg (Value.int .u64) (by omega), [], World.ownsRow_nil _ _ _ _, rfl, Below.refl _ _⟩
    case round =>
      obtain ⟨j, y, hy9, hj4, rfl, xs, hown, hxs, hb⟩ := hrel
      by_cases hy0 : y = 0
      · subst hy0
        obtain ⟨A, n, c, rfl, hb', hcall⟩ := Hend.out wr z.natAbs (decide (z < 0)) rfl rfl u4 ⟨j, 0, hy9, hj4, rfl, xs, hown, hxs, hb⟩
        have Hcall := Lib.hid hcall
        have Hb' := Lib.hid hb'
        clear hcall hb' hb hown hxs
        go_wp2_with fail
        refine Hcall.out.mono ?_
        rintro e w1 ⟨rfl, hd, hb1⟩
        have hr1 := Hres.out.keep (Hb'.out.and hb1)
        obtain ⟨d0, d1, e0, e1⟩ := hr1.two
        unfold zV
        go_wp2_with fail
        exact ret_z_stored rfl rfl rfl hr1 hd (Hbel.out.and (Hb'.out.and hb1)) (Nat.le_refl _) rfl (fun w' h1 h2 => ⟨A, n, c, rfl, h1, h2⟩)
      · have hyp : 0 < y := by omega
        have hj3 : j ≤ 3 := by
          have h1 := congrArg List.length hxs
          have h2 := Hlx.out
          have h3 := own_len hown
          have h4 := limbs_pos hyp
          rw [List.length_append] at h1
          unfold limbs at h2 h4
          omega
        have Hxs := Lib.hid hxs
        clear hxs hy0
        have hsz := hb.size
        go_wp2_with (at_builtin; refine wpList_append_own _ rfl _ _ 27 rfl W.heap.size 3 i0 (.int .i64 0) 1 8 Tryz.underlying27 hi hz0 hz1 hz2 rfl (by decide) _ _ _ rfl (hown.alloc _) ⟨wr.heap.size, 0, none⟩ 1 1 [.int .i64 ((y : Int) % 1000000000)] rfl rfl ?q1 ?q2 ?q3 ?q4 ?q5 ?_)
        case q1 => exact cell_one_new _ _ _
        case q2 => exact one_ofs _ rfl
        case q3 => unfold maxLen; omega
        case q4 => omega
        case q5 => simp; omega
        intro v' w1 hown' hgrow _
        have hb2 := hb.trans (own_below hown hsz hgrow)
        go_wp2
        go_roundw
        case rel => exact Hround.out wr z.natAbs y j xs _ _ w1 hown Hxs.out hyp hy9 hj3 hb2 hown'
        case measure => simp [intOf] <;> omega
end Go.Proofs.YtemcdnppgnobmaaGreatDoor
