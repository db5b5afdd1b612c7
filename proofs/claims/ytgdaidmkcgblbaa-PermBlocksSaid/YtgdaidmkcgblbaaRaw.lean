/-
  The walks of FromCode, of both sides.
  The walk of FromCode of the reference.
  The walk of raw.
-/
import Derived.Test.YtgdaidmkcgblbaaDec
import Derived.Test.YtgdaidmkcgblbaaApp
import Derived.Test.YtgdaidmkcgblbaaRow
namespace Go.Proofs.Ytgdaidmkcgblbaa
open Go.RowKit

/-- A slice that reads as a list of integers. -/
def Zl (w : World) (A : Option Addr) (n : Nat) (zs : List Int) : Prop :=
  zs.length = n ∧ n ≤ 4611686018427387904 ∧ (∀ z ∈ zs, -9223372036854775808 ≤ z ∧ z ≤ 9223372036854775807) ∧
    (0 < n → ∃ b off, A = some ⟨b, off, none⟩ ∧ b < w.heap.size ∧ ∀ i, i < n → w.cell? ⟨b, off + i, none⟩ = some (.int .i64 (zs.getD i 0)))
theorem Zl.below {w w' : World} {A : Option Addr} {n : Nat} {zs : List Int} (h : Zl w A n zs) (hb : Below w.heap.size w w') : Zl w' A n zs := by
  obtain ⟨h1, h2, h3, h4⟩ := h
  refine ⟨h1, h2, h3, fun hn => ?_⟩
  obtain ⟨b, off, e, hs, hc⟩ := h4 hn
  exact ⟨b, off, e, Nat.lt_of_lt_of_le hs hb.size, fun i hi => (hb.cell hs).trans (hc i hi)⟩
theorem Zl.bound {w : World} {A : Option Addr} {n : Nat} {zs : List Int} (h : Zl w A n zs) (i : Nat) (hi : i < n) : -9223372036854775808 ≤ zs.getD i 0 ∧ zs.getD i 0 ≤ 9223372036854775807 := by
  refine h.2.2.1 _ ?_
  have hi' : i < zs.length := by rw [h.1]; exact hi
  rw [List.getD_eq_getElem?_getD, List.getElem?_eq_getElem hi']
  exact List.getElem_mem hi'

def goodAt (zs : List Int) (i : Nat) : Prop := 0 ≤ zs.getD i 0 ∧ zs.getD i 0 + i < zs.length
def AllGood (zs : List Int) : Prop := ∀ i, i < zs.length → goodAt zs i
def natsOf (zs : List Int) : List Nat := zs.map Int.toNat
theorem natsOf_length (zs : List Int) : (natsOf zs).length = zs.length := by simp [natsOf]
theorem natsOf_get (zs : List Int) (i : Nat) (h : i < zs.length) : (natsOf zs).getD i 0 = (zs.getD i 0).toNat := by
  simp [natsOf, List.getD_eq_getElem?_getD, h]
theorem natsOf_valid {zs : List Int} (h : AllGood zs) : ValidC (natsOf zs) := by
  intro i hi
  rw [natsOf_length] at hi ⊢
  rw [natsOf_get zs i hi]
  have := h i hi
  unfold goodAt at this
  omega
theorem Zl.sl {w : World} {A : Option Addr} {n : Nat} {zs : List Int} (h : Zl w A n zs) (hg : AllGood zs) : Sl .i64 w A n (natsOf zs) := by
  obtain ⟨h1, h2, h3, h4⟩ := h
  refine ⟨by rw [natsOf_length, h1], h2, fun hn => ?_⟩
  obtain ⟨b, off, e, hs, hc⟩ := h4 hn
  refine ⟨b, off, e, hs, fun i hi => ?_⟩
  rw [hc i hi, natsOf_get zs i (by omega), Int.toNat_of_nonneg (hg i (by omega)).1]
theorem Sl.zl {w : World} {A : Option Addr} {n : Nat} {c : List Nat} (h : Sl .i64 w A n c) (hb : ∀ x ∈ c, x ≤ 1000) : Zl w A n (c.map fun (x : Nat) => (x : Int)) := by
  obtain ⟨h1, h2, h3⟩ := h
  refine ⟨by simpa using h1, h2, fun z hz => ?_, fun hn => ?_⟩
  · obtain ⟨x, hx, rfl⟩ := List.mem_map.1 hz
    have := hb x hx
    omega
  · obtain ⟨b, off, e, hs, hc⟩ := h3 hn
    refine ⟨b, off, e, hs, fun i hi => ?_⟩
    rw [hc i hi]
    simp [List.getD_eq_getElem?_getD, show i < c.length by omega]

theorem fromCode_len (A : Option Addr) (n cap : Nat) (w : World) (hn : n < 1 ∨ 60 < n) (hmax : n ≤ 4611686018427387904) :
    Calls Try.prog 38 #[.slice A n cap] w fun e w' => e = .returned (.tuple #[.slice none 0 0, .int .i64 20]) ∧ w = w' := by
  rcases hn with hn | hn
  · obtain rfl : n = 0 := by omega
    go_enter Try.func38, Try.ntmps38
    go_wp2
    go_ret2
    exact ⟨rfl, rfl⟩
  · have d1 : decide ((n : Int) < 1) = false := decide_eq_false (by omega)
    have d2 : decide ((60 : Int) < (n : Int)) = true := decide_eq_true (by omega)
    go_enter Try.func38, Try.ntmps38
    go_wp2
    go_ret2
    exact ⟨rfl, rfl⟩

/-- What FromCode returns of a list of 1 to 60 integers. -/
def RetFrom (zs : List Int) (w : World) (e : Ending) (w' : World) : Prop :=
  (AllGood zs ∧ RetRowE (outL (natsOf zs)) w e w') ∨ (¬ AllGood zs ∧ e = .returned (.tuple #[.slice none 0 0, .int .i64 1]) ∧ w = w')

set_option maxRecDepth 100000 in
set_option maxHeartbeats 1000000 in
theorem fromCode_any (A : Option Addr) (n cap : Nat) (zs : List Int) (w : World) (hZ : Zl w A n zs) (hn : n ≤ 60) (h0 : 0 < n) :
    Calls Try.prog 38 #[.slice A n cap] w (RetFrom zs w) := by
  have hl := hZ.1
  subst hl
  obtain ⟨b, off, rfl, hs, hc⟩ := hZ.2.2.2 h0
  have d1 : decide ((zs.length : Int) < 1) = false := decide_eq_false (by omega)
  have d2 : decide ((60 : Int) < (zs.length : Int)) = false := decide_eq_false (by omega)
  have HZ := Lib.hid hZ
  have Hc := Lib.hid hc
  clear hZ hc
  go_enter Try.func38, Try.ntmps38
  go_wp2
  go_loop [16] (fun i => ∃ k : Nat, k ≤ zs.length ∧ i = .int .i64 k ∧ ∀ j, j < k → goodAt zs j) (fun i => zs.length - (intOf i).toNat)
  case atStart => exact ⟨0, Nat.zero_le _, rfl, fun j h => absurd h (by omega)⟩
  case round =>
    obtain ⟨k, hk, rfl, hgood⟩ := hrel
    have Hgood := Lib.hid hgood
    clear hgood
    by_cases hlt : k < zs.length
    · have hck := Hc.out k hlt
      have hbd := HZ.out.bound k hlt
      have i1 : IntKind.i64.wrap ((zs.length : Int) - 1) = (zs.length : Int) - 1 := IntWalk.i64_in _ (by omega)
      have i2 : IntKind.i64.wrap ((zs.length : Int) - 1 - (k : Int)) = (zs.length : Int) - 1 - (k : Int) := IntWalk.i64_in _ (by omega)
      by_cases hg : goodAt zs k
      · have hg' := hg
        unfold goodAt at hg'
        have Hg := Lib.hid (show ∀ j, j < k + 1 → goodAt zs j by
          intro j hj
          by_cases e : j = k
          · subst e; exact hg
          · exact Hgood.out j (by omega))
        clear hg
        generalize zs.getD k 0 = z at *
        have d3 : decide (z < 0) = false := decide_eq_false (by omega)
        have d4 : decide ((zs.length : Int) - 1 - (k : Int) < z) = false := decide_eq_false (by omega)
        go_wp2
        go_round
        case rel => exact ⟨k + 1, by omega, by go_num, Hg.out⟩
        case measure => simp [intOf]; omega
      · have Hbad := Lib.hid (show ¬ AllGood zs from fun h => hg (h k hlt))
        have hg' : zs.getD k 0 < 0 ∨ (zs.length : Int) ≤ zs.getD k 0 + k := by unfold goodAt at hg; omega
        clear hg
        generalize zs.getD k 0 = z at *
        by_cases hz : z < 0
        · have d3 : decide (z < 0) = true := decide_eq_true hz
          clear hg'
          go_wp2
          go_ret2
          exact .inr ⟨Hbad.out, rfl, rfl⟩
        · have d3 : decide (z < 0) = false := decide_eq_false hz
          have d4 : decide ((zs.length : Int) - 1 - (k : Int) < z) = true := decide_eq_true (by omega)
          clear hg' hz
          go_wp2
          go_ret2
          exact .inr ⟨Hbad.out, rfl, rfl⟩
    · obtain rfl : k = zs.length := by omega
      have hall : AllGood zs := Hgood.out
      have Hall := Lib.hid hall
      have Hdec := Lib.hid (fun (W : World) (hW : Zl W (some ⟨b, off, none⟩) zs.length zs) => decode_any b off zs.length cap (natsOf zs) W (hW.sl hall) (natsOf_valid hall) hn h0)
      clear hall
      go_wp2_with (go_at_call 78; refine (Hdec.out _ HZ.out).mono ?_; rintro e w1 ⟨g, rfl, hg, hblk, hb⟩)
      go_ret2
      exact .inl ⟨Hall.out, g, rfl, hg, hblk, hb⟩

end Go.Proofs.Ytgdaidmkcgblbaa

namespace Go.Proofs.Ytgdaidmkcgblbaa
open Go.RowKit

theorem Sl.drop {k : IntKind} {w : World} {b off n m : Nat} {l : List Nat} (h : Sl k w (some ⟨b, off, none⟩) n l) (hm : m ≤ n) : Sl k w (some ⟨b, off + m, none⟩) (n - m) (l.drop m) := by
  obtain ⟨h1, h2, h3⟩ := h
  refine ⟨by rw [List.length_drop]; omega, by omega, fun hn => ?_⟩
  obtain ⟨b', off', e, hs, hc⟩ := h3 (by omega)
  injection e with e
  injection e with e1 e2
  subst e1 e2
  refine ⟨b, off + m, rfl, hs, fun i hi => ?_⟩
  rw [Nat.add_assoc, hc (m + i) (by omega)]
  simp [List.getD_eq_getElem?_getD]

theorem Sl.kept {k : IntKind} {w w' : World} {g o n : Nat} {l : List Nat} (h : Sl k w (some ⟨g, o, none⟩) n l) (hb : w'.heap[g]? = w.heap[g]?) : Sl k w' (some ⟨g, o, none⟩) n l := by
  obtain ⟨h1, h2, h3⟩ := h
  refine ⟨h1, h2, fun hn => ?_⟩
  obtain ⟨b', off', e, hs, hc⟩ := h3 hn
  injection e with e
  injection e with e1 e2
  subst e1 e2
  rw [Array.getElem?_eq_getElem hs] at hb
  exact ⟨g, o, rfl, (Array.getElem?_eq_some_iff.1 hb).1, fun i hi => (World.cell?_of_block (w := w) (a := ⟨g, o + i, none⟩) (hb.trans (Array.getElem?_eq_getElem hs).symm)).trans (hc i hi)⟩

/-- A row that is owned reads as its numbers, nil or not. -/
theorem own_read {w : World} {B n : Nat} {e : TypeId} {k : IntKind} {v : Value} {l : List Nat} (h : w.ownsRow B e 1 v n (nums k l)) (hn : n ≤ 4611686018427387904) :
    ∃ A c, v = .slice A n c ∧ Sl k w A n l ∧ (0 < n → ∃ g, A = some ⟨g, 0, none⟩ ∧ B ≤ g ∧ n ≤ c ∧ c ≤ maxLen) := by
  have hl := own_len h
  rcases Nat.eq_zero_or_pos n with h0 | h0
  · subst h0
    obtain ⟨A, c, rfl⟩ := own_slice' h
    exact ⟨A, c, rfl, by rw [List.eq_nil_of_length_eq_zero hl]; exact Sl.nil, fun h => absurd h (by omega)⟩
  · obtain ⟨g, c, rfl⟩ := own_pos h h0
    refine ⟨_, c, rfl, own_sl h hn, fun _ => ⟨g, rfl, (own_lt h).2, own_capd h, ?_⟩⟩
    obtain ⟨hl', ⟨e1, _⟩ | ⟨g', cap', cur, e1, hb, hg, hc, hm, _⟩⟩ := h
    · cases e1
    · injection e1 with e1 e2 e3
      omega

/-- What the loop of FromCode keeps. -/
structure RDecAt (B : Nat) (c : List Nat) (k : Nat) (A : Option Addr) (cp : Nat) (v : Value) (w wr : World) : Prop where
  left : Sl .i64 wr A (c.length - k) (leftL c.length c k)
  at' : k < c.length → ∃ g, A = some ⟨g, 0, none⟩ ∧ v.ownBlock ≠ some g ∧ c.length - k ≤ cp ∧ cp ≤ maxLen
  out : wr.ownsRow B 3 1 v k (nums .i64 ((outL c).take k))
  bel : Below B w wr

theorem rdec_next {c : List Nat} {k M : Nat} {v v2 v3 : Value} {ys : List Value} {w w1 w2 w3 : World} {l2 : List Nat} (hw1 : w.heap.size ≤ w1.heap.size) (hs2 : w1.heap.size ≤ w2.heap.size) (hb2w : Below w.heap.size w w2)
    (hv1 : ∀ j, v.ownBlock = some j → j < w1.heap.size) (hv2 : w2.ownsRow w.heap.size 3 1 v (k + 1) (nums .i64 ((outL c).take (k + 1)))) (hv2b : ∀ j, v2.ownBlock = some j → w1.heap.size ≤ j)
    (hown3 : w3.ownsRow w1.heap.size 3 1 v3 M ys) (hys : ys = nums .i64 l2) (hl2 : l2 = leftL c.length c (k + 1)) (hM : c.length - (k + 1) = M) (hn : c.length ≤ 60) (hgrow3 : w2.grownBy w3 v2.ownBlock) :
    ∃ A cp, v3 = .slice A (c.length - (k + 1)) cp ∧ RDecAt w.heap.size c (k + 1) A cp v w w3 := by
  subst hys hM hl2
  obtain ⟨A, cp, rfl, hsl, hat⟩ := own_read hown3 (by omega)
  refine ⟨A, cp, rfl, hsl, fun h => ?_, own_stay hv2 fun j hj => ?_, ?_⟩
  · obtain ⟨g, rfl, hg, h1, h2⟩ := hat (by omega)
    exact ⟨g, rfl, fun e => by have := hv1 g e; omega, h1, h2⟩
  · exact hgrow3.block j (hv2.lt j hj).2 (fun e => by have := hv1 j hj; have := hv2b j e.symm; omega)
  · exact hb2w.trans ((Below.refl _ w2).grown hgrow3 (Nat.le_trans hw1 hs2) (fun j e => Nat.le_trans hw1 (hv2b j e)))

set_option maxRecDepth 100000 in
set_option maxHeartbeats 2000000 in
theorem rfromCode_any (b off n cap : Nat) (c : List Nat) (w : World) (hS : Sl .i64 w (some ⟨b, off, none⟩) n c) (hv : ValidC c) (hn : n ≤ 60) (h0 : 0 < n) :
    Calls Try.prog 39 #[.slice (some ⟨b, off, none⟩) n cap] w (RetOwn (outL c) w) := by
  have hl := hS.len
  subst hl
  obtain ⟨i0, hi, hz0, hz1, hz2⟩ := info_parts info_int'
  have hmk : ∀ W : World, (Instr.makeSlice 22 (.int .i64 (c.length : Nat)) (.int .i64 (c.length : Nat))).run Try.prog W = .ok (.slice (some ⟨W.heap.size, 0, none⟩) c.length c.length) (W.alloc (.cells (cellsOf .i64 (List.replicate c.length 0)) 3)) :=
    fun W => run_makeInts Try.underlying22 info_int (by omega) .i64 .i64 c.length (by omega) W
  obtain ⟨b', off', e, hs, hc⟩ := hS.at h0
  injection e with e
  injection e with e1 e2
  subst e1 e2
  have Hc := Lib.hid hc
  have Hv := Lib.hid hv
  have Hll := Lib.hid (fun k hk => leftL_length hv k hk)
  have Hol := Lib.hid (outL_length c)
  clear hc hS hv
  go_enter Try.func39, Try.ntmps39
  go_wp2
  go_loopw [4] (fun i wr => ∃ k : Nat, k ≤ c.length ∧ i = .int .i64 k ∧ Blk wr w.heap.size 3 (cellsOf .i64 (riseTo c.length k)) ∧ Below w.heap.size w wr) (fun i _ => c.length - (intOf i).toNat)
  case atStart => exact ⟨0, Nat.zero_le _, rfl, Blk.new w _ _, (Below.refl _ _).alloc (Nat.le_refl _) _⟩
  case round =>
    obtain ⟨k, hk, rfl, hblk, hbel⟩ := hrel
    clear hmk
    by_cases hlt : k < c.length
    · have ho := hblk.num k (by rw [riseTo_length]; exact hlt)
      have hf := hblk.free k
      have Hput := Lib.hid (show Blk (wr.setCell ⟨w.heap.size, k, none⟩ (.int .i64 (k : Nat))) w.heap.size 3 (cellsOf .i64 (riseTo c.length (k + 1))) from hblk.put k k rfl)
      generalize (riseTo c.length k).getD k 0 = y at *
      clear hblk
      go_wp2
      go_roundw
      case rel => exact ⟨k + 1, by omega, by go_num, Hput.out, hbel.setCell (Nat.le_refl _) _⟩
      case measure => simp [intOf]; omega
    · obtain rfl : k = c.length := by omega
      rw [riseTo_end] at hblk
      have hsl : Sl .i64 wr (some ⟨w.heap.size, 0, none⟩) c.length (leftL c.length c 0) := Sl.of_blk hblk (List.length_range) (by omega)
      clear hblk
      go_wp2
      obtain ⟨wo, rfl⟩ : ∃ wo : World, wo = wr := ⟨_, rfl⟩
      go_loopw [3, 5, 6] (fun lv v i wr => ∃ (k : Nat) (A : Option Addr) (cp : Nat), k ≤ c.length ∧ i = .int .i64 k ∧ lv = .slice A (c.length - k) cp ∧ RDecAt w.heap.size c k A cp v w wr) (fun _ _ i _ => c.length - (intOf i).toNat)
      case atStart => exact ⟨0, _, c.length, Nat.zero_le _, rfl, rfl, hsl, fun _ => ⟨w.heap.size, rfl, by simp [Value.ownBlock], by omega, by unfold maxLen; omega⟩, ⟨by simp [nums], .inl ⟨rfl, rfl⟩⟩, hbel⟩
      case round =>
        obtain ⟨k, A, cp, hk, rfl, rfl, hleft, hat, hout, hbel2⟩ := hrel
        by_cases hlt : k < c.length
        · obtain ⟨g, rfl, hsep, hcp, hcpm⟩ := hat hlt
          have hck := (hbel2.cell (p := ⟨b, off + k, none⟩) hs).trans (Hc.out k hlt)
          have hvk := Hv.out k hlt
          have hxl := Hll.out k hk
          obtain ⟨b2, o2, e, hgs, hgc⟩ := hleft.at (by omega)
          injection e with e
          injection e with e1 e2
          subst e1 e2
          have hcx := hgc (c.getD k 0) (by omega)
          rw [Nat.zero_add] at hcx
          have Hnext := Lib.hid (show leftL c.length c (k + 1) = (leftL c.length c k).take (c.getD k 0) ++ (leftL c.length c k).drop (c.getD k 0 + 1) from rfl)
          have Hout2 := Lib.hid (show nums .i64 ((outL c).take k) ++ [.int .i64 (((leftL c.length c k).getD (c.getD k 0) 0 : Nat) : Int)] = nums .i64 ((outL c).take (k + 1)) by
            rw [nums_snoc, take_snoc (outL c) k (by rw [Hol.out]; exact hlt), outL_get c k hlt])
          have hsz := hbel2.size
          have Hcell := Lib.hid (fun (W : World) (hW : Below w.heap.size w W) => (hW.cell (p := ⟨b, off + k, none⟩) hs).trans (Hc.out k hlt))
          have Hleft := Lib.hid hleft
          have Hrow := Lib.hid hout
          have Hhat := Lib.hid hat
          clear hleft hgc hat hout
          generalize hl2e : leftL c.length c (k + 1) = l2 at *
          have Hl2e := Lib.hid hl2e.symm
          clear hl2e
          generalize (leftL c.length c k).getD (c.getD k 0) 0 = y at *
          generalize leftL c.length c k = l1 at *
          generalize c.getD k 0 = x at *
          have hown := Hrow.out
          have h63 : k + 1 ≤ maxLen := by unfold maxLen; omega
          have h47 : (k + 1) * 8 ≤ 140737488355328 := by omega
          go_wp2_with (at_builtin; refine wpList_append_own _ rfl _ _ 22 rfl w.heap.size 3 i0 (.int .i64 0) 1 8 Try.underlying22 hi hz0 hz1 hz2 rfl (by decide) _ _ _ rfl (hown.alloc _) ⟨wr.heap.size, 0, none⟩ 1 1 [.int .i64 (y : Nat)] rfl rfl (cell_one_new _ _ _) (one_cell _ rfl) h63 h47 (alloc_size_le _ _ hsz) ?_)
          intro v' w1 hown' hgrow _
          have hb1 := hbel2.trans (own_below hown hsz hgrow)
          have hl1 := Hleft.out.kept ((hgrow.block g (by simp; omega) (fun e => hsep e.symm)).trans (Below.heap_alloc _ _ _ hgs))
          have hck1 := Hcell.out w1 hb1
          have hg1 : g < w1.heap.size := Nat.lt_of_lt_of_le hgs (by have := hgrow.size; simp at this; omega)
          rw [Hout2.out] at hown'
          have Hown1 := Lib.hid hown'
          have hn1 := (hl1.take (m := x) (by omega)).cellsAt
          have hn2 : 0 + x ≤ maxLen := by unfold maxLen; omega
          have hn3 : (0 + x) * 8 ≤ 140737488355328 := by omega
          have hn4 : (nums .i64 (l1.take x)).length = x * 1 := by rw [nums_length, List.length_take]; omega
          have Hl1 := Lib.hid hl1
          have Hn1 := Lib.hid hn1
          clear hgrow hown' hl1 hn1 hck hcx
          trace "A"
          go_wp2_with (at_builtin; refine wpList_append_own _ rfl _ _ 22 rfl w1.heap.size 3 i0 (.int .i64 0) 1 8 Try.underlying22 hi hz0 hz1 hz2 rfl (by decide) (.slice none 0 0) 0 [] rfl (World.ownsRow_nil _ _ _ _) ⟨g, 0, none⟩ x cp (nums .i64 (l1.take x)) rfl hn4 Hn1.out (one_of_cells _ _) hn2 hn3 (Nat.le_refl _) ?_)
          intro v2 w2 hown2 hgrow2 _
          have hb2 : Below w1.heap.size w1 w2 := (Below.refl _ _).grown hgrow2 (Nat.le_refl _) (fun k e => by cases e)
          have hb2w := hb1.trans (hb2.mono hb1.size)
          have hl2 := Hl1.out.kept (hgrow2.block g hg1 (fun e => by cases e))
          have hck2 := Hcell.out w2 hb2w
          have hv2 := own_stay Hown1.out (w' := w2) (fun j hj => hb2.block j (Hown1.out.lt j hj).2)
          have hs2 := hb2.size
          have Hown2 := Lib.hid hown2
          have Hv2 := Lib.hid hv2
          have Hl2 := Lib.hid hl2
          clear hgrow2 hown2 hv2 hl2 hck1
          have hq2 : x + (c.length - k - (x + 1)) ≤ maxLen := by unfold maxLen; omega
          have hq3 : (x + (c.length - k - (x + 1))) * 8 ≤ 140737488355328 := by omega
          have hq4 : (nums .i64 (l1.drop (x + 1))).length = (c.length - k - (x + 1)) * 1 := by rw [nums_length, List.length_drop]; omega
          have Hfin := Lib.hid (show nums .i64 (l1.take x) ++ nums .i64 (l1.drop (x + 1)) = nums .i64 l2 by rw [Hnext.out]; simp [nums])
          have hm' : c.length - (k + 1) = x + (c.length - k - (x + 1)) := by omega
          have Hm' := Lib.hid hm'
          clear hm'
          by_cases hcx : cp = x + 1
          · subst hcx
            have hq0 : c.length - k - (x + 1) = 0 := by omega
            have Hq0 := Lib.hid hq0
            have hd : l1.drop (x + 1) = [] := List.drop_eq_nil_of_le (by omega)
            rw [hd] at Hfin
            rw [hq0] at hq2 hq3 Hm'
            have Hd := Lib.hid hd
            clear hq0 hd hq4
            go_wp2_with (at_builtin; refine wpList_append_own _ rfl _ _ 22 rfl w1.heap.size 3 i0 (.int .i64 0) 1 8 Try.underlying22 hi hz0 hz1 hz2 rfl (by decide) v2 x (nums .i64 (l1.take x)) rfl Hown2.out ⟨g, 0, none⟩ 0 0 [] rfl rfl (fun j u h => by simp at h) (fun u h => by simp at h) hq2 hq3 hs2 ?_)
            intro v3 w3 hown3 hgrow3 _
            have Hend := Lib.hid (rdec_next hb1.size hs2 hb2w (fun j hj => (Hown1.out.lt j hj).2) Hv2.out (fun j hj => (Hown2.out.lt j hj).1) hown3 (by have := Hfin.out; simpa [nums] using this) Hl2e.out Hm'.out hn hgrow3)
            clear hown3 hgrow3
            obtain ⟨A3, cp3, rfl, hR3⟩ := Hend.out
            go_wp2
            go_roundw
            case rel => exact ⟨k + 1, A3, cp3, by omega, by go_num, rfl, hR3⟩
            case measure => simp [intOf]; omega
          · have hn5 := (Hl2.out.drop (m := x + 1) (by omega)).cellsAt
            rw [Nat.zero_add] at hn5
            have Hn5 := Lib.hid hn5
            clear hn5
            go_wp2_with (at_builtin; refine wpList_append_own _ rfl _ _ 22 rfl w1.heap.size 3 i0 (.int .i64 0) 1 8 Try.underlying22 hi hz0 hz1 hz2 rfl (by decide) v2 x (nums .i64 (l1.take x)) rfl Hown2.out ⟨g, x + 1, none⟩ (c.length - k - (x + 1)) (cp - (x + 1)) (nums .i64 (l1.drop (x + 1))) rfl hq4 Hn5.out (one_of_cells _ _) hq2 hq3 hs2 ?_)
            intro v3 w3 hown3 hgrow3 _
            have Hend := Lib.hid (rdec_next hb1.size hs2 hb2w (fun j hj => (Hown1.out.lt j hj).2) Hv2.out (fun j hj => (Hown2.out.lt j hj).1) hown3 Hfin.out Hl2e.out Hm'.out hn hgrow3)
            clear hown3 hgrow3
            obtain ⟨A3, cp3, rfl, hR3⟩ := Hend.out
            go_wp2
            go_roundw
            case rel => exact ⟨k + 1, A3, cp3, by omega, by go_num, rfl, hR3⟩
            case measure => simp [intOf]; omega
        · obtain rfl : k = c.length := by omega
          rw [List.take_of_length_le (by rw [Hol.out]; exact Nat.le_refl _)] at hout
          obtain ⟨gv, cv, rfl⟩ := own_pos hout h0
          clear hleft hat
          go_wp2
          go_ret
          exact ⟨gv, cv, by rw [Hol.out]; rfl, by rw [Hol.out]; exact hout, hbel2⟩

end Go.Proofs.Ytgdaidmkcgblbaa

namespace Go.Proofs.Ytgdaidmkcgblbaa
open Go.RowKit

/-- A slice that came in reads as integers. -/
def Rl (w : World) (A : Option Addr) (n : Nat) (zs : List Int) : Prop :=
  zs.length = n ∧ n ≤ 9223372036854775807 ∧ (∀ z ∈ zs, -9223372036854775808 ≤ z ∧ z ≤ 9223372036854775807) ∧
    (0 < n → ∃ b off, A = some ⟨b, off, none⟩ ∧ b < w.heap.size ∧ ∀ i, i < n → w.cell? ⟨b, off + i, none⟩ = some (.int .i64 (zs.getD i 0)))
theorem Rl.below {w w' : World} {A : Option Addr} {n : Nat} {zs : List Int} (h : Rl w A n zs) (hb : Below w.heap.size w w') : Rl w' A n zs := by
  obtain ⟨h1, h2, h3, h4⟩ := h
  refine ⟨h1, h2, h3, fun hn => ?_⟩
  obtain ⟨b, off, e, hs, hc⟩ := h4 hn
  exact ⟨b, off, e, Nat.lt_of_lt_of_le hs hb.size, fun i hi => (hb.cell hs).trans (hc i hi)⟩
theorem rl_of_row {w : World} {a : Option Addr} {len cap : Nat} {zs : List Int} (h : IsRow .i64 w a len cap zs) : ∃ ys, Rl w a len ys := by
  rcases h with ⟨rfl, rfl, rfl, rfl⟩ | ⟨x, rfl, hl, hm, hz, hc, hw⟩
  · exact ⟨[], rfl, by omega, fun z hz => absurd hz (by simp), fun h => absurd h (by omega)⟩
  · refine ⟨zs.take len, by rw [List.length_take]; omega, by unfold maxLen at hm; omega, fun z hz => i64_bounds (hw z (List.mem_of_mem_take hz)), fun h0 => ?_⟩
    obtain ⟨b, off, rfl, hcell⟩ := ints_at hc (by omega)
    have hb : b < w.heap.size := World.block_lt_of_cell? w ⟨b, off + 0, none⟩ (hcell 0 (by omega))
    refine ⟨b, off, rfl, hb, fun i hi => ?_⟩
    rw [hcell i (by omega)]
    simp [List.getD_eq_getElem?_getD, hi]
theorem ints_of_rl {w : World} {A : Option Addr} {n : Nat} {zs : List Int} (h : Rl w A n zs) : Ints w A n := by
  obtain ⟨h1, h2, h3, h4⟩ := h
  refine ⟨h2, fun hn => ?_⟩
  obtain ⟨b, off, e, hs, hc⟩ := h4 hn
  refine ⟨b, off, e, hs, fun i hi => ⟨zs.getD i 0, ?_⟩⟩
  have hi' : i < zs.length := by omega
  have hmem : zs.getD i 0 ∈ zs := by
    rw [List.getD_eq_getElem?_getD, List.getElem?_eq_getElem hi']
    exact List.getElem_mem hi'
  exact ⟨(h3 _ hmem).1, (h3 _ hmem).2, hc i hi⟩

theorem own_zl {w : World} {B n : Nat} {v : Value} {zs : List Int} (h : w.ownsRow B 3 1 v n (zs.map (Value.int .i64))) (hb : ∀ z ∈ zs, -9223372036854775808 ≤ z ∧ z ≤ 9223372036854775807) (hn : n ≤ 4611686018427387904) : ∃ A c, v = .slice A n c ∧ Zl w A n zs := by
  have hl : zs.length = n := by have := h.1; simpa using this
  obtain ⟨A, c, rfl⟩ := own_slice' h
  refine ⟨A, c, rfl, hl, hn, hb, fun h0 => ?_⟩
  obtain ⟨g, c', e⟩ := own_pos h h0
  injection e with e1 e2 e3
  subst e1 e3
  refine ⟨g, 0, rfl, (own_lt h).1, fun i hi => ?_⟩
  rw [Nat.zero_add, own_cell h i hi]
  simp [List.getD_eq_getElem?_getD, show i < zs.length by omega]

theorem run_append_none {P : Program} {t ty e : TypeId} (i : TypeInfo) (z : Value) (ht : P.underlying t = some (.slice e)) (hi0 : P.info? e = some i) (_hz : i.zero = some z) (A : Option Addr) (c : Nat) (w : World) :
    (Builtin.append_ #[t, t] ty #[.slice none 0 0, .slice A 0 c]).run P w = .ok (.slice none 0 0) w := by
  cases A with
  | none => simp [Builtin.append_, run_underlying ht, sizeOf, typeInfo, hi0, Builtin.lenOf, Builtin.firstCells]
  | some ad => simp [Builtin.append_, run_underlying ht, sizeOf, typeInfo, hi0, Builtin.lenOf, Builtin.firstCells, loadCells, loadCellsFrom]

/-- The first integers in new memory. -/
def RetRaw (zs : List Int) (m : Nat) (w : World) (e : Ending) (w' : World) : Prop :=
  ∃ A c, e = .returned (.slice A m c) ∧ Zl w' A m (zs.take m) ∧ Below w.heap.size w w'

theorem Rl.cellsAt {w : World} {b off n : Nat} {zs : List Int} (h : Rl w (some ⟨b, off, none⟩) n zs) (m : Nat) (hm : m ≤ n) : ∀ j u, ((zs.take m).map (Value.int .i64))[j]? = some u → w.cell? ((⟨b, off, none⟩ : Addr).add j) = some u := by
  intro j u hu
  have hj : j < (zs.take m).length := by
    have := (List.getElem?_eq_some_iff.1 hu).1
    simpa using this
  rw [List.length_take, h.1] at hj
  obtain ⟨b', off', e, _, hc⟩ := h.2.2.2 (by omega)
  injection e with e
  injection e with e1 e2
  subst e1 e2
  have hl := h.1
  rw [add_at, hc j (by omega), ← hu]
  simp [List.getD_eq_getElem?_getD, show j < zs.length by omega, List.getElem?_take_of_lt (show j < m by omega)]
theorem one_of_ints (zs : List Int) : ∀ u ∈ zs.map (Value.int .i64), u.oneCell' = true := by
  intro u hu
  obtain ⟨x, _, rfl⟩ := List.mem_map.1 hu
  rfl

set_option maxRecDepth 100000 in
theorem raw_any (A : Option Addr) (n cap most : Nat) (zs : List Int) (w : World) (hR : Rl w A n zs) (hcap : n ≤ cap) (hm : most ≤ 100) :
    Calls Try.prog 14 #[.slice A n cap, .int .i64 most] w (RetRaw zs (min n most) w) := by
  obtain ⟨i0, hi, hz0, hz1, hz2⟩ := info_parts info_int'
  have hl := hR.1
  have hmax := hR.2.1
  have hbd : ∀ z ∈ zs.take (min n most), -9223372036854775808 ≤ z ∧ z ≤ 9223372036854775807 := fun z hz => hR.2.2.1 z (List.mem_of_mem_take hz)
  have Hbd := Lib.hid hbd
  clear hbd
  rcases Nat.eq_zero_or_pos n with h0 | h0
  · subst h0
    have hmin : min (0 : Int) (most : Int) = 0 := by omega
    have hrun := fun W => run_append_none (P := Try.prog) (t := 22) (ty := 22) (e := 3) i0 (.int .i64 0) Try.underlying22 hi hz0 A cap W
    have Hz := Lib.hid (List.eq_nil_of_length_eq_zero hl)
    clear hl hR
    go_enter Try.func14, Try.ntmps14
    go_wp2_with (at_builtin; refine wpList_append_run rfl rfl rfl rfl (hrun _) ?_)
    all_goals
      go_ret
      exact ⟨none, 0, by rw [Nat.zero_min]; rfl, ⟨by rw [Hz.out]; simp, by omega, Hbd.out, fun h => absurd h (by simp)⟩, Below.refl _ _⟩
  · obtain ⟨b, off, rfl, hs, hc⟩ := hR.2.2.2 h0
    obtain ⟨m, hm'⟩ : ∃ m, m = min n most := ⟨_, rfl⟩
    have hnews := hR.cellsAt m (by omega)
    have hq1 : ((zs.take m).map (Value.int .i64)).length = m * 1 := by rw [List.length_map, List.length_take]; omega
    have hq2 : 0 + m ≤ maxLen := by unfold maxLen; omega
    have hq3 : (0 + m) * 8 ≤ 140737488355328 := by omega
    have hmn : min (n : Int) (most : Int) = (m : Int) := by omega
    have hmle : m ≤ n := by omega
    have hm100 : m ≤ 100 := by omega
    rw [← hm'] at Hbd ⊢
    have Hn := Lib.hid hnews
    clear hm' hnews hc hR hl
    go_enter Try.func14, Try.ntmps14
    go_wp2_with (at_builtin; refine wpList_append_own _ rfl _ _ 22 rfl w.heap.size 3 i0 (.int .i64 0) 1 8 Try.underlying22 hi hz0 hz1 hz2 rfl (by decide) (.slice none 0 0) 0 [] rfl (World.ownsRow_nil _ _ _ _) ⟨b, off, none⟩ m cap ((zs.take m).map (Value.int .i64)) rfl hq1 Hn.out (one_of_ints _) hq2 hq3 (Nat.le_refl _) ?_)
    intro v' w' hown hgrow _
    rw [← List.map_take] at hown
    obtain ⟨A', c', rfl, hZ⟩ := own_zl hown Hbd.out (by omega)
    have hb : Below w.heap.size w w' := (Below.refl _ _).grown hgrow (Nat.le_refl _) (fun k e => by cases e)
    clear hown hgrow
    go_wp2
    go_ret
    exact ⟨A', c', rfl, hZ, hb⟩

end Go.Proofs.Ytgdaidmkcgblbaa
