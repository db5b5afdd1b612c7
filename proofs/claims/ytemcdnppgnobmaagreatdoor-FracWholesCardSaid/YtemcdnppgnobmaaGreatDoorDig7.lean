/-
  The walk of frac's subtract.
  The walk of frac's multiply.
  The walks of frac's timesDigit and overDigit.
-/
import Derived.Test.YtemcdnppgnobmaaGreatDoorGcd5
import Derived.Deep.LoopGhost
set_option linter.unusedVariables false
namespace Go.Proofs.YtemcdnppgnobmaaGreatDoor
open Go.RowKit

def SubRel (w : World) (n : Nat) (l m : List Nat) (c i : Value) (wr : World) : Prop :=
  ∃ k q : Nat, k ≤ n ∧ q ≤ 1 ∧ c = .int .u32 q ∧ i = .int .i64 k ∧ ∃ xs, Blk wr w.heap.size 66 (cellsOf .u32 xs) ∧ xs.length = n ∧ Low xs ∧
    ofL (xs.take k) + ofL (m.take k) = ofL (l.take k) + q * bas ^ k ∧ Below w.heap.size w wr

theorem SubRel.next {w : World} {n : Nat} {l m : List Nat} {wr : World} {j q : Nat} {xs : List Nat} (hj : j < n) (hblk : Blk wr w.heap.size 66 (cellsOf .u32 xs)) (hlen : xs.length = n) (hlow : Low xs)
    (hsum : ofL (xs.take j) + ofL (m.take j) = ofL (l.take j) + q * bas ^ j) (hbel : Below w.heap.size w wr) (d q' : Nat) (hd : d + q + m.getD j 0 = l.getD j 0 + q' * 1000000000) (hd' : d < 1000000000) (hq' : q' ≤ 1)
    {z c i : Value} {u : Int} (hz : z = .int .u32 u) (hu : u = (d : Nat)) (hc : c = .int .u32 q') (hi : i = .int .i64 (j + 1 : Nat)) : SubRel w n l m c i (wr.setCell ⟨w.heap.size, j, none⟩ z) := by
  subst hz
  refine ⟨j + 1, q', by omega, hq', hc, hi, xs.set j d, hblk.put j d hu, by rw [List.length_set]; exact hlen, hlow.set j hd', ?_, hbel.setCell (Nat.le_refl _) _⟩
  rw [ofL_set_take _ _ _ (by omega), ofL_take_succ, ofL_take_succ, Nat.pow_succ]
  exact sub_step hsum hd

theorem sub_end {X x y q P : Nat} (h : X + y = x + q * P) (hX : X < P) (hxy : y ≤ x) (hq : q ≤ 1) : X = x - y := by
  match q, hq with
  | 0, _ => omega
  | 1, _ => omega

set_option maxRecDepth 100000 in
set_option maxHeartbeats 800000 in
theorem subtract_any (A B : Option Addr) (n n' c d : Nat) (x y : Nat) (w : World) (h : Dg w A n x) (k : Dg w B n' y) (hxy : y ≤ x) (hn9 : n ≤ 100000000000) :
    Calls Tryz.prog 47 #[.slice A n c, .slice B n' d] w (RetDg (x - y) w) := by
  have hmk : ∀ W : World, (Instr.makeSlice 22 (.int .i64 (n : Int)) (.int .i64 (n : Int))).run Tryz.prog W = .ok (.slice (some ⟨W.heap.size, 0, none⟩) n n) (W.alloc (.cells (cellsOf .u32 (List.replicate n 0)) 66)) :=
    fun W => run_makeInts Tryz.underlying22 info_u32 (by omega) .i64 .i64 n (by omega) W
  have hge : n' ≤ n := by have := limbs_mono hxy; rw [h.len, k.len] at this; exact this
  have Hxy := Lib.hid hxy
  have Hx := Lib.hid (Sl.len h)
  have Hy := Lib.hid (Sl.len k)
  clear hxy
  go_enter Tryz.func47, Tryz.ntmps47
  go_wp2
  go_loopw [6, 15] (SubRel w n (toL x) (toL y)) (fun _ i _ => n - (intOf i).toNat)
  case atStart =>
    refine ⟨0, 0, by omega, by omega, rfl, rfl, List.replicate n 0, Blk.new _ _ _, by simp, Low.replicate _, by simp [ofL], (Below.refl _ _).alloc (Nat.le_refl _) _⟩
  case round =>
    obtain ⟨j, q, hj, hq, rfl, rfl, xs, hblk, hlen, hlow, hsum, hbel⟩ := hrel
    have Hlen := Lib.hid hlen
    have Hsum := Lib.hid hsum
    clear hsum hlen hmk
    by_cases hjn : j < n
    · obtain ⟨b, off, rfl, hbs, ha⟩ := Sl.at h (by omega)
      have hca := (hbel.cell (p := ⟨b, off + j, none⟩) hbs).trans (ha j hjn)
      have hxl : (toL x).getD j 0 < 1000000000 := (low_toL x).get j
      have hco := hblk.num j (by rw [Hlen.out]; omega)
      have hfo := hblk.free j
      generalize hxa : (toL x).getD j 0 = xa at *
      have Hxa := Lib.hid hxa
      clear ha hxa
      by_cases hjm : j < n'
      · obtain ⟨b', off', rfl, hbs', ha'⟩ := Sl.at k (by omega)
        have hcb := (hbel.cell (p := ⟨b', off' + j, none⟩) hbs').trans (ha' j hjm)
        have hyl : (toL y).getD j 0 < 1000000000 := (low_toL y).get j
        generalize hya : (toL y).getD j 0 = ya at *
        have Hya := Lib.hid hya
        clear ha' hya
        by_cases hbig : (xa : Int) < q + ya
        · go_wp2
          go_roundw
          case rel => exact SubRel.next hjn hblk Hlen.out hlow Hsum.out hbel (xa + 1000000000 - (q + ya)) 1 (by have e1 := Hxa.out; have e2 := Hya.out; omega) (by omega) (by omega) rfl (by omega) rfl (by go_num)
          case measure => simp [intOf]; omega
        · go_wp2
          go_roundw
          case rel => exact SubRel.next hjn hblk Hlen.out hlow Hsum.out hbel (xa - (q + ya)) 0 (by have e1 := Hxa.out; have e2 := Hya.out; omega) (by omega) (by omega) rfl (by omega) rfl (by go_num)
          case measure => simp [intOf]; omega
      · have Hya : Hid ((toL y).getD j 0 = 0) := by
          show _ = 0
          rw [List.getD_eq_getElem?_getD, List.getElem?_eq_none (by rw [Hy.out]; omega)]; rfl
        by_cases hbig : (xa : Int) < q
        · go_wp2
          go_roundw
          case rel => exact SubRel.next hjn hblk Hlen.out hlow Hsum.out hbel (xa + 1000000000 - q) 1 (by have e1 := Hxa.out; have e2 := Hya.out; omega) (by omega) (by omega) rfl (by omega) rfl (by go_num)
          case measure => simp [intOf]; omega
        · go_wp2
          go_roundw
          case rel => exact SubRel.next hjn hblk Hlen.out hlow Hsum.out hbel (xa - q) 0 (by have e1 := Hxa.out; have e2 := Hya.out; omega) (by omega) (by omega) rfl (by omega) rfl (by go_num)
          case measure => simp [intOf]; omega
    · obtain rfl : j = n := by omega
      have Hfin : Hid (ofL xs = x - y) := by
        have e1 := Hsum.out
        rw [ofL_take_ge xs _ (by rw [Hlen.out]; omega), ofL_take_ge (toL x) _ (by rw [Hx.out]; omega), ofL_take_ge (toL y) _ (by rw [Hy.out]; omega), ofL_toL, ofL_toL] at e1
        have e2 := ofL_lt hlow
        rw [Hlen.out] at e2
        exact sub_end e1 e2 Hxy.out hq
      go_wp2_with fail
      refine (cut_any w.heap.size j j xs _ (Bl.of_blk hblk Hlen.out (by omega)) hlow (by omega)).mono ?_
      rintro e w1 ⟨A1, n1, rfl, hd1, hb1, hf1⟩
      rw [Hfin.out] at hd1 hf1
      have hfin := hbel.trans (hb1.mono hbel.size)
      clear hb1 hblk hbel
      go_wp2
      go_ret
      exact ⟨A1, n1, rfl, hd1, hfin, hf1⟩

end Go.Proofs.YtemcdnppgnobmaaGreatDoor

namespace Go.Proofs.YtemcdnppgnobmaaGreatDoor
open Go.RowKit

/-- After k rows: the first digits are the product, the others 0. -/
def MulRel (w : World) (n m x y : Nat) (i : Value) (wr : World) : Prop :=
  ∃ k : Nat, k ≤ n ∧ i = .int .i64 k ∧ ∃ xs, Blk wr w.heap.size 66 (cellsOf .u32 xs) ∧ xs.length = n + m ∧ Low xs ∧
    ofL (xs.take (k + m)) = ofL ((toL x).take k) * y ∧ xs.drop (k + m) = List.replicate (n - k) 0 ∧ Below w.heap.size w wr

/-- Within a row: xs0 is what the row began with. -/
def MulIn (w : World) (n m k : Nat) (xa y : Nat) (xs0 : List Nat) (c i : Value) (wr : World) : Prop :=
  ∃ j q : Nat, j ≤ m ∧ q < 1000000000 ∧ c = .int .u64 q ∧ i = .int .i64 j ∧ ∃ xs, Blk wr w.heap.size 66 (cellsOf .u32 xs) ∧ xs.length = n + m ∧ Low xs ∧
    ofL (xs.take (k + j)) + q * (bas ^ k * bas ^ j) = ofL (xs0.take (k + j)) + bas ^ k * xa * ofL ((toL y).take j) ∧ xs.drop (k + j) = xs0.drop (k + j) ∧ Below w.heap.size w wr

theorem MulIn.next {w : World} {n m k xa y : Nat} {xs0 : List Nat} {wr : World} {j q : Nat} {xs : List Nat} (hk : k < n) (hj : j < m) (hblk : Blk wr w.heap.size 66 (cellsOf .u32 xs)) (hlen : xs.length = n + m) (hlow : Low xs)
    (hsum : ofL (xs.take (k + j)) + q * (bas ^ k * bas ^ j) = ofL (xs0.take (k + j)) + bas ^ k * xa * ofL ((toL y).take j)) (hdrop : xs.drop (k + j) = xs0.drop (k + j)) (hbel : Below w.heap.size w wr)
    (ya ta : Nat) (hya : (toL y).getD j 0 = ya) (hta : xs.getD (k + j) 0 = ta)
    {z c i : Value} {u : Int} (hz : z = .int .u32 u) (hu : u = ((xa * ya + ta + q) % 1000000000 : Nat)) (hq' : (xa * ya + ta + q) / 1000000000 < 1000000000) (hc : c = .int .u64 ((xa * ya + ta + q) / 1000000000 : Nat)) (hi : i = .int .i64 (j + 1 : Nat)) :
    MulIn w n m k xa y xs0 c i (wr.setCell ⟨w.heap.size, k + j, none⟩ z) := by
  subst hz
  have ht0 : xs0.getD (k + j) 0 = ta := by
    have e1 := getD_drop xs (k + j) 0
    have e2 := getD_drop xs0 (k + j) 0
    rw [hdrop] at e1
    rw [Nat.add_zero] at e1 e2
    rw [← hta, ← e1, e2]
  have hd : (xa * ya + ta + q) % bas + (xa * ya + ta + q) / bas * bas = xa * ya + ta + q := by
    exact Nat.mod_add_div' _ _
  refine ⟨j + 1, _, by omega, hq', hc, hi, xs.set (k + j) ((xa * ya + ta + q) % 1000000000), hblk.put (k + j) _ hu, by rw [List.length_set]; exact hlen, hlow.set (k + j) (Nat.mod_lt _ bas_pos), ?_, ?_, hbel.setCell (Nat.le_refl _) _⟩
  · rw [← Nat.add_assoc, ofL_set_take _ _ _ (by omega), ofL_take_succ xs0, ht0, ofL_take_succ (toL y), hya, Nat.pow_succ, ← Nat.mul_assoc (bas ^ k), Nat.pow_add]
    exact mul_step hsum rfl hd
  · rw [← Nat.add_assoc, drop_set_of_lt _ _ _ _ (by omega)]
    have e := congrArg (List.drop 1) hdrop
    rwa [List.drop_drop, List.drop_drop] at e

theorem MulRel.next {w : World} {n m k xa x y : Nat} {xs0 : List Nat} {wr : World} {q : Nat} {xs : List Nat} (hk : k < n) (hblk : Blk wr w.heap.size 66 (cellsOf .u32 xs)) (hlen : xs.length = n + m) (hlow : Low xs)
    (hsum : ofL (xs.take (k + m)) + q * (bas ^ k * bas ^ m) = ofL (xs0.take (k + m)) + bas ^ k * xa * ofL ((toL y).take m)) (hdrop : xs.drop (k + m) = xs0.drop (k + m)) (hbel : Below w.heap.size w wr)
    (h0 : ofL (xs0.take (k + m)) = ofL ((toL x).take k) * y) (h0d : xs0.drop (k + m) = List.replicate (n - k) 0) (hxa : (toL x).getD k 0 = xa) (hy : (toL y).length = m) (hq : q < 1000000000)
    {z i : Value} {u : Int} (hz : z = .int .u32 u) (hu : u = (q : Nat)) (hi : i = .int .i64 (k + 1 : Nat)) :
    MulRel w n m x y i (wr.setCell ⟨w.heap.size, k + m, none⟩ z) := by
  subst hz
  refine ⟨k + 1, by omega, hi, xs.set (k + m) q, hblk.put (k + m) q hu, by rw [List.length_set]; exact hlen, hlow.set _ hq, ?_, ?_, hbel.setCell (Nat.le_refl _) _⟩
  · rw [show k + 1 + m = k + m + 1 by omega, ofL_set_take _ _ _ (by omega), ofL_take_succ (toL x), hxa]
    rw [ofL_take_ge (toL y) m (by omega), ofL_toL] at hsum
    rw [Nat.pow_add, Nat.mul_comm (bas ^ k * bas ^ m) q, hsum, h0, Nat.add_mul]
  · rw [show k + 1 + m = k + m + 1 by omega, drop_set_of_lt _ _ _ _ (by omega)]
    have e := congrArg (List.drop 1) (hdrop.trans h0d)
    rw [List.drop_drop, List.drop_replicate] at e
    rw [e]
    congr 1

theorem mul_le (a b : Nat) (ha : a < 1000000000) (hb : b < 1000000000) : a * b ≤ 999999998000000001 := by
  have := Nat.mul_le_mul (show a ≤ 999999999 by omega) (show b ≤ 999999999 by omega)
  exact this

set_option maxRecDepth 100000 in
set_option maxHeartbeats 1600000 in
theorem multiply_pos (A B : Option Addr) (n n' c d : Nat) (x y : Nat) (w : World) (h : Dg w A n x) (k : Dg w B n' y) (hn9 : n ≤ 100000000000) (hm9 : n' ≤ 100000000000) (hn0 : ((n : Int) == 0) = false) (hm0 : ((n' : Int) == 0) = false) (hn1 : 0 < n) (hm1 : 0 < n') :
    Calls Tryz.prog 61 #[.slice A n c, .slice B n' d] w (RetDg (x * y) w) := by
  have hmk : ∀ W : World, (Instr.makeSlice 22 (.int .i64 ((n : Int) + n')) (.int .i64 ((n : Int) + n'))).run Tryz.prog W = .ok (.slice (some ⟨W.heap.size, 0, none⟩) (n + n') (n + n')) (W.alloc (.cells (cellsOf .u32 (List.replicate (n + n') 0)) 66)) :=
    fun W => run_makeInts Tryz.underlying22 info_u32 (by omega) .i64 .i64 (n + n') (by omega) W
  have Hx := Lib.hid (Sl.len h)
  have Hy := Lib.hid (Sl.len k)
  go_enter Tryz.func61, Tryz.ntmps61
  go_wp2
  go_loopw [29] (MulRel w n n' x y) (fun i _ => n - (intOf i).toNat)
  case atStart =>
    refine ⟨0, by omega, rfl, List.replicate (n + n') 0, Blk.new _ _ _, by simp, Low.replicate _, ?_, ?_, (Below.refl _ _).alloc (Nat.le_refl _) _⟩
    · rw [List.take_replicate, ofL_replicate]; simp [ofL]
    · rw [List.drop_replicate]; congr 1; omega
  case round =>
    obtain ⟨i, hi, rfl, xs0, hblk, hlen, hlow, hsum, hdrop, hbel⟩ := hrel
    have Hlen0 := Lib.hid hlen
    have Hsum0 := Lib.hid hsum
    have Hdrop0 := Lib.hid hdrop
    clear hsum hlen hdrop hmk
    by_cases hin : i < n
    · obtain ⟨b, off, rfl, hbs, ha⟩ := Sl.at h (by omega)
      have hca := (hbel.cell (p := ⟨b, off + i, none⟩) hbs).trans (ha i hin)
      have hxl : (toL x).getD i 0 < 1000000000 := (low_toL x).get i
      generalize hxa : (toL x).getD i 0 = xa at *
      have Hxa := Lib.hid hxa
      clear ha hxa
      obtain ⟨b', off', rfl, hbs', ha'⟩ := Sl.at k (by omega)
      go_wp2
      obtain ⟨wo, hwo⟩ : ∃ wo : World, wo = wr := ⟨_, rfl⟩
      subst hwo
      go_loopw [8, 44] (MulIn w n n' i xa y xs0) (fun _ j _ => n' - (intOf j).toNat)
      case atStart =>
        exact ⟨0, 0, by omega, by omega, rfl, rfl, xs0, hblk, Hlen0.out, hlow, by simp [ofL], rfl, hbel⟩
      case round =>
        obtain ⟨j, q, hj, hq, rfl, rfl, xs, hblk', hlen', hlow', hsum', hdrop', hbel'⟩ := hrel
        have Hlen := Lib.hid hlen'
        have Hsum := Lib.hid hsum'
        have Hdrop := Lib.hid hdrop'
        clear hlen' hsum' hdrop' hca hblk hbel
        have hco := hblk'.num (i + j) (by rw [Hlen.out]; omega)
        have hfo := hblk'.free (i + j)
        have htl : xs.getD (i + j) 0 < 1000000000 := hlow'.get _
        generalize hta : xs.getD (i + j) 0 = ta at *
        have Hta := Lib.hid hta
        clear hta
        by_cases hjm : j < n'
        · have hcb := (hbel'.cell (p := ⟨b', off' + j, none⟩) hbs').trans (ha' j hjm)
          have hyl : (toL y).getD j 0 < 1000000000 := (low_toL y).get j
          generalize hya : (toL y).getD j 0 = ya at *
          have Hya := Lib.hid hya
          clear hya ha'
          have hxy := mul_le xa ya hxl hyl
          have hxy' : (xa : Int) * ya ≤ 999999998000000001 := by rw [← Int.natCast_mul]; omega
          have hxy0 : 0 ≤ (xa : Int) * ya := by rw [← Int.natCast_mul]; omega
          have hdq : (xa * ya + ta + q) / 1000000000 < 1000000000 := by omega
          go_wp2
          go_roundw
          case rel =>
            have e3 : ((xa * ya + ta + q : Nat) : Int) = (xa : Int) * ya + ta + q := by simp only [Int.natCast_add, Int.natCast_mul]
            exact MulIn.next hin hjm hblk' Hlen.out hlow' Hsum.out Hdrop.out hbel' ya ta Hya.out Hta.out rfl (by rw [← e3]; omega) hdq (by rw [← e3]; go_num) (by go_num)
          case measure => simp [intOf]; omega
        · obtain rfl : j = n' := by omega
          clear ha'
          go_wp2
          go_roundw
          case rel =>
            exact MulRel.next hin hblk' Hlen.out hlow' Hsum.out Hdrop.out hbel' Hsum0.out Hdrop0.out Hxa.out Hy.out hq rfl rfl (by go_num)
          case measure => simp [intOf]; omega
    · obtain rfl : i = n := by omega
      have Hfin : Hid (ofL xs0 = x * y) := by
        have e1 := Hsum0.out
        rw [ofL_take_ge xs0 _ (by rw [Hlen0.out]; omega), ofL_take_ge (toL x) _ (by rw [Hx.out]; omega), ofL_toL] at e1
        exact e1
      go_wp2_with fail
      refine (cut_any w.heap.size (i + n') (i + n') xs0 _ (Bl.of_blk hblk Hlen0.out (by omega)) hlow (by omega)).mono ?_
      rintro e w1 ⟨A1, n1, rfl, hd1, hb1, hf1⟩
      rw [Hfin.out] at hd1 hf1
      have hfin := hbel.trans (hb1.mono hbel.size)
      clear hb1 hblk hbel
      go_wp2
      go_ret
      exact ⟨A1, n1, rfl, hd1, hfin, hf1⟩

theorem multiply_any (A B : Option Addr) (n n' c d : Nat) (x y : Nat) (w : World) (h : Dg w A n x) (k : Dg w B n' y) (hn9 : n ≤ 100000000000) (hm9 : n' ≤ 100000000000) :
    Calls Tryz.prog 61 #[.slice A n c, .slice B n' d] w (RetDg (x * y) w) := by
  by_cases h0 : n = 0
  · have hx := h.len
    subst h0
    have Hx := Lib.hid (limbs_eq_zero hx)
    clear hx
    go_enter Tryz.func61, Tryz.ntmps61
    go_wp2
    go_ret
    rw [Hx.out, Nat.zero_mul]
    exact ⟨none, 0, rfl, Sl.nil, Below.refl _ _, Own.none _ _⟩
  · have hn0 : ((n : Int) == 0) = false := by rw [beq_eq_false_iff_ne]; omega
    by_cases h1 : n' = 0
    · have hx := k.len
      subst h1
      have Hx := Lib.hid (limbs_eq_zero hx)
      clear hx h0
      go_enter Tryz.func61, Tryz.ntmps61
      go_wp2
      go_ret
      rw [Hx.out, Nat.mul_zero]
      exact ⟨none, 0, rfl, Sl.nil, Below.refl _ _, Own.none _ _⟩
    · exact multiply_pos A B n n' c d x y w h k hn9 hm9 hn0 (by rw [beq_eq_false_iff_ne]; omega) (by omega) (by omega)

end Go.Proofs.YtemcdnppgnobmaaGreatDoor

namespace Go.Proofs.YtemcdnppgnobmaaGreatDoor
open Go.RowKit

/-- A new block of n digits that stand for x (with zeros at the top, maybe). -/
def RetNew (n x : Nat) (w : World) (e : Ending) (w' : World) : Prop :=
  ∃ g xs, e = .returned (.slice (some ⟨g, 0, none⟩) n n) ∧ w.heap.size ≤ g ∧ Blk w' g 66 (cellsOf .u32 xs) ∧ xs.length = n ∧ Low xs ∧ ofL xs = x ∧ Below w.heap.size w w'

def TimesRel (w : World) (n f : Nat) (l : List Nat) (c i : Value) (wr : World) : Prop :=
  ∃ k q : Nat, k ≤ n ∧ q < 1000000000 ∧ c = .int .u64 q ∧ i = .int .i64 k ∧ ∃ xs, Blk wr w.heap.size 66 (cellsOf .u32 xs) ∧ xs.length = n + 1 ∧ Low xs ∧
    ofL (xs.take k) + q * bas ^ k = ofL (l.take k) * f ∧ Below w.heap.size w wr

theorem times_step {X L P f x q d c' : Nat} (h : X + q * P = L * f) (hd : d + c' * bas = x * f + q) : X + P * d + c' * (P * bas) = (L + P * x) * f := by
  have h1 : P * d + c' * (P * bas) = P * (x * f + q) := by
    rw [← hd, Nat.mul_add]; congr 1; rw [Nat.mul_left_comm]
  rw [Nat.mul_add] at h1
  rw [Nat.add_mul, Nat.mul_assoc P x f]
  have := Nat.mul_comm q P
  omega

theorem TimesRel.next {w : World} {n f : Nat} {l : List Nat} {wr : World} {j q : Nat} {xs : List Nat} (hj : j < n) (hblk : Blk wr w.heap.size 66 (cellsOf .u32 xs)) (hlen : xs.length = n + 1) (hlow : Low xs)
    (hsum : ofL (xs.take j) + q * bas ^ j = ofL (l.take j) * f) (hbel : Below w.heap.size w wr) (x : Nat) (hx : l.getD j 0 = x) (hq' : (x * f + q) / 1000000000 < 1000000000)
    {z c i : Value} {u : Int} (hz : z = .int .u32 u) (hu : u = ((x * f + q) % 1000000000 : Nat)) (hc : c = .int .u64 ((x * f + q) / 1000000000 : Nat)) (hi : i = .int .i64 (j + 1 : Nat)) : TimesRel w n f l c i (wr.setCell ⟨w.heap.size, j, none⟩ z) := by
  subst hz
  refine ⟨j + 1, _, by omega, hq', hc, hi, xs.set j _, hblk.put j _ hu, by rw [List.length_set]; exact hlen, hlow.set j (Nat.mod_lt _ bas_pos), ?_, hbel.setCell (Nat.le_refl _) _⟩
  rw [ofL_set_take _ _ _ (by omega), ofL_take_succ, Nat.pow_succ, hx]
  exact times_step hsum (Nat.mod_add_div' _ _)

set_option maxRecDepth 100000 in
set_option maxHeartbeats 800000 in
theorem timesDigit_any (A : Option Addr) (n c f : Nat) (x : Nat) (w : World) (h : Dg w A n x) (hn9 : n ≤ 100000000000) (hf : f < 1000000000) :
    Calls Tryz.prog 91 #[.slice A n c, .int .u32 f] w (RetNew (n + 1) (x * f) w) := by
  have hmk : ∀ W : World, (Instr.makeSlice 22 (.int .i64 ((n : Int) + 1)) (.int .i64 ((n : Int) + 1))).run Tryz.prog W = .ok (.slice (some ⟨W.heap.size, 0, none⟩) (n + 1) (n + 1)) (W.alloc (.cells (cellsOf .u32 (List.replicate (n + 1) 0)) 66)) :=
    fun W => run_makeInts Tryz.underlying22 info_u32 (by omega) .i64 .i64 (n + 1) (by omega) W
  have Hx := Lib.hid (Sl.len h)
  go_enter Tryz.func91, Tryz.ntmps91
  go_wp2
  go_loopw [6, 16] (TimesRel w n f (toL x)) (fun _ i _ => n - (intOf i).toNat)
  case atStart =>
    refine ⟨0, 0, by omega, by omega, rfl, rfl, List.replicate (n + 1) 0, Blk.new _ _ _, by simp, Low.replicate _, by simp [ofL], (Below.refl _ _).alloc (Nat.le_refl _) _⟩
  case round =>
    obtain ⟨j, q, hj, hq, rfl, rfl, xs, hblk, hlen, hlow, hsum, hbel⟩ := hrel
    have Hlen := Lib.hid hlen
    have Hsum := Lib.hid hsum
    clear hsum hlen hmk
    have hco := hblk.num j (by rw [Hlen.out]; omega)
    have hfo := hblk.free j
    by_cases hjn : j < n
    · obtain ⟨b, off, rfl, hbs, ha⟩ := Sl.at h (by omega)
      have hca := (hbel.cell (p := ⟨b, off + j, none⟩) hbs).trans (ha j hjn)
      have hxl : (toL x).getD j 0 < 1000000000 := (low_toL x).get j
      generalize hxa : (toL x).getD j 0 = xa at *
      have Hxa := Lib.hid hxa
      clear ha hxa
      have hxy := mul_le xa f hxl hf
      have hxy' : (xa : Int) * f ≤ 999999998000000001 := by rw [← Int.natCast_mul]; omega
      have hxy0 : 0 ≤ (xa : Int) * f := by rw [← Int.natCast_mul]; omega
      have hdq : (xa * f + q) / 1000000000 < 1000000000 := by omega
      go_wp2
      go_roundw
      case rel =>
        have e3 : ((xa * f + q : Nat) : Int) = (xa : Int) * f + q := by simp only [Int.natCast_add, Int.natCast_mul]
        exact TimesRel.next hjn hblk Hlen.out hlow Hsum.out hbel xa Hxa.out hdq rfl (by rw [← e3]; omega) (by rw [← e3]; go_num) (by go_num)
      case measure => simp [intOf]; omega
    · obtain rfl : j = n := by omega
      have Hfin : Hid (ofL (xs.set j q) = x * f) := by
        have e1 : ofL (xs.set j q) = ofL ((xs.set j q).take (j + 1)) := by rw [List.take_of_length_le (by rw [List.length_set, Hlen.out]; omega)]
        show ofL (xs.set j q) = x * f
        rw [e1, ofL_set_take _ _ _ (by rw [Hlen.out]; omega), Nat.mul_comm, Hsum.out, ofL_take_ge _ _ (by rw [Hx.out]; omega), ofL_toL]
      have hlow' : Low (xs.set j q) := hlow.set j hq
      have hlen' := Lib.hid (show (xs.set j q).length = j + 1 by rw [List.length_set]; exact Hlen.out)
      have hbl := hblk.put j q rfl
      have hbel' := hbel.setCell (p := ⟨w.heap.size, j, none⟩) (Nat.le_refl _) (.int .u32 q)
      go_wp2
      go_ret
      exact ⟨_, _, rfl, Nat.le_refl _, hbl, hlen'.out, hlow', Hfin.out, hbel'⟩

theorem mod_u32 (n : Nat) (h : n < 1000000000) : ((n : Nat) : Int) % 4294967296 = (n : Nat) := by omega

def OverRel (w : World) (n b : Nat) (l : List Nat) (c i : Value) (wr : World) : Prop :=
  ∃ k r : Nat, k ≤ n ∧ r < b ∧ c = .int .u64 r ∧ i = .int .i64 ((k : Int) - 1) ∧ ∃ xs, Blk wr w.heap.size 66 (cellsOf .u32 xs) ∧ xs.length = n ∧ Low xs ∧
    ofL (l.drop k) = ofL (xs.drop k) * b + r ∧ Below w.heap.size w wr

theorem OverRel.next {w : World} {n b : Nat} {l : List Nat} {wr : World} {j r : Nat} {xs : List Nat} (hj : j < n) (hblk : Blk wr w.heap.size 66 (cellsOf .u32 xs)) (hlen : xs.length = n) (hlow : Low xs) (hl : l.length = n) (hb : 0 < b)
    (hsum : ofL (l.drop (j + 1)) = ofL (xs.drop (j + 1)) * b + r) (hbel : Below w.heap.size w wr) (x : Nat) (hx : l.getD j 0 = x) (hq' : (r * 1000000000 + x) / b < 1000000000)
    {z c i : Value} {u : Int} (hz : z = .int .u32 u) (hu : u = ((r * 1000000000 + x) / b : Nat)) (hc : c = .int .u64 ((r * 1000000000 + x) % b : Nat)) (hi : i = .int .i64 ((j : Int) - 1)) : OverRel w n b l c i (wr.setCell ⟨w.heap.size, j, none⟩ z) := by
  subst hz
  refine ⟨j, _, by omega, Nat.mod_lt _ hb, hc, hi, xs.set j _, hblk.put j _ hu, by rw [List.length_set]; exact hlen, hlow.set j hq', ?_, hbel.setCell (Nat.le_refl _) _⟩
  rw [ofL_set_drop _ _ _ (by omega), ofL_drop _ _ (by omega), hx]
  exact div_step hsum (by rw [Nat.mul_comm]; exact Nat.div_add_mod _ _)

def RetQr (q r : Nat) (w : World) (e : Ending) (w' : World) : Prop := ∃ A n, e = .returned (.tuple #[.slice A n n, .int .u32 r]) ∧ Dg w' A n q ∧ Below w.heap.size w w' ∧ Own w.heap.size w' A n q

set_option maxRecDepth 100000 in
set_option maxHeartbeats 800000 in
theorem overDigit_any (A : Option Addr) (n c b : Nat) (l : List Nat) (w : World) (h : Sl .u32 w A n l) (hlow0 : Low l) (hn9 : n ≤ 100000000000) (hb : b < 1000000000) (hb0 : 0 < b) :
    Calls Tryz.prog 70 #[.slice A n c, .int .u32 b] w (RetQr (ofL l / b) (ofL l % b) w) := by
  have hmk : ∀ W : World, (Instr.makeSlice 22 (.int .i64 (n : Int)) (.int .i64 (n : Int))).run Tryz.prog W = .ok (.slice (some ⟨W.heap.size, 0, none⟩) n n) (W.alloc (.cells (cellsOf .u32 (List.replicate n 0)) 66)) :=
    fun W => run_makeInts Tryz.underlying22 info_u32 (by omega) .i64 .i64 n (by omega) W
  have Hx := Lib.hid (Sl.len h)
  go_enter Tryz.func70, Tryz.ntmps70
  go_wp2
  go_loopw [7, 8] (OverRel w n b l) (fun _ i _ => (intOf i + 1).toNat)
  case atStart =>
    refine ⟨n, 0, by omega, by omega, rfl, by go_num, List.replicate n 0, Blk.new _ _ _, by simp, Low.replicate _, ?_, (Below.refl _ _).alloc (Nat.le_refl _) _⟩
    rw [List.drop_of_length_le (by rw [Hx.out]; omega), List.drop_of_length_le (by simp)]
    simp [ofL]
  case round =>
    obtain ⟨k, r, hk, hr, rfl, rfl, xs, hblk, hlen, hlow, hsum, hbel⟩ := hrel
    have Hlen := Lib.hid hlen
    have Hsum := Lib.hid hsum
    clear hsum hlen hmk
    by_cases hk0 : k = 0
    · subst hk0
      have Hd := Lib.hid (show ofL l = ofL xs * b + r from Hsum.out)
      have Hq : Hid (ofL l / b = ofL xs) := by
        show ofL l / b = ofL xs
        rw [Hd.out, Nat.mul_comm, Nat.mul_add_div hb0, Nat.div_eq_of_lt hr, Nat.add_zero]
      have Hr : Hid (ofL l % b = r) := by
        show ofL l % b = r
        rw [Hd.out, Nat.mul_comm, Nat.mul_add_mod, Nat.mod_eq_of_lt hr]
      have hr' : r < 4294967296 := by omega
      go_wp2_with fail
      refine (cut_any w.heap.size n n xs _ (Bl.of_blk hblk Hlen.out (by omega)) hlow (by omega)).mono ?_
      rintro e w1 ⟨A1, n1, rfl, hd1, hb1, hf1⟩
      have hfin := hbel.trans (hb1.mono hbel.size)
      clear hb1 hblk hbel
      go_wp2
      go_ret2
      rw [Hq.out, Hr.out]
      exact ⟨A1, n1, rfl, hd1, hfin, hf1⟩
    · obtain ⟨j, rfl⟩ : ∃ j, k = j + 1 := ⟨k - 1, by omega⟩
      obtain ⟨b', off, rfl, hbs, ha⟩ := Sl.at h (by omega)
      have hca := (hbel.cell (p := ⟨b', off + j, none⟩) hbs).trans (ha j (by omega))
      have hxl : l.getD j 0 < 1000000000 := hlow0.get j
      have hco := hblk.num j (by rw [Hlen.out]; omega)
      have hfo := hblk.free j
      generalize hxa : l.getD j 0 = xa at *
      have Hxa := Lib.hid hxa
      clear ha hxa
      have hdq : (r * 1000000000 + xa) / b < 1000000000 := div_digit hr hxl
      have hdr : (r * 1000000000 + xa) % b < b := Nat.mod_lt _ hb0
      rw [show (((j + 1 : Nat) : Int) - 1) = (j : Int) from by omega]
      have e3 : (((r * 1000000000 + xa) / b : Nat) : Int) = ((r : Int) * 1000000000 + xa) / b := rfl
      have e4 : (((r * 1000000000 + xa) % b : Nat) : Int) = ((r : Int) * 1000000000 + xa) % b := rfl
      have E3 := Lib.hid e3
      have E4 := Lib.hid e4
      clear e3 e4
      go_wp2
      go_roundw
      case rel =>
        exact OverRel.next (by omega) hblk Hlen.out hlow Hx.out hb0 Hsum.out hbel xa Hxa.out hdq rfl (by rw [← E3.out]; exact mod_u32 _ hdq) (by rw [← E4.out]) rfl
      case measure => simp [intOf]

end Go.Proofs.YtemcdnppgnobmaaGreatDoor
