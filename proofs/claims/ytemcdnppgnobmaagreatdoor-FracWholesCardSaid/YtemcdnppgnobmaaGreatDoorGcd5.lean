/-
  The walk of frac's add.
  The walks of frac's clone and combine.
  The walk of frac's combine.
-/
import Derived.Test.YtemcdnppgnobmaaGreatDoorDig3
import Derived.Test.YtemcdnppgnobmaaGreatDoorGcd3
import Derived.Test.YtemcdnppgnobmaaGreatDoorZer
set_option linter.unusedVariables false
namespace Go.Proofs.YtemcdnppgnobmaaGreatDoor
open Go.RowKit

theorem info_u32 : (Tryz.prog.info? 66).map (fun i => (i.zero, i.size, i.bytes)) = some (some (.int .u32 0), 1, 4) := by kernel_rfl

def AddRel (w : World) (n : Nat) (l m : List Nat) (c i : Value) (wr : World) : Prop :=
  ∃ k q : Nat, k ≤ n ∧ q ≤ 1 ∧ c = .int .u32 q ∧ i = .int .i64 k ∧ ∃ xs, Blk wr w.heap.size 66 (cellsOf .u32 xs) ∧ xs.length = n + 1 ∧ Low xs ∧
    ofL (xs.take k) + q * bas ^ k = ofL (l.take k) + ofL (m.take k) ∧ Below w.heap.size w wr

theorem AddRel.next {w : World} {n : Nat} {l m : List Nat} {wr : World} {j q : Nat} {xs : List Nat} (hj : j < n) (hblk : Blk wr w.heap.size 66 (cellsOf .u32 xs)) (hlen : xs.length = n + 1) (hlow : Low xs)
    (hsum : ofL (xs.take j) + q * bas ^ j = ofL (l.take j) + ofL (m.take j)) (hbel : Below w.heap.size w wr) (s d q' : Nat) (hs : s = l.getD j 0 + q + m.getD j 0) (hd : d + q' * 1000000000 = s) (hd' : d < 1000000000) (hq' : q' ≤ 1)
    {z c i : Value} {u : Int} (hz : z = .int .u32 u) (hu : u = (d : Nat)) (hc : c = .int .u32 q') (hi : i = .int .i64 (j + 1 : Nat)) : AddRel w n l m c i (wr.setCell ⟨w.heap.size, j, none⟩ z) := by
  subst hz
  refine ⟨j + 1, q', by omega, hq', hc, hi, xs.set j d, hblk.put j d hu, by rw [List.length_set]; exact hlen, hlow.set j hd', ?_, hbel.setCell (Nat.le_refl _) _⟩
  rw [ofL_set_take _ _ _ (by omega), ofL_take_succ, ofL_take_succ, Nat.pow_succ]
  exact add_step hsum hs hd

set_option maxRecDepth 100000 in
set_option maxHeartbeats 800000 in
theorem add_both (A B : Option Addr) (n n' c d : Nat) (x y : Nat) (w : World) (h : Dg w A n x) (k : Dg w B n' y) (hge : n' ≤ n) (hn9 : n ≤ 100000000000) :
    Calls Tryz.prog 46 #[.slice A n c, .slice B n' d] w (RetDg (x + y) w) ∧
    (n' < n → Calls Tryz.prog 46 #[.slice B n' d, .slice A n c] w (RetDg (x + y) w)) := by
  have hmk : ∀ W : World, (Instr.makeSlice 22 (.int .i64 ((n : Int) + 1)) (.int .i64 ((n : Int) + 1))).run Tryz.prog W = .ok (.slice (some ⟨W.heap.size, 0, none⟩) (n + 1) (n + 1)) (W.alloc (.cells (cellsOf .u32 (List.replicate (n + 1) 0)) 66)) :=
    fun W => run_makeInts Tryz.underlying22 info_u32 (by omega) .i64 .i64 (n + 1) (by omega) W
  have Hx := Lib.hid (Sl.len h)
  have Hy := Lib.hid (Sl.len k)
  refine ⟨?_, fun hlt => ?_⟩
  all_goals
    go_enter Tryz.func46, Tryz.ntmps46
    go_wp2
    go_loopw [6, 23] (AddRel w n (toL x) (toL y)) (fun _ i _ => n - (intOf i).toNat)
    case atStart =>
      refine ⟨0, 0, by omega, by omega, rfl, rfl, List.replicate (n + 1) 0, Blk.new _ _ _, by simp, Low.replicate _, by simp [ofL], (Below.refl _ _).alloc (Nat.le_refl _) _⟩
    case round =>
      obtain ⟨j, q, hj, hq, rfl, rfl, xs, hblk, hlen, hlow, hsum, hbel⟩ := hrel
      have Hlen := Lib.hid hlen
      have Hsum := Lib.hid hsum
      clear hsum hlen hmk
      by_cases hjn : j < n
      · obtain ⟨b, off, rfl, hbs, ha⟩ := Sl.at h (by omega)
        have hca := (hbel.cell (p := ⟨b, off + j, none⟩) hbs).trans (ha j hjn)
        have hxl : (toL x).getD j 0 < 1000000000 := (low_toL x).get j
        have hco := hblk.num j (by rw [Hlen.out]; omega)
        have hfo := hblk.free j
        generalize hxa : (toL x).getD j 0 = xa at *
        have Hxa := Lib.hid hxa
        clear ha hxa
        by_cases hjm : j < n'
        · obtain ⟨b', off', rfl, hbs', ha'⟩ := Sl.at k (by omega)
          have hcb := (hbel.cell (p := ⟨b', off' + j, none⟩) hbs').trans (ha' j hjm)
          have hyl : (toL y).getD j 0 < 1000000000 := (low_toL y).get j
          generalize hya : (toL y).getD j 0 = ya at *
          have Hya := Lib.hid hya
          clear ha' hya
          by_cases hbig : (1000000000 : Int) ≤ xa + q + ya
          · go_wp2
            go_roundw
            case rel => exact AddRel.next hjn hblk Hlen.out hlow Hsum.out hbel _ (xa + q + ya - 1000000000) 1 rfl (by have e1 := Hxa.out; have e2 := Hya.out; omega) (by omega) (by omega) rfl (by omega) rfl (by go_num)
            case measure => simp [intOf]; omega
          · go_wp2
            go_roundw
            case rel => exact AddRel.next hjn hblk Hlen.out hlow Hsum.out hbel _ (xa + q + ya) 0 rfl (by have e1 := Hxa.out; have e2 := Hya.out; omega) (by omega) (by omega) rfl (by omega) rfl (by go_num)
            case measure => simp [intOf]; omega
        · have Hya : Hid ((toL y).getD j 0 = 0) := by
            show _ = 0
            rw [List.getD_eq_getElem?_getD, List.getElem?_eq_none (by rw [Hy.out]; omega)]; rfl
          by_cases hbig : (1000000000 : Int) ≤ xa + q
          · go_wp2
            go_roundw
            case rel => exact AddRel.next hjn hblk Hlen.out hlow Hsum.out hbel _ (xa + q - 1000000000) 1 rfl (by have e1 := Hxa.out; have e2 := Hya.out; omega) (by omega) (by omega) rfl (by omega) rfl (by go_num)
            case measure => simp [intOf]; omega
          · go_wp2
            go_roundw
            case rel => exact AddRel.next hjn hblk Hlen.out hlow Hsum.out hbel _ (xa + q) 0 rfl (by have e1 := Hxa.out; have e2 := Hya.out; omega) (by omega) (by omega) rfl (by omega) rfl (by go_num)
            case measure => simp [intOf]; omega
      · obtain rfl : j = n := by omega
        have hco := hblk.num j (by rw [Hlen.out]; omega)
        have hfo := hblk.free j
        have Hfin : Hid (ofL (xs.set j q) = x + y) := by
          have e1 : ofL (xs.set j q) = ofL ((xs.set j q).take (j + 1)) := by rw [List.take_of_length_le (by rw [List.length_set, Hlen.out]; omega)]
          show ofL (xs.set j q) = x + y
          rw [e1, ofL_set_take _ _ _ (by rw [Hlen.out]; omega), Nat.mul_comm, Hsum.out, ofL_take_ge _ _ (by rw [Hx.out]; omega), ofL_take_ge _ _ (by rw [Hy.out]; omega), ofL_toL, ofL_toL]
        have hlow' : Low (xs.set j q) := hlow.set j (Nat.lt_of_le_of_lt hq (by decide))
        have hlen' := Lib.hid (show (xs.set j q).length = j + 1 by rw [List.length_set]; exact Hlen.out)
        have hbl := hblk.put j q rfl
        have hbel' := hbel.setCell (p := ⟨w.heap.size, j, none⟩) (Nat.le_refl _) (.int .u32 q)
        go_wp2_with fail
        refine (cut_any w.heap.size (j + 1) (j + 1) (xs.set j q) _ (Bl.of_blk hbl hlen'.out (by omega)) hlow' (by omega)).mono ?_
        rintro e w1 ⟨A1, n1, rfl, hd1, hb1, hf1⟩
        rw [Hfin.out] at hd1 hf1
        have hfin := hbel'.trans (hb1.mono hbel'.size)
        clear hb1 hbel' hbl hlen' hlow' hblk hco hfo hbel
        go_wp2
        go_ret
        exact ⟨A1, n1, rfl, hd1, hfin, hf1⟩

theorem add_any (A B : Option Addr) (n n' c d : Nat) (x y : Nat) (w : World) (h : Dg w A n x) (k : Dg w B n' y) (hn9 : n ≤ 100000000000) (hn9' : n' ≤ 100000000000) :
    Calls Tryz.prog 46 #[.slice A n c, .slice B n' d] w (RetDg (x + y) w) := by
  by_cases hge : n' ≤ n
  · exact (add_both A B n n' c d x y w h k hge hn9).1
  · have := (add_both B A n' n d c y x w k h (by omega) hn9').2 (by omega)
    rwa [Nat.add_comm] at this

end Go.Proofs.YtemcdnppgnobmaaGreatDoor

namespace Go.Proofs.YtemcdnppgnobmaaGreatDoor
open Go.RowKit

theorem run_makeInts0 {P : Program} {t e : TypeId} {k : IntKind} {by' : Nat} (ht : P.underlying t = some (.slice e))
    (hi : (P.info? e).map (fun i => (i.zero, i.size, i.bytes)) = some (some (.int k 0), 1, by')) (hby : by' ≤ 8) (kl kc : IntKind) (n : Nat) (hn : n ≤ 17592186044416) (w : World) :
    (Instr.makeSlice t (.int kl 0) (.int kc (n : Int))).run P w = .ok (.slice (some ⟨w.heap.size, 0, none⟩) 0 n) (w.alloc (.cells (cellsOf k (List.replicate n 0)) e)) := by
  obtain ⟨i0, h0, hz, hs, hb⟩ := info_parts hi
  have hbb : (i0.bytes : Int) * n ≤ 281474976710656 := by
    rw [hb]
    have h8 : (by' : Int) * n ≤ 8 * n := Int.mul_le_mul_of_nonneg_right (by omega) (by omega)
    omega
  have hr := run_make (P := P) w t e i0 _ ht h0 hz kl kc 0 n (by omega) (by omega) hbb (by omega)
  rw [hs, Nat.mul_one, Int.toNat_natCast, cellsOf_made] at hr
  exact hr

set_option maxRecDepth 100000 in
theorem clone_any (A : Option Addr) (n c x : Nat) (w : World) (h : Dg w A n x) (hn : n ≤ 100000000000) :
    Calls Tryz.prog 64 #[.slice A n c] w (RetDg x w) := by
  have hmk := run_makeInts0 (P := Tryz.prog) Tryz.underlying22 info_u32 (by omega) .i64 .i64 n (by omega) w
  obtain ⟨w2, happ, hb2, hon⟩ := run_append_fill (P := Tryz.prog) (t := 22) (t' := 23) (ty := 22) Tryz.underlying22 Tryz.underlying23 info_u32 w.heap.size n c A (List.replicate n 0) (toL x) (w.alloc (.cells (cellsOf .u32 (List.replicate n 0)) 66)) (Blk.new _ _ _) (by simp) (Sl.below h ((Below.refl _ _).alloc (Nat.le_refl _) _))
  have hbel : Below w.heap.size w w2 := ((Below.refl _ _).alloc (Nat.le_refl _) _).trans (hon.below (Nat.le_refl _))
  have Hn := Lib.hid (Sl.len h)
  have Happ := Lib.hid happ
  clear happ
  go_enter Tryz.func64, Tryz.ntmps64
  go_wp2_with (at_builtin; refine wpList_append_run rfl rfl rfl rfl Happ.out ?_)
  refine (cut_any w.heap.size n n (toL x) w2 (Bl.of_blk hb2 Hn.out (by omega)) (low_toL x) (Nat.le_refl _)).mono ?_
  rintro e w3 ⟨A1, n1, rfl, hd1, hb3, hf1⟩
  rw [ofL_toL] at hd1 hf1
  have hfin := hbel.trans (hb3.mono hbel.size)
  clear hb3 hbel
  go_wp2
  go_ret
  exact ⟨A1, n1, rfl, hd1, hfin, hf1⟩

/-- A digits value that is nil, or the head of block g. -/
def OwnAt (g : Nat) (w : World) (A : Option Addr) (n x : Nat) : Prop :=
  (A = none ∧ n = 0 ∧ x = 0) ∨ (A = some ⟨g, 0, none⟩ ∧ ∃ xs, Blk w g 66 (cellsOf .u32 xs) ∧ xs.take n = toL x ∧ n ≤ xs.length ∧ 0 < n)

theorem OwnAt.below {g B : Nat} {w w' : World} {A : Option Addr} {n x : Nat} (h : OwnAt g w A n x) (hb : Below B w w') (hg : g < B) : OwnAt g w' A n x := by
  rcases h with h | ⟨h1, xs, h2, h3⟩
  · exact Or.inl h
  · exact Or.inr ⟨h1, xs, h2.below hb hg, h3⟩
theorem Own.at {B : Nat} {w : World} {A : Option Addr} {n x : Nat} (h : Own B w A n x) (hB : B ≤ w.heap.size) : ∃ g, B ≤ g ∧ g ≤ w.heap.size ∧ OwnAt g w A n x := by
  rcases h with h | ⟨g, xs, h1, h2, h3, h4⟩
  · exact ⟨B, Nat.le_refl _, hB, Or.inl h⟩
  · exact ⟨g, h2, Nat.le_of_lt h3.lt, Or.inr ⟨h1, xs, h3, h4⟩⟩
theorem OwnAt.dg {g : Nat} {w : World} {A : Option Addr} {n x : Nat} (h : OwnAt g w A n x) (hn : n ≤ 4611686018427387904) : Dg w A n x := by
  rcases h with ⟨rfl, rfl, rfl⟩ | ⟨rfl, xs, h2, h3, h4, _⟩
  · exact Sl.nil
  · unfold Dg
    rw [← h3]
    have := (Bl.of_blk (n := xs.length) (k := .u32) (t := 66) (w := w) (g := g) h2 rfl)
    refine ⟨by rw [List.length_take]; omega, hn, fun _ => ⟨g, 0, rfl, h2.lt, fun i hi => ?_⟩⟩
    rw [Nat.zero_add, h2.num i (by omega)]
    simp [List.getD_eq_getElem?_getD, hi]

/-- cut at the head of a block that may be longer. -/
def RetHead (x g : Nat) (w : World) (e : Ending) (w' : World) : Prop := ∃ A n, e = .returned (.slice A n n) ∧ Dg w' A n x ∧ Drew w w' ∧ OwnAt g w' A n x

theorem cut_head (g n cap : Nat) (xs : List Nat) (w : World) (hb : Blk w g 66 (cellsOf .u32 xs)) (hn : n ≤ xs.length) (hm : n ≤ 4611686018427387904) (hlow : Low (xs.take n)) (hcap : n ≤ cap) :
    Calls Tryz.prog 72 #[.slice (some ⟨g, 0, none⟩) n cap] w (RetHead (ofL (xs.take n)) g w) := by
  have hs : Sl .u32 w (some ⟨g, 0, none⟩) n (xs.take n) := by
    refine ⟨by rw [List.length_take]; omega, hm, fun _ => ⟨g, 0, rfl, hb.lt, fun i hi => ?_⟩⟩
    rw [Nat.zero_add, hb.num i (by omega)]
    simp [List.getD_eq_getElem?_getD, hi]
  refine (cut_at (some ⟨g, 0, none⟩) n cap (xs.take n) w hs hlow hcap).mono ?_
  rintro e w' ⟨A', m, he, hd, ⟨q, rfl⟩, hA⟩
  refine ⟨A', m, he, hd, ⟨q, rfl⟩, ?_⟩
  rcases hA with ⟨rfl, rfl⟩ | ⟨rfl, hm0⟩
  · exact Or.inl ⟨rfl, rfl, limbs_eq_zero (Sl.len hd)⟩
  · have hlm : limbs (ofL (xs.take n)) = m := Sl.len hd
    have hmn : m ≤ n := by
      have h1 := length_trim_le (xs.take n)
      rw [trim_eq_toL hlow, List.length_take] at h1
      have h2 : limbs (ofL (xs.take n)) ≤ min n xs.length := h1
      omega
    refine Or.inr ⟨rfl, xs, hb.drewN q, ?_, by omega, hm0⟩
    have h3 := take_trim hlow
    rw [hlm, List.take_take, Nat.min_eq_left hmn, trim_eq_toL hlow] at h3
    exact h3

/-- A row of combine: the digits so far. -/
def ComRow (e f : Int) (k : Nat) (xs0 ys0 zs0 zs : List Nat) (c : Int) : Prop :=
  zs.length = zs0.length ∧ Low (zs.take k) ∧ zs.drop k = zs0.drop k ∧ (ofL (zs.take k) : Int) + c * (bas ^ k : Nat) = e * ofL (xs0.take k) + f * ofL (ys0.take k) ∧ -8589934592 ≤ c ∧ c ≤ 8589934592

theorem com_step {Z c P X Y x y d c' e f : Int} (h : Z + c * P = e * X + f * Y) (hd : d + c' * 1000000000 = e * x + f * y + c) :
    Z + P * d + c' * (P * 1000000000) = e * (X + P * x) + f * (Y + P * y) := by
  have h1 : P * (d + c' * 1000000000) = P * (e * x + f * y + c) := by rw [hd]
  rw [Int.mul_add, Int.mul_add, Int.mul_add] at h1
  have a1 : P * (c' * 1000000000) = c' * (P * 1000000000) := Int.mul_left_comm ..
  have a2 : P * (e * x) = e * (P * x) := Int.mul_left_comm ..
  have a3 : P * (f * y) = f * (P * y) := Int.mul_left_comm ..
  have a4 : P * c = c * P := Int.mul_comm ..
  rw [Int.mul_add e, Int.mul_add f]
  omega

theorem ComRow.next {e f : Int} {k : Nat} {xs0 ys0 zs0 zs : List Nat} {c : Int} (h : ComRow e f k xs0 ys0 zs0 zs c) (hk : k < zs0.length) (x y : Nat) (hx : xs0.getD k 0 = x) (hy : ys0.getD k 0 = y)
    (s : Int) (hs : s = e * x + f * y + c) (hb : -8589934592 ≤ s / 1000000000 ∧ s / 1000000000 ≤ 8589934592) : ComRow e f (k + 1) xs0 ys0 zs0 (zs.set k (s % 1000000000).toNat) (s / 1000000000) := by
  obtain ⟨a1, a2, a3, a4, a5⟩ := h
  have hm0 := Int.emod_nonneg s (show (1000000000 : Int) ≠ 0 by omega)
  have hm1 := Int.emod_lt_of_pos s (show (0 : Int) < 1000000000 by omega)
  refine ⟨by rw [List.length_set]; exact a1, ?_, ?_, ?_, hb⟩
  · rw [take_snoc _ _ (by rw [List.length_set]; omega), List.take_set_of_le (Nat.le_refl _)]
    refine a2.append (Low.cons ?_ Low.nil)
    rw [getD_set_self _ _ _ (by omega)]
    show _ < 1000000000
    omega
  · rw [drop_set_of_lt _ _ _ _ (by omega)]
    exact drop_of_drop a3 (by omega)
  · rw [ofL_set_take _ _ _ (by omega), ofL_take_succ xs0, ofL_take_succ ys0, hx, hy, Nat.pow_succ]
    have e1 : (((s % 1000000000).toNat : Nat) : Int) = s % 1000000000 := Int.toNat_of_nonneg hm0
    have := com_step (d := s % 1000000000) (c' := s / 1000000000) a4 (by rw [← hs]; omega)
    simp only [Int.natCast_add, Int.natCast_mul, e1]
    exact this

/-- The end of a row: no carry is left. -/
theorem ComRow.fin {e f : Int} {n : Nat} {xs0 ys0 zs0 zs : List Nat} {c : Int} (h : ComRow e f n xs0 ys0 zs0 zs c) (hn : n ≤ zs0.length) {v : Nat} (hv : e * ofL (xs0.take n) + f * ofL (ys0.take n) = (v : Nat)) (hb : v < bas ^ n) : ofL (zs.take n) = v := by
  obtain ⟨a1, a2, a3, a4, a5⟩ := h
  have h1 := ofL_lt a2
  rw [List.length_take, Nat.min_eq_left (by omega)] at h1
  rw [hv] at a4
  generalize ofL (zs.take n) = Z at *
  generalize bas ^ n = P at *
  by_cases hc0 : c = 0
  · subst hc0; omega
  · exfalso
    by_cases hp : 0 < c
    · have : 1 * (P : Int) ≤ c * P := Int.mul_le_mul_of_nonneg_right (by omega) (by omega)
      omega
    · have : c * (P : Int) ≤ -1 * P := Int.mul_le_mul_of_nonneg_right (by omega) (by omega)
      omega

end Go.Proofs.YtemcdnppgnobmaaGreatDoor

namespace Go.Proofs.YtemcdnppgnobmaaGreatDoor
open Go.RowKit

theorem getD_take_lt (l : List Nat) (n i : Nat) (h : i < n) : (l.take n).getD i 0 = l.getD i 0 := by
  simp [List.getD_eq_getElem?_getD, h]
theorem low_getD {l : List Nat} {n i : Nat} (h : Low (l.take n)) (hi : i < n) : l.getD i 0 < 1000000000 := by
  have := h.get i
  rwa [getD_take_lt l n i hi] at this

/-- What combine appends zeros to. -/
theorem short_row (g m n y : Nat) (B : Option Addr) (w : World) (h : OwnAt g w B m y) (hm : 0 < m) (hmn : m ≤ n) (hn : n ≤ 100000000000) :
    ∃ C w2 gs ys, (Builtin.append_ #[23, 3] 23 #[.slice B m m, .int .i64 ((n : Int) - m)]).run Tryz.prog w = .ok (.slice (some ⟨gs, 0, none⟩) n C) w2 ∧ n ≤ C ∧
      Blk w2 gs 66 (cellsOf .u32 ys) ∧ ofL (ys.take n) = y ∧ Low (ys.take n) ∧ n ≤ ys.length ∧ (gs = g ∨ gs = w.heap.size) ∧ Below w.heap.size w w2 := by
  rcases h with ⟨_, h0, _⟩ | ⟨rfl, xs, hb, hx, hl, _⟩
  · omega
  · have hsl : Sl .u32 w (some ⟨g, 0, none⟩) m (toL y) := OwnAt.dg (Or.inr ⟨rfl, xs, hb, hx, hl, hm⟩) (by omega)
    by_cases he : m = n
    · subst he
      refine ⟨m, w, g, xs, ?_, Nat.le_refl _, hb, by rw [hx, ofL_toL], by rw [hx]; exact low_toL y, hl, Or.inl rfl, Below.refl _ _⟩
      obtain ⟨i, hi0, _, _, hby⟩ := info_parts info_u32
      have hw0 : IntKind.i64.wrap 0 = 0 := rfl
      rw [Int.sub_self]
      simp [Builtin.append_, run_underlying Tryz.underlying23, run_underlying Tryz.underlying3, sizeOf, typeInfo, hi0, hby, asInt, asIntOf, hw0, storeCells]
    · obtain ⟨C, w2, r, h1, h2, h3, h4, h5⟩ := run_append_zeros (P := Tryz.prog) (t := 23) (u := 3) (ty := 23) Tryz.underlying23 Tryz.underlying3 info_u32 (by omega) m (n - m) (some ⟨g, 0, none⟩) (toL y) w hsl hm (by omega) (by omega)
      rw [show ((n - m : Nat) : Int) = (n : Int) - m by omega, show m + (n - m) = n by omega] at h1
      have hlen : (toL y).length = m := hsl.len
      refine ⟨C, w2, w.heap.size, _, h1, by omega, h4, ?_, ?_, by simp; omega, Or.inr rfl, h5⟩
      · rw [List.take_append, List.take_of_length_le (by omega), List.take_replicate, ofL_append, ofL_toL, ofL_replicate, Nat.mul_zero, Nat.add_zero]
      · exact ((low_toL y).append (Low.replicate r)).take n

def ComRel (w : World) (B0 ga gs gm n : Nat) (aa ab ba bb : Int) (xs0 ys0 : List Nat) (cA cB iv : Value) (wr : World) : Prop :=
  ∃ k a b xs ys, k ≤ n ∧ cA = .int .i64 a ∧ cB = .int .i64 b ∧ iv = .int .i64 (k : Nat) ∧ Blk wr ga 66 (cellsOf .u32 xs) ∧ Blk wr gs 66 (cellsOf .u32 ys) ∧ Blk wr gm 92 (fourOf aa ab ba bb) ∧
    ComRow aa ab k xs0 ys0 xs0 xs a ∧ ComRow ba bb k xs0 ys0 ys0 ys b ∧ Below B0 w wr

def RetCom (B0 x' y' : Nat) (w : World) (e : Ending) (w' : World) : Prop :=
  ∃ g1 g2 A1 n1 A2 n2, e = .returned (.tuple #[.slice A1 n1 n1, .slice A2 n2 n2]) ∧ Dg w' A1 n1 x' ∧ Dg w' A2 n2 y' ∧ OwnAt g1 w' A1 n1 x' ∧ OwnAt g2 w' A2 n2 y' ∧ g1 ≠ g2 ∧ B0 ≤ g1 ∧ B0 ≤ g2 ∧ g1 < w'.heap.size ∧ g2 < w'.heap.size ∧ Below B0 w w'

theorem prod_bounds {e : Int} {x : Nat} (h1 : -2147483648 ≤ e) (h2 : e ≤ 2147483648) (hx : x < 1000000000) : -2147483648000000000 ≤ e * x ∧ e * x ≤ 2147483648000000000 := by
  have a1 : e * x ≤ 2147483648 * x := Int.mul_le_mul_of_nonneg_right h2 (by omega)
  have a2 : -2147483648 * (x : Int) ≤ e * x := Int.mul_le_mul_of_nonneg_right h1 (by omega)
  omega

set_option maxRecDepth 100000 in
set_option maxHeartbeats 1600000 in
theorem combine_any (B0 ga gb n m x y x' y' : Nat) (aa ab ba bb : Int) (A B : Option Addr) (w : World) (hA : OwnAt ga w A n x) (hB : OwnAt gb w B m y) (hgg : ga ≠ gb) (h0a : B0 ≤ ga) (h0b : B0 ≤ gb) (h0w : B0 ≤ w.heap.size) (hn0 : 0 < n) (hm0 : 0 < m) (hmn : m ≤ n) (hn9 : n ≤ 100000000000)
    (b1 : -2147483648 ≤ aa ∧ aa ≤ 2147483648) (b2 : -2147483648 ≤ ab ∧ ab ≤ 2147483648) (b3 : -2147483648 ≤ ba ∧ ba ≤ 2147483648) (b4 : -2147483648 ≤ bb ∧ bb ≤ 2147483648)
    (hx' : aa * x + ab * y = (x' : Nat)) (hy' : ba * x + bb * y = (y' : Nat)) (hxb : x' < bas ^ n) (hyb : y' < bas ^ n) :
    Calls Tryz.prog 67 #[.slice A n n, .slice B m m, .agg #[.int .i64 aa, .int .i64 ab, .int .i64 ba, .int .i64 bb]] w (RetCom B0 x' y' w) := by
  rcases hA with ⟨_, hh, _⟩ | ⟨rfl, xs0, hxb0, hxt, hxl, _⟩
  · omega
  have hga := hxb0.lt
  have hgb : gb < w.heap.size := by
    rcases hB with ⟨_, hh, _⟩ | ⟨_, ys, hb, _⟩
    · omega
    · exact hb.lt
  have hbox := Blk.new w 92 (fourOf aa ab ba bb)
  have hbel0 : Below w.heap.size w (w.alloc (.cells (fourOf aa ab ba bb) 92)) := (Below.refl _ _).alloc (Nat.le_refl _) _
  obtain ⟨C, w2, gs, ys0, happ, hC, hys, hyv, hylow, hyl, hgs, hbel2⟩ := short_row gb m n y B (w.alloc (.cells (fourOf aa ab ba bb) 92)) (hB.below hbel0 hgb) hm0 hmn hn9
  have hsz : (w.alloc (.cells (fourOf aa ab ba bb) 92)).heap.size = w.heap.size + 1 := by simp
  rw [hsz] at hgs
  have hx2 := (hxb0.below hbel0 hga).below hbel2 (by rw [hsz]; omega)
  have hm2 := hbox.below hbel2 (by rw [hsz]; omega)
  have hbel : Below B0 w w2 := (hbel0.mono h0w).trans (hbel2.mono (by rw [hsz]; omega))
  have hgas : ga ≠ gs := by omega
  have hgms : w.heap.size ≠ gs := by omega
  have h0s : B0 ≤ gs := by omega
  have Happ := Lib.hid happ
  have Hxt := Lib.hid hxt
  have Hyv := Lib.hid hyv
  have Hx' := Lib.hid hx'
  have Hy' := Lib.hid hy'
  have hxlow : Low (xs0.take n) := by rw [hxt]; exact low_toL x
  have HB0 := Lib.hid hsz
  clear happ hxt hyv hx' hy' hsz hbel0 hbox hbel2 hB hgs
  obtain ⟨b1l, b1u⟩ := b1
  obtain ⟨b2l, b2u⟩ := b2
  obtain ⟨b3l, b3u⟩ := b3
  obtain ⟨b4l, b4u⟩ := b4
  go_enter Tryz.func67, Tryz.ntmps67
  go_wp2_with (at_builtin; refine wpList_append_run rfl rfl rfl rfl Happ.out ?_)
  go_loopw [10, 11, 25] (ComRel w B0 ga gs w.heap.size n aa ab ba bb xs0 ys0) (fun _ _ i _ => n - (intOf i).toNat)
  case atStart =>
    exact ⟨0, 0, 0, xs0, ys0, by omega, rfl, rfl, rfl, hx2, hys, hm2, ⟨rfl, Low.nil, rfl, by simp [ofL], by omega, by omega⟩, ⟨rfl, Low.nil, rfl, by simp [ofL], by omega, by omega⟩, hbel⟩
  case round =>
    obtain ⟨k, a, b, xs, ys, hk, rfl, rfl, rfl, hbx, hby, hbm, hra, hrb, hbl⟩ := hrel
    have Hra := Lib.hid hra
    have Hrb := Lib.hid hrb
    obtain ⟨_, _, _, _, a1, a2⟩ := hra
    obtain ⟨_, _, _, _, a3, a4⟩ := hrb
    clear hx2 hys hm2 hbel
    by_cases hkn : k < n
    · have c0 := hbm.cell 0
      have c1 := hbm.cell 1
      have c2 := hbm.cell 2
      have c3 := hbm.cell 3
      simp only [fourOf] at c0 c1 c2 c3
      have x1 := hbx.num k (by rw [Hra.out.1]; omega)
      have y1 := hby.num k (by rw [Hrb.out.1]; omega)
      rw [getD_of_drop Hra.out.2.2.1 (Nat.le_refl _)] at x1
      rw [getD_of_drop Hrb.out.2.2.1 (Nat.le_refl _)] at y1
      have fx := hbx.free k
      have fy := hby.free k
      have lx := low_getD hxlow hkn
      have ly := low_getD hylow hkn
      generalize hxv : xs0.getD k 0 = xv at *
      generalize hyv : ys0.getD k 0 = yv at *
      have Hxv := Lib.hid hxv
      have Hyv' := Lib.hid hyv
      clear hxv hyv
      obtain ⟨p1, p2⟩ := prod_bounds b1l b1u lx
      obtain ⟨p3, p4⟩ := prod_bounds b2l b2u ly
      obtain ⟨p5, p6⟩ := prod_bounds b3l b3u lx
      obtain ⟨p7, p8⟩ := prod_bounds b4l b4u ly
      go_wp2_with fail
      go_quiet (fail)
      go_wp2_with fail
      refine (carried_any (aa * xv + ab * yv + a) _ (by omega) (by omega)).mono ?_
      rintro e w3 ⟨rfl, rfl⟩
      go_wp2_with fail
      refine (carried_any (ba * xv + bb * yv + b) _ (by omega) (by omega)).mono ?_
      rintro e w4 ⟨rfl, rfl⟩
      go_wp2_with fail
      go_roundw
      case rel =>
        have m0 := Int.emod_nonneg (aa * xv + ab * yv + a) (show (1000000000 : Int) ≠ 0 by omega)
        have m1 := Int.emod_nonneg (ba * xv + bb * yv + b) (show (1000000000 : Int) ≠ 0 by omega)
        have e1 : (aa * xv + ab * yv + a) % 1000000000 = (((aa * xv + ab * yv + a) % 1000000000).toNat : Nat) := (Int.toNat_of_nonneg m0).symm
        have e2 : (ba * xv + bb * yv + b) % 1000000000 = (((ba * xv + bb * yv + b) % 1000000000).toNat : Nat) := (Int.toNat_of_nonneg m1).symm
        have o1 := (Only.refl ga (wr.drewN nq)).setCell k (.int .u32 ((aa * xv + ab * yv + a) % 1000000000))
        have o2 := (Only.refl gs ((wr.drewN nq).setCell ⟨ga, k, none⟩ (.int .u32 ((aa * xv + ab * yv + a) % 1000000000)))).setCell k (.int .u32 ((ba * xv + bb * yv + b) % 1000000000))
        refine ⟨k + 1, _, _, _, _, by omega, rfl, rfl, by go_num, o2.blk hgas ((hbx.drewN nq).put k _ e1), (o1.blk (Ne.symm hgas) (hby.drewN nq)).put k _ e2, o2.blk hgms (o1.blk (by omega) (hbm.drewN nq)), Hra.out.next (by omega) xv yv Hxv.out Hyv'.out _ rfl (by omega), Hrb.out.next (by omega) xv yv Hxv.out Hyv'.out _ rfl (by omega), ?_⟩
        exact (below_drewN hbl nq).trans ((o1.below h0a).trans (o2.below h0s))
      case measure => simp [intOf]; omega
    · obtain rfl : k = n := by omega
      have v1 := Hra.out.fin (v := x') hxl (by rw [Hxt.out, ofL_toL, Hyv.out]; exact Hx'.out) hxb
      have v2 := Hrb.out.fin (v := y') hyl (by rw [Hxt.out, ofL_toL, Hyv.out]; exact Hy'.out) hyb
      have l1 := Hra.out.2.1
      have l2 := Hrb.out.2.1
      have n1 := Hra.out.1
      have n2 := Hrb.out.1
      have C1 := cut_head ga k k xs wr hbx (by omega) (by omega) l1 (Nat.le_refl _)
      have C2 := fun q => cut_head gs k C ys (wr.drewN q) (hby.drewN q) (by omega) (by omega) l2 hC
      rw [v1] at C1
      rw [v2] at C2
      have HC1 := Lib.hid C1
      have HC2 := Lib.hid C2
      clear C1 C2 v1 v2 n1 n2
      go_wp2_with fail
      refine (HC1.out).mono ?_
      rintro e w3 ⟨A1, n1, rfl, hd1, ⟨q, rfl⟩, ho1⟩
      go_wp2_with fail
      refine (HC2.out q).mono ?_
      rintro e w4 ⟨A2, n2, rfl, hd2, ⟨q2, rfl⟩, ho2⟩
      have hl1 := (hbx.drewN q).lt
      have hl2 := (hby.drewN q).lt
      have hfin : Below B0 w (wr.drewN (q + q2)) := below_drewN hbl (q + q2)
      have hd1' := hd1.below (w' := (wr.drewN q).drewN q2) (below_drewN (Below.refl _ _) q2)
      have ho1' := ho1.below (w' := (wr.drewN q).drewN q2) (B := (wr.drewN q).heap.size) (below_drewN (Below.refl _ _) q2) hl1
      clear hd1 ho1 hbl
      go_wp2
      go_ret2
      exact ⟨ga, gs, A1, n1, A2, n2, rfl, hd1', hd2, ho1', ho2, hgas, h0a, h0s, hl1, hl2, hfin⟩

end Go.Proofs.YtemcdnppgnobmaaGreatDoor
