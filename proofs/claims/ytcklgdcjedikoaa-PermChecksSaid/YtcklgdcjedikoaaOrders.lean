/-
  The walks of checkPair, After, join, Join, backward and Meet.
  The walk of After.
  The walk of Strong.
  The walks of After, turned and Strong of the reference.
  The walk of Weak.
-/
import Derived.Test.YtcklgdcjedikoaaPairs
import Derived.Test.YtcklgdcjedikoaaExt
import Derived.Test.YtcklgdcjedikoaaDec
import Derived.Test.YtcklgdcjedikoaaRCode
import Derived.Deep.RegionHeld
namespace Go.Proofs.Ytcklgdcjedikoaa
open Go.RowKit

set_option maxRecDepth 100000 in
set_option maxHeartbeats 1000000 in
/-- checkPair of two permutations. -/
theorem checkPair_two (b off n cap b' off' n' cap' : Nat) (p q : List Nat) (w : World) (hS : Sl .i64 w (some ⟨b, off, none⟩) n p) (hT : Sl .i64 w (some ⟨b', off', none⟩) n' q) (hp : IsPerm p) (hq : IsPerm q) (hn : n ≤ 60) (h0 : 0 < n) (hn' : n' ≤ 60) (h0' : 0 < n') :
    Calls Try.prog 64 #[.slice (some ⟨b, off, none⟩) n cap, .slice (some ⟨b', off', none⟩) n' cap'] w fun e w' => e = .returned (.int .i64 (if n = n' then 0 else 7)) ∧ Below w.heap.size w w' := by
  have hbel := below_new' w (.cells #[.slice (some ⟨b, off, none⟩) n cap, .slice (some ⟨b', off', none⟩) n' cap'] 22)
  have hblk := Blk.new w 22 #[.slice (some ⟨b, off, none⟩) n cap, .slice (some ⟨b', off', none⟩) n' cap']
  have HC := Lib.hid (checkAll_two w.heap.size b off n cap b' off' n' cap' p q _ (hS.below hbel) (hT.below hbel) hp hq hn h0 hn' h0' hblk.lt (hblk.cell 0) (hblk.cell 1))
  have Hbel := Lib.hid hbel
  clear hbel hblk hS hT
  by_cases e : n = n'
  · subst e
    rw [if_pos rfl]
    go_enter Try.func64, Try.ntmps64
    go_wp2_with (go_at_call 69; refine HC.out.mono ?_; rintro e w1 ⟨rfl, hb1⟩)
    go_ret
    exact ⟨rfl, Hbel.out.trans (hb1.mono Hbel.out.size)⟩
  · rw [if_neg e]
    have hd : ((n : Int) != (n' : Int)) = true := by rw [bne_iff_ne]; omega
    clear e
    go_enter Try.func64, Try.ntmps64
    go_wp2_with (go_at_call 69; refine HC.out.mono ?_; rintro e w1 ⟨rfl, hb1⟩)
    go_ret
    exact ⟨rfl, Hbel.out.trans (hb1.mono Hbel.out.size)⟩

/-- A row in new memory. -/
def RetNew (l : List Nat) (w : World) (e : Ending) (w' : World) : Prop :=
  ∃ g c, e = .returned (.slice (some ⟨g, 0, none⟩) l.length c) ∧ (l.length ≤ c) ∧ Sl .i64 w' (some ⟨g, 0, none⟩) l.length l ∧ Below w.heap.size w w'
/-- A row in new memory, and that all is well. -/
def RetNewOk (l : List Nat) (w : World) (e : Ending) (w' : World) : Prop :=
  ∃ g c, e = .returned (.tuple #[.slice (some ⟨g, 0, none⟩) l.length c, .int .i64 0]) ∧ (l.length ≤ c) ∧ Sl .i64 w' (some ⟨g, 0, none⟩) l.length l ∧ Below w.heap.size w w'

/-- The join. -/
def joinL (p q : List Nat) : List Nat := ordTo p.length (clos p.length (withTo p.length (invM p) (invM q) p.length 0) p.length) p.length
theorem joinL_length (p q : List Nat) : (joinL p q).length = p.length := ordTo_length _ _ _

set_option maxRecDepth 100000 in
set_option maxHeartbeats 1000000 in
theorem join_any (b off n cap b' off' cap' : Nat) (p q : List Nat) (w : World) (hS : Sl .i64 w (some ⟨b, off, none⟩) n p) (hT : Sl .i64 w (some ⟨b', off', none⟩) n q) (hp : IsPerm p) (hq : IsPerm q) (hn : n ≤ 60) (h0 : 0 < n) :
    Calls Try.prog 67 #[.slice (some ⟨b, off, none⟩) n cap, .slice (some ⟨b', off', none⟩) n cap'] w (RetNew (joinL p q) w) := by
  have hl := hS.len
  subst hl
  go_enter Try.func67, Try.ntmps67
  go_wp2_with fail
  refine (inverted_any b off p.length cap p w hS hp hn h0).mono ?_
  rintro e w1 ⟨rfl, hb1⟩
  go_wp2_with fail
  refine (inverted_any b' off' p.length cap' q w1 (hT.below hb1) hq hn h0).mono ?_
  rintro e w2 ⟨rfl, hb2⟩
  have hb2' := hb1.trans (hb2.mono hb1.size)
  clear hb1 hb2 hS hT
  go_wp2_with fail
  refine (with_any p.length (invM p) (invM q) w2 hn).mono ?_
  rintro e w3 ⟨rfl, hb3⟩
  have hb3' := hb2'.trans (hb3.mono hb2'.size)
  go_wp2_with fail
  refine (closed_any p.length _ w3 hn).mono ?_
  rintro e w4 ⟨rfl, hb4⟩
  have hb4' := hb3'.trans (hb4.mono hb3'.size)
  go_wp2_with fail
  refine (order_any p.length _ w4 hn h0).mono ?_
  rintro e w5 ⟨g, rfl, hg, hblk, hb5⟩
  have hb5' := hb4'.trans (hb5.mono hb4'.size)
  have hlen := ordTo_length p.length (clos p.length (withTo p.length (invM p) (invM q) p.length 0) p.length) p.length
  have hj : ordTo p.length (clos p.length (withTo p.length (invM p) (invM q) p.length 0) p.length) p.length = joinL p q := rfl
  rw [hj] at hblk hlen ⊢
  have Hsl := Lib.hid (Sl.of_blk hblk rfl (by omega))
  clear hb3 hb4 hb5 hb2' hb3' hb4' hblk hj hlen
  go_wp2_with fail
  go_ret
  exact ⟨g, _, rfl, Nat.le_refl _, Hsl.out, hb5'⟩

set_option maxRecDepth 100000 in
set_option maxHeartbeats 1000000 in
theorem Join_any (b off n cap b' off' cap' : Nat) (p q : List Nat) (w : World) (hS : Sl .i64 w (some ⟨b, off, none⟩) n p) (hT : Sl .i64 w (some ⟨b', off', none⟩) n q) (hp : IsPerm p) (hq : IsPerm q) (hn : n ≤ 60) (h0 : 0 < n) :
    Calls Try.prog 20 #[.slice (some ⟨b, off, none⟩) n cap, .slice (some ⟨b', off', none⟩) n cap'] w (RetNewOk (joinL p q) w) := by
  have HC := checkPair_two b off n cap b' off' n cap' p q w hS hT hp hq hn h0 hn h0
  rw [if_pos rfl] at HC
  go_enter Try.func20, Try.ntmps20
  go_wp2_with fail
  refine HC.mono ?_
  rintro e w1 ⟨rfl, hb1⟩
  have hj := join_any b off n cap b' off' cap' p q w1 (hS.below hb1) (hT.below hb1) hp hq hn h0
  clear HC hS hT
  go_wp2_with fail
  refine hj.mono ?_
  rintro e w2 ⟨g, c, rfl, hc, hsl, hb2⟩
  have Hsl := Lib.hid hsl
  clear hj hsl
  go_wp2_with fail
  go_ret2
  exact ⟨g, c, rfl, hc, Hsl.out, hb1.trans (hb2.mono hb1.size)⟩

theorem getD_reverse (p : List Nat) (i : Nat) (h : i < p.length) : p.reverse.getD i 0 = p.getD (p.length - 1 - i) 0 := by
  rw [List.getD_eq_getElem?_getD, List.getElem?_reverse h, ← List.getD_eq_getElem?_getD]
theorem isPerm_reverse {p : List Nat} (h : IsPerm p) : IsPerm p.reverse := by
  refine ⟨fun i hi => ?_, fun i j hi hj e => ?_⟩
  · rw [List.length_reverse] at hi ⊢
    rw [getD_reverse p i hi]
    exact h.lt (by omega)
  · rw [List.length_reverse] at hi hj
    rw [getD_reverse p i hi, getD_reverse p j hj] at e
    have := h.inj (by omega) (by omega) e
    omega

set_option maxRecDepth 100000 in
set_option maxHeartbeats 1000000 in
theorem backward_any (b off n cap : Nat) (p : List Nat) (w : World) (hS : Sl .i64 w (some ⟨b, off, none⟩) n p) (hn : n ≤ 60) (h0 : 0 < n) :
    Calls Try.prog 68 #[.slice (some ⟨b, off, none⟩) n cap] w (RetNew p.reverse w) := by
  have hl := hS.len
  subst hl
  obtain ⟨b', off', e, hs, hc⟩ := hS.at h0
  injection e with e
  injection e with e1 e2
  subst e1 e2
  have hclone := Try.slices_Clone_int b off p.length cap (p.map fun (x : Nat) => (x : Int)) w (by simp) (by omega) (fun j hj => by
    rw [List.length_map] at hj
    rw [hc j hj]
    simp [List.getD_eq_getElem?_getD, hj])
  have Hclone := Lib.hid hclone
  have Hlen := Lib.hid (show p.reverse.length = p.length from List.length_reverse)
  clear hclone hc hS
  go_enter Try.func68, Try.ntmps68
  go_wp2_with fail
  refine Hclone.out.mono ?_
  rintro e w1 ⟨v, rfl, hown, -, hb1⟩
  have hnum : ((p.map fun (x : Nat) => (x : Int)).take p.length).map (Value.int .i64) = nums .i64 p := by
    rw [List.take_of_length_le (by simp)]
    simp [nums]
  rw [hnum] at hown
  obtain ⟨g, c, rfl⟩ := own_pos hown h0
  have hcell : ∀ j, j < p.length → w1.cell? ⟨g, 0 + j, none⟩ = some (.int .i64 (p.getD j 0 : Nat)) := fun j hj => by rw [Nat.zero_add]; exact own_num hown j hj
  have hrev := Try.slices_Reverse_int_cells g 0 p.length c (p.map fun (x : Nat) => (x : Int)) w1 (by simp) (by omega) (fun j hj => by
    rw [List.length_map] at hj
    rw [hcell j hj]
    simp [List.getD_eq_getElem?_getD, hj]) (fun j _ => by rw [Nat.zero_add]; exact own_free hown j)
  have hcap := own_capd hown
  have hg := own_lt hown
  have Hrev := Lib.hid hrev
  have Hcell := Lib.hid hcell
  clear hrev hcell hown Hclone
  go_wp2_with fail
  refine Hrev.out.mono ?_
  rintro e w2 ⟨rfl, q, hw2⟩
  have hvs : ((((p.map fun (x : Nat) => (x : Int)).take p.length).reverse).map (Value.int .i64)) = nums .i64 p.reverse := by
    rw [List.take_of_length_le (by simp)]
    simp [nums]
  rw [hvs] at hw2
  have hsl : Sl .i64 w2 (some ⟨g, 0, none⟩) p.reverse.length p.reverse := by
    refine ⟨rfl, by rw [List.length_reverse]; omega, fun _ => ⟨g, 0, rfl, ?_, fun j hj => ?_⟩⟩
    · rw [hw2, (setCells_only _ _ _).size]
      exact hg.1
    · rw [List.length_reverse] at hj
      have hin := World.cell?_setCells_in g (nums .i64 p.reverse) 0 (w1.drewN q) (fun k hk => by
        rw [nums_length, List.length_reverse] at hk
        have := Hcell.out k hk
        show ((w1.drewN q).cell? _).isSome = true
        rw [show (w1.drewN q).cell? ⟨g, 0 + k, none⟩ = w1.cell? ⟨g, 0 + k, none⟩ from rfl, this]
        rfl) j (by rw [nums_length, List.length_reverse]; exact hj)
      rw [hw2, hin]
      simp [nums, List.getD_eq_getElem?_getD, hj]
  have hb2 : Below w.heap.size w w2 := by
    rw [hw2]
    exact (below_drewN hb1 q).trans ((setCells_only _ _ _).below hg.2)
  have Hsl := Lib.hid hsl
  clear hsl hw2 hvs Hrev
  go_wp2_with fail
  go_ret
  exact ⟨g, c, by rw [Hlen.out]; rfl, by rw [Hlen.out]; exact hcap, Hsl.out, hb2⟩

/-- The meet. -/
def meetL (p q : List Nat) : List Nat := (joinL p.reverse q.reverse).reverse

set_option maxRecDepth 100000 in
set_option maxHeartbeats 1000000 in
theorem Meet_any (b off n cap b' off' cap' : Nat) (p q : List Nat) (w : World) (hS : Sl .i64 w (some ⟨b, off, none⟩) n p) (hT : Sl .i64 w (some ⟨b', off', none⟩) n q) (hp : IsPerm p) (hq : IsPerm q) (hn : n ≤ 60) (h0 : 0 < n) :
    Calls Try.prog 21 #[.slice (some ⟨b, off, none⟩) n cap, .slice (some ⟨b', off', none⟩) n cap'] w (RetNewOk (meetL p q) w) := by
  have HC := checkPair_two b off n cap b' off' n cap' p q w hS hT hp hq hn h0 hn h0
  rw [if_pos rfl] at HC
  have hpl := hS.len
  have hql := hT.len
  have Hpl := Lib.hid (show p.reverse.length = n ∧ q.reverse.length = n from ⟨by rw [List.length_reverse]; exact hpl, by rw [List.length_reverse]; exact hql⟩)
  clear hpl hql
  go_enter Try.func21, Try.ntmps21
  go_wp2_with fail
  refine HC.mono ?_
  rintro e w1 ⟨rfl, hb1⟩
  clear HC
  have hS1 := hS.below hb1
  have hT1 := hT.below hb1
  clear hS hT
  go_wp2_with fail
  refine (backward_any b off n cap p w1 hS1 hn h0).mono ?_
  rintro e w2 ⟨g2, c2, rfl, hc2, hs2, hb2⟩
  rw [Hpl.out.1] at hs2 ⊢
  have hb2' := hb1.trans (hb2.mono hb1.size)
  have hT2 := hT1.below hb2
  clear hS1 hT1 hb1 hb2 hc2
  go_wp2_with fail
  refine (backward_any b' off' n cap' q w2 hT2 hn h0).mono ?_
  rintro e w3 ⟨g3, c3, rfl, hc3, hs3, hb3⟩
  rw [Hpl.out.2] at hs3 ⊢
  have hb3' := hb2'.trans (hb3.mono hb2'.size)
  have hs2' := hs2.below hb3
  clear hT2 hs2 hb3 hb2' hc3
  go_wp2_with fail
  refine (join_any g2 0 n c2 g3 0 c3 p.reverse q.reverse w3 hs2' hs3 (isPerm_reverse hp) (isPerm_reverse hq) hn h0).mono ?_
  rintro e w4 ⟨g4, c4, rfl, hc4, hs4, hb4⟩
  have hjl : (joinL p.reverse q.reverse).length = n := by rw [joinL_length]; exact Hpl.out.1
  rw [hjl] at hs4 ⊢
  have hb4' := hb3'.trans (hb4.mono hb3'.size)
  clear hs2' hs3 hb4 hb3' hc4
  have Hjl := Lib.hid hjl
  clear hjl
  go_wp2_with fail
  refine (backward_any g4 0 n c4 _ w4 hs4 hn h0).mono ?_
  rintro e w5 ⟨g5, c5, rfl, hc5, hs5, hb5⟩
  have hm : (joinL p.reverse q.reverse).reverse = meetL p q := rfl
  rw [hm] at hc5 hs5 ⊢
  have Hs5 := Lib.hid hs5
  clear hs5 hs4 hm
  go_wp2_with fail
  go_ret2
  exact ⟨g5, c5, rfl, hc5, Hs5.out, hb4'.trans (hb5.mono hb4'.size)⟩

end Go.Proofs.Ytcklgdcjedikoaa

namespace Go.Proofs.Ytcklgdcjedikoaa
open Go.RowKit

/-- p behind q, its first places. -/
def aftTo (p q : List Nat) : Nat → List Nat
  | 0 => List.replicate p.length 0
  | i + 1 => (aftTo p q i).set i (p.getD (q.getD i 0) 0)
theorem aftTo_length (p q : List Nat) : ∀ i, (aftTo p q i).length = p.length
  | 0 => by simp [aftTo]
  | i + 1 => by rw [aftTo, List.length_set, aftTo_length p q i]
/-- p behind q. -/
def afterL (p q : List Nat) : List Nat := aftTo p q p.length
theorem afterL_length (p q : List Nat) : (afterL p q).length = p.length := aftTo_length _ _ _

set_option maxRecDepth 100000 in
set_option maxHeartbeats 2000000 in
theorem After_any (b off n cap b' off' cap' : Nat) (p q : List Nat) (w : World) (hS : Sl .i64 w (some ⟨b, off, none⟩) n p) (hT : Sl .i64 w (some ⟨b', off', none⟩) n q) (hp : IsPerm p) (hq : IsPerm q) (hn : n ≤ 60) (h0 : 0 < n) :
    Calls Try.prog 17 #[.slice (some ⟨b, off, none⟩) n cap, .slice (some ⟨b', off', none⟩) n cap'] w (RetNewOk (afterL p q) w) := by
  have HC := checkPair_two b off n cap b' off' n cap' p q w hS hT hp hq hn h0 hn h0
  rw [if_pos rfl] at HC
  have hpl := hS.len
  have hql := hT.len
  have Hlt := Lib.hid (show ∀ i, i < n → q.getD i 0 < n from fun i hi => by rw [← hql]; exact hq.lt (by omega))
  have Hpl := Lib.hid hpl
  clear hpl hql
  go_enter Try.func17, Try.ntmps17
  go_wp2_with fail
  refine HC.mono ?_
  rintro e w1 ⟨rfl, hb1⟩
  clear HC
  have hS1 := hS.below hb1
  have hT1 := hT.below hb1
  clear hS hT
  have hmk : (Instr.makeSlice 22 (.int .i64 (n : Nat)) (.int .i64 (n : Nat))).run Try.prog w1 = .ok (.slice (some ⟨w1.heap.size, 0, none⟩) n n) (w1.alloc (.cells (cellsOf .i64 (List.replicate n 0)) 3)) :=
    run_makeInts Try.underlying22 info_int (by omega) .i64 .i64 n (by omega) w1
  have hblk := Blk.new w1 3 (cellsOf .i64 (List.replicate n 0))
  have hb2 := hb1.alloc hb1.size (.cells (cellsOf .i64 (List.replicate n 0)) 3)
  have hbn := below_new' w1 (.cells (cellsOf .i64 (List.replicate n 0)) 3)
  obtain ⟨pb, hpb, hrow⟩ := rowAt_of hS1 h0
  obtain ⟨qb, hqb, hrowq⟩ := rowAt_of hT1 h0
  have hlb : b < w1.heap.size := (Array.getElem?_eq_some_iff.1 hpb).1
  have hlb' : b' < w1.heap.size := (Array.getElem?_eq_some_iff.1 hqb).1
  have hszw := hb1.size
  have hpb2 := (hbn.block b hlb).trans hpb
  have hqb2 := (hbn.block b' hlb').trans hqb
  have Hrow := Lib.hid hrow
  have Hrowq := Lib.hid hrowq
  have hql := hT1.len
  have Hql := Lib.hid hql
  clear hb1 hS1 hT1 hpb hqb hrow hrowq hbn hql
  go_wp2_with fail
  clear hmk
  generalize w1.alloc (.cells (cellsOf .i64 (List.replicate n 0)) 3) = W0 at *
  have Hb0 := Lib.hid hb2
  clear hb2
  generalize hg : w1.heap.size = g at *
  go_loopw [21] (fun iv wr => ∃ i : Nat, i ≤ n ∧ iv = .int .i64 i ∧ Blk wr g 3 (cellsOf .i64 (aftTo p q i)) ∧ Only g W0 wr) (fun iv _ => n - (intOf iv).toNat)
  case atStart => exact ⟨0, Nat.zero_le _, rfl, by rw [aftTo, Hpl.out]; exact hblk, Only.refl _ _⟩
  case round =>
    obtain ⟨i, hi, rfl, hbi, honly⟩ := hrel
    have hpr := (honly.block b (by omega)).trans hpb2
    have hqr := (honly.block b' (by omega)).trans hqb2
    by_cases hlt : i < n
    · have cq := Hrowq.out wr hqr i (by rw [Hql.out]; exact hlt)
      have hx := Hlt.out i hlt
      have Hput := Lib.hid (hbi.put i (p.getD (q.getD i 0) 0) rfl)
      have Hnext := Lib.hid (show aftTo p q (i + 1) = (aftTo p q i).set i (p.getD (q.getD i 0) 0) from rfl)
      have cb := hbi.num i (by rw [aftTo_length, Hpl.out]; exact hlt)
      have cf := hbi.free i
      generalize q.getD i 0 = x at *
      have cp := Hrow.out wr hpr x (by rw [Hpl.out]; exact hx)
      generalize p.getD x 0 = y at *
      generalize (aftTo p q i).getD i 0 = z at *
      go_wp2_with fail
      go_roundw
      case rel => exact ⟨i + 1, by omega, by go_num, by rw [Hnext.out]; exact Hput.out, honly.setCell _ _⟩
      case measure => simp [intOf]; omega
    · obtain rfl : i = n := by omega
      have hbel : Below w.heap.size w wr := Hb0.out.trans (honly.below (by omega))
      go_wp2_with fail
      go_ret2
      refine ⟨g, i, by rw [afterL_length, Hpl.out]; rfl, by rw [afterL_length, Hpl.out]; exact Nat.le_refl _, ?_, hbel⟩
      exact Sl.of_blk (t := 3) (by rw [afterL, Hpl.out]; exact hbi) rfl (by rw [afterL_length, Hpl.out]; omega)

end Go.Proofs.Ytcklgdcjedikoaa

namespace Go.Proofs.Ytcklgdcjedikoaa
open Go.RowKit

/-- How many more of q's first i values than of p's are at least j. -/
def moreD (p q : List Nat) : Nat → Nat → Int
  | 0, _ => 0
  | i + 1, j => moreD p q i j + (if j ≤ q.getD i 0 then 1 else 0) - (if j ≤ p.getD i 0 then 1 else 0)
theorem moreD_le (p q : List Nat) (j : Nat) : ∀ i : Nat, -(i : Int) ≤ moreD p q i j ∧ moreD p q i j ≤ i
  | 0 => by simp [moreD]
  | i + 1 => by
    have := moreD_le p q j i
    rw [moreD]
    split <;> split <;> omega
/-- The row of counts in round i, at place j. -/
def morTo (p q : List Nat) (i j : Nat) : Nat → Int := fun k => if k < j then moreD p q (i + 1) k else if k < p.length then moreD p q i k else 0
theorem morTo_start (p q : List Nat) : morTo p q 0 0 = fun _ => 0 := by
  funext k
  unfold morTo
  rw [if_neg (by omega)]
  split <;> rfl
theorem morTo_row (p q : List Nat) (i : Nat) : morTo p q i p.length = morTo p q (i + 1) 0 := by
  funext k
  unfold morTo
  by_cases h : k < p.length
  · rw [if_pos h, if_neg (by omega), if_pos h]
  · rw [if_neg h, if_neg h, if_neg (by omega), if_neg h]
theorem morTo_here (p q : List Nat) (i j : Nat) (h : j < p.length) : morTo p q i j j = moreD p q i j := by
  unfold morTo
  rw [if_neg (by omega), if_pos h]
theorem morTo_step (p q : List Nat) (i j : Nat) (_hj : j < p.length) (z : Int) (hz : z = moreD p q (i + 1) j) : (fun k => if k = j then z else morTo p q i j k) = morTo p q i (j + 1) := by
  subst hz
  funext k
  unfold morTo
  by_cases e : k = j
  · subst e
    simp
  · rw [if_neg e]
    by_cases h : k < j
    · rw [if_pos h, if_pos (by omega)]
    · rw [if_neg h, if_neg (by omega : ¬ k < j + 1)]

def upTo60 : List Nat := List.range 60
/-- A row of 60 integers. -/
def rowZ (f : Nat → Int) : Array Value := (upTo60.map fun k => Value.int .i64 (f k)).toArray
theorem rowZ_at (f : Nat → Int) (j : Nat) (hj : j < 60) : (rowZ f)[j]? = some (.int .i64 (f j)) := by
  unfold rowZ upTo60
  rw [List.getElem?_toArray, List.getElem?_map, List.getElem?_range hj, Option.map_some]
theorem rowZ_set (f : Nat → Int) (j : Nat) (z : Int) : (rowZ f).setIfInBounds j (.int .i64 z) = rowZ fun k => if k = j then z else f k := by
  unfold rowZ upTo60
  rw [List.setIfInBounds_toArray]
  congr 1
  apply List.ext_getElem?
  intro k
  rw [List.getElem?_set]
  by_cases hk : k < 60
  · rw [List.length_map, List.length_range, List.getElem?_map, List.getElem?_map, List.getElem?_range hk, Option.map_some, Option.map_some]
    by_cases e : j = k
    · subst e
      rw [if_pos rfl, if_pos hk]
      simp
    · rw [if_neg e]
      simp only [if_neg (fun h => e h.symm : ¬ k = j)]
  · rw [List.getElem?_eq_none (by simp; omega), List.getElem?_eq_none (by simp; omega), List.length_map, List.length_range]
    split
    · rw [if_neg (by omega)]
    · rfl
theorem _root_.Go.Proofs.Ytcklgdcjedikoaa.Blk.putZ {w : World} {g : Nat} {t : TypeId} {f : Nat → Int} (h : Blk w g t (rowZ f)) (j : Nat) (z : Int) : Blk (w.setCell ⟨g, j, none⟩ (.int .i64 z)) g t (rowZ fun k => if k = j then z else f k) := by
  have := h.store j (.int .i64 z)
  rwa [rowZ_set] at this

theorem _root_.Go.Proofs.Ytcklgdcjedikoaa.Blk.putZ2 {w : World} {g : Nat} {t : TypeId} {f : Nat → Int} (h : Blk w g t (rowZ f)) (j : Nat) (y z : Int) : Blk ((w.setCell ⟨g, j, none⟩ (.int .i64 y)).setCell ⟨g, j, none⟩ (.int .i64 z)) g t (rowZ fun k => if k = j then z else f k) := by
  have := (h.putZ j y).putZ j z
  have e : (fun k => if k = j then z else if k = j then y else f k) = fun k => if k = j then z else f k := by
    funext k
    split <;> rfl
  rwa [e] at this

/-- Whether q has at every place, among its first values, at least as many that are at least j. -/
def strongB (p q : List Nat) : Bool := decide (∀ i, i < p.length → ∀ j, j < p.length → 0 ≤ moreD p q (i + 1) j)

set_option maxRecDepth 100000 in
set_option maxHeartbeats 2000000 in
theorem Strong_any (b off n cap b' off' cap' : Nat) (p q : List Nat) (w : World) (hS : Sl .i64 w (some ⟨b, off, none⟩) n p) (hT : Sl .i64 w (some ⟨b', off', none⟩) n q) (hp : IsPerm p) (hq : IsPerm q) (hn : n ≤ 60) (h0 : 0 < n) :
    Calls Try.prog 19 #[.slice (some ⟨b, off, none⟩) n cap, .slice (some ⟨b', off', none⟩) n cap'] w fun e w' => e = .returned (.tuple #[.bool (strongB p q), .int .i64 0]) ∧ Below w.heap.size w w' := by
  have HC := checkPair_two b off n cap b' off' n cap' p q w hS hT hp hq hn h0 hn h0
  rw [if_pos rfl] at HC
  have hl := hS.len
  subst hl
  go_enter Try.func19, Try.ntmps19
  go_wp2_with fail
  refine HC.mono ?_
  rintro e w1 ⟨rfl, hb1⟩
  clear HC
  have hS1 := hS.below hb1
  have hT1 := hT.below hb1
  clear hS hT
  have hblk := Blk.new w1 88 (rowZ fun _ => 0)
  have hb2 := hb1.alloc hb1.size (.cells (rowZ fun _ => 0) 88)
  obtain ⟨pb, hpb, hrow⟩ := rowAt_of hS1 h0
  obtain ⟨qb, hqb, hrowq⟩ := rowAt_of hT1 h0
  have hlb : b < w1.heap.size := (Array.getElem?_eq_some_iff.1 hpb).1
  have hlb' : b' < w1.heap.size := (Array.getElem?_eq_some_iff.1 hqb).1
  have hbn := below_new' w1 (.cells (rowZ fun _ => 0) 88)
  have hszw := hb1.size
  have hpb2 := (hbn.block b hlb).trans hpb
  have hqb2 := (hbn.block b' hlb').trans hqb
  have Hrow := Lib.hid hrow
  have Hrowq := Lib.hid hrowq
  have hql := hT1.len
  have Hql := Lib.hid hql
  clear hb1 hS1 hT1 hpb hqb hrow hrowq hbn hql
  go_wp2_with fail
  have Hb0 := Lib.hid hb2
  clear hb2
  go_loopw [18] (fun iv wr => ∃ i : Nat, i ≤ p.length ∧ iv = .int .i64 i ∧ Blk wr w1.heap.size 88 (rowZ (morTo p q i 0)) ∧ Only w1.heap.size (w1.alloc (.cells (rowZ fun _ => 0) 88)) wr ∧ ∀ k, k < i → ∀ j, j < p.length → 0 ≤ moreD p q (k + 1) j) (fun iv _ => p.length - (intOf iv).toNat)
  case atStart => exact ⟨0, Nat.zero_le _, rfl, by rw [morTo_start]; exact hblk, Only.refl _ _, fun k hk => absurd hk (Nat.not_lt_zero _)⟩
  case round =>
    clear hblk
    generalize w1.alloc (.cells (rowZ fun _ => 0) 88) = W0 at *
    generalize hg : w1.heap.size = g at *
    obtain ⟨i, hi, rfl, hbi, honly, hok⟩ := hrel
    have hpr := (honly.block b (by omega)).trans hpb2
    have hqr := (honly.block b' (by omega)).trans hqb2
    by_cases hlt : i < p.length
    · go_wp2_with fail
      go_loopw [23] (fun jv wx => ∃ j : Nat, j ≤ p.length ∧ jv = .int .i64 j ∧ Blk wx g 88 (rowZ (morTo p q i j)) ∧ Only g W0 wx ∧ ∀ k, k < j → 0 ≤ moreD p q (i + 1) k) (fun jv _ => p.length - (intOf jv).toNat)
      case atStart => exact ⟨0, Nat.zero_le _, rfl, hbi, honly, fun k hk => absurd hk (Nat.not_lt_zero _)⟩
      case round =>
        rename_i hrel
        obtain ⟨j, hj, rfl, hbx, honlyx, hokj⟩ := hrel
        have hpx := (honlyx.block b (by omega)).trans hpb2
        have hqx := (honlyx.block b' (by omega)).trans hqb2
        by_cases hltj : j < p.length
        · have cq := Hrowq.out wr hqx i (by rw [Hql.out]; exact hlt)
          have cp := Hrow.out wr hpx i hlt
          have cm : _ = some (Value.int .i64 (moreD p q i j)) := (hbx.cell j).trans ((rowZ_at _ j (by omega)).trans (by rw [morTo_here p q i j hltj]))
          have cf := hbx.free j
          have hm := moreD_le p q j i
          have Hm := Lib.hid (show moreD p q (i + 1) j = moreD p q i j + (if j ≤ q.getD i 0 then 1 else 0) - (if j ≤ p.getD i 0 then 1 else 0) from rfl)
          have Hstep := Lib.hid (fun z hz => morTo_step p q i j hltj z hz)
          have Hbad := Lib.hid (show moreD p q (i + 1) j < 0 → strongB p q = false from fun h => decide_eq_false fun hall => by have := hall i hlt j hltj; omega)
          have Hall := Lib.hid hokj
          have Hb := Lib.hid hbx
          have HF := Lib.hid (morTo_here p q i j hltj)
          generalize morTo p q i j = F at *
          generalize moreD p q i j = m at *
          generalize hzz : moreD p q (i + 1) j = z at *
          have Hzz := Lib.hid hzz
          clear hzz
          generalize q.getD i 0 = x at *
          generalize p.getD i 0 = y at *
          clear hok hokj hbx
          by_cases hx : j ≤ x <;> by_cases hy : j ≤ y
          · have hz : z = m := by
              have hz := Hm.out
              rw [if_pos hx, if_pos hy] at hz
              omega
            have Hstep := Lib.hid (Hstep.out _ hz.symm)
            have Hz := Lib.hid hz
            by_cases hneg : m < 0
            · have hf := Hbad.out (by omega)
              have hbel : Below w.heap.size w wr := Hb0.out.trans (honlyx.below (by omega))
              have Hf := Lib.hid hf
              clear hf hz
              go_wp2_with fail
              go_ret2
              exact ⟨by rw [Hf.out]; rfl, Hb0.out.trans (((honlyx.setCell _ _).setCell _ _).below (by omega))⟩
            · clear hz
              go_wp2_with fail
              go_roundw
              case rel =>
                refine ⟨j + 1, by omega, by go_num, ?_, (honlyx.setCell _ _).setCell _ _, fun k hk => ?_⟩
                · rw [← Hstep.out]; exact Blk.putZ2 Hb.out j _ _
                · by_cases e : k < j
                  · exact Hall.out k e
                  · obtain rfl : k = j := by omega
                    rw [Hzz.out, Hz.out]
                    omega
              case measure => simp [intOf]; omega
          · have hz : z = m + 1 := by
              have hz := Hm.out
              rw [if_pos hx, if_neg hy] at hz
              omega
            have Hstep := Lib.hid (Hstep.out _ hz.symm)
            have Hz := Lib.hid hz
            by_cases hneg : m + 1 < 0
            · have hf := Hbad.out (by omega)
              have hbel : Below w.heap.size w wr := Hb0.out.trans (honlyx.below (by omega))
              have Hf := Lib.hid hf
              clear hf hz
              go_wp2_with fail
              go_ret2
              exact ⟨by rw [Hf.out]; rfl, Hb0.out.trans ((honlyx.setCell _ _).below (by omega))⟩
            · clear hz
              go_wp2_with fail
              go_roundw
              case rel =>
                refine ⟨j + 1, by omega, by go_num, ?_, honlyx.setCell _ _, fun k hk => ?_⟩
                · rw [← Hstep.out]; exact Hb.out.putZ j _
                · by_cases e : k < j
                  · exact Hall.out k e
                  · obtain rfl : k = j := by omega
                    rw [Hzz.out, Hz.out]
                    omega
              case measure => simp [intOf]; omega
          · have hz : z = m - 1 := by
              have hz := Hm.out
              rw [if_neg hx, if_pos hy] at hz
              omega
            have Hstep := Lib.hid (Hstep.out _ hz.symm)
            have Hz := Lib.hid hz
            by_cases hneg : m - 1 < 0
            · have hf := Hbad.out (by omega)
              have hbel : Below w.heap.size w wr := Hb0.out.trans (honlyx.below (by omega))
              have Hf := Lib.hid hf
              clear hf hz
              go_wp2_with fail
              go_ret2
              exact ⟨by rw [Hf.out]; rfl, Hb0.out.trans ((honlyx.setCell _ _).below (by omega))⟩
            · clear hz
              go_wp2_with fail
              go_roundw
              case rel =>
                refine ⟨j + 1, by omega, by go_num, ?_, honlyx.setCell _ _, fun k hk => ?_⟩
                · rw [← Hstep.out]; exact Hb.out.putZ j _
                · by_cases e : k < j
                  · exact Hall.out k e
                  · obtain rfl : k = j := by omega
                    rw [Hzz.out, Hz.out]
                    omega
              case measure => simp [intOf]; omega
          · have hz : z = m := by
              have hz := Hm.out
              rw [if_neg hx, if_neg hy] at hz
              omega
            have Hstep := Lib.hid (Hstep.out _ hz.symm)
            have Hz := Lib.hid hz
            by_cases hneg : m < 0
            · have hf := Hbad.out (by omega)
              have hbel : Below w.heap.size w wr := Hb0.out.trans (honlyx.below (by omega))
              have Hf := Lib.hid hf
              clear hf hz
              go_wp2_with fail
              go_ret2
              exact ⟨by rw [Hf.out]; rfl, hbel⟩
            · clear hz
              go_wp2_with fail
              go_roundw
              case rel =>
                refine ⟨j + 1, by omega, by go_num, ?_, honlyx, fun k hk => ?_⟩
                · rw [← Hstep.out]; have : (fun k => if k = j then m else F k) = F := by funext k; by_cases e : k = j; (subst e; rw [if_pos rfl, HF.out]); (rw [if_neg e])
                  rw [this]; exact Hb.out
                · by_cases e : k < j
                  · exact Hall.out k e
                  · obtain rfl : k = j := by omega
                    rw [Hzz.out, Hz.out]
                    omega
              case measure => simp [intOf]; omega
        · obtain rfl : j = p.length := by omega
          go_wp2_with fail
          go_roundw
          case rel =>
            refine ⟨i + 1, by omega, by go_num, by rw [← morTo_row]; exact hbx, honlyx, fun k hk => ?_⟩
            by_cases e : k < i
            · exact hok k e
            · obtain rfl : k = i := by omega
              exact hokj
          case measure => simp [intOf]; omega
    · obtain rfl : i = p.length := by omega
      have hbel : Below w.heap.size w wr := Hb0.out.trans (honly.below (by omega))
      have htrue : strongB p q = true := decide_eq_true fun k hk j hj => hok k hk j hj
      have Htrue := Lib.hid htrue
      clear htrue hok
      go_wp2_with fail
      go_ret2
      exact ⟨by rw [Htrue.out]; rfl, hbel⟩

end Go.Proofs.Ytcklgdcjedikoaa

namespace Go.Proofs.Ytcklgdcjedikoaa
open Go.RowKit

/-- p behind q, as a list. -/
def aftL (p q : List Nat) : List Nat := q.map fun x => p.getD x 0
theorem aftL_length (p q : List Nat) : (aftL p q).length = q.length := by simp [aftL]
theorem aftL_get (p q : List Nat) (i : Nat) (h : i < q.length) : (aftL p q).getD i 0 = p.getD (q.getD i 0) 0 := by
  simp [aftL, List.getD_eq_getElem?_getD, h]

set_option maxRecDepth 100000 in
set_option maxHeartbeats 1000000 in
theorem rafter_any (b off n cap b' off' cap' : Nat) (p q : List Nat) (w : World) (hS : Sl .i64 w (some ⟨b, off, none⟩) n p) (hT : Sl .i64 w (some ⟨b', off', none⟩) n q) (hq : IsPerm q) (hn : n ≤ 60) (h0 : 0 < n) :
    Calls Try.prog 44 #[.slice (some ⟨b, off, none⟩) n cap, .slice (some ⟨b', off', none⟩) n cap'] w (RetOwn (aftL p q) w) := by
  have hl := hT.len
  have hpl := hS.len
  subst hl
  obtain ⟨i0, hi, hz0, hz1, hz2⟩ := info_parts info_int'
  obtain ⟨pb, hpb, hrow⟩ := rowAt_of hS h0
  obtain ⟨qb, hqb, hrowq⟩ := rowAt_of hT h0
  have hlb : b < w.heap.size := (Array.getElem?_eq_some_iff.1 hpb).1
  have hlb' : b' < w.heap.size := (Array.getElem?_eq_some_iff.1 hqb).1
  have Hrow := Lib.hid hrow
  have Hrowq := Lib.hid hrowq
  have Hpl := Lib.hid hpl
  have Hlt := Lib.hid (show ∀ i, i < q.length → q.getD i 0 < q.length from fun i hi => hq.lt hi)
  clear hS hT hrow hrowq hpl
  go_enter Try.func44, Try.ntmps44
  go_wp2
  go_loopw [5, 6] (fun v i wr => ∃ k : Nat, k ≤ q.length ∧ i = .int .i64 k ∧ wr.ownsRow w.heap.size 3 1 v k (nums .i64 ((aftL p q).take k)) ∧ Below w.heap.size w wr) (fun _ i _ => q.length - (intOf i).toNat)
  case atStart => exact ⟨0, Nat.zero_le _, rfl, ⟨by simp [nums], .inl ⟨rfl, rfl⟩⟩, Below.refl _ _⟩
  case round =>
    obtain ⟨k, hk, rfl, hown, hbel⟩ := hrel
    have hpr := (hbel.block b hlb).trans hpb
    have hqr := (hbel.block b' hlb').trans hqb
    by_cases hlt : k < q.length
    · have cq := Hrowq.out wr hqr k hlt
      have hx := Hlt.out k hlt
      have Hnext := Lib.hid (show nums .i64 ((aftL p q).take k) ++ [.int .i64 ((p.getD (q.getD k 0) 0 : Nat) : Int)] = nums .i64 ((aftL p q).take (k + 1)) by
        rw [nums_snoc, take_snoc (aftL p q) k (by rw [aftL_length]; exact hlt), aftL_get p q k hlt])
      generalize q.getD k 0 = x at *
      have cp := Hrow.out wr hpr x (by rw [Hpl.out]; exact hx)
      generalize p.getD x 0 = c at *
      have hsz : w.heap.size ≤ wr.heap.size := hbel.size
      go_wp2_with (at_builtin; refine wpList_append_own _ rfl _ _ 22 rfl w.heap.size 3 i0 (.int .i64 0) 1 8 Try.underlying22 hi hz0 hz1 hz2 rfl (by decide) _ _ _ rfl (hown.alloc _) ⟨wr.heap.size, 0, none⟩ 1 1 [.int .i64 (c : Nat)] rfl rfl ?c1 ?c2 ?c3 ?c4 ?c5 ?_)
      case c1 => exact cell_one_new _ _ _
      case c2 => exact one_cell _ rfl
      case c3 => unfold maxLen; omega
      case c4 => omega
      case c5 => simp; omega
      intro v' w1 hown' hgrow _
      have hb' := hbel.trans (own_below hown hsz hgrow)
      rw [Hnext.out] at hown'
      go_wp2
      go_roundw
      case rel => exact ⟨k + 1, by omega, by go_num, hown', hb'⟩
      case measure => simp [intOf]; omega
    · obtain rfl : k = q.length := by omega
      rw [List.take_of_length_le (by rw [aftL_length]; exact Nat.le_refl _)] at hown
      obtain ⟨g, cap2, rfl⟩ := own_pos hown h0
      go_wp2
      go_ret
      exact ⟨g, cap2, by rw [aftL_length]; rfl, by rw [aftL_length]; exact hown, hbel⟩

theorem take_reverse_next (p : List Nat) (k : Nat) (h : k < p.length) : nums .i64 (p.reverse.take k) ++ [.int .i64 ((p.getD (p.length - 1 - k) 0 : Nat) : Int)] = nums .i64 (p.reverse.take (k + 1)) := by
  rw [nums_snoc, take_snoc p.reverse k (by rw [List.length_reverse]; exact h), getD_reverse p k h]

set_option maxRecDepth 100000 in
set_option maxHeartbeats 1000000 in
theorem rturned_any (b off n cap : Nat) (p : List Nat) (w : World) (hS : Sl .i64 w (some ⟨b, off, none⟩) n p) (hn : n ≤ 60) (h0 : 0 < n) :
    Calls Try.prog 82 #[.slice (some ⟨b, off, none⟩) n cap] w (RetOwn p.reverse w) := by
  have hl := hS.len
  subst hl
  obtain ⟨i0, hi, hz0, hz1, hz2⟩ := info_parts info_int'
  obtain ⟨pb, hpb, hrow⟩ := rowAt_of hS h0
  have hlb : b < w.heap.size := (Array.getElem?_eq_some_iff.1 hpb).1
  have Hrow := Lib.hid hrow
  clear hS hrow
  go_enter Try.func82, Try.ntmps82
  go_wp2
  go_loopw [3, 4] (fun v i wr => ∃ k : Nat, k ≤ p.length ∧ i = .int .i64 ((p.length : Int) - 1 - k) ∧ wr.ownsRow w.heap.size 3 1 v k (nums .i64 (p.reverse.take k)) ∧ Below w.heap.size w wr) (fun _ i _ => (intOf i + 1).toNat)
  case atStart => exact ⟨0, Nat.zero_le _, by go_num, ⟨by simp [nums], .inl ⟨rfl, rfl⟩⟩, Below.refl _ _⟩
  case round =>
    obtain ⟨k, hk, rfl, hown, hbel⟩ := hrel
    have hpr := (hbel.block b hlb).trans hpb
    by_cases hlt : k < p.length
    · obtain ⟨m, hm⟩ : ∃ m : Nat, m = p.length - 1 - k := ⟨_, rfl⟩
      have Hnext := Lib.hid (take_reverse_next p k hlt)
      rw [← hm] at Hnext
      have cp := Hrow.out wr hpr m (by omega)
      have hmi : (p.length : Int) - 1 - k = (m : Nat) := by omega
      have hm0 : m < p.length := by omega
      have Hm := Lib.hid hm
      clear hm
      rw [hmi]
      have Hmi := Lib.hid hmi
      clear hmi
      generalize p.getD m 0 = c at *
      have hsz : w.heap.size ≤ wr.heap.size := hbel.size
      go_wp2_with (at_builtin; refine wpList_append_own _ rfl _ _ 22 rfl w.heap.size 3 i0 (.int .i64 0) 1 8 Try.underlying22 hi hz0 hz1 hz2 rfl (by decide) _ _ _ rfl (hown.alloc _) ⟨wr.heap.size, 0, none⟩ 1 1 [.int .i64 (c : Nat)] rfl rfl ?c1 ?c2 ?c3 ?c4 ?c5 ?_)
      case c1 => exact cell_one_new _ _ _
      case c2 => exact one_cell _ rfl
      case c3 => unfold maxLen; omega
      case c4 => omega
      case c5 => simp; omega
      intro v' w1 hown' hgrow _
      have hb' := hbel.trans (own_below hown hsz hgrow)
      rw [Hnext.out] at hown'
      go_wp2
      go_roundw
      case rel => exact ⟨k + 1, by omega, congrArg (Value.int IntKind.i64) (by have := Hmi.out; omega), hown', hb'⟩
      case measure => simp [intOf]
    · obtain rfl : k = p.length := by omega
      rw [List.take_of_length_le (by rw [List.length_reverse]; exact Nat.le_refl _)] at hown
      obtain ⟨g, cap2, rfl⟩ := own_pos hown h0
      have hmi : (p.length : Int) - 1 - (p.length : Nat) = -1 := by omega
      rw [hmi]
      have Hl := Lib.hid (show p.reverse.length = p.length from List.length_reverse)
      go_wp2
      go_ret
      exact ⟨g, cap2, by rw [Hl.out]; rfl, by rw [Hl.out]; exact hown, hbel⟩

/-- How many of the first k values are at least j. -/
def geN (p : List Nat) (j : Nat) : Nat → Nat
  | 0 => 0
  | k + 1 => geN p j k + if j ≤ p.getD k 0 then 1 else 0
theorem geN_le (p : List Nat) (j : Nat) : ∀ k, geN p j k ≤ k
  | 0 => Nat.le_refl _
  | k + 1 => by
    have := geN_le p j k
    rw [geN]
    split <;> omega
theorem moreD_geN (p q : List Nat) (j : Nat) : ∀ i, moreD p q i j = (geN q j i : Int) - geN p j i
  | 0 => by simp [moreD, geN]
  | i + 1 => by
    rw [moreD, geN, geN, moreD_geN p q j i]
    split <;> split <;> simp <;> omega
/-- Whether q has everywhere as many that are at least j. -/
def rstrongB (p q : List Nat) : Bool := decide (∀ i, i ≤ p.length → ∀ j, j ≤ p.length → geN p j i ≤ geN q j i)
theorem geN_high {p : List Nat} (hp : IsPerm p) : ∀ i, i ≤ p.length → geN p p.length i = 0
  | 0, _ => rfl
  | i + 1, h => by
    rw [geN, geN_high hp i (by omega), if_neg (by have := hp.lt (i := i) (by omega); omega)]
theorem strong_same {p q : List Nat} (hp : IsPerm p) : strongB p q = rstrongB p q := by
  unfold strongB rstrongB
  apply decide_eq_decide.2
  constructor
  · intro h i hi j hj
    rcases Nat.eq_zero_or_pos i with h0 | h0
    · subst h0; exact Nat.le_refl _
    · by_cases e : j = p.length
      · subst e
        rw [geN_high hp i hi]
        exact Nat.zero_le _
      · have := h (i - 1) (by omega) j (by omega)
        rw [show i - 1 + 1 = i by omega, moreD_geN] at this
        omega
  · intro h i hi j hj
    have := h (i + 1) (by omega) j (by omega)
    rw [moreD_geN]
    omega

set_option maxRecDepth 100000 in
set_option maxHeartbeats 2000000 in
theorem rstrong_any (b off n cap b' off' cap' : Nat) (p q : List Nat) (w : World) (hS : Sl .i64 w (some ⟨b, off, none⟩) n p) (hT : Sl .i64 w (some ⟨b', off', none⟩) n q) (hn : n ≤ 60) (h0 : 0 < n) :
    Calls Try.prog 46 #[.slice (some ⟨b, off, none⟩) n cap, .slice (some ⟨b', off', none⟩) n cap'] w fun e w' => e = .returned (.bool (rstrongB p q)) ∧ w = w' := by
  have hl := hS.len
  have hql := hT.len
  subst hl
  obtain ⟨pb, hpb, hrow⟩ := rowAt_of hS h0
  obtain ⟨qb, hqb, hrowq⟩ := rowAt_of hT h0
  have Hrow := Lib.hid (hrow w hpb)
  have Hrowq := Lib.hid (fun k (hk : k < p.length) => hrowq w hqb k (by rw [hql]; exact hk))
  clear hS hT hrow hrowq hql hpb hqb
  go_enter Try.func46, Try.ntmps46
  go_wp2
  go_loop [5] (fun iv => ∃ i : Nat, iv = .int .i64 i ∧ i ≤ p.length + 1 ∧ ∀ a, a < i → ∀ j, j ≤ p.length → geN p j a ≤ geN q j a) (fun iv => p.length + 1 - (intOf iv).toNat)
  case atStart => exact ⟨0, rfl, Nat.zero_le _, fun a ha => absurd ha (Nat.not_lt_zero _)⟩
  case round =>
    obtain ⟨i, rfl, hi, hok⟩ := hrel
    by_cases hlt : i ≤ p.length
    · go_wp2
      go_loop [6] (fun jv => ∃ j : Nat, jv = .int .i64 j ∧ j ≤ p.length + 1 ∧ ∀ c, c < j → geN p c i ≤ geN q c i) (fun jv => p.length + 1 - (intOf jv).toNat)
      case atStart => exact ⟨0, rfl, Nat.zero_le _, fun a ha => absurd ha (Nat.not_lt_zero _)⟩
      case round =>
        rename_i hrel
        obtain ⟨j, rfl, hj, hokj⟩ := hrel
        have Hok := Lib.hid hok
        have Hokj := Lib.hid hokj
        clear hok hokj
        by_cases hltj : j ≤ p.length
        · go_wp2
          go_loop [7, 8, 9] (fun av bv kv => ∃ k : Nat, kv = .int .i64 k ∧ k ≤ i ∧ av = .int .i64 (geN p j k : Nat) ∧ bv = .int .i64 (geN q j k : Nat)) (fun _ _ kv => i - (intOf kv).toNat)
          case atStart => exact ⟨0, rfl, Nat.zero_le _, rfl, rfl⟩
          case round =>
            rename_i hrel
            obtain ⟨k, rfl, hk, rfl, rfl⟩ := hrel
            by_cases hltk : k < i
            · have cp := Hrow.out k (by omega)
              have cq := Hrowq.out k (by omega)
              have ha := geN_le p j k
              have hb := geN_le q j k
              have Ha := Lib.hid (show geN p j (k + 1) = geN p j k + if j ≤ p.getD k 0 then 1 else 0 from rfl)
              have Hb := Lib.hid (show geN q j (k + 1) = geN q j k + if j ≤ q.getD k 0 then 1 else 0 from rfl)
              generalize geN p j k = a at *
              generalize geN q j k = c at *
              generalize p.getD k 0 = x at *
              generalize q.getD k 0 = y at *
              by_cases hx : j ≤ x <;> by_cases hy : j ≤ y
              · go_wp2
                go_round
                case rel => exact ⟨k + 1, by go_num, by omega, by rw [Ha.out, if_pos hx]; go_num, by rw [Hb.out, if_pos hy]; go_num⟩
                case measure => simp [intOf]; omega
              · go_wp2
                go_round
                case rel => exact ⟨k + 1, by go_num, by omega, by rw [Ha.out, if_pos hx]; go_num, by rw [Hb.out, if_neg hy]; rfl⟩
                case measure => simp [intOf]; omega
              · go_wp2
                go_round
                case rel => exact ⟨k + 1, by go_num, by omega, by rw [Ha.out, if_neg hx]; rfl, by rw [Hb.out, if_pos hy]; go_num⟩
                case measure => simp [intOf]; omega
              · go_wp2
                go_round
                case rel => exact ⟨k + 1, by go_num, by omega, by rw [Ha.out, if_neg hx]; rfl, by rw [Hb.out, if_neg hy]; rfl⟩
                case measure => simp [intOf]; omega
            · obtain rfl : k = i := by omega
              by_cases hbad : geN q j k < geN p j k
              · have hf : rstrongB p q = false := decide_eq_false fun hall => by have := hall k hlt j hltj; omega
                have Hf := Lib.hid hf
                clear hf
                generalize geN p j k = a at *
                generalize geN q j k = c at *
                go_wp2
                go_ret
                exact ⟨by rw [Hf.out]; rfl, rfl⟩
              · have Hbad := Lib.hid hbad
                generalize ha : geN p j k = a at *
                generalize hc : geN q j k = c at *
                have Hac := Lib.hid (And.intro ha hc)
                clear ha hc
                go_wp2
                go_round
                case rel =>
                  refine ⟨j + 1, by go_num, by omega, fun d hd => ?_⟩
                  by_cases e : d < j
                  · exact Hokj.out d e
                  · obtain rfl : d = j := by omega
                    rw [Hac.out.1, Hac.out.2]
                    omega
                case measure => simp [intOf]; omega
        · obtain rfl : j = p.length + 1 := by omega
          go_wp2
          go_round
          case rel =>
            refine ⟨i + 1, by go_num, by omega, fun a ha => ?_⟩
            by_cases e : a < i
            · exact Hok.out a e
            · obtain rfl : a = i := by omega
              exact fun j hj => Hokj.out j (by omega)
          case measure => simp [intOf]; omega
    · obtain rfl : i = p.length + 1 := by omega
      have ht : rstrongB p q = true := decide_eq_true fun i hi j hj => hok i (by omega) j hj
      have Ht := Lib.hid ht
      clear ht hok
      go_wp2
      go_ret
      exact ⟨by rw [Ht.out]; rfl, rfl⟩

end Go.Proofs.Ytcklgdcjedikoaa

namespace Go.Proofs.Ytcklgdcjedikoaa
open Go.RowKit

theorem yieldsIf_load_blk {ops : Array Oper} {S : World → Prop} {op : Oper} {a : Act} (hw : Region.wanted op (yielded ops a.tmps) = true) (ty : TypeId) (x : Operand) (ho : op.op = .load ty x)
    (g : Nat) (hx : a.eval x = .pointer (some ⟨g, 0, none⟩)) (cs : Array Value) (d : TypeDesc) (hS : ∀ w, S w → Blk w g ty cs)
    (hu : Try.prog.underlying ty = some d) (hd : d.isRow = true) (hi : (Try.prog.info? ty).map (·.size) = some cs.size) : YieldsIf Try.prog ops S op (.agg cs) a :=
  yieldsIf_load_mid (cs := cs.toList) hw ty x ho g 0 hx d (fun w h j v hv => by
    have := cell_of_row w g j cs ty (0, 0) (hS w h)
    rw [Nat.zero_add, this]
    simpa using hv) hu hd (by simpa using hi)

/-- Whether each inversion of p is one of q. -/
def weakB (p q : List Nat) : Bool := eqT (withTo p.length (invM p) (invM q) p.length 0) (invM q)

set_option maxRecDepth 100000 in
set_option maxHeartbeats 2000000 in
theorem Weak_any (b off n cap b' off' cap' : Nat) (p q : List Nat) (w : World) (hS : Sl .i64 w (some ⟨b, off, none⟩) n p) (hT : Sl .i64 w (some ⟨b', off', none⟩) n q) (hp : IsPerm p) (hq : IsPerm q) (hn : n ≤ 60) (h0 : 0 < n) :
    Calls Try.prog 18 #[.slice (some ⟨b, off, none⟩) n cap, .slice (some ⟨b', off', none⟩) n cap'] w fun e w' => e = .returned (.tuple #[.bool (weakB p q), .int .i64 0]) ∧ Below w.heap.size w w' := by
  have HC := checkPair_two b off n cap b' off' n cap' p q w hS hT hp hq hn h0 hn h0
  rw [if_pos rfl] at HC
  have hl := hS.len
  subst hl
  go_enter Try.func18, Try.ntmps18
  go_wp2_with fail
  refine HC.mono ?_
  rintro e w1 ⟨rfl, hb1⟩
  clear HC
  have hS1 := hS.below hb1
  have hT1 := hT.below hb1
  clear hS hT
  go_wp2_with fail
  refine (inverted_any b' off' p.length cap' q w1 hT1 hq hn h0).mono ?_
  rintro e w2 ⟨rfl, hb2⟩
  have hb2' := hb1.trans (hb2.mono hb1.size)
  have hS2 := hS1.below hb2
  clear hS1 hT1 hb1 hb2
  have hst := run_storeCells_new (P := Try.prog) w2 85 Try.zeroCells85 (pairC p.length (invM q)) (pairC_info _ _) (by rw [zero_size, pairC_size]) (pairC_one _ _)
  have hblk0 := Blk.new w2 85 (pairC p.length (invM q))
  have hb3 := below_new' w2 (.cells (pairC p.length (invM q)) 85)
  have hS3 := hS2.below hb3
  have Hb3 := Lib.hid (hb2'.trans (hb3.mono hb2'.size))
  go_upto_region 5 with fail
  clear hst hS2 hb2' hb3
  generalize w2.alloc (.cells (pairC p.length (invM q)) 85) = W0 at *
  have hsz0 : w2.heap.size < W0.heap.size := hblk0.lt
  have Hinv := Lib.hid (inverted_any b off p.length cap p W0.drew (hS3.drewN 1) hp hn h0)
  have hblkd : Blk W0.drew w2.heap.size 85 (pairC p.length (invM q)) := hblk0
  have Hwith := Lib.hid (fun W => with_any p.length (invM p) (invM q) W hn)
  have Heq := Lib.hid (eq_tables p.length (withTo p.length (invM p) (invM q) p.length 0) (invM q))
  have heq := Heq.out
  generalize hwb : eqT (withTo p.length (invM p) (invM q) p.length 0) (invM q) = r at *
  have Hwb := Lib.hid (show weakB p q = r from hwb)
  clear hwb Heq
  generalize withTo p.length (invM p) (invM q) p.length 0 = T at *
  refine wp_region_held_drew (S := fun W => Blk W w2.heap.size 85 (pairC p.length (invM q))) (by kernel_rfl) hblkd (fun hHeld => ?_)
  refine wpAnyH_take (i := 0) (oi := ?oi0) (v := .slice (some ⟨b, off, none⟩) p.length cap) ?hi0 (by kernel_rfl) (by kernel_rfl) (by kernel_rfl) ?hQ0 ?hy0 ?hS0 ?rest0
  case hi0 => simp only [List.getElem?_toArray, List.getElem?_cons_zero]; rfl
  case hQ0 => exact fun _ _ _ h => h
  case hy0 => exact Or.inl ⟨by rfl, fun w _ => by rfl⟩
  case hS0 => exact hHeld
  simp only [Act.put, List.setIfInBounds_toArray, List.set_cons_zero, List.set_cons_succ]
  refine wpAnyH_take (i := 2) (oi := ?oi2) (v := .agg (pairC p.length (invM q))) ?hi2 (by kernel_rfl) (by kernel_rfl) (by kernel_rfl) ?hQ2 ?hy2 ?hS2 ?rest2
  case hi2 => simp only [List.getElem?_toArray, List.getElem?_cons_succ, List.getElem?_cons_zero]; rfl
  case hQ2 => exact fun _ _ _ h => h
  case hy2 => exact yieldsIf_load_blk (by rfl) _ _ rfl _ rfl _ _ (fun _ h => h) struct_pairs rfl (pairC_info _ _)
  case hS2 => exact hHeld
  simp only [Act.put, List.setIfInBounds_toArray, List.set_cons_zero, List.set_cons_succ]
  refine wpAnyH_take (i := 4) (oi := ?oi4) (v := .agg (pairC p.length (invM q))) ?hi4 (by kernel_rfl) (by kernel_rfl) (by kernel_rfl) ?hQ4 ?hy4 ?hS4 ?rest4
  case hi4 => simp only [List.getElem?_toArray, List.getElem?_cons_succ, List.getElem?_cons_zero]; rfl
  case hQ4 => exact fun _ _ _ h => h
  case hy4 => exact yieldsIf_load_blk (by rfl) _ _ rfl _ rfl _ _ (fun _ h => h) struct_pairs rfl (pairC_info _ _)
  case hS4 => exact hHeld
  simp only [Act.put, List.setIfInBounds_toArray, List.set_cons_zero, List.set_cons_succ]
  refine wpAnyH_ready (rs := [1]) (by kernel_rfl) (by simp) ?_
  refine AllReadyH.cons rfl (fun K hK => ?_) AllReadyH.nil
  go_simp
  refine Hinv.out.mono ?_
  rintro e w3 ⟨rfl, hb3⟩
  try go_wp2_with fail
  refine hK.out _ _ ((hb3.block _ hsz0).trans hblkd) (fun hHeld => ?_)
  clear hK K
  refine wpAnyH_ready (rs := [3]) (by kernel_rfl) (by simp) ?_
  refine AllReadyH.cons rfl (fun K hK => ?_) AllReadyH.nil
  go_simp
  refine (Hwith.out w3).mono ?_
  rintro e w4 ⟨rfl, hb4⟩
  try go_wp2_with fail
  refine hK.out _ _ ((hb4.block _ hHeld.lt).trans hHeld) (fun hHeld => ?_)
  clear hK K
  refine wpAnyH_take (i := 5) (oi := ?oi5) (v := .bool r) ?hi5 (by kernel_rfl) (by kernel_rfl) (by kernel_rfl) ?hQ5 ?hy5 ?hS5 ?rest5
  case hi5 => simp only [List.getElem?_toArray, List.getElem?_cons_succ, List.getElem?_cons_zero]; rfl
  case hQ5 => exact fun _ _ _ h => h
  case hy5 => exact Or.inl ⟨by rfl, fun w _ => by go_simp⟩
  case hS5 => exact hHeld
  simp only [Act.put, List.setIfInBounds_toArray, List.set_cons_zero, List.set_cons_succ]
  refine wpAnyH_take (i := 6) (oi := ?oi6) (v := .bool r) ?hi6 (by kernel_rfl) (by kernel_rfl) (by kernel_rfl) ?hQ6 ?hy6 ?hS6 ?rest6
  case hi6 => simp only [List.getElem?_toArray, List.getElem?_cons_succ, List.getElem?_cons_zero]; rfl
  case hQ6 => exact fun _ _ _ h => h
  case hy6 => exact Or.inl ⟨by rfl, fun w _ => by rfl⟩
  case hS6 => exact hHeld
  simp only [Act.put, List.setIfInBounds_toArray, List.set_cons_zero, List.set_cons_succ]
  refine wpAnyH_take (i := 7) (oi := ?oi7) (v := .int .i64 0) ?hi7 (by kernel_rfl) (by kernel_rfl) (by kernel_rfl) ?hQ7 ?hy7 ?hS7 ?rest7
  case hi7 => simp only [List.getElem?_toArray, List.getElem?_cons_succ, List.getElem?_cons_zero]; rfl
  case hQ7 => exact fun _ _ _ h => h
  case hy7 => exact Or.inl ⟨by rfl, fun w _ => by rfl⟩
  case hS7 => exact hHeld
  simp only [Act.put, List.setIfInBounds_toArray, List.set_cons_zero, List.set_cons_succ]
  refine wpAnyH_done (by kernel_rfl) ?_ _
  go_wp2_with fail
  go_ret2
  rw [Hwb.out]
  exact ⟨rfl, (below_drewN Hb3.out 1).trans ((hb3.mono Hb3.out.size).trans (hb4.mono (Nat.le_trans Hb3.out.size hb3.size)))⟩

end Go.Proofs.Ytcklgdcjedikoaa
