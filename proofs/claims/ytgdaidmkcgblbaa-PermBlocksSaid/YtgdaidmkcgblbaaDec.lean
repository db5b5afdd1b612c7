/-
  The walks of rising, of slices.Delete of one element of a row of one's own, and of decode.
-/
import Derived.Test.YtgdaidmkcgblbaaRCode
import Derived.Test.YtgdaidmkcgblbaaShelf
namespace Go.Proofs.Ytgdaidmkcgblbaa
open Go.RowKit

theorem getD_range' (n i : Nat) (h : i < n) : (List.range n).getD i 0 = i := getD_range n i h

theorem getD_take' (l : List Nat) (m i : Nat) (h : i < m) : (l.take m).getD i 0 = l.getD i 0 := by
  rw [List.getD_eq_getElem?_getD, List.getElem?_take_of_lt h, List.getD_eq_getElem?_getD]

/-- Rows of rising numbers, under way. -/
def riseTo (n : Nat) : Nat → List Nat
  | 0 => List.replicate n 0
  | k + 1 => (riseTo n k).set k k
theorem riseTo_length (n : Nat) : ∀ k, (riseTo n k).length = n
  | 0 => by simp [riseTo]
  | k + 1 => by unfold riseTo; rw [List.length_set]; exact riseTo_length n k
theorem riseTo_take (n : Nat) : ∀ k, k ≤ n → (riseTo n k).take k = List.range k
  | 0, _ => by simp
  | k + 1, h => by
    have hl := riseTo_length n k
    unfold riseTo
    rw [take_snoc _ k (by rw [List.length_set, hl]; omega), List.take_set_of_le (Nat.le_refl k), riseTo_take n k (by omega), getD_set _ _ _ _ (by rw [hl]; omega), if_pos rfl, List.range_succ]
theorem riseTo_end (n : Nat) : riseTo n n = List.range n := by
  have := riseTo_take n n (Nat.le_refl n)
  rwa [List.take_of_length_le (by rw [riseTo_length]; exact Nat.le_refl n)] at this

set_option maxRecDepth 100000 in
theorem rising_any (n : Nat) (w : World) (hn : n ≤ 100000) : Calls Try.prog 103 #[.int .i64 n] w (RetRow (List.range n) w) := by
  have hmk : ∀ W : World, (Instr.makeSlice 22 (.int .i64 (n : Nat)) (.int .i64 (n : Nat))).run Try.prog W = .ok (.slice (some ⟨W.heap.size, 0, none⟩) n n) (W.alloc (.cells (cellsOf .i64 (List.replicate n 0)) 3)) :=
    fun W => run_makeInts Try.underlying22 info_int (by omega) .i64 .i64 n (by omega) W
  go_enter Try.func103, Try.ntmps103
  go_wp2
  go_loopw [8] (fun i wr => ∃ k : Nat, k ≤ n ∧ i = .int .i64 k ∧ Blk wr w.heap.size 3 (cellsOf .i64 (riseTo n k)) ∧ Below w.heap.size w wr) (fun i _ => n - (intOf i).toNat)
  case atStart => exact ⟨0, Nat.zero_le _, rfl, Blk.new w _ _, (Below.refl _ _).alloc (Nat.le_refl _) _⟩
  case round =>
    obtain ⟨k, hk, rfl, hblk, hbel⟩ := hrel
    clear hmk
    by_cases hlt : k < n
    · have ho := hblk.num k (by rw [riseTo_length]; exact hlt)
      have hf := hblk.free k
      have Hput := Lib.hid (show Blk (wr.setCell ⟨w.heap.size, k, none⟩ (.int .i64 (k : Nat))) w.heap.size 3 (cellsOf .i64 (riseTo n (k + 1))) from hblk.put k k rfl)
      generalize (riseTo n k).getD k 0 = y at *
      clear hblk
      go_wp2
      go_roundw
      case rel => exact ⟨k + 1, by omega, by go_num, Hput.out, hbel.setCell (Nat.le_refl _) _⟩
      case measure => simp [intOf]; omega
    · obtain rfl : k = n := by omega
      rw [riseTo_end] at hblk
      go_wp2
      go_ret
      exact ⟨w.heap.size, by rw [List.length_range]; rfl, Nat.le_refl _, hblk, hbel⟩

theorem setCells_only {g : Nat} : ∀ (vs : List Value) (o : Nat) (w : World), Only g w (w.setCells g o vs)
  | [], _, w => Only.refl g w
  | v :: r, o, w => ((Only.refl g w).setCell o v).trans (setCells_only r (o + 1) _)
theorem setCells_blk {g : Nat} {t : TypeId} {k : IntKind} : ∀ (l : List Nat) (o : Nat) (w : World) (xs : List Nat), Blk w g t (cellsOf k xs) → o + l.length ≤ xs.length →
    Blk (w.setCells g o (l.map fun x => Value.int k (x : Nat))) g t (cellsOf k (xs.take o ++ l ++ xs.drop (o + l.length)))
  | [], o, w, xs, h, _ => by simpa [World.setCells] using h
  | x :: l, o, w, xs, h, hl => by
    rw [List.length_cons] at hl
    have ih := setCells_blk l (o + 1) _ (xs.set o x) (h.put o x rfl) (by rw [List.length_set]; omega)
    have e : (xs.set o x).take (o + 1) ++ l ++ (xs.set o x).drop (o + 1 + l.length) = xs.take o ++ x :: l ++ xs.drop (o + (x :: l).length) := by
      rw [take_snoc _ o (by rw [List.length_set]; omega), List.take_set_of_le (Nat.le_refl o), getD_set _ _ _ _ (by omega), if_pos rfl, List.drop_set_of_lt (by omega)]
      simp [Nat.add_assoc, Nat.add_comm 1]
    rw [e] at ih
    exact ih

/-- One element of a row of one's own is taken out. -/
theorem delete_any (g m cap x : Nat) (xs : List Nat) (w : World) (hb : Blk w g 3 (cellsOf .i64 xs)) (hm : m ≤ xs.length) (hx : x < m) (hcap : m ≤ cap) (hc9 : cap ≤ 4611686018427387904) :
    Calls Try.prog 104 #[.slice (some ⟨g, 0, none⟩) m cap, .int .i64 x, .int .i64 ((x : Int) + 1)] w fun e w' => e = .returned (.slice (some ⟨g, 0, none⟩) (m - 1) cap) ∧
      (∃ ys, Blk w' g 3 (cellsOf .i64 ys) ∧ ys.length = xs.length ∧ ys.take (m - 1) = (xs.take m).take x ++ (xs.take m).drop (x + 1)) ∧ Only g w w' := by
  have hc := Try.slices_Delete_int_cells g 0 m cap x (x + 1) (xs.map fun (y : Nat) => (y : Int)) w (by simpa using hm) hcap (by omega) (by omega) (by omega)
    (fun j hj => by
      rw [List.length_map] at hj
      rw [Nat.zero_add, hb.num j hj]
      simp [List.getD_eq_getElem?_getD, hj])
    (fun j _ => by rw [Nat.zero_add]; exact hb.free j)
  have e1 : x + 1 - x = 1 := by omega
  rw [e1] at hc
  refine hc.mono ?_
  rintro e w' ⟨he, q, hw⟩
  refine ⟨he, ?_, ?_⟩
  · have hl : ((xs.take m).take x ++ (xs.take m).drop (x + 1) ++ [0]).length = m := by
      simp only [List.length_append, List.length_take, List.length_drop, List.length_singleton]
      omega
    have hs := setCells_blk (k := .i64) ((xs.take m).take x ++ (xs.take m).drop (x + 1) ++ [0]) 0 (w.drewN q) xs hb (by rw [hl]; omega)
    have ev : (((xs.map fun (y : Nat) => (y : Int)).take m).take x ++ ((xs.map fun (y : Nat) => (y : Int)).take m).drop (x + 1) ++ List.replicate 1 0).map (Value.int .i64) = ((xs.take m).take x ++ (xs.take m).drop (x + 1) ++ [0]).map fun (y : Nat) => Value.int .i64 (y : Nat) := by
      simp [← List.map_take, ← List.map_drop]
      rfl
    rw [ev] at hw
    rw [← hw] at hs
    refine ⟨_, hs, ?_, ?_⟩
    · rw [List.length_append, List.length_append, hl, List.take_zero, List.length_nil, List.length_drop, Nat.zero_add]; omega
    · rw [List.take_zero, List.nil_append, List.append_assoc, List.take_append_of_le_length (by simp; omega), List.take_of_length_le (by simp; omega)]
  · rw [hw]
    exact ((Only.refl g w).drewN q).trans (setCells_only _ _ _)

/-- What decode's loop keeps. -/
structure DecAt (B gl go : Nat) (c : List Nat) (k : Nat) (w wr : World) : Prop where
  left : ∃ xs, Blk wr gl 3 (cellsOf .i64 xs) ∧ xs.length = c.length ∧ xs.take (c.length - k) = leftL c.length c k
  out : ∃ ys, Blk wr go 3 (cellsOf .i64 ys) ∧ ys.length = c.length ∧ ys.take k = (outL c).take k
  bel : Below B w wr

set_option maxRecDepth 100000 in
set_option maxHeartbeats 1000000 in
theorem decode_any (b off n cap : Nat) (c : List Nat) (w : World) (hS : Sl .i64 w (some ⟨b, off, none⟩) n c) (hv : ValidC c) (hn : n ≤ 60) (h0 : 0 < n) :
    Calls Try.prog 78 #[.slice (some ⟨b, off, none⟩) n cap] w (RetRow (outL c) w) := by
  have hl := hS.len
  subst hl
  have hmk : ∀ W : World, (Instr.makeSlice 22 (.int .i64 (c.length : Nat)) (.int .i64 (c.length : Nat))).run Try.prog W = .ok (.slice (some ⟨W.heap.size, 0, none⟩) c.length c.length) (W.alloc (.cells (cellsOf .i64 (List.replicate c.length 0)) 3)) :=
    fun W => run_makeInts Try.underlying22 info_int (by omega) .i64 .i64 c.length (by omega) W
  have Hrise := Lib.hid (rising_any c.length w (by omega))
  unfold RetRow at Hrise
  rw [List.length_range] at Hrise
  obtain ⟨b', off', e, hs, hc⟩ := hS.at h0
  injection e with e
  injection e with e1 e2
  subst e1 e2
  have Hc := Lib.hid hc
  have Hv := Lib.hid hv
  have Hll := Lib.hid (fun k hk => leftL_length hv k hk)
  have Hol := Lib.hid (outL_length c)
  clear hc hS hv
  go_enter Try.func78, Try.ntmps78
  go_wp2_with (go_at_call 103; refine Hrise.out.mono ?_; rintro e w1 ⟨gl, rfl, hgl, hblk, hb1⟩)
  have hgl1 := hblk.lt
  have hs1 := hb1.size
  go_loopw [3, 15] (fun v i wr => ∃ k : Nat, k ≤ c.length ∧ i = .int .i64 k ∧ v = .slice (some ⟨gl, 0, none⟩) (c.length - k) c.length ∧ DecAt w.heap.size gl w1.heap.size c k w wr) (fun _ i _ => c.length - (intOf i).toNat)
  case atStart =>
    exact ⟨0, Nat.zero_le _, rfl, rfl, ⟨List.range c.length, (Below.heap_alloc _ _ _ hgl1).trans hblk, by simp, by rw [Nat.sub_zero, List.take_of_length_le (by simp)]; rfl⟩, ⟨List.replicate c.length 0, Blk.new w1 _ _, by simp, rfl⟩, hb1.alloc hs1 _⟩
  case round =>
    obtain ⟨k, hk, rfl, rfl, ⟨xs, hx1, hx2, hx3⟩, ⟨ys, hy1, hy2, hy3⟩, hbel⟩ := hrel
    clear hmk
    by_cases hlt : k < c.length
    · have hck := (hbel.cell (p := ⟨b, off + k, none⟩) hs).trans (Hc.out k hlt)
      have hvk := Hv.out k hlt
      have hcl := hx1.num (c.getD k 0) (by rw [hx2]; omega)
      have hxl := Hll.out k hk
      have hxx : xs.getD (c.getD k 0) 0 = (outL c).getD k 0 := by
        rw [outL_get c k hlt, ← hx3, getD_take' _ _ _ (by omega)]
      have Hnext := Lib.hid (show leftL c.length c (k + 1) = (leftL c.length c k).take (c.getD k 0) ++ (leftL c.length c k).drop (c.getD k 0 + 1) from rfl)
      rw [← hx3] at Hnext
      have ho := hy1.num k (by rw [hy2]; exact hlt)
      have hf := hy1.free k
      have hput : Blk (wr.setCell ⟨w1.heap.size, k, none⟩ (.int .i64 ((xs.getD (c.getD k 0) 0 : Nat) : Int))) w1.heap.size 3 (cellsOf .i64 (ys.set k (xs.getD (c.getD k 0) 0))) := hy1.put k _ rfl
      have hx1' : Blk (wr.setCell ⟨w1.heap.size, k, none⟩ (.int .i64 ((xs.getD (c.getD k 0) 0 : Nat) : Int))) gl 3 (cellsOf .i64 xs) := (Below.heap_setCell _ _ _ _ (by simp; omega)).trans hx1
      have Hys := Lib.hid (show (ys.set k (xs.getD (c.getD k 0) 0)).take (k + 1) = (outL c).take (k + 1) by
        rw [take_snoc _ k (by rw [List.length_set, hy2]; exact hlt), List.take_set_of_le (Nat.le_refl k), hy3, getD_set _ _ _ _ (by rw [hy2]; exact hlt), if_pos rfl, hxx, take_snoc (outL c) k (by rw [Hol.out]; exact hlt)])
      have hbel' := hbel.setCell (p := ⟨w1.heap.size, k, none⟩) hs1 (.int .i64 ((xs.getD (c.getD k 0) 0 : Nat) : Int))
      have Hy2 := Lib.hid hy2
      have Hx2 := Lib.hid hx2
      have hdel := delete_any gl (c.length - k) c.length (c.getD k 0) xs _ hx1' (by omega) (by omega) (by omega) (by omega)
      have Hdel := Lib.hid hdel
      have Hput := Lib.hid hput
      have Hbel := Lib.hid hbel'
      clear hdel hput hbel' hx1 hx1' hx2 hx3 hy1 hy2 hy3 hxx hxl
      generalize xs.getD (c.getD k 0) 0 = y at *
      generalize hcc : c.getD k 0 = x at *
      clear hcc
      go_wp2_with (go_at_call 104; refine Hdel.out.mono ?_; rintro e w2 ⟨rfl, ⟨zs, hz1, hz2, hz3⟩, honly⟩)
      go_roundw
      case rel => exact ⟨k + 1, by omega, by go_num, by rw [Nat.sub_sub], ⟨zs, hz1, hz2.trans Hx2.out, by rw [Hnext.out, ← hz3, Nat.sub_sub]⟩, ⟨_, honly.blk (by omega) Hput.out, by rw [List.length_set]; exact Hy2.out, Hys.out⟩, Hbel.out.trans (honly.below hgl)⟩
      case measure => simp [intOf]; omega
    · obtain rfl : k = c.length := by omega
      have hys : ys = outL c := by
        rwa [List.take_of_length_le (by omega), List.take_of_length_le (by rw [Hol.out]; exact Nat.le_refl _)] at hy3
      have Hys := Lib.hid hys
      clear hys hy3
      go_wp2
      go_ret
      exact ⟨w1.heap.size, by rw [Hol.out]; rfl, hs1, by rw [← Hys.out]; exact hy1, hbel⟩

end Go.Proofs.Ytgdaidmkcgblbaa
