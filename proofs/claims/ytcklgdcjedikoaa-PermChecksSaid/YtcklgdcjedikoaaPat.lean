/-
  The walk of pattern.
-/
import Derived.Test.YtcklgdcjedikoaaLong
import Derived.Test.YtcklgdcjedikoaaTame
namespace Go.Proofs.Ytcklgdcjedikoaa
open Go.RowKit

/-- A row of n numbers in a block of its own. -/
def RetNums' (n : Nat) (l : List Nat) (w : World) (e : Ending) (w' : World) : Prop :=
  ∃ g, e = .returned (.slice (some ⟨g, 0, none⟩) n n) ∧ w.heap.size ≤ g ∧ Blk w' g 3 (cellsOf .i64 l) ∧ l.length = n ∧ Below w.heap.size w w'

/-- How many of some parts begin with less than a part does. -/
def patAt (p : List Nat) (rows : List (Nat × Nat)) (x : Nat × Nat) : Nat := rows.countP fun y => decide (p.getD y.1 0 < p.getD x.1 0)
def patL (p : List Nat) (rows : List (Nat × Nat)) : List Nat := rows.map (patAt p rows)

theorem patAt_snoc (p : List Nat) (rows : List (Nat × Nat)) (x y : Nat × Nat) : patAt p (rows ++ [y]) x = patAt p rows x + if p.getD y.1 0 < p.getD x.1 0 then 1 else 0 := by
  unfold patAt
  rw [List.countP_append]
  congr 1
  by_cases h : p.getD y.1 0 < p.getD x.1 0
  · rw [if_pos h]; simp only [List.countP_cons, List.countP_nil, h]; simp
  · rw [if_neg h]; simp only [List.countP_cons, List.countP_nil, h]; simp
theorem patAt_le (p : List Nat) (rows : List (Nat × Nat)) (x : Nat × Nat) : patAt p rows x ≤ rows.length := List.countP_le_length
theorem take_snoc' {α : Type} (l : List α) (k : Nat) (h : k < l.length) : l.take (k + 1) = l.take k ++ [l[k]] := by
  rw [List.take_succ_eq_append_getElem h]

/-- What pattern's loops keep of the numbers: those before i are as they will be, those behind it 0. -/
def PatAt (p : List Nat) (rows : List (Nat × Nat)) (i : Nat) (z : Nat) (xs : List Nat) : Prop :=
  xs.length = rows.length ∧ (∀ j (h : j < rows.length), j < i → xs.getD j 0 = patAt p rows rows[j]) ∧ (i < rows.length → xs.getD i 0 = z) ∧ (∀ j, i < j → j < rows.length → xs.getD j 0 = 0)

theorem PatAt.put {p : List Nat} {rows : List (Nat × Nat)} {i z z' : Nat} {xs : List Nat} (h : PatAt p rows i z xs) (hi : i < rows.length) : PatAt p rows i z' (xs.set i z') := by
  obtain ⟨h1, h2, h3, h4⟩ := h
  refine ⟨by rw [List.length_set]; exact h1, fun j hj hji => ?_, fun _ => ?_, fun j hj hjl => ?_⟩
  · rw [getD_set _ _ _ _ (by omega), if_neg (by omega)]; exact h2 j hj hji
  · rw [getD_set _ _ _ _ (by omega), if_pos rfl]
  · rw [getD_set _ _ _ _ (by omega), if_neg (by omega)]; exact h4 j hj hjl
theorem PatAt.next {p : List Nat} {rows : List (Nat × Nat)} {i : Nat} {xs : List Nat} (hi : i < rows.length) (h : PatAt p rows i (patAt p rows rows[i]) xs) : PatAt p rows (i + 1) 0 xs := by
  obtain ⟨h1, h2, h3, h4⟩ := h
  refine ⟨h1, fun j hj hji => ?_, fun h => h4 (i + 1) (by omega) h, fun j hj hjl => h4 j (by omega) hjl⟩
  by_cases e : j = i
  · subst e; exact h3 hi
  · exact h2 j hj (by omega)

set_option maxRecDepth 100000 in
set_option maxHeartbeats 2000000 in
theorem pattern_any (B0 b off n cap c : Nat) (g : Nat) (p : List Nat) (rows : List (Nat × Nat)) (w : World) (hS : Sl .i64 w (some ⟨b, off, none⟩) n p) (hn : n ≤ 60)
    (hrows : ∀ x ∈ rows, x.1 < x.2 ∧ x.2 ≤ n) (hm : rows.length ≤ 60) (hown : w.ownsRow B0 22 1 (.slice (some ⟨g, 0, none⟩) rows.length c) rows.length (rows.map (partV b off cap))) :
    Calls Try.prog 101 #[.slice (some ⟨g, 0, none⟩) rows.length c] w (RetNums' rows.length (patL p rows) w) := by
  have hl := hS.len
  subst hl
  have hmk : ∀ W : World, (Instr.makeSlice 22 (.int .i64 (rows.length : Nat)) (.int .i64 (rows.length : Nat))).run Try.prog W = .ok (.slice (some ⟨W.heap.size, 0, none⟩) rows.length rows.length) (W.alloc (.cells (cellsOf .i64 (List.replicate rows.length 0)) 3)) :=
    fun W => run_makeInts Try.underlying22 info_int' (by omega) .i64 .i64 rows.length (by omega) W
  have hg := own_lt hown
  have hrow : ∀ (W : World), Below w.heap.size w W → ∀ i (hi : i < rows.length), W.cell? ⟨g, i, none⟩ = some (.slice (some ⟨b, off + rows[i].1, none⟩) (rows[i].2 - rows[i].1) (cap - rows[i].1)) := by
    intro W hW i hi
    rw [(hW.cell (p := ⟨g, i, none⟩) hg.1), own_cell hown i hi]
    simp [hi, partV]
  have hfst : ∀ (W : World), Below w.heap.size w W → ∀ i (hi : i < rows.length), W.cell? ⟨b, off + rows[i].1, none⟩ = some (.int .i64 (p.getD rows[i].1 0 : Nat)) ∧ 0 < rows[i].2 - rows[i].1 := by
    intro W hW i hi
    have hx := hrows rows[i] (List.getElem_mem hi)
    obtain ⟨b', off', e, hs, hc⟩ := hS.at (by omega)
    injection e with e
    injection e with e1 e2
    subst e1 e2
    exact ⟨(hW.cell (p := ⟨b, off + rows[i].1, none⟩) hs).trans (hc _ (by omega)), by omega⟩
  have Hrow := Lib.hid hrow
  have Hfst := Lib.hid hfst
  clear hrow hfst hown hS hrows
  go_enter Try.func101, Try.ntmps101
  go_wp2
  go_loopw [13] (fun i wr => ∃ (k : Nat) (xs : List Nat), k ≤ rows.length ∧ i = .int .i64 k ∧ Blk wr w.heap.size 3 (cellsOf .i64 xs) ∧ PatAt p rows k 0 xs ∧ Below w.heap.size w wr) (fun i _ => rows.length - (intOf i).toNat)
  case atStart =>
    refine ⟨0, List.replicate rows.length 0, Nat.zero_le _, rfl, Blk.new _ _ _, ⟨by simp, fun j _ h => absurd h (by omega), fun h => ?_, fun j _ h => ?_⟩, (Below.refl _ _).alloc (Nat.le_refl _) _⟩
    · simp [List.getD_eq_getElem?_getD, h]
    · simp [List.getD_eq_getElem?_getD, h]
  case round =>
    obtain ⟨k, xs, hk, rfl, hblk, hpat, hbel⟩ := hrel
    clear hmk
    by_cases hlt : k < rows.length
    · have ck := Hrow.out wr hbel k hlt
      have Hpat := Lib.hid hpat
      clear hpat
      generalize hrk : rows[k] = xk at *
      have Hrk := Lib.hid hrk
      clear hrk
      obtain ⟨s, e⟩ := xk
      dsimp only at *
      go_wp2
      obtain ⟨wo, rfl⟩ : ∃ wo : World, wo = wr := ⟨_, rfl⟩
      go_loopw [20] (fun i wr => ∃ (j : Nat) (ys : List Nat), j ≤ rows.length ∧ i = .int .i64 j ∧ Blk wr w.heap.size 3 (cellsOf .i64 ys) ∧ PatAt p rows k (patAt p (rows.take j) (s, e)) ys ∧ Below w.heap.size w wr) (fun i _ => rows.length - (intOf i).toNat)
      case atStart => exact ⟨0, xs, Nat.zero_le _, rfl, hblk, Hpat.out, hbel⟩
      case round =>
        obtain ⟨j, ys, hj, rfl, hb2, hp2, hbel2⟩ := hrel
        by_cases hjl : j < rows.length
        · have cj := Hrow.out wr hbel2 j hjl
          have fj := Hfst.out wr hbel2 j hjl
          have fk := Hfst.out wr hbel2 k hlt
          rw [Hrk.out] at fk
          have Hsn := Lib.hid (show patAt p (rows.take (j + 1)) (s, e) = patAt p (rows.take j) (s, e) + if p.getD rows[j].1 0 < p.getD s 0 then 1 else 0 by
            rw [take_snoc' rows j hjl]; exact patAt_snoc p _ (s, e) rows[j])
          have hle := patAt_le p (rows.take j) (s, e)
          rw [List.length_take] at hle
          have hyk := hp2.2.2.1 hlt
          have hck := hb2.num k (by rw [hp2.1]; exact hlt)
          rw [hyk] at hck
          have hfk := hb2.free k
          have Hp2 := Lib.hid hp2
          clear hyk hp2
          generalize hrj : rows[j] = xj at *
          obtain ⟨s', e'⟩ := xj
          clear hrj
          dsimp only at *
          obtain ⟨fj1, fj2⟩ := fj
          obtain ⟨fk1, fk2⟩ := fk
          generalize p.getD s' 0 = u at *
          generalize p.getD s 0 = v at *
          by_cases huv : u < v
          · have Hc := Lib.hid (show patAt p (rows.take (j + 1)) (s, e) = patAt p (rows.take j) (s, e) + 1 by rw [Hsn.out, if_pos huv])
            have hput := hb2.put k (patAt p (rows.take j) (s, e) + 1) (z := ((patAt p (rows.take j) (s, e) : Nat) : Int) + 1) (by omega)
            have Hput := Lib.hid hput
            clear hput
            generalize patAt p (rows.take j) (s, e) = q at *
            generalize e' - s' = n1 at *
            generalize e - s = n2 at *
            go_wp2
            go_quiet (fail)
            go_wp2
            go_roundw
            case rel => exact ⟨j + 1, _, by omega, by go_num, Hput.out, by rw [Hc.out]; exact Hp2.out.put hlt, (below_drewN hbel2 nq).setCell (Nat.le_refl _) _⟩
            case measure => simp [intOf]; omega
          · have Hc := Lib.hid (show patAt p (rows.take (j + 1)) (s, e) = patAt p (rows.take j) (s, e) by rw [Hsn.out, if_neg huv, Nat.add_zero])
            have huv' : v ≤ u := by omega
            generalize patAt p (rows.take j) (s, e) = q at *
            generalize e' - s' = n1 at *
            generalize e - s = n2 at *
            go_wp2
            go_quiet (fail)
            go_wp2
            go_roundw
            case rel => exact ⟨j + 1, ys, by omega, by go_num, hb2, by rw [Hc.out]; exact Hp2.out, below_drewN hbel2 nq⟩
            case measure => simp [intOf]; omega
        · obtain rfl : j = rows.length := by omega
          have Hnext := Lib.hid (show PatAt p rows (k + 1) 0 ys by
            rw [List.take_length] at hp2
            rw [← Hrk.out] at hp2
            exact hp2.next hlt)
          go_wp2
          go_roundw
          case rel => exact ⟨k + 1, ys, by omega, by go_num, hb2, Hnext.out, hbel2⟩
          case measure => simp [intOf]; omega
    · obtain rfl : k = rows.length := by omega
      have Hx := Lib.hid (show xs = patL p rows by
        apply List.ext_getElem
        · rw [hpat.1]; simp [patL]
        · intro j h1 h2
          have hj : j < rows.length := by rw [← hpat.1]; exact h1
          have e := hpat.2.1 j hj hj
          rw [List.getD_eq_getElem?_getD, List.getElem?_eq_getElem h1] at e
          simpa [patL] using e)
      have hxl := hpat.1
      clear hpat
      go_wp2
      go_ret
      exact ⟨_, rfl, Nat.le_refl _, by rw [← Hx.out]; exact hblk, by rw [← Hx.out]; exact hxl, hbel⟩

end Go.Proofs.Ytcklgdcjedikoaa
