/-
  The walks of Unrank, of both sides.
-/
import Derived.Test.YtknicageehomkaaRFrom
namespace Go.Proofs.Ytknicageehomkaa
open Go.RowKit

theorem digL_small (n r : Nat) : ∀ x ∈ digL n r, x ≤ n := by
  intro x hx
  unfold digL at hx
  obtain ⟨i, hi, rfl⟩ := List.mem_map.1 hx
  have h1 : i < n := List.mem_range.1 hi
  have := Nat.mod_lt (r / facN (n - 1 - i)) (show n - i > 0 by omega)
  omega

theorem unrank_no (n r : Int) (w : World) (h : n < 1 ∨ 20 < n ∨ r < 0) :
    Calls Try.prog 40 #[.int .i64 n, .int .i64 r] w fun e w' => e = .returned (.tuple #[.slice none 0 0, .int .i64 1]) ∧ w = w' := by
  by_cases h1 : n < 1
  · have d1 : decide (n < 1) = true := decide_eq_true h1
    clear h
    go_enter Try.func40, Try.ntmps40
    go_wp2
    go_ret2
    exact ⟨rfl, rfl⟩
  · have d1 : decide (n < 1) = false := decide_eq_false h1
    by_cases h2 : 20 < n
    · have d2 : decide ((20 : Int) < n) = true := decide_eq_true h2
      clear h
      go_enter Try.func40, Try.ntmps40
      go_wp2
      go_ret2
      exact ⟨rfl, rfl⟩
    · have d2 : decide ((20 : Int) < n) = false := decide_eq_false h2
      have d3 : decide (r < 0) = true := decide_eq_true (by omega)
      clear h h1 h2
      go_enter Try.func40, Try.ntmps40
      go_wp2
      go_ret2
      exact ⟨rfl, rfl⟩

/-- What Unrank returns of 1 to 20 elements and a rank that is not negative. -/
def RetUnr (n r : Nat) (w : World) (e : Ending) (w' : World) : Prop :=
  (r < facN n ∧ RetRowE (outL (digL n r)) w e w') ∨ (facN n ≤ r ∧ e = .returned (.tuple #[.slice none 0 0, .int .i64 1]) ∧ Below w.heap.size w w')

set_option maxRecDepth 100000 in
set_option maxHeartbeats 1000000 in
theorem unrank_any (n r : Nat) (w : World) (h1 : 1 ≤ n) (h2 : n ≤ 20) (hr : r ≤ 9223372036854775807) :
    Calls Try.prog 40 #[.int .i64 n, .int .i64 r] w (RetUnr n r w) := by
  have d1 : decide ((n : Int) < 1) = false := decide_eq_false (by omega)
  have d2 : decide ((20 : Int) < (n : Int)) = false := decide_eq_false (by omega)
  have d3 : decide ((r : Int) < 0) = false := decide_eq_false (by omega)
  have hmk : ∀ W : World, (Instr.makeSlice 22 (.int .i64 (n : Nat)) (.int .i64 (n : Nat))).run Try.prog W = .ok (.slice (some ⟨W.heap.size, 0, none⟩) n n) (W.alloc (.cells (cellsOf .i64 (List.replicate n 0)) 3)) :=
    fun W => run_makeInts Try.underlying22 info_int (by omega) .i64 .i64 n (by omega) W
  go_enter Try.func40, Try.ntmps40
  go_wp2
  go_loopw [1, 7] (fun v i wr => ∃ (k : Nat) (ys : List Nat), k ≤ n ∧ i = .int .i64 ((k : Int) - 1) ∧ v = .int .i64 (r / facN (n - k) : Nat) ∧ Blk wr w.heap.size 3 (cellsOf .i64 ys) ∧ ys.length = n ∧ (∀ j, k ≤ j → j < n → ys.getD j 0 = (digL n r).getD j 0) ∧ Below w.heap.size w wr) (fun _ i _ => (intOf i + 1).toNat)
  case atStart => exact ⟨n, List.replicate n 0, Nat.le_refl _, by first | rfl | go_num, by rw [Nat.sub_self, show facN 0 = 1 from rfl, Nat.div_one], Blk.new w _ _, by simp, fun j h1 h2 => absurd h1 (by omega), (Below.refl _ _).alloc (Nat.le_refl _) _⟩
  case round =>
    obtain ⟨k, ys, hk, rfl, rfl, hblk, hyl, hy, hbel⟩ := hrel
    clear hmk
    by_cases hlt : 0 < k
    · obtain ⟨m, rfl⟩ : ∃ m, k = m + 1 := ⟨k - 1, by omega⟩
      have e1 : (((m + 1 : Nat) : Int) - 1) = (m : Int) := by omega
      rw [e1]
      have ho := hblk.num m (by omega)
      have hf := hblk.free m
      have hup := digit_up n r m (by omega)
      rw [show n - 1 - m = n - (m + 1) by omega] at hup
      have hdig := digL_get n r m (by omega)
      rw [show n - 1 - m = n - (m + 1) by omega] at hdig
      have hq : r / facN (n - (m + 1)) ≤ r := Nat.div_le_self _ _
      have Hup := Lib.hid hup
      have Hdig := Lib.hid hdig
      have Hyl := Lib.hid hyl
      have Hy := Lib.hid hy
      generalize r / facN (n - (m + 1)) = q at *
      have hput : Blk (wr.setCell ⟨w.heap.size, m, none⟩ (.int .i64 ((q % (n - m) : Nat) : Int))) w.heap.size 3 (cellsOf .i64 (ys.set m (q % (n - m)))) := hblk.put m _ rfl
      have Hput := Lib.hid hput
      have hml : q % (n - m) ≤ q := Nat.mod_le _ _
      have hdl : q / (n - m) ≤ q := Nat.div_le_self _ _
      have e2 : ((n : Int) - (m : Int)) = ((n - m : Nat) : Int) := by omega
      have e3 : (q : Int).tmod ((n - m : Nat) : Int) = ((q % (n - m) : Nat) : Int) := by rw [Int.tmod_eq_emod_of_nonneg (by omega)]; simp
      have e4 : (q : Int) % ((n - m : Nat) : Int) = ((q % (n - m) : Nat) : Int) := by simp
      have e5 : (q : Int).tdiv ((n - m : Nat) : Int) = ((q / (n - m) : Nat) : Int) := by simp
      have e6 : (q : Int) / ((n - m : Nat) : Int) = ((q / (n - m) : Nat) : Int) := by simp
      generalize ys.getD m 0 = y at *
      clear hblk hput hyl hy hup hdig
      have hd : 0 < n - m := by omega
      have Hx := Lib.hid (show (ys.set m (q % (n - m))).length = n ∧ ∀ j, m ≤ j → j < n → (ys.set m (q % (n - m))).getD j 0 = (digL n r).getD j 0 from by
        refine ⟨by rw [List.length_set]; exact Hyl.out, fun j h3 h4 => ?_⟩
        rw [getD_set _ _ _ _ (by rw [Hyl.out]; exact h4)]
        by_cases e : m = j
        · subst e; rw [if_pos rfl, Hdig.out]
        · rw [if_neg e]; exact Hy.out j (by omega) h4)
      generalize hdd : n - m = d at *
      have Hdd := Lib.hid hdd
      clear hdd
      have hdne : ¬ d = 0 := by omega
      generalize q % d = rm at *
      generalize q / d = dv at *
      go_wp2
      go_roundw
      case rel => exact ⟨m, _, by omega, by first | rfl | go_num, by rw [Hdd.out, ← Hup.out], Hput.out, Hx.out.1, Hx.out.2, hbel.setCell (Nat.le_refl _) _⟩
      case measure => simp [intOf]
    · obtain rfl : k = 0 := by omega
      rw [Nat.sub_zero] at *
      have hys : ys = digL n r := by
        apply List.ext_getElem
        · rw [hyl, digL_length]
        · intro j h3 h4
          have := hy j (Nat.zero_le _) (by omega)
          rwa [List.getD_eq_getElem?_getD, List.getElem?_eq_getElem h3, List.getD_eq_getElem?_getD, List.getElem?_eq_getElem h4] at this
      subst hys
      have hS := Sl.of_blk hblk (digL_length n r) (by omega)
      have Hdec := Lib.hid (decode_any w.heap.size 0 n n (digL n r) wr hS (digL_valid n r) (by omega) (by omega))
      clear hblk hyl hy hS
      have hz : ((0 : Nat) : Int) - 1 = -1 := by omega
      rw [hz]
      by_cases hrf : r < facN n
      · have hq : r / facN n = 0 := Nat.div_eq_of_lt hrf
        rw [hq]
        have Hrf := Lib.hid hrf
        clear hrf hq
        go_wp2_with (go_at_call 78; refine Hdec.out.mono ?_; rintro e w2 ⟨g, rfl, hg, hblk, hb2⟩)
        go_ret2
        exact .inl ⟨Hrf.out, g, rfl, Nat.le_trans hbel.size hg, hblk, hbel.trans (hb2.mono hbel.size)⟩
      · have hq : 0 < r / facN n := Nat.div_pos (by omega) (facN_pos n)
        have Hrf := Lib.hid (show facN n ≤ r by omega)
        generalize r / facN n = q at *
        clear hrf
        go_wp2
        go_ret2
        exact .inr ⟨Hrf.out, rfl, hbel⟩

set_option maxRecDepth 100000 in
set_option maxHeartbeats 1000000 in
theorem runrank_any (n r : Nat) (w : World) (h1 : 1 ≤ n) (h2 : n ≤ 20) (hr : r < facN n) :
    Calls Try.prog 42 #[.int .i64 n, .int .i64 r] w (RetOwn (outL (digL n r)) w) := by
  obtain ⟨i0, hi, hz0, hz1, hz2⟩ := info_parts info_int'
  have hf := facN_small n h2
  have Hrfc := Lib.hid (fun (W : World) (b cap : Nat) (hS : Sl .i64 W (some ⟨b, 0, none⟩) n (digL n r)) => rfromCode_any b 0 n cap (digL n r) W hS (digL_valid n r) (by omega) (by omega))
  have hr0 : r % facN (n - 0) = r := Nat.mod_eq_of_lt hr
  have Hr0 := Lib.hid hr0
  clear hr0
  have Hdl := Lib.hid (digL_length n r)
  go_enter Try.func42, Try.ntmps42
  go_wp2
  go_loopw [1, 5, 6] (fun rv v i wr => ∃ k : Nat, k ≤ n ∧ i = .int .i64 k ∧ rv = .int .i64 (r % facN (n - k) : Nat) ∧ wr.ownsRow w.heap.size 3 1 v k (nums .i64 ((digL n r).take k)) ∧ Below w.heap.size w wr) (fun _ _ i _ => n - (intOf i).toNat)
  case atStart => exact ⟨0, Nat.zero_le _, rfl, by rw [Hr0.out], ⟨by simp [nums], .inl ⟨rfl, rfl⟩⟩, Below.refl _ _⟩
  case round =>
    obtain ⟨k, hk, rfl, rfl, hown, hbel⟩ := hrel
    by_cases hlt : k < n
    · have hsz : w.heap.size ≤ wr.heap.size := hbel.size
      have hdn := digit_down n r k hlt
      have hrd := rest_down n r k hlt
      have hdg := digL_get n r k hlt
      have Hrd := Lib.hid (show r % facN (n - k) % facN (n - 1 - k) = r % facN (n - (k + 1)) by rw [hrd, show n - 1 - k = n - (k + 1) by omega])
      rw [← hdn] at hdg
      have Hnext := Lib.hid (show nums .i64 ((digL n r).take k) ++ [.int .i64 ((r % facN (n - k) / facN (n - 1 - k) : Nat) : Int)] = nums .i64 ((digL n r).take (k + 1)) by
        rw [nums_snoc, take_snoc (digL n r) k (by rw [Hdl.out]; exact hlt), hdg])
      have Hfac := Lib.hid (fun W => rfactorial_any (n - 1 - k) W (by omega))
      have hfp := facN_pos (n - 1 - k)
      have hfs := facN_small (n - 1 - k) (by omega)
      have hql : r % facN (n - k) < 9223372036854775807 := Nat.lt_of_lt_of_le (Nat.mod_lt _ (facN_pos _)) (Nat.le_of_lt (facN_small (n - k) (by omega)))
      have Hown := Lib.hid hown
      clear hdn hrd hdg hown
      have e0 : (n : Int) - 1 - (k : Int) = ((n - 1 - k : Nat) : Int) := by omega
      generalize n - 1 - k = m at *
      generalize r % facN (n - k) = q at *
      generalize facN m = f at *
      have hdl : q / f ≤ q := Nat.div_le_self _ _
      have hml : q % f ≤ q := Nat.mod_le _ _
      have e3 : (q : Int).tmod (f : Int) = ((q % f : Nat) : Int) := by rw [Int.tmod_eq_emod_of_nonneg (by omega)]; simp
      have e4 : (q : Int) % (f : Int) = ((q % f : Nat) : Int) := by simp
      have e5 : (q : Int).tdiv (f : Int) = ((q / f : Nat) : Int) := by simp
      have e6 : (q : Int) / (f : Int) = ((q / f : Nat) : Int) := by simp
      have hfne : ¬ f = 0 := by omega
      generalize q % f = rm at *
      generalize q / f = dv at *
      have hown := Hown.out
      have h63 : k + 1 ≤ maxLen := by unfold maxLen; omega
      have h47 : (k + 1) * 8 ≤ 140737488355328 := by omega
      go_wp2_with (first
        | (go_at_call 41; refine (Hfac.out _).mono ?_; rintro e w' ⟨rfl, rfl⟩)
        | (at_builtin; refine wpList_append_own _ rfl _ _ 22 rfl w.heap.size 3 i0 (.int .i64 0) 1 8 Try.underlying22 hi hz0 hz1 hz2 rfl (by decide) _ _ _ rfl (hown.alloc _) ⟨wr.heap.size, 0, none⟩ 1 1 [.int .i64 (dv : Nat)] rfl rfl (cell_one_new _ _ _) (one_cell _ rfl) h63 h47 (alloc_size_le _ _ hsz) ?_))
      intro v' w1 hown' hgrow _
      have hb' := hbel.trans (own_below hown hsz hgrow)
      rw [Hnext.out] at hown'
      clear hown hgrow
      go_wp2
      go_roundw
      case rel => exact ⟨k + 1, by omega, by go_num, by rw [← Hrd.out], hown', hb'⟩
      case measure => simp [intOf]; omega
    · obtain rfl : k = n := by omega
      rw [List.take_of_length_le (by rw [Hdl.out]; exact Nat.le_refl _)] at hown
      obtain ⟨g, cp, rfl⟩ := own_pos hown h1
      have Hcall := Lib.hid (Hrfc.out wr g cp (own_sl hown (by omega)))
      clear hown
      go_wp2_with (go_at_call 39; refine Hcall.out.mono ?_; rintro e w2 ⟨g2, c2, rfl, ho2, hb2⟩)
      go_ret
      exact ⟨g2, c2, rfl, own_base ho2 hbel.size, hbel.trans (hb2.mono hbel.size)⟩

end Go.Proofs.Ytknicageehomkaa
