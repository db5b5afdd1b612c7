/-
  The walk of the reference's Inverse, and what Reduce, Inverse and Root return of no word.
  The walks of checkAll of two words, and of the reference's Same, IsTurned, core and Turns.
-/
import Derived.Test.YtojjpbeaifiejaaRefC
import Derived.Test.YtojjpbeaifiejaaSplit
import Derived.Test.YtojjpbeaifiejaaCheck
namespace Go.Proofs.Ytojjpbeaifiejaa
open Go.RowKit Go.Shelf

theorem inv_drop {l : List Nat} {n k : Nat} (hl : l.length = n) (h : k < n) : invL (l.drop (n - (k + 1))) = invL (l.drop (n - k)) ++ [inv (l.getD (n - 1 - k) 0)] := by
  have e : l.drop (n - (k + 1)) = l.getD (n - 1 - k) 0 :: l.drop (n - k) := by
    rw [List.getD_eq_getElem?_getD, List.getElem?_eq_getElem (by omega), show n - (k + 1) = n - 1 - k by omega, List.drop_eq_getElem_cons (by omega), show n - 1 - k + 1 = n - k by omega]
    rfl
  rw [e, invL_cons]

set_option maxRecDepth 100000 in
set_option maxHeartbeats 2000000 in
theorem rinverse_any (s : ByteArray) (w : World) (hword : IsWord (lettersOf s)) (hsz : s.size ≤ 1000000) :
    Calls Try.prog 19 #[.string s] w fun e w' => e = .returned (.string (strL (invL (lettersOf s)))) ∧ Below w.heap.size w w' := by
  obtain ⟨i0, hi, hz0, hz1, hz2⟩ := info_parts info_u8
  have hlen := lettersOf_length s
  have Hword := Lib.hid hword
  clear hword
  have hmk := run_make (P := Try.prog) w 23 5 i0 (.int .u8 0) Try.underlying23 hi hz0 .i64 .i64 0 (s.size : Nat) (by omega) (by omega) (by rw [hz2]; omega) (by omega)
  rw [hz1, Nat.mul_one, Int.toNat_natCast, show (0 : Int).toNat = 0 from rfl, show madeCells (Value.int .u8 0).cells s.size = cellsOf .u8 (List.replicate s.size 0) from cellsOf_made .u8 s.size] at hmk
  have hown0 := own_made w 5 (cellsOf .u8 (List.replicate s.size 0)) (by simp [cellsOf, maxLen]; omega)
  rw [show (cellsOf .u8 (List.replicate s.size 0)).size = s.size by simp [cellsOf]] at hown0
  have hbel0 := below_new' w (.cells (cellsOf .u8 (List.replicate s.size 0)) 5)
  generalize cellsOf .u8 (List.replicate s.size 0) = Z at *
  go_enter Try.func19, Try.ntmps19
  go_wp2_with fail
  have hsz1 : w.heap.size ≤ (w.alloc (.cells Z 5)).heap.size := hbel0.size
  generalize w.alloc (.cells Z 5) = W0 at *
  generalize hg : w.heap.size = g at *
  have Hg := Lib.hid hg
  have Hl := Lib.hid hlen
  clear hg hmk hlen
  go_loopw [3, 4] (fun v iv wr => ∃ k : Nat, k ≤ s.size ∧ iv = .int .i64 ((s.size : Int) - 1 - k) ∧ wr.ownsRow g 5 1 v k (nums .u8 (invL ((lettersOf s).drop (s.size - k)))) ∧ Below g w wr) (fun _ iv _ => (intOf iv + 1).toNat)
  case atStart =>
    refine ⟨0, Nat.zero_le _, by simp, ?_, hbel0⟩
    rw [Nat.sub_zero, List.drop_of_length_le (by have := Hl.out; omega)]
    exact hown0
  case round =>
    obtain ⟨k, hk, rfl, hown, hbel⟩ := hrel
    by_cases hlt : k < s.size
    · have h0 : (0 : Int) ≤ (s.size : Int) - 1 - k := by omega
      obtain ⟨j, hj⟩ : ∃ j : Nat, s.size - 1 - k = j := ⟨_, rfl⟩
      have hji : (s.size : Int) - 1 - k = (j : Int) := by omega
      have hjs : j < s.size := by omega
      have hcc : (s[j]'hjs).toNat = (lettersOf s).getD j 0 := (lettersOf_get s j hjs).symm
      have hc : Lt ((lettersOf s).getD j 0) := by
        rw [List.getD_eq_getElem?_getD, List.getElem?_eq_getElem (by have := Hl.out; omega)]
        exact Hword.out _ (List.getElem_mem _)
      have Hnext := Lib.hid (inv_drop (l := lettersOf s) (n := s.size) (k := k) Hl.out hlt)
      rw [hj] at Hnext
      generalize invL ((lettersOf s).drop (s.size - k)) = xs at *
      generalize (lettersOf s).getD j 0 = c at *
      have Hoth := Lib.hid (fun W => rother_any c hc W)
      have hinv : inv c < 256 := by have := hc.inv.lt; omega
      generalize inv c = d at *
      have hjsi : (j : Int) < (s.size : Int) := by omega
      have hgs : g ≤ wr.heap.size := by have := hbel.size; have := Hg.out; omega
      have Hj := Lib.hid hj
      have Hji := Lib.hid hji
      have Hk := Lib.hid hlt
      rw [hji]
      clear hj hji h0 hlt hc
      go_wp2_with (first
        | (go_at_call 48; refine (Hoth.out _).mono ?_; clear Hoth; rintro e w2 ⟨rfl, rfl⟩)
        | (at_builtin; refine wpList_append_lies _ rfl _ _ 23 rfl g 5 i0 (.int .u8 0) 1 1 Try.underlying23 hi hz0 hz1 hz2 rfl (by decide) _ k (nums .u8 xs) rfl (hown.alloc _) ⟨w2.heap.size, 0, none⟩ 1 1 [.int .u8 d] rfl rfl ?c1 ?c2 ?c3 ?c4 ?c5 ?c6 (w2.heap.size + 1) (size_new'' _ _) ?_))
      case c1 => exact cell_one_new _ _ _
      case c2 => exact one_cell _ rfl
      case c3 => exact Nat.one_pos
      case c4 => unfold maxLen; omega
      case c5 => omega
      case c6 => rw [World.size_alloc]; omega
      intro gr cr w4 hown4 hgrow4 hat4 hlt4
      have hbel4 : Below g w w4 := hbel.trans ((own_below hown hgs hgrow4).mono (Nat.le_refl _))
      go_wp2_with fail
      go_roundw
      case rel => exact ⟨k + 1, Hk.out, by have := Hji.out; congr 1; omega, by rw [Hnext.out, ← nums_snoc]; exact hown4, hbel4⟩
      case measure => simp [intOf]
    · obtain rfl : k = s.size := by omega
      have h0 : ¬ (0 : Int) ≤ (s.size : Int) - 1 - (s.size : Nat) := by omega
      rw [Nat.sub_self, List.drop_zero] at hown
      have hll : (invL (lettersOf s)).length = s.size := by rw [invL_length, Hl.out]
      rw [← hll] at hown
      have hconv := own_string (t := 23) Try.underlying23 hown
      have Hbel := Lib.hid hbel
      clear hown hbel hll
      go_wp2_with fail
      go_ret
      exact ⟨rfl, by rw [Hg.out]; exact Hbel.out⟩

set_option maxRecDepth 100000 in
theorem reduce_bad (s : ByteArray) (w : World) (hsz : s.size ≤ 1000000000) (hc : checkN (lettersOf s) ≠ 0) :
    Calls Try.prog 11 #[.string s] w fun e w' => e = .returned (.tuple #[.string ⟨#[]⟩, .int .i64 (checkN (lettersOf s))]) ∧ Below w.heap.size w w' := by
  have Hchk := Lib.hid (check_any s w hsz)
  obtain ⟨z, hz⟩ : ∃ z : Int, z = (checkN (lettersOf s) : Nat) := ⟨_, rfl⟩
  have hz0 : ¬ z = 0 := by omega
  have hzb : (z == 0) = false := by simpa using hz0
  rw [← hz] at Hchk ⊢
  clear hz hc
  go_enter Try.func11, Try.ntmps11
  go_wp2_with (go_at_call 38; refine Hchk.out.mono ?_; clear Hchk; rintro e w1 ⟨rfl, hb1⟩)
  go_ret2
  exact ⟨rfl, hb1⟩
set_option maxRecDepth 100000 in
theorem inverse_bad (s : ByteArray) (w : World) (hsz : s.size ≤ 1000000000) (hc : checkN (lettersOf s) ≠ 0) :
    Calls Try.prog 12 #[.string s] w fun e w' => e = .returned (.tuple #[.string ⟨#[]⟩, .int .i64 (checkN (lettersOf s))]) ∧ Below w.heap.size w w' := by
  have Hchk := Lib.hid (check_any s w hsz)
  obtain ⟨z, hz⟩ : ∃ z : Int, z = (checkN (lettersOf s) : Nat) := ⟨_, rfl⟩
  have hz0 : ¬ z = 0 := by omega
  have hzb : (z == 0) = false := by simpa using hz0
  rw [← hz] at Hchk ⊢
  clear hz hc
  go_enter Try.func12, Try.ntmps12
  go_wp2_with (go_at_call 38; refine Hchk.out.mono ?_; clear Hchk; rintro e w1 ⟨rfl, hb1⟩)
  go_ret2
  exact ⟨rfl, hb1⟩
set_option maxRecDepth 100000 in
theorem root_bad (s : ByteArray) (w : World) (hsz : s.size ≤ 1000000000) (hc : checkN (lettersOf s) ≠ 0) :
    Calls Try.prog 13 #[.string s] w fun e w' => e = .returned (.tuple #[.string ⟨#[]⟩, .int .i64 0, .int .i64 (checkN (lettersOf s))]) ∧ Below w.heap.size w w' := by
  have Hchk := Lib.hid (check_any s w hsz)
  obtain ⟨z, hz⟩ : ∃ z : Int, z = (checkN (lettersOf s) : Nat) := ⟨_, rfl⟩
  have hz0 : ¬ z = 0 := by omega
  have hzb : (z == 0) = false := by simpa using hz0
  rw [← hz] at Hchk ⊢
  clear hz hc
  go_enter Try.func13, Try.ntmps13
  go_wp2_with (go_at_call 38; refine Hchk.out.mono ?_; clear Hchk; rintro e w1 ⟨rfl, hb1⟩)
  go_ret3
  exact ⟨rfl, hb1⟩

end Go.Proofs.Ytojjpbeaifiejaa

namespace Go.Proofs.Ytojjpbeaifiejaa
open Go.RowKit Go.Shelf

/-- What checkAll returns of two words. -/
def chk2 (u v : List Nat) : Nat := if checkN u = 0 then checkN v else checkN u

set_option maxRecDepth 100000 in
set_option maxHeartbeats 1000000 in
theorem checkAll_two (u v : ByteArray) (g : Nat) (w : World) (hu : u.size ≤ 1000000000) (hv : v.size ≤ 1000000000) (hblk : Blk w g 9 #[.string u, .string v]) :
    Calls Try.prog 61 #[.slice (some ⟨g, 0, none⟩) 2 2] w fun e w' => e = .returned (.int .i64 (chk2 (lettersOf u) (lettersOf v))) ∧ Below w.heap.size w w' := by
  have H1 := Lib.hid (fun W => check_any u W hu)
  have H2 := Lib.hid (fun W => check_any v W hv)
  have Hblk := Lib.hid hblk
  obtain ⟨r, hr⟩ : ∃ r, chk2 (lettersOf u) (lettersOf v) = r := ⟨_, rfl⟩
  have Hr : Hid ((if checkN (lettersOf u) = 0 then checkN (lettersOf v) else checkN (lettersOf u)) = r) := hr
  rw [hr]
  generalize checkN (lettersOf u) = a at *
  generalize checkN (lettersOf v) = b at *
  clear hr hblk
  go_enter Try.func61, Try.ntmps61
  go_wp2_with fail
  go_loopw [8] (fun iv wr => ∃ i : Nat, i ≤ 2 ∧ iv = .int .i64 i ∧ (1 ≤ i → a = 0) ∧ (2 ≤ i → b = 0) ∧ Below w.heap.size w wr) (fun iv _ => 2 - (intOf iv).toNat)
  case atStart => exact ⟨0, by omega, rfl, fun h => absurd h (by omega), fun h => absurd h (by omega), Below.refl _ _⟩
  case round =>
    obtain ⟨i, hi, rfl, ha, hb, hbel⟩ := hrel
    have hblk := Hblk.out.below hbel Hblk.out.lt
    have hc0 := hblk.cell 0
    have hc1 := hblk.cell 1
    have Hbel := Lib.hid hbel
    clear hblk hbel
    have h3 : i = 0 ∨ i = 1 ∨ i = 2 := by omega
    rcases h3 with rfl | rfl | rfl
    · clear ha hb
      by_cases h0 : a = 0
      · subst h0
        go_wp2_with (go_at_call 38; refine (H1.out _).mono ?_; rintro e w2 ⟨rfl, hb2⟩)
        go_roundw
        case rel => exact ⟨1, by omega, by go_num, fun _ => (by trivial), fun h => absurd h (by omega), Hbel.out.trans (hb2.mono Hbel.out.size)⟩
        case measure => simp [intOf]
      · have hz : ((a : Int) == 0) = false := by simpa using h0
        have e : Hid (r = a) := by show _ = _; rw [← Hr.out, if_neg h0]
        go_wp2_with (go_at_call 38; refine (H1.out _).mono ?_; rintro e w2 ⟨rfl, hb2⟩)
        go_ret
        exact ⟨by rw [e.out]; rfl, Hbel.out.trans (hb2.mono Hbel.out.size)⟩
    · have h0 : a = 0 := ha (by omega)
      clear ha hb
      by_cases h1 : b = 0
      · subst h1
        go_wp2_with (go_at_call 38; refine (H2.out _).mono ?_; rintro e w2 ⟨rfl, hb2⟩)
        go_roundw
        case rel => exact ⟨2, by omega, by go_num, fun _ => h0, fun _ => (by trivial), Hbel.out.trans (hb2.mono Hbel.out.size)⟩
        case measure => simp [intOf]
      · have hz : ((b : Int) == 0) = false := by simpa using h1
        have e : Hid (r = b) := by show _ = _; rw [← Hr.out, if_pos h0]
        go_wp2_with (go_at_call 38; refine (H2.out _).mono ?_; rintro e w2 ⟨rfl, hb2⟩)
        go_ret
        exact ⟨by rw [e.out]; rfl, Hbel.out.trans (hb2.mono Hbel.out.size)⟩
    · have e : Hid (r = 0) := by show _ = _; rw [← Hr.out, if_pos (ha (by omega))]; exact hb (by omega)
      clear ha hb
      go_wp2_with fail
      go_ret
      exact ⟨by rw [e.out]; rfl, Hbel.out⟩

set_option maxRecDepth 100000 in
theorem rsame_any (u v : ByteArray) (w : World) (hwu : IsWord (lettersOf u)) (hwv : IsWord (lettersOf v)) (hu : u.size ≤ 1000000) (hv : v.size ≤ 1000000) :
    Calls Try.prog 37 #[.string u, .string v] w fun e w' => e = .returned (.bool (decide (redL (lettersOf u) = redL (lettersOf v)))) ∧ Below w.heap.size w w' := by
  have H1 := Lib.hid (fun W => rreduce_any u W hwu hu)
  have H2 := Lib.hid (fun W => rreduce_any v W hwv hv)
  obtain ⟨r, hr⟩ : ∃ r, decide (redL (lettersOf u) = redL (lettersOf v)) = r := ⟨_, rfl⟩
  have hd : ((strL (redL (lettersOf u))).toList == (strL (redL (lettersOf v))).toList) = r := by
    rw [← hr]
    apply Bool.eq_iff_iff.2
    rw [beq_iff_eq, decide_eq_true_eq]
    constructor
    · intro e
      have h1 : strL (redL (lettersOf u)) = strL (redL (lettersOf v)) := by
        rw [← strL_letters (strL (redL (lettersOf u))), ← strL_letters (strL (redL (lettersOf v)))]
        unfold lettersOf at *
        rw [← ByteArray.toList_eq, ← ByteArray.toList_eq (strL (redL _)), e]
      rw [← letters_strL (red_word hwu).lt256, ← letters_strL (red_word hwv).lt256, h1]
    · intro e
      rw [e]
  rw [hr]
  generalize strL (redL (lettersOf u)) = X at *
  generalize strL (redL (lettersOf v)) = Y at *
  clear hr
  go_enter Try.func37, Try.ntmps37
  go_wp2_with (first
    | (go_at_call 18; refine (H1.out _).mono ?_; clear H1; rintro e w2 ⟨rfl, hb2⟩)
    | (go_at_call 18; refine (H2.out _).mono ?_; clear H2; rintro e w3 ⟨rfl, hb3⟩))
  go_ret
  exact ⟨rfl, hb2.trans (hb3.mono hb2.size)⟩

end Go.Proofs.Ytojjpbeaifiejaa
