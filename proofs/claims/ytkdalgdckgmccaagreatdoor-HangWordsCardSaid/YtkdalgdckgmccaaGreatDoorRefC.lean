/-
  The walk of the reference's Reduce.
-/
import Derived.Test.YtkdalgdckgmccaaGreatDoorRefA
import Derived.Test.YtkdalgdckgmccaaGreatDoorLaw
import Derived.Test.YtkdalgdckgmccaaGreatDoorJoin
namespace Go.Proofs.YtkdalgdckgmccaaGreatDoor
open Go.RowKit Go.Shelf

theorem Wire.below' {B : Nat} {l : List Nat} {w w' : World} {v : Value} (h : Wire B l w v) (hb : Below w.heap.size w w') : Wire B l w' v := wire_keep h hb

set_option maxRecDepth 100000 in
set_option maxHeartbeats 2000000 in
theorem rreduce_any (s : ByteArray) (w : World) (hword : IsWord (lettersOf s)) (hsz : s.size ≤ 1000000) :
    Calls Tryz.prog 10 #[.string s] w fun e w' => e = .returned (.string (strL (redL (lettersOf s)))) ∧ Below w.heap.size w w' := by
  obtain ⟨i0, hi, hz0, hz1, hz2⟩ := info_parts info_u8
  have hlen := lettersOf_length s
  have Hword := Lib.hid hword
  clear hword
  have hmk := run_make (P := Tryz.prog) w 43 5 i0 (.int .u8 0) Tryz.underlying43 hi hz0 .i64 .i64 0 (s.size : Nat) (by omega) (by omega) (by rw [hz2]; omega) (by omega)
  rw [hz1, Nat.mul_one, Int.toNat_natCast, show (0 : Int).toNat = 0 from rfl, show madeCells (Value.int .u8 0).cells s.size = cellsOf .u8 (List.replicate s.size 0) from cellsOf_made .u8 s.size] at hmk
  have hown0 := own_made w 5 (cellsOf .u8 (List.replicate s.size 0)) (by simp [cellsOf, maxLen]; omega)
  rw [show (cellsOf .u8 (List.replicate s.size 0)).size = s.size by simp [cellsOf]] at hown0
  have hbel0 := below_new' w (.cells (cellsOf .u8 (List.replicate s.size 0)) 5)
  generalize cellsOf .u8 (List.replicate s.size 0) = Z at *
  go_enter Tryz.func10, Tryz.ntmps10
  go_wp2_with fail
  have hsz1 : w.heap.size ≤ (w.alloc (.cells Z 5)).heap.size := hbel0.size
  generalize w.alloc (.cells Z 5) = W0 at *
  generalize hg : w.heap.size = g at *
  have Hg := Lib.hid hg
  have Hl := Lib.hid hlen
  clear hg hmk hlen
  go_loopw [3, 4] (fun v kv wr => ∃ k : Nat, k ≤ s.size ∧ kv = .int .i64 k ∧ Wire g (redL ((lettersOf s).take k)) wr v ∧ Below g w wr) (fun _ kv _ => s.size - (intOf kv).toNat)
  case atStart => exact ⟨0, Nat.zero_le _, rfl, ⟨hown0, hsz1⟩, hbel0⟩
  case round =>
    obtain ⟨k, hk, rfl, hW, hbel⟩ := hrel
    by_cases hlt : k < s.size
    · have hki : (k : Int) < (s.size : Int) := by omega
      have hcc : (s[k]'hlt).toNat = (lettersOf s).getD k 0 := (lettersOf_get s k hlt).symm
      have hc : Lt ((lettersOf s).getD k 0) := by
        rw [List.getD_eq_getElem?_getD, List.getElem?_eq_getElem (by have := Hl.out; omega)]
        exact Hword.out _ (List.getElem_mem _)
      have Hnext : Hid (redL ((lettersOf s).take (k + 1)) = thenL (redL ((lettersOf s).take k)) ((lettersOf s).getD k 0)) := by
        show _ = _
        rw [take_snoc _ _ (by have := Hl.out; omega), redL_snoc]
      have hxl : (redL ((lettersOf s).take k)).length ≤ k := by
        have h1 := redL_length ((lettersOf s).take k)
        rw [List.length_take] at h1
        omega
      generalize redL ((lettersOf s).take k) = xs at *
      generalize (lettersOf s).getD k 0 = c at *
      have Hoth := Lib.hid (fun W => rother_any c hc W)
      have hc8 : c < 123 := hc.lt
      obtain ⟨n, hxn⟩ : ∃ n, xs.length = n := ⟨_, rfl⟩
      have hown := hW.own
      have hbase := hW.base
      rw [hxn] at hown hxl
      have Hxn := Lib.hid hxn
      have HW := Lib.hid hW
      have Hbel := Lib.hid hbel
      have Hc := Lib.hid hc
      clear hW hbel hc
      rcases Nat.eq_zero_or_pos n with h0 | h0
      · subst h0
        have hx : xs = [] := List.eq_nil_of_length_eq_zero hxn
        have Hy : Hid (thenL xs c = xs ++ [c]) := thenL_no (by rw [hx]; simp)
        obtain ⟨A, cap, rfl⟩ := own_slice' hown
        clear hxn hx
        go_upto_region 5 with fail
        go_quiet (fail)
        have hown1 : (wr.drewN nq).ownsRow g 5 1 (.slice A 0 cap) 0 (nums .u8 xs) := hown
        have HW1 : Hid (Wire g xs (wr.drewN nq) (.slice A 0 cap)) := HW.out.below' (below_drewN (Below.refl _ _) nq)
        have Hbel1 : Hid (Below g w (wr.drewN nq)) := below_drewN Hbel.out nq
        have hbase1 : g ≤ (wr.drewN nq).heap.size := hbase
        clear hown HW Hbel hbase
        generalize wr.drewN nq = W1 at *
        go_wp2_with (at_builtin; refine wpList_append_lies _ rfl _ _ 43 rfl g 5 i0 (.int .u8 0) 1 1 Tryz.underlying43 hi hz0 hz1 hz2 rfl (by decide) _ 0 (nums .u8 xs) rfl (hown1.alloc _) ⟨W1.heap.size, 0, none⟩ 1 1 [.int .u8 c] rfl rfl ?c1 ?c2 ?c3 ?c4 ?c5 ?c6 (W1.heap.size + 1) (size_new'' _ _) ?_)
        case c1 => exact cell_one_new _ _ _
        case c2 => exact one_cell _ rfl
        case c3 => exact Nat.one_pos
        case c4 => unfold maxLen; omega
        case c5 => omega
        case c6 => rw [World.size_alloc]; omega
        intro gr cr w2 hown2 hgrow2 hat2 hlt2
        have hret := wire_appended Hxn.out HW1.out Hy.out hown2 hgrow2 hat2
        have Hret := Lib.hid hret
        clear hown2 hgrow2 hat2 hret
        go_wp2_with fail
        go_roundw
        case rel =>
          obtain ⟨v', e1, hW', hgr, _⟩ := Hret.out
          injection e1 with e1
          subst e1
          exact ⟨k + 1, by omega, by go_num, by rw [Hnext.out]; exact hW', wire_after (v' := Value.int .i64 0) (ys := xs) HW1.out hgr Hbel1.out Hg.out⟩
        case measure => simp [intOf]; omega
      · obtain ⟨g1, cap, rfl⟩ := own_pos hown h0
        obtain ⟨m, hM⟩ : ∃ m, n = m + 1 := ⟨n - 1, by omega⟩
        have hcell : wr.cell? ⟨g1, m, none⟩ = some (.int .u8 (xs.getD m 0 : Nat)) := own_num hown m (by omega)
        have hcap := own_capd hown
        have hMm : IntKind.i64.wrap ((n : Int) - 1) = (m : Int) := (IntWalk.i64_in _ (by omega)).trans (by omega)
        have hmM : (m : Int) < (n : Int) := by omega
        have hM0 : (0 : Int) < (n : Int) := by omega
        have hdM : decide ((0 : Int) < (n : Int)) = true := decide_eq_true hM0
        have HM := Lib.hid hM
        clear hM
        by_cases hz : xs.getD m 0 = inv c
        · have Hy : Hid (thenL xs c = xs.take m) := by show _ = _; rw [thenL_yes (by omega) (by rw [hxn, HM.out]; exact hz), hxn, HM.out]; rfl
          rw [hz] at hcell
          clear hxn hz
          go_upto_region 5 with fail
          go_quiet ((go_at_call 26; exact Calls.quiet_of_same (Hoth.out _)))
          have Htake : Hid ((wr.drewN nq).ownsRow g 5 1 (.slice (some ⟨g1, 0, none⟩) m cap) m (nums .u8 (xs.take m))) := Lib.hid (own_take hown (by have := HM.out; omega))
          have Hbel1 : Hid (Below g w (wr.drewN nq)) := below_drewN Hbel.out nq
          have hbase1 : g ≤ (wr.drewN nq).heap.size := hbase
          clear hown HW Hbel hbase hcell
          generalize wr.drewN nq = W1 at *
          go_wp2_with fail
          go_roundw
          case rel => exact ⟨k + 1, by omega, by go_num, ⟨by rw [Hnext.out, Hy.out, List.length_take, Hxn.out, show min m n = m by have := HM.out; omega]; exact Htake.out, hbase1⟩, Hbel1.out⟩
          case measure => simp [intOf]; omega
        · have Hy : Hid (thenL xs c = xs ++ [c]) := thenL_no (fun h => hz (by have := h.2; rw [hxn, HM.out] at this; exact this))
          have hne : ((xs.getD m 0 : Nat) : Int) ≠ (inv c : Nat) := by omega
          generalize xs.getD m 0 = x at *
          have hb : ((x : Int) == ((inv c : Nat) : Int)) = false := by simpa using hne
          clear hxn hz hne
          go_upto_region 5 with fail
          go_quiet ((go_at_call 26; exact Calls.quiet_of_same (Hoth.out _)))
          have hown1 : (wr.drewN nq).ownsRow g 5 1 (.slice (some ⟨g1, 0, none⟩) n cap) n (nums .u8 xs) := hown
          have HW1 : Hid (Wire g xs (wr.drewN nq) (.slice (some ⟨g1, 0, none⟩) n cap)) := HW.out.below' (below_drewN (Below.refl _ _) nq)
          have Hbel1 : Hid (Below g w (wr.drewN nq)) := below_drewN Hbel.out nq
          have hbase1 : g ≤ (wr.drewN nq).heap.size := hbase
          clear hown HW Hbel hbase hcell
          generalize wr.drewN nq = W1 at *
          go_wp2_with (at_builtin; refine wpList_append_lies _ rfl _ _ 43 rfl g 5 i0 (.int .u8 0) 1 1 Tryz.underlying43 hi hz0 hz1 hz2 rfl (by decide) _ n (nums .u8 xs) rfl (hown1.alloc _) ⟨W1.heap.size, 0, none⟩ 1 1 [.int .u8 c] rfl rfl ?c1 ?c2 ?c3 ?c4 ?c5 ?c6 (W1.heap.size + 1) (size_new'' _ _) ?_)
          case c1 => exact cell_one_new _ _ _
          case c2 => exact one_cell _ rfl
          case c3 => exact Nat.one_pos
          case c4 => unfold maxLen; omega
          case c5 => omega
          case c6 => rw [World.size_alloc]; omega
          intro gr cr w2 hown2 hgrow2 hat2 hlt2
          have hret := wire_appended Hxn.out HW1.out Hy.out hown2 hgrow2 hat2
          have Hret := Lib.hid hret
          clear hown2 hgrow2 hat2 hret
          go_wp2_with fail
          go_roundw
          case rel =>
            obtain ⟨v', e1, hW', hgr, _⟩ := Hret.out
            injection e1 with e1
            subst e1
            exact ⟨k + 1, by omega, by go_num, by rw [Hnext.out]; exact hW', wire_after (v' := Value.int .i64 0) (ys := xs) HW1.out hgr Hbel1.out Hg.out⟩
          case measure => simp [intOf]; omega
    · obtain rfl : k = s.size := by omega
      have he : (lettersOf s).take s.size = lettersOf s := List.take_of_length_le (by have := Hl.out; omega)
      rw [he] at hW
      have hconv := own_string (t := 43) Tryz.underlying43 hW.own
      have Hbel := Lib.hid hbel
      clear hW hbel he
      go_wp2_with fail
      go_ret
      exact ⟨rfl, by rw [Hg.out]; exact Hbel.out⟩

end Go.Proofs.YtkdalgdckgmccaaGreatDoor
