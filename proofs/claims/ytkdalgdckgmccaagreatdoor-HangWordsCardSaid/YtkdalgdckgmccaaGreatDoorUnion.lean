/-
  The walks of union, of whether a set contains another one, and == of two sets.
-/
import Derived.Test.YtkdalgdckgmccaaGreatDoorNames
import Derived.Deep.WholeRow
namespace Go.Proofs.YtkdalgdckgmccaaGreatDoor
open Go.RowKit

/-- A row of sets. -/
def SetRow (w : World) (b off : Nat) (Ss : List (Nat → Bool)) : Prop :=
  (0 < Ss.length → b < w.heap.size) ∧ ∀ i, i < Ss.length → ∀ k, k < 26 → w.cell? ⟨b, off + i * 26 + k, none⟩ = some (.bool (Ss.getD i (fun _ => false) k))
theorem SetRow.below {w w' : World} {b off : Nat} {Ss : List (Nat → Bool)} (h : SetRow w b off Ss) (hb : Below w.heap.size w w') : SetRow w' b off Ss :=
  ⟨fun h0 => Nat.lt_of_lt_of_le (h.1 h0) hb.size, fun i hi k hk => (hb.cell (p := ⟨b, off + i * 26 + k, none⟩) (h.1 (by omega))).trans (h.2 i hi k hk)⟩
theorem SetRow.range {w : World} {b off : Nat} {Ss : List (Nat → Bool)} (h : SetRow w b off Ss) {i : Nat} (hi : i < Ss.length) : w.rangeAt b (off + i * 26) (nailC (Ss.getD i fun _ => false)).toList := by
  intro j v hv
  have hj : j < 26 := by
    have := (List.getElem?_eq_some_iff.1 hv).1
    rw [Array.length_toList, nailC_size] at this
    exact this
  rw [Array.getElem?_toList, nailC_at _ j hj] at hv
  rw [h.2 i hi j hj, hv]

/-- The nails in any of the sets. -/
def unionN (Ss : List (Nat → Bool)) : Nat → Bool := fun k => Ss.any fun S => S k
theorem unionN_snoc (Ss : List (Nat → Bool)) (S : Nat → Bool) : unionN (Ss ++ [S]) = fun k => unionN Ss k || S k := by
  funext k
  unfold unionN
  rw [List.any_append]
  simp
/-- A set with another one, as far as a nail. -/
def orTo (U S : Nat → Bool) (k : Nat) : Nat → Bool := fun j => if j < k then U j || S j else U j
theorem orTo_zero (U S : Nat → Bool) : orTo U S 0 = U := by funext j; unfold orTo; rw [if_neg (by omega)]
theorem orTo_step (U S : Nat → Bool) (k : Nat) : setN (orTo U S k) k (U k || S k) = orTo U S (k + 1) := by
  funext j
  unfold setN orTo
  by_cases h : j = k
  · subst h
    rw [if_pos rfl, if_pos (by omega)]
  · rw [if_neg h]
    by_cases h2 : j < k
    · rw [if_pos h2, if_pos (by omega)]
    · rw [if_neg h2, if_neg (by omega)]
theorem orTo_here (U S : Nat → Bool) (k : Nat) : orTo U S k k = U k := by unfold orTo; rw [if_neg (by omega)]
theorem orTo_end (U S : Nat → Bool) : nailC (orTo U S 26) = nailC (fun k => U k || S k) := nailC_congr fun k hk => by unfold orTo; rw [if_pos hk]

theorem nailC_list (S : Nat → Bool) : (Tryz.prog.info? 49).map (·.size) = some (nailC S).toList.length := by rw [Array.length_toList]; exact nailC_info S

set_option maxRecDepth 100000 in
set_option maxHeartbeats 2000000 in
theorem union_any (b off cap n : Nat) (Ss : List (Nat → Bool)) (w : World) (hn : Ss.length = n) (hS : SetRow w b off Ss) (hn1 : n ≤ 1000000) :
    Calls Tryz.prog 49 #[.slice (some ⟨b, off, none⟩) n cap] w fun e w' => e = .returned (.agg (nailC (unionN Ss))) ∧ Below w.heap.size w w' := by
  have hb0 := (Blk.new w 49 (nailC (fun _ => false))).more' (.cells (nailC (fun _ => false)) 49)
  have hb1 := Blk.new (w.alloc (.cells (nailC (fun _ => false)) 49)) 49 (nailC (fun _ => false))
  simp only [World.size_alloc] at hb1
  have hbel : Below w.heap.size w ((w.alloc (.cells (nailC (fun _ => false)) 49)).alloc (.cells (nailC (fun _ => false)) 49)) := ((Below.refl _ w).alloc (Nat.le_refl _) _).alloc (by simp) _
  have HS := Lib.hid hS
  have Hn := Lib.hid hn
  clear hS hn
  go_enter Tryz.func49, Tryz.ntmps49
  go_upto_region 2 with fail
  rw [← zero_agg]
  go_wp2_with fail
  generalize (w.alloc (.cells (nailC (fun _ => false)) 49)).alloc (.cells (nailC (fun _ => false)) 49) = W0 at *
  generalize hg : w.heap.size = g at *
  have Hg := Lib.hid hg
  have Hbel := Lib.hid hbel
  clear hg hbel
  go_loopw [10] (fun iv wr => ∃ i : Nat, i ≤ n ∧ iv = .int .i64 i ∧ Blk wr (g + 1) 49 (nailC (unionN (Ss.take i))) ∧ Blk wr g 49 (nailC (fun _ => false)) ∧ Below g w wr) (fun iv _ => n - (intOf iv).toNat)
  case atStart => exact ⟨0, Nat.zero_le _, rfl, hb1, hb0, Hbel.out⟩
  case round =>
    obtain ⟨i, hi, rfl, hblk, hblk0, hbel⟩ := hrel
    by_cases hlt : i < n
    · have hrow := (HS.out.below (w' := wr) (by rw [Hg.out]; exact hbel)).range (i := i) (by have := Hn.out; omega)
      have Hsnoc : Hid (Ss.take (i + 1) = Ss.take i ++ [Ss.getD i fun _ => false]) := by
        show _ = _
        rw [List.take_succ_eq_append_getElem (by have := Hn.out; omega), List.getD_eq_getElem?_getD, List.getElem?_eq_getElem (by have := Hn.out; omega)]; rfl
      generalize Ss.getD i (fun _ => false) = S at *
      have hlist := nailC_list S
      have hnewE : Blk (wr.alloc (.cells (nailC (fun _ => false)) 49)) wr.heap.size 49 (nailC (fun _ => false)) := Blk.new _ _ _
      rw [zero_agg] at hnewE
      go_upto_region 5 with (first
        | (refine wpList_load_mid rfl 49 _ rfl b (off + i * 26) rfl (nailC S).toList _ hrow Tryz.underlying49 rfl hlist ?_)
        | (refine wpList_plain rfl fun _ hK => wp_store_row 49 _ _ rfl wr.heap.size (nailC S) rfl rfl 49 _ hnewE (nailC_info _) ?h1 (nailC_one _) (hK _ _ ?_)))
      case h1 => rw [nailC_size]; rfl
      rw [World.setRow_alloc_new]
      have hnew := Blk.new wr 49 (nailC S)
      have hblk1 := hblk.more' (.cells (nailC S) 49)
      have hblk01 := hblk0.more' (.cells (nailC S) 49)
      have hbel1 : Below g w (wr.alloc (.cells (nailC S) 49)) := hbel.trans ((below_new' wr _).mono (by have := hblk.lt; omega))
      have hg1 : g + 1 < wr.heap.size := hblk.lt
      generalize hgn : wr.heap.size = gn at *
      generalize wr.alloc (.cells (nailC S) 49) = W1 at *
      clear hnewE hrow hblk hblk0 hbel hgn
      go_wp2_with (refine wpList_load_row rfl 47 _ rfl gn rfl 49 (nailC S) (0, 0) _ hnew Tryz.underlying47 rfl (nailC_flags S) ?_)
      go_loopw [16] (fun kv wx => ∃ k : Nat, k ≤ 26 ∧ kv = .int .i64 k ∧ Blk wx (g + 1) 49 (nailC (orTo (unionN (Ss.take i)) S k)) ∧ Blk wx g 49 (nailC (fun _ => false)) ∧ Below g w wx) (fun kv _ => 26 - (intOf kv).toNat)
      case atStart => exact ⟨0, Nat.zero_le _, rfl, by rw [orTo_zero]; exact hblk1, hblk01, hbel1⟩
      case round =>
        rename_i hrel
        obtain ⟨k, hk, rfl, hblk2, hblk02, hbel2⟩ := hrel
        by_cases hlt2 : k < 26
        · have hix := fun W => index_nails S k hlt2 W
          have hcx := (hblk2.cell k).trans (nailC_at _ k hlt2)
          rw [orTo_here] at hcx
          have hfr := hblk2.free k
          have hput := hblk2.putN k (unionN (Ss.take i) k || S k)
          rw [orTo_step] at hput
          have Hput := Lib.hid hput
          have Hother := Lib.hid (fun v => (Below.heap_setCell wr ⟨g + 1, k, none⟩ (.bool v) g (by simp)).trans hblk02)
          have Hbel3 := Lib.hid (fun v => hbel2.setCell (p := ⟨g + 1, k, none⟩) (by simp) (.bool v))
          generalize unionN (Ss.take i) k = a at *
          generalize S k = b at *
          clear hput hblk2 hblk02 hbel2
          cases a
          · go_wp2_with fail
            go_roundw
            case rel => exact ⟨k + 1, by omega, by go_num, Hput.out, Hother.out _, Hbel3.out _⟩
            case measure => simp [intOf]; omega
          · go_wp2_with fail
            go_roundw
            case rel => exact ⟨k + 1, by omega, by go_num, Hput.out, Hother.out _, Hbel3.out _⟩
            case measure => simp [intOf]; omega
        · obtain rfl : k = 26 := by omega
          rw [orTo_end, ← unionN_snoc, ← Hsnoc.out] at hblk2
          go_wp2_with fail
          go_roundw
          case rel => exact ⟨i + 1, by omega, by go_num, hblk2, hblk02, hbel2⟩
          case measure => simp [intOf]; omega
    · obtain rfl : i = n := by omega
      rw [List.take_of_length_le (by have := Hn.out; omega)] at hblk
      have Hset := Lib.hid (setRow_heap _ g _ (nailC (unionN Ss)) 49 (0, 0) hblk0)
      have HbelE : Hid (Below w.heap.size w (wr.setRow g (nailC (unionN Ss)))) := by
        show Below _ _ _
        rw [Hg.out]
        exact hbel.trans ((only_setRow _ g _).below (Nat.le_refl _))
      clear hbel
      go_wp2_with (first
        | (refine wpList_load_row rfl 49 _ rfl (g + 1) rfl 49 (nailC (unionN Ss)) (0, 0) _ hblk Tryz.underlying49 rfl (nailC_info _) ?_)
        | (refine wpList_plain rfl fun _ hK => wp_store_row 49 _ _ rfl g (nailC (unionN Ss)) rfl rfl 49 (nailC (fun _ => false)) hblk0 (nailC_info _) ?h1 (nailC_one _) (hK _ _ ?_)))
      case h1 => rw [nailC_size, nailC_size]
      exact bodyPost_ret (v := .agg (nailC (unionN Ss))) (results_cell_row rfl _ _ g 49 _ (0, 0) _ rfl Hset.out Tryz.underlying49 rfl (nailC_info _)) rfl ⟨rfl, HbelE.out⟩

end Go.Proofs.YtkdalgdckgmccaaGreatDoor
