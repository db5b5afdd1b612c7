/-
  The walks of the small functions over sets of nails: whether two meet, the next one, their names.
-/
import Derived.Test.YtkdalgdckgmccaaGreatDoorWire
import Derived.Deep.MidRow
import Derived.ChangeKeysEq
namespace Go.Proofs.YtkdalgdckgmccaaGreatDoor
open Go.RowKit

/-- The numbers of the nails. -/
def r26 : List Nat := List.range 26
theorem mem_r26 {k : Nat} : k ∈ r26 ↔ k < 26 := List.mem_range
/-- Whether two sets are the same. -/
def eqN (S T : Nat → Bool) : Bool := r26.all fun k => S k == T k
theorem eqN_iff {S T : Nat → Bool} : eqN S T = true ↔ ∀ k, k < 26 → S k = T k := by
  unfold eqN
  rw [List.all_eq_true]
  exact ⟨fun h k hk => by simpa using h k (mem_r26.2 hk), fun h k hk => by simpa using h k (mem_r26.1 hk)⟩

theorem cells_bool : Tryz.prog.cellsOf 4 = 1 := by kernel_rfl
theorem size_bool (w : World) : (sizeOf 4).run Tryz.prog w = .ok 1 w := by
  obtain ⟨i, hi⟩ := info_of_underlying (P := Tryz.prog) Tryz.underlying4
  rw [run_sizeOf w hi, cells_bool]
theorem index_nails (S : Nat → Bool) (k : Nat) (hk : k < 26) (w : World) : (Instr.index 47 (.agg (nailC S)) (.int .i64 (k : Int))).run Tryz.prog w = .ok (.bool (S k)) w := by
  have hp := run_part_plain (P := Tryz.prog) w (e := 4) (by kernel_rfl) (nailC_at S k hk)
  have h2 : (0 : Int) ≤ (k : Int) ∧ (k : Int) < ((26 : Nat) : Int) := by omega
  unfold Instr.index
  simp only [asIntOf, Sem.run_bind, Sem.run_pure, Result.andThen_ok, run_underlying Tryz.underlying47, if_pos h2, size_bool, Int.toNat_natCast, Nat.mul_one, hp]

/-- Whether two sets have a nail in common. -/
def meetN (S T : Nat → Bool) : Bool := r26.any fun k => S k && T k

theorem r26_drops : ∀ k, k < 26 → r26.drop k = k :: r26.drop (k + 1) := by decide
theorem r26_drop {k : Nat} (h : k < 26) : r26.drop k = k :: r26.drop (k + 1) := r26_drops k h
theorem r26_end : r26.drop 26 = [] := by decide
theorem r26_takes : ∀ k, k < 26 → r26.take (k + 1) = r26.take k ++ [k] := by decide
theorem r26_take {k : Nat} (h : k < 26) : r26.take (k + 1) = r26.take k ++ [k] := r26_takes k h
theorem r26_all : r26.take 26 = r26 := by decide
theorem info_flags : (Tryz.prog.info? 47).map (·.size) = some 26 := by kernel_rfl
theorem nailC_flags (S : Nat → Bool) : (Tryz.prog.info? 47).map (·.size) = some (nailC S).size := by rw [info_flags, nailC_size]

set_option maxRecDepth 100000 in
set_option maxHeartbeats 1000000 in
theorem meets_any (S T : Nat → Bool) (w : World) :
    Calls Tryz.prog 70 #[.agg (nailC S), .agg (nailC T)] w fun e w' => e = .returned (.bool (meetN S T)) ∧ Below w.heap.size w w' := by
  have hb0 := (Blk.new w 49 (nailC S)).more' (.cells (nailC T) 49)
  have hb1 := Blk.new (w.alloc (.cells (nailC S) 49)) 49 (nailC T)
  simp only [World.size_alloc] at hb1
  have hbel : Below w.heap.size w ((w.alloc (.cells (nailC S) 49)).alloc (.cells (nailC T) 49)) := ((Below.refl _ w).alloc (Nat.le_refl _) _).alloc (by simp) _
  go_enter Tryz.func70, Tryz.ntmps70
  go_wp2_with (refine wpList_load_row rfl 47 _ rfl w.heap.size rfl 49 (nailC S) (0, 0) _ hb0 Tryz.underlying47 rfl (nailC_flags S) ?_)
  generalize (w.alloc (.cells (nailC S) 49)).alloc (.cells (nailC T) 49) = W0 at *
  have Hbel := Lib.hid hbel
  clear hbel hb0
  go_loopw [9] (fun kv wr => ∃ k : Nat, k ≤ 26 ∧ kv = .int .i64 k ∧ ((r26.take k).any fun j => S j && T j) = false ∧ wr = W0) (fun kv _ => 26 - (intOf kv).toNat)
  case atStart => exact ⟨0, Nat.zero_le _, rfl, rfl, rfl⟩
  case round =>
    obtain ⟨k, hk, rfl, hno, rfl⟩ := hrel
    have Hno := Lib.hid hno
    clear hno
    by_cases hlt : k < 26
    · have hix := index_nails S k hlt wr
      have hcx := (hb1.cell k).trans (nailC_at T k hlt)
      have Htake := Lib.hid (r26_take hlt)
      have Hst : Hid (meetN S T = true ∨ (S k && T k) = false) := by
        show _ ∨ _
        by_cases h : (S k && T k) = true
        · exact .inl (List.any_eq_true.2 ⟨k, mem_r26.2 hlt, h⟩)
        · exact .inr (by simpa using h)
      have Hs : Hid ((r26.take (k + 1)).any (fun j => S j && T j) = ((r26.take k).any (fun j => S j && T j) || (S k && T k))) := by
        show _ = _
        rw [Htake.out, List.any_append]
        simp
      generalize S k = a at *
      generalize T k = b at *
      cases a
      · go_wp2_with fail
        go_roundw
        case rel => exact ⟨k + 1, by omega, by go_num, by rw [Hs.out, Hno.out]; rfl, trivial⟩
        case measure => simp [intOf]; omega
      · cases b
        · go_wp2_with fail
          go_roundw
          case rel => exact ⟨k + 1, by omega, by go_num, by rw [Hs.out, Hno.out]; rfl, trivial⟩
          case measure => simp [intOf]; omega
        · go_wp2_with fail
          go_ret
          exact ⟨ret_bool (by rcases Hst.out with h | h <;> simp_all), Hbel.out⟩
    · obtain rfl : k = 26 := by omega
      have hf : meetN S T = false := by have := Hno.out; rw [r26_all] at this; exact this
      have Hf := Lib.hid hf
      clear hf
      go_wp2_with fail
      go_ret
      exact ⟨ret_bool Hf.out.symm, Hbel.out⟩

/-- The next set, counted on with some nails as digits. -/
def nextF (S : Nat → Bool) : List Nat → (Nat → Bool) → (Nat → Bool)
  | [], T => T
  | k :: r, T => if S k = true then (if T k = true then nextF S r (setN T k false) else setN T k true) else nextF S r T
def nextN (S T : Nat → Bool) : Nat → Bool := nextF S r26 T

theorem _root_.Go.Proofs.YtkdalgdckgmccaaGreatDoor.Blk.putN {w : World} {g : Nat} {t : TypeId} {S : Nat → Bool} (h : Blk w g t (nailC S)) (k : Nat) (b : Bool) : Blk (w.setCell ⟨g, k, none⟩ (.bool b)) g t (nailC (setN S k b)) := by
  have := h.store k (.bool b)
  rwa [nailC_set] at this
theorem only_setRow (w : World) (g : Nat) (cs : Array Value) : Only g w (w.setRow g cs) := ⟨rfl, rfl, rfl, setRow_size w g cs, fun k hk => setRow_other w g k cs hk⟩

set_option maxRecDepth 100000 in
set_option maxHeartbeats 1000000 in
theorem next_any (S T : Nat → Bool) (w : World) :
    Calls Tryz.prog 86 #[.agg (nailC S), .agg (nailC T)] w fun e w' => e = .returned (.agg (nailC (nextN S T))) ∧ Below w.heap.size w w' := by
  have hb0 := ((Blk.new w 49 (nailC S)).more' (.cells (nailC T) 49)).more' (.cells (nailC (fun _ => false)) 49)
  have hb1 := (Blk.new (w.alloc (.cells (nailC S) 49)) 49 (nailC T)).more' (.cells (nailC (fun _ => false)) 49)
  have hb2 := Blk.new ((w.alloc (.cells (nailC S) 49)).alloc (.cells (nailC T) 49)) 49 (nailC (fun _ => false))
  simp only [World.size_alloc] at hb1 hb2
  have hbel : Below w.heap.size w (((w.alloc (.cells (nailC S) 49)).alloc (.cells (nailC T) 49)).alloc (.cells (nailC (fun _ => false)) 49)) := (((Below.refl _ w).alloc (Nat.le_refl _) _).alloc (by simp) _).alloc (by simp; omega) _
  go_enter Tryz.func86, Tryz.ntmps86
  go_upto_region 1 with fail
  rw [← zero_agg]
  go_wp2_with (refine wpList_load_row rfl 47 _ rfl w.heap.size rfl 49 (nailC S) (0, 0) _ hb0 Tryz.underlying47 rfl (nailC_flags S) ?_)
  generalize ((w.alloc (.cells (nailC S) 49)).alloc (.cells (nailC T) 49)).alloc (.cells (nailC (fun _ => false)) 49) = W0 at *
  generalize hg : w.heap.size = g at *
  have Hg := Lib.hid hg
  have Hbel := Lib.hid hbel
  clear hg hbel hb0
  go_loopw [9] (fun kv wr => ∃ (k : Nat) (T' : Nat → Bool), k ≤ 26 ∧ kv = .int .i64 k ∧ nextF S (r26.drop k) T' = nextN S T ∧ Blk wr (g + 1) 49 (nailC T') ∧ Only (g + 1) W0 wr) (fun kv _ => 26 - (intOf kv).toNat)
  case atStart => exact ⟨0, T, Nat.zero_le _, rfl, rfl, hb1, Only.refl _ _⟩
  case round =>
    obtain ⟨k, T', hk, rfl, hnx, hblk, honly⟩ := hrel
    have Hnx := Lib.hid hnx
    clear hnx
    by_cases hlt : k < 26
    · have hix := fun W => index_nails S k hlt W
      have hcx := (hblk.cell k).trans (nailC_at T' k hlt)
      have hfr := hblk.free k
      have Hst : Hid (nextF S (r26.drop k) T' = if S k = true then (if T' k = true then nextF S (r26.drop (k + 1)) (setN T' k false) else setN T' k true) else nextF S (r26.drop (k + 1)) T') := by
        show _ = _
        rw [r26_drop hlt]; rfl
      rw [Hnx.out] at Hst
      have hput1 := hblk.putN k false
      have hput2 := hblk.putN k true
      have hcx1 := (hput1.cell k).trans (nailC_at _ k hlt)
      have hcx2 := (hput2.cell k).trans (nailC_at _ k hlt)
      rw [show setN T' k false k = false by simp [setN]] at hcx1
      rw [show setN T' k true k = true by simp [setN]] at hcx2
      have Hput1 := Lib.hid hput1
      have Hput2 := Lib.hid hput2
      have Ho1 := Lib.hid (honly.setCell k (.bool false))
      have Ho2 := Lib.hid (honly.setCell k (.bool true))
      clear hput1 hput2
      generalize S k = a at *
      generalize T' k = b at *
      cases a
      · go_wp2_with fail
        go_roundw
        case rel => exact ⟨k + 1, T', by omega, by go_num, Hst.out.symm, hblk, honly⟩
        case measure => simp [intOf]; omega
      · cases b
        · have hq := Hst.out
          rw [if_pos rfl, if_neg (by decide)] at hq
          have hblkE : Blk (wr.setCell ⟨g + 1, k, none⟩ (.bool true)) (g + 1) 49 (nailC (nextN S T)) := by rw [hq]; exact Hput2.out
          have hbz : Blk (wr.setCell ⟨g + 1, k, none⟩ (.bool true)) (g + 1 + 1) 49 (nailC (fun _ => false)) := Ho2.out.blk (by omega) hb2
          have Hset := Lib.hid (setRow_heap _ (g + 1 + 1) _ (nailC (nextN S T)) 49 (0, 0) hbz)
          have HbelE : Hid (Below w.heap.size w ((wr.setCell ⟨g + 1, k, none⟩ (.bool true)).setRow (g + 1 + 1) (nailC (nextN S T)))) := by
            show Below _ _ _
            rw [Hg.out]
            exact (Hbel.out.trans (Ho2.out.below (by omega))).trans ((only_setRow _ (g + 1 + 1) _).below (by omega))
          clear hq
          go_wp2_with (first
            | (refine wpList_load_row rfl 49 _ rfl (g + 1) rfl 49 (nailC (nextN S T)) (0, 0) _ hblkE Tryz.underlying49 rfl (nailC_info _) ?_)
            | (refine wpList_plain rfl fun _ hK => wp_store_row 49 _ _ rfl (g + 1 + 1) (nailC (nextN S T)) rfl rfl 49 (nailC (fun _ => false)) hbz (nailC_info _) ?h1 (nailC_one _) (hK _ _ ?_)))
          case h1 => rw [nailC_size, nailC_size]
          exact bodyPost_ret (v := .agg (nailC (nextN S T))) (results_cell_row rfl _ _ (g + 1 + 1) 49 _ (0, 0) _ rfl Hset.out Tryz.underlying49 rfl (nailC_info _)) rfl ⟨rfl, HbelE.out⟩
        · go_wp2_with fail
          go_roundw
          case rel => exact ⟨k + 1, _, by omega, by go_num, Hst.out.symm, Hput1.out, Ho1.out⟩
          case measure => simp [intOf]; omega
    · obtain rfl : k = 26 := by omega
      have hq : T' = nextN S T := by have := Hnx.out; rw [r26_end] at this; exact this
      have hblkE : Blk wr (g + 1) 49 (nailC (nextN S T)) := by rw [← hq]; exact hblk
      have hbz : Blk wr (g + 1 + 1) 49 (nailC (fun _ => false)) := honly.blk (by omega) hb2
      have Hset := Lib.hid (setRow_heap _ (g + 1 + 1) _ (nailC (nextN S T)) 49 (0, 0) hbz)
      have HbelE : Hid (Below w.heap.size w (wr.setRow (g + 1 + 1) (nailC (nextN S T)))) := by
        show Below _ _ _
        rw [Hg.out]
        exact (Hbel.out.trans (honly.below (by omega))).trans ((only_setRow _ (g + 1 + 1) _).below (by omega))
      clear hq hblk
      go_wp2_with (first
        | (refine wpList_load_row rfl 49 _ rfl (g + 1) rfl 49 (nailC (nextN S T)) (0, 0) _ hblkE Tryz.underlying49 rfl (nailC_info _) ?_)
        | (refine wpList_plain rfl fun _ hK => wp_store_row 49 _ _ rfl (g + 1 + 1) (nailC (nextN S T)) rfl rfl 49 (nailC (fun _ => false)) hbz (nailC_info _) ?h1 (nailC_one _) (hK _ _ ?_)))
      case h1 => rw [nailC_size, nailC_size]
      exact bodyPost_ret (v := .agg (nailC (nextN S T))) (results_cell_row rfl _ _ (g + 1 + 1) 49 _ (0, 0) _ rfl Hset.out Tryz.underlying49 rfl (nailC_info _)) rfl ⟨rfl, HbelE.out⟩

end Go.Proofs.YtkdalgdckgmccaaGreatDoor
