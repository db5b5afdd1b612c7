/-
  Tables of pairs: with, closed.
  Tables of pairs: closed.
  Tables of pairs: the inversions of a permutation.
  Tables of pairs: the permutation of which these are the inversions.
  Tables of pairs are compared.
-/
import Derived.Test.YtcklgdcjedikoaaOwn
import Derived.Test.YtcklgdcjedikoaaTreeW
import Derived.Deep.WholeRow
import Derived.Deep.DeepCutAuto
import Derived.Test.YtcklgdcjedikoaaCode
import Derived.ChangeKeysEq
namespace Go.Proofs.Ytcklgdcjedikoaa
open Go.RowKit

/-- A table as the program holds it: the size, then 60 rows of 60. -/
def pairC (n : Nat) (M : Nat → Nat → Bool) : Array Value := ((Value.int .i64 (n : Nat)) :: (List.range 3600).map fun k => Value.bool (M (k / 60) (k % 60))).toArray
theorem pairC_size (n : Nat) (M : Nat → Nat → Bool) : (pairC n M).size = 3601 := by simp [pairC]
theorem pairC_zero (n : Nat) (M : Nat → Nat → Bool) : (pairC n M)[0]? = some (.int .i64 (n : Nat)) := by simp [pairC]
theorem pairC_at (n : Nat) (M : Nat → Nat → Bool) (v x : Nat) (hv : v < 60) (hx : x < 60) : (pairC n M)[1 + v * 60 + x]? = some (.bool (M v x)) := by
  have h : 1 + v * 60 + x = (v * 60 + x) + 1 := by omega
  have h2 : v * 60 + x < 3600 := by omega
  rw [h]
  unfold pairC
  rw [List.getElem?_toArray, List.getElem?_cons_succ, List.getElem?_map, List.getElem?_range h2]
  simp only [Option.map_some]
  rw [show (v * 60 + x) / 60 = v by omega, show (v * 60 + x) % 60 = x by omega]

theorem info_pairs : (Try.prog.info? 85).map (·.size) = some 3601 := by kernel_rfl
theorem zero_size : (Try.zeroCells85).size = 3601 := by kernel_rfl
theorem pairC_info (n : Nat) (M : Nat → Nat → Bool) : (Try.prog.info? 85).map (·.size) = some (pairC n M).size := by rw [info_pairs, pairC_size]
theorem pairC_one (n : Nat) (M : Nat → Nat → Bool) : (pairC n M).all (·.oneCell') = true := by
  rw [Array.all_eq_true_iff_forall_mem]
  intro v hv
  have hv : v ∈ (Value.int .i64 (n : Nat)) :: (List.range 3600).map fun k => Value.bool (M (k / 60) (k % 60)) := by simpa [pairC] using hv
  rcases List.mem_cons.1 hv with rfl | hv
  · rfl
  · obtain ⟨k, -, rfl⟩ := List.mem_map.1 hv
    rfl
theorem load_pairs (w : World) (g : Nat) (cs : Array Value) (hc : cs.size = 3601) (hb : Blk w g 85 cs) : (Instr.loadAt 85 (.pointer (some ⟨g, 0, none⟩))).run Try.prog w = .ok (.agg cs) w := by
  simp only [Instr.loadAt, Instr.sureAddr, Sem.run_bind, Sem.run_pure, Result.andThen]
  exact run_loadVar_row w g 85 85 cs (0, 0) _ hb Try.underlying85 rfl (by rw [info_pairs, hc])

theorem only_setRow (w : World) (g : Nat) (cs : Array Value) : Only g w (w.setRow g cs) := ⟨rfl, rfl, rfl, setRow_size w g cs, fun k hk => setRow_other w g k cs hk⟩

/-- A table with one entry turned. -/
def upd (M : Nat → Nat → Bool) (v x : Nat) (b : Bool) : Nat → Nat → Bool := fun a c => if a = v ∧ c = x then b else M a c
theorem pairC_set (n : Nat) (M : Nat → Nat → Bool) (v x : Nat) (b : Bool) (hv : v < 60) (hx : x < 60) : (pairC n M).setIfInBounds (1 + v * 60 + x) (.bool b) = pairC n (upd M v x b) := by
  obtain ⟨N, hN⟩ : ∃ N, N = 3600 := ⟨_, rfl⟩
  have h2 : v * 60 + x < N := by omega
  unfold pairC
  rw [← hN, List.setIfInBounds_toArray, show 1 + v * 60 + x = (v * 60 + x) + 1 by omega, List.set_cons_succ]
  clear hN
  congr 2
  apply List.ext_getElem?
  intro k
  rw [List.getElem?_set]
  by_cases hk : k < N
  · rw [List.length_map, List.length_range, List.getElem?_map, List.getElem?_map, List.getElem?_range hk, Option.map_some, Option.map_some]
    by_cases e : v * 60 + x = k
    · rw [if_pos e, if_pos h2]
      unfold upd
      rw [if_pos (by omega)]
    · rw [if_neg e]
      unfold upd
      rw [if_neg (by omega)]
  · rw [if_neg (by omega), List.getElem?_eq_none (by simp; omega), List.getElem?_eq_none (by simp; omega)]

theorem _root_.Go.Proofs.Ytcklgdcjedikoaa.Blk.put2 {w : World} {g n : Nat} {t : TypeId} {M : Nat → Nat → Bool} (h : Blk w g t (pairC n M)) (v x : Nat) (b : Bool) (hv : v < 60) (hx : x < 60) : Blk (w.setCell ⟨g, 1 + v * 60 + x, none⟩ (.bool b)) g t (pairC n (upd M v x b)) := by
  have := h.store (1 + v * 60 + x) (.bool b)
  rwa [pairC_set n M v x b hv hx] at this

/-- The first table with the second, as far as row v and column x. -/
def withTo (n : Nat) (M1 M2 : Nat → Nat → Bool) (v x : Nat) : Nat → Nat → Bool := fun a c => if a < n ∧ c < n ∧ (a < v ∨ a = v ∧ c < x) then M1 a c || M2 a c else M1 a c

theorem withTo_start (n : Nat) (M1 M2 : Nat → Nat → Bool) : withTo n M1 M2 0 0 = M1 := by
  funext a c
  unfold withTo
  rw [if_neg (by omega)]
theorem withTo_here (n : Nat) (M1 M2 : Nat → Nat → Bool) (v x : Nat) : withTo n M1 M2 v x v x = M1 v x := by
  unfold withTo
  rw [if_neg (by omega)]
theorem withTo_step {n : Nat} {M1 M2 : Nat → Nat → Bool} {v x : Nat} (hv : v < n) (hx : x < n) : upd (withTo n M1 M2 v x) v x (M1 v x || M2 v x) = withTo n M1 M2 v (x + 1) := by
  funext a c
  unfold upd withTo
  by_cases e : a = v ∧ c = x
  · rw [if_pos e, if_pos (by omega), e.1, e.2]
  · rw [if_neg e]
    by_cases h : a < n ∧ c < n ∧ (a < v ∨ a = v ∧ c < x)
    · rw [if_pos h, if_pos (by omega)]
    · rw [if_neg h, if_neg (by omega)]
theorem withTo_row (n : Nat) (M1 M2 : Nat → Nat → Bool) (v : Nat) : withTo n M1 M2 v n = withTo n M1 M2 (v + 1) 0 := by
  funext a c
  unfold withTo
  by_cases h : a < n ∧ c < n ∧ (a < v ∨ a = v ∧ c < n)
  · rw [if_pos h, if_pos (by omega)]
  · rw [if_neg h, if_neg (by omega)]

set_option maxRecDepth 100000 in
set_option maxHeartbeats 1000000 in
theorem with_any (n : Nat) (M1 M2 : Nat → Nat → Bool) (w : World) (hn : n ≤ 60) :
    Calls Try.prog 66 #[.agg (pairC n M1), .agg (pairC n M2)] w fun e w' => e = .returned (.agg (pairC n (withTo n M1 M2 n 0))) ∧ Below w.heap.size w w' := by
  have hb0 := ((Blk.new w 85 (pairC n M1)).more' (.cells (pairC n M2) 85)).more' (.cells Try.zeroCells85 85)
  have hb1 := (Blk.new (w.alloc (.cells (pairC n M1) 85)) 85 (pairC n M2)).more' (.cells Try.zeroCells85 85)
  have hb2 := Blk.new ((w.alloc (.cells (pairC n M1) 85)).alloc (.cells (pairC n M2) 85)) 85 Try.zeroCells85
  simp only [World.size_alloc] at hb1 hb2
  have c0 : _ = some (Value.int .i64 (n : Nat)) := (hb0.cell 0).trans (pairC_zero n M1)
  have hbel00 : Below w.heap.size w (((w.alloc (.cells (pairC n M1) 85)).alloc (.cells (pairC n M2) 85)).alloc (.cells Try.zeroCells85 85)) := (((Below.refl _ w).alloc (Nat.le_refl _) _).alloc (by simp) _).alloc (by simp; omega) _
  go_enter Try.func66, Try.ntmps66
  go_wp2_with fail
  generalize ((w.alloc (.cells (pairC n M1) 85)).alloc (.cells (pairC n M2) 85)).alloc (.cells Try.zeroCells85 85) = W0 at *
  have hZ := zero_size
  generalize Try.zeroCells85 = Z at *
  have hbel0 : Below w.heap.size w W0 := hbel00
  have Hb0 := Lib.hid hbel0
  clear hbel0 hbel00
  generalize hg : w.heap.size = g at *
  have Hg := Lib.hid hg
  clear hg
  go_loopw [9] (fun vv wr => ∃ v : Nat, v ≤ n ∧ vv = .int .i64 v ∧ Blk wr g 85 (pairC n (withTo n M1 M2 v 0)) ∧ Only g W0 wr) (fun vv _ => n - (intOf vv).toNat)
  case atStart => exact ⟨0, Nat.zero_le _, rfl, by rw [withTo_start]; exact hb0, Only.refl _ _⟩
  case round =>
    obtain ⟨v, hv, rfl, hblk, honly⟩ := hrel
    have k0 : _ = some (Value.int .i64 (n : Nat)) := (hblk.cell 0).trans (pairC_zero n _)
    by_cases hlt : v < n
    · go_wp2_with fail
      go_loopw [14] (fun xv wr => ∃ x : Nat, x ≤ n ∧ xv = .int .i64 x ∧ Blk wr g 85 (pairC n (withTo n M1 M2 v x)) ∧ Only g W0 wr) (fun xv _ => n - (intOf xv).toNat)
      case atStart => exact ⟨0, Nat.zero_le _, rfl, hblk, honly⟩
      case round =>
        rename_i hrel
        obtain ⟨x, hx, rfl, hblk2, honly2⟩ := hrel
        have k0' : _ = some (Value.int .i64 (n : Nat)) := (hblk2.cell 0).trans (pairC_zero n _)
        by_cases hlt2 : x < n
        · have k1 : _ = some (Value.bool (M1 v x)) := (hblk2.cell (1 + v * 60 + x)).trans ((pairC_at n _ v x (by omega) (by omega)).trans (by rw [withTo_here]))
          have k2 : _ = some (Value.bool (M2 v x)) := ((honly2.blk (by omega) hb1).cell (1 + v * 60 + x)).trans (pairC_at n _ v x (by omega) (by omega))
          have kf := hblk2.free (1 + v * 60 + x)
          have Hnext := Lib.hid (withTo_step (M1 := M1) (M2 := M2) hlt hlt2)
          generalize M1 v x = a at *
          generalize M2 v x = b at *
          cases a
          all_goals
            go_wp2_with fail
            go_region
          · go_wp2_with fail
            go_roundw
            case rel => exact ⟨x + 1, by omega, by go_num, by
              have := (hblk2.put2 v x (false || b) (by omega) (by omega))
              rw [Hnext.out] at this
              exact this.drewN 1, (honly2.setCell _ _).drewN 1⟩
            case measure => simp [intOf]; omega
          · go_wp2_with fail
            go_roundw
            case rel => exact ⟨x + 1, by omega, by go_num, by
              have := (hblk2.put2 v x (true || b) (by omega) (by omega))
              rw [Hnext.out] at this
              exact this.drewN 1, (honly2.setCell _ _).drewN 1⟩
            case measure => simp [intOf]; omega
        · obtain rfl : x = n := by omega
          go_wp2_with fail
          go_roundw
          case rel => exact ⟨v + 1, by omega, by go_num, by rw [← withTo_row]; exact hblk2, honly2⟩
          case measure => simp [intOf]; omega
    · obtain rfl : v = n := by omega
      have hbz : Blk wr (g + 1 + 1) 85 Z := honly.blk (by omega) hb2
      have hbel : Below w.heap.size w wr := by rw [Hg.out]; exact Hb0.out.trans (honly.below (Nat.le_refl _))
      have Hbel := Lib.hid hbel
      have hst := setRow_heap wr (g + 1 + 1) Z (pairC v (withTo v M1 M2 v 0)) 85 (0, 0) hbz
      have Hst := Lib.hid hst
      go_upto_region 10 with fail
      go_wp2_with (first
        | (refine wpList_load_row rfl 85 _ rfl g rfl 85 (pairC v (withTo v M1 M2 v 0)) (0, 0) _ hblk Try.underlying85 rfl (pairC_info _ _) ?_)
        | (refine wpList_plain rfl fun _ hK => wp_store_row 85 _ _ rfl (g + 1 + 1) (pairC v (withTo v M1 M2 v 0)) rfl rfl 85 Z hbz (pairC_info _ _) ?h1 (pairC_one _ _) (hK _ _ ?_)))
      case h1 => rw [hZ, pairC_size]
      exact bodyPost_ret (v := .agg (pairC v (withTo v M1 M2 v 0))) (results_cell_row rfl _ _ (g + 1 + 1) 85 _ (0, 0) _ rfl Hst.out Try.underlying85 rfl (pairC_info _ _)) rfl ⟨rfl, Hbel.out.trans ((only_setRow wr (g + 1 + 1) _).below (by rw [Hg.out]; omega))⟩

end Go.Proofs.Ytcklgdcjedikoaa

namespace Go.Proofs.Ytcklgdcjedikoaa
open Go.RowKit

/-- What follows through k, of row v, as far as column x. -/
def closRow (M : Nat → Nat → Bool) (k v : Nat) : Nat → Nat → Nat → Bool
  | 0 => M
  | x + 1 => upd (closRow M k v x) v x (closRow M k v x v x || closRow M k v x v k && closRow M k v x k x)
/-- As far as row v. -/
def closPlane (n : Nat) (M : Nat → Nat → Bool) (k : Nat) : Nat → Nat → Nat → Bool
  | 0 => M
  | v + 1 => closRow (closPlane n M k v) k v n
/-- As far as k. -/
def clos (n : Nat) (M : Nat → Nat → Bool) : Nat → Nat → Nat → Bool
  | 0 => M
  | k + 1 => closPlane n (clos n M k) k n

set_option maxRecDepth 100000 in
set_option maxHeartbeats 2000000 in
theorem closed_any (n : Nat) (M : Nat → Nat → Bool) (w : World) (hn : n ≤ 60) :
    Calls Try.prog 94 #[.agg (pairC n M)] w fun e w' => e = .returned (.agg (pairC n (clos n M n))) ∧ Below w.heap.size w w' := by
  have hb0 := (Blk.new w 85 (pairC n M)).more' (.cells Try.zeroCells85 85)
  have hb2 := Blk.new (w.alloc (.cells (pairC n M) 85)) 85 Try.zeroCells85
  simp only [World.size_alloc] at hb2
  have c0 : _ = some (Value.int .i64 (n : Nat)) := (hb0.cell 0).trans (pairC_zero n M)
  have hbel00 : Below w.heap.size w ((w.alloc (.cells (pairC n M) 85)).alloc (.cells Try.zeroCells85 85)) := ((Below.refl _ w).alloc (Nat.le_refl _) _).alloc (by simp) _
  go_enter Try.func94, Try.ntmps94
  go_wp2_with fail
  generalize (w.alloc (.cells (pairC n M) 85)).alloc (.cells Try.zeroCells85 85) = W0 at *
  have hZ := zero_size
  generalize Try.zeroCells85 = Z at *
  have Hb0 := Lib.hid hbel00
  clear hbel00
  generalize hg : w.heap.size = g at *
  have Hg := Lib.hid hg
  clear hg
  go_loopw [8] (fun kv wr => ∃ k : Nat, k ≤ n ∧ kv = .int .i64 k ∧ Blk wr g 85 (pairC n (clos n M k)) ∧ Only g W0 wr) (fun kv _ => n - (intOf kv).toNat)
  case atStart => exact ⟨0, Nat.zero_le _, rfl, hb0, Only.refl _ _⟩
  case round =>
    obtain ⟨k, hk, rfl, hblk, honly⟩ := hrel
    have k0 : _ = some (Value.int .i64 (n : Nat)) := (hblk.cell 0).trans (pairC_zero n _)
    by_cases hlt : k < n
    · go_wp2_with fail
      go_loopw [13] (fun vv wr => ∃ v : Nat, v ≤ n ∧ vv = .int .i64 v ∧ Blk wr g 85 (pairC n (closPlane n (clos n M k) k v)) ∧ Only g W0 wr) (fun vv _ => n - (intOf vv).toNat)
      case atStart => exact ⟨0, Nat.zero_le _, rfl, hblk, honly⟩
      case round =>
        rename_i hrel
        obtain ⟨v, hv, rfl, hblk1, honly1⟩ := hrel
        have k0' : _ = some (Value.int .i64 (n : Nat)) := (hblk1.cell 0).trans (pairC_zero n _)
        by_cases hlt1 : v < n
        · go_wp2_with fail
          go_loopw [18] (fun xv wr => ∃ x : Nat, x ≤ n ∧ xv = .int .i64 x ∧ Blk wr g 85 (pairC n (closRow (closPlane n (clos n M k) k v) k v x)) ∧ Only g W0 wr) (fun xv _ => n - (intOf xv).toNat)
          case atStart => exact ⟨0, Nat.zero_le _, rfl, hblk1, honly1⟩
          case round =>
            rename_i hrel
            obtain ⟨x, hx, rfl, hblk2, honly2⟩ := hrel
            have k0'' : _ = some (Value.int .i64 (n : Nat)) := (hblk2.cell 0).trans (pairC_zero n _)
            by_cases hlt2 : x < n
            · have hnext : closRow (closPlane n (clos n M k) k v) k v (x + 1) = upd (closRow (closPlane n (clos n M k) k v) k v x) v x (closRow (closPlane n (clos n M k) k v) k v x v x || closRow (closPlane n (clos n M k) k v) k v x v k && closRow (closPlane n (clos n M k) k v) k v x k x) := rfl
              generalize closRow (closPlane n (clos n M k) k v) k v x = T at *
              have k1 : _ = some (Value.bool (T v x)) := (hblk2.cell (1 + v * 60 + x)).trans (pairC_at n _ v x (by omega) (by omega))
              have k2 : _ = some (Value.bool (T v k)) := (hblk2.cell (1 + v * 60 + k)).trans (pairC_at n _ v k (by omega) (by omega))
              have k3 : _ = some (Value.bool (T k x)) := (hblk2.cell (1 + k * 60 + x)).trans (pairC_at n _ k x (by omega) (by omega))
              have kf := hblk2.free (1 + v * 60 + x)
              have Hnext := Lib.hid hnext
              clear hnext
              generalize T v x = a at *
              generalize T v k = b at *
              generalize T k x = c at *
              cases a <;> cases b
              all_goals
                go_wp2_with fail
                go_region
              all_goals
                go_wp2_with fail
                go_roundw
                case rel => exact ⟨x + 1, by omega, by go_num, by
                  rw [Hnext.out]
                  exact (hblk2.put2 v x _ (by omega) (by omega)).drewN 1, (honly2.setCell _ _).drewN 1⟩
                case measure => simp [intOf]; omega
            · obtain rfl : x = n := by omega
              go_wp2_with fail
              go_roundw
              case rel => exact ⟨v + 1, by omega, by go_num, hblk2, honly2⟩
              case measure => simp [intOf]; omega
        · obtain rfl : v = n := by omega
          go_wp2_with fail
          go_roundw
          case rel => exact ⟨k + 1, by omega, by go_num, hblk1, honly1⟩
          case measure => simp [intOf]; omega
    · obtain rfl : k = n := by omega
      have hbz : Blk wr (g + 1) 85 Z := honly.blk (by omega) hb2
      have hbel : Below w.heap.size w wr := by rw [Hg.out]; exact Hb0.out.trans (honly.below (Nat.le_refl _))
      have Hbel := Lib.hid hbel
      have hst := setRow_heap wr (g + 1) Z (pairC k (clos k M k)) 85 (0, 0) hbz
      have Hst := Lib.hid hst
      go_upto_region 14 with fail
      go_wp2_with (first
        | (refine wpList_load_row rfl 85 _ rfl g rfl 85 (pairC k (clos k M k)) (0, 0) _ hblk Try.underlying85 rfl (pairC_info _ _) ?_)
        | (refine wpList_plain rfl fun _ hK => wp_store_row 85 _ _ rfl (g + 1) (pairC k (clos k M k)) rfl rfl 85 Z hbz (pairC_info _ _) ?h1 (pairC_one _ _) (hK _ _ ?_)))
      case h1 => rw [hZ, pairC_size]
      exact bodyPost_ret (v := .agg (pairC k (clos k M k))) (results_cell_row rfl _ _ (g + 1) 85 _ (0, 0) _ rfl Hst.out Try.underlying85 rfl (pairC_info _ _)) rfl ⟨rfl, Hbel.out.trans ((only_setRow wr (g + 1) _).below (by rw [Hg.out]; omega))⟩

end Go.Proofs.Ytcklgdcjedikoaa

namespace Go.Proofs.Ytcklgdcjedikoaa
open Go.RowKit Go.Shelf

attribute [local go_sem] Oper.semAt_some

theorem wpListIn_load_row {F : Fence} {n' : Nat} {P : Program} {ops : Array Oper} {rest : List Oper} {o : Oper} {a : Act} {w : World} {Q : Exit → Act → World → Prop} (hgd : o.guard = none) (ty : TypeId) (x : Operand) (ho : o.op = .load ty x)
    (g : Nat) (hx : a.eval x = .pointer (some ⟨g, 0, none⟩)) (t : TypeId) (cs : Array Value) (fr : Nat × Nat) (d : TypeDesc) (hg : w.heap[g]? = some (.cells cs t fr))
    (hu : P.underlying ty = some d) (hd : (match d with | .struct _ | .array _ _ => true | _ => false) = true) (hi : (P.info? ty).map (·.size) = some cs.size)
    (h : wpListIn F n' P ops Q rest (a.put o.dst (.agg cs)) w) : wpListIn F n' P ops Q (o :: rest) a w := by
  refine wpListIn_plain hgd fun K hK' => ?_
  unfold Oper.wpIn
  refine ⟨?_, ?_⟩
  · simp [Oper.about, ho]
  · rw [Oper.semAt_plain F _ _ (by rw [ho]; intro c hc'; cases hc')]
    unfold execOp
    simp only [ho, hx, Instr.loadAt, Instr.sureAddr, Sem.run_bind, Sem.run_pure, Result.andThen_ok, run_loadVar_row w g t ty cs fr d hg hu hd hi]
    exact hK' _ _ h
theorem wpListIn_store_row {F : Fence} {n' : Nat} {P : Program} {ops : Array Oper} {rest : List Oper} {o : Oper} {a : Act} {w : World} {Q : Exit → Act → World → Prop} (hgd : o.guard = none) (ty : TypeId) (x y : Operand) (ho : o.op = .store ty x y)
    (g : Nat) (cells : Array Value) (hx : a.eval x = .pointer (some ⟨g, 0, none⟩)) (hy : a.eval y = .agg cells)
    (t : TypeId) (old : Array Value) (hg : w.heap[g]? = some (.cells old t (0, 0))) (hi : (P.info? ty).map (·.size) = some cells.size)
    (hold : old.size = cells.size) (h1 : cells.all (·.oneCell') = true)
    (h : wpListIn F n' P ops Q rest (a.put o.dst undef) (w.setRow g cells)) : wpListIn F n' P ops Q (o :: rest) a w := by
  refine wpListIn_plain hgd fun K hK' => ?_
  unfold Oper.wpIn
  refine ⟨?_, ?_⟩
  · simp [Oper.about, ho]
  · rw [Oper.semAt_plain F _ _ (by rw [ho]; intro c hc'; cases hc')]
    unfold execOp
    simp only [ho, hx, hy, Instr.storeAt, Instr.sureAddr, Sem.run_bind, Sem.run_pure, Result.andThen_ok, run_storeVar_row w g t ty old cells hg hi hold h1]
    exact hK' _ _ h

/-- The table of some pairs of positions. -/
def tabOf (p : List Nat) (pre : List (Nat × Nat)) : Nat → Nat → Bool := fun a b => pre.any fun x => decide (p.getD x.1 0 = a) && decide (p.getD x.2 0 = b)
theorem tabOf_nil (p : List Nat) : tabOf p [] = fun _ _ => false := rfl
theorem tabOf_snoc (p : List Nat) (pre : List (Nat × Nat)) (x : Nat × Nat) : tabOf p (pre ++ [x]) = upd (tabOf p pre) (p.getD x.1 0) (p.getD x.2 0) true := by
  funext a b
  unfold tabOf upd
  rw [List.any_append]
  by_cases h : a = p.getD x.1 0 ∧ b = p.getD x.2 0
  · rw [if_pos h, h.1, h.2]
    simp
  · rw [if_neg h]
    have : ([x].any fun x => decide (p.getD x.1 0 = a) && decide (p.getD x.2 0 = b)) = false := by
      simp only [List.any_cons, List.any_nil, Bool.or_false, Bool.and_eq_false_iff, decide_eq_false_iff_not]
      omega
    rw [this, Bool.or_false]
/-- The inversions, the greater value first. -/
def invM (p : List Nat) : Nat → Nat → Bool := tabOf p (invTo p p.length)

theorem zero_pairs : Try.zeroCells85 = pairC 0 fun _ _ => false := by kernel_rfl
theorem zero_set (n : Nat) : (Try.zeroCells85).toList.set 0 (.int .i64 (n : Nat)) = (pairC n fun _ _ => false).toList := by
  rw [zero_pairs]
  simp [pairC]
theorem store_first (n : Nat) (w : World) : (storeCells ⟨w.heap.size + 1, 0, none⟩ ((Try.zeroCells85).toList.set 0 (.int .i64 (n : Nat)))).run Try.prog ((w.alloc (.cells Try.zeroCells85 85)).alloc (.cells Try.zeroCells85 85)) =
    .ok () ((w.alloc (.cells Try.zeroCells85 85)).alloc (.cells (pairC n fun _ _ => false) 85)) := by
  have := run_storeCells_new (P := Try.prog) (w.alloc (.cells Try.zeroCells85 85)) 85 Try.zeroCells85 (pairC n fun _ _ => false) (pairC_info _ _) (by rw [zero_size, pairC_size]) (pairC_one _ _)
  rw [World.size_alloc] at this
  rw [zero_set]
  exact this

set_option maxRecDepth 100000 in
set_option maxHeartbeats 2000000 in
theorem inverted_any (b off n cap : Nat) (p : List Nat) (w : World) (hS : Sl .i64 w (some ⟨b, off, none⟩) n p) (hp : IsPerm p) (hn : n ≤ 60) (h0 : 0 < n) :
    Calls Try.prog 65 #[.slice (some ⟨b, off, none⟩) n cap] w fun e w' => e = .returned (.agg (pairC n (invM p))) ∧ Below w.heap.size w w' := by
  obtain ⟨pb, hpb, hrow⟩ := rowAt_of hS h0
  have hl := hS.len
  subst hl
  have hbl : b < w.heap.size := (Array.getElem?_eq_some_iff.1 hpb).1
  refine (callsIn_wide (n := 100)).1 ?_
  refine callsIn_of_wp_marks Try.func65 rfl trivial ?_ rfl
  simp only [Try.ntmps65, List.size_toArray, List.length_cons, List.length_nil, Nat.reduceAdd, Nat.reduceSub, Array.replicate_succ, Array.replicate_zero, List.push_toArray, List.append_toArray, List.nil_append, List.cons_append]
  have hst := store_first p.length w
  gi_wp2_with (refine ⟨trivial, ?_⟩; gi_at_call 71; refine (inversions_in Fence.wide 99 trivial rfl _ _ _ _).mono ?_; rintro e w' ⟨rfl, rfl⟩)
  have bZ := ((Blk.new w 85 Try.zeroCells85).more (.cells (pairC p.length fun _ _ => false) 85)).more (.cells #[.slice (some ⟨b, off, none⟩) p.length cap] 22)
  have bG := (Blk.new (w.alloc (.cells Try.zeroCells85 85)) 85 (pairC p.length fun _ _ => false)).more (.cells #[.slice (some ⟨b, off, none⟩) p.length cap] 22)
  have bP := Boxed.new ((w.alloc (.cells Try.zeroCells85 85)).alloc (.cells (pairC p.length fun _ _ => false) 85)) 22 (.slice (some ⟨b, off, none⟩) p.length cap)
  have hB0 : Below w.heap.size w (((w.alloc (.cells Try.zeroCells85 85)).alloc (.cells (pairC p.length fun _ _ => false) 85)).alloc (.cells #[.slice (some ⟨b, off, none⟩) p.length cap] 22)) := (((Below.refl _ w).alloc (Nat.le_refl _) _).alloc (by simp) _).alloc (by simp; omega) _
  simp only [World.size_alloc] at bG bP
  have hsz : (((w.alloc (.cells Try.zeroCells85 85)).alloc (.cells (pairC p.length fun _ _ => false) 85)).alloc (.cells #[.slice (some ⟨b, off, none⟩) p.length cap] 22)).heap.size = w.heap.size + 3 := by simp
  have hZ := zero_size
  generalize ((w.alloc (.cells Try.zeroCells85 85)).alloc (.cells (pairC p.length fun _ _ => false) 85)).alloc (.cells #[.slice (some ⟨b, off, none⟩) p.length cap] 22) = Wi at *
  have hb1 : Wi.heap[b]? = some pb := (hB0.block b hbl).trans hpb
  clear hst
  refine range_on rfl (by omega) (gf := 99) (lb := #[.pointer (some ⟨w.heap.size + 1 + 1, 0, none⟩)]) rfl trivial (enters_of Try.func99 (by kernel_rfl) rfl)
    (inversions_gives Fence.wide rfl 99 trivial trivial trivial rfl (by omega) (w.heap.size + 1 + 1) b off cap p (by omega) pb hrow (KeepTwo b (w.heap.size + 1 + 1)) (fun _ _ h => h) Wi bP hb1)
    KeepTwo.trans (fun X l _ o' h _ _ => KeepTwo.put (B := Wi.heap.size) (by omega) (by omega) X l o' h) (Below.refl _ _) (fun _ => rfl)
    (fun ys X => (Blk X (w.heap.size + 1) 85 (pairC p.length (tabOf p (ys.map posOf))) ∧ Blk X w.heap.size 85 Try.zeroCells85 ∧ X.heap[b]? = some pb) ∧ Below w.heap.size w X)
    (OwnFrom.and (OwnFrom.and (ownFrom_blk _ _ _ _ (by omega)) (OwnFrom.and (ownFrom_blk _ _ _ _ (by omega)) (ownFrom_block _ _ _ (by omega)))) (ownFrom_below (Nat.le_refl _) (by omega)))
    ⟨⟨by rw [List.map_nil, tabOf_nil]; exact bG, bZ, hb1⟩, hB0⟩
    (fun x => { tmps := #[.slice (some ⟨b, off, none⟩) p.length cap, undef, .pointer (some ⟨w.heap.size, 0, none⟩), .pointer (some ⟨w.heap.size + 1, 0, none⟩), .int .i64 ((p.getD x.1.1 0 : Nat) : Int), .int .i64 ((p.getD x.2.1 0 : Nat) : Int), .slice (some ⟨b, off, none⟩) p.length cap, .int .i64 (p.length : Nat), .agg (Try.zeroCells85.setIfInBounds 0 (.int .i64 (p.length : Nat))), .slice (some ⟨b, off, none⟩) p.length cap, .func (.func 99) #[] #[.pointer (some ⟨w.heap.size + 1 + 1, 0, none⟩)], .int .i64 ((p.getD x.1.1 0 : Nat) : Int), .int .i64 ((p.getD x.2.1 0 : Nat) : Int), undef, undef, undef, undef, undef, undef], defers := [] }) ?assign ?body ?done
  case assign =>
    intro l x X K hK
    unfold encI
    dsimp only at hK ⊢
    generalize p.getD x.1.1 0 = u at hK ⊢
    generalize p.getD x.2.1 0 = u' at hK ⊢
    gi_wp2
    exact hK
  case body =>
    rintro l ys x X ⟨⟨e1, e2, e3⟩, hB⟩ hlen
    have hv : p.getD x.1.1 0 < p.length := hp.lt x.1.2
    have hu : p.getD x.2.1 0 < p.length := hp.lt x.2.2
    have Hs := Lib.hid (tabOf_snoc p (ys.map posOf) (posOf x))
    have kc := (e1.cell (1 + p.getD x.1.1 0 * 60 + p.getD x.2.1 0)).trans (pairC_at p.length _ _ _ (by omega) (by omega))
    have kf := e1.free (1 + p.getD x.1.1 0 * 60 + p.getD x.2.1 0)
    have Hput := Lib.hid (e1.put2 (p.getD x.1.1 0) (p.getD x.2.1 0) true (by omega) (by omega))
    have HB := Lib.hid (show (tabOf p (ys.map posOf ++ [posOf x])) = upd (tabOf p (ys.map posOf)) (p.getD x.1.1 0) (p.getD x.2.1 0) true from Hs.out)
    generalize p.getD x.1.1 0 = v at *
    generalize p.getD x.2.1 0 = u at *
    gi_wp2
    refine ⟨(Rest.refl _ X).setCell (by omega) _ _, ⟨Below.heap_setCell _ _ _ _ (by simp <;> omega), Below.heap_setCell _ _ _ _ (by simp <;> omega)⟩, ⟨⟨?_, (Below.heap_setCell _ _ _ _ (by simp <;> omega)).trans e2, (Below.heap_setCell _ _ _ _ (by simp <;> omega)).trans e3⟩, hB.setCell (by simp) _⟩⟩
    rw [List.map_append, List.map_cons, List.map_nil, HB.out]
    exact Hput.out
  case done =>
    rintro D ys X hD hys ⟨⟨e1, e2, e3⟩, hB⟩ hK
    rw [hys] at e1
    have hst := setRow_heap X w.heap.size _ (pairC p.length (invM p)) 85 (0, 0) e2
    have Hst := Lib.hid hst
    clear hys hb1 bG bZ bP hst
    have hDg : D ≠ w.heap.size := by omega
    have hD2 : (X.setRow w.heap.size (pairC p.length (invM p))).heap[D]? = some (.deferred (some [])) := (setRow_other X w.heap.size D _ hDg).trans hK
    have hsz2 : Try.zeroCells85.size = (pairC p.length (invM p)).size := by rw [hZ, pairC_size]
    gi_wp2_with (first
      | (refine wpListIn_load_row rfl 85 _ rfl (w.heap.size + 1) rfl 85 (pairC p.length (invM p)) (0, 0) _ e1 Try.underlying85 rfl (pairC_info _ _) ?_)
      | (refine wpListIn_store_row rfl 85 _ _ rfl w.heap.size (pairC p.length (invM p)) rfl rfl 85 _ e2 (pairC_info _ _) hsz2 (pairC_one _ _) ?_))
    refine ⟨by simp, .inl ⟨_, _, rfl, run_takeDeferred hD2, ?_⟩⟩
    refine ⟨_, results_cell_row rfl _ _ w.heap.size 85 _ (0, 0) _ rfl ((World.putObj_heap_other hDg.symm).trans Hst.out) Try.underlying85 rfl (pairC_info _ _), rfl, ?_⟩
    exact (hB.trans ((only_setRow X w.heap.size _).below (Nat.le_refl _))).trans (belowK_b (w := w) (Nat.le_refl _) _ D _ _ (by omega) hD2 rfl rfl)

end Go.Proofs.Ytcklgdcjedikoaa

namespace Go.Proofs.Ytcklgdcjedikoaa
open Go.RowKit

/-- Whether x comes before v. -/
def comes (M : Nat → Nat → Bool) (v x : Nat) : Bool := decide (v < x) && M x v || decide (x < v) && !M v x
/-- How many of the first come before v. -/
def befCnt (M : Nat → Nat → Bool) (v : Nat) : Nat → Nat
  | 0 => 0
  | x + 1 => befCnt M v x + if comes M v x = true then 1 else 0
theorem befCnt_le (M : Nat → Nat → Bool) (v : Nat) : ∀ x, befCnt M v x ≤ x ∧ (v < x → befCnt M v x + 1 ≤ x)
  | 0 => ⟨Nat.le_refl _, fun h => absurd h (by omega)⟩
  | x + 1 => by
    obtain ⟨h1, h2⟩ := befCnt_le M v x
    unfold befCnt
    by_cases e : v = x
    · subst e
      have : comes M v v = false := by simp [comes]
      rw [this]
      exact ⟨by simp; omega, fun _ => by simp; omega⟩
    · split
      · exact ⟨by omega, fun h => by have := h2 (by omega); omega⟩
      · exact ⟨by omega, fun h => by omega⟩
/-- The order so far. -/
def ordTo (n : Nat) (M : Nat → Nat → Bool) : Nat → List Nat
  | 0 => List.replicate n 0
  | v + 1 => (ordTo n M v).set (befCnt M v n) v
theorem ordTo_length (n : Nat) (M : Nat → Nat → Bool) : ∀ v, (ordTo n M v).length = n
  | 0 => by simp [ordTo]
  | v + 1 => by rw [ordTo, List.length_set, ordTo_length n M v]

set_option maxRecDepth 100000 in
set_option maxHeartbeats 2000000 in
theorem order_any (n : Nat) (M : Nat → Nat → Bool) (w : World) (hn : n ≤ 60) (h0 : 0 < n) :
    Calls Try.prog 95 #[.agg (pairC n M)] w (RetRow (ordTo n M n) w) := by
  have hb0 := (Blk.new w 85 (pairC n M))
  have c0 : _ = some (Value.int .i64 (n : Nat)) := (hb0.cell 0).trans (pairC_zero n M)
  have hb0' := hb0.more' (.cells (cellsOf .i64 (List.replicate n 0)) 3)
  have c0' : _ = some (Value.int .i64 (n : Nat)) := (hb0'.cell 0).trans (pairC_zero n M)
  have hb1 := Blk.new (w.alloc (.cells (pairC n M) 85)) 3 (cellsOf .i64 (List.replicate n 0))
  have hmk : (Instr.makeSlice 22 (.int .i64 (n : Nat)) (.int .i64 (n : Nat))).run Try.prog (w.alloc (.cells (pairC n M) 85)) = .ok (.slice (some ⟨(w.alloc (.cells (pairC n M) 85)).heap.size, 0, none⟩) n n) ((w.alloc (.cells (pairC n M) 85)).alloc (.cells (cellsOf .i64 (List.replicate n 0)) 3)) :=
    run_makeInts Try.underlying22 info_int (by omega) .i64 .i64 n (by omega) _
  rw [World.size_alloc] at hb1 hmk
  have hbel0 : Below w.heap.size w ((w.alloc (.cells (pairC n M) 85)).alloc (.cells (cellsOf .i64 (List.replicate n 0)) 3)) := ((Below.refl _ w).alloc (Nat.le_refl _) _).alloc (by simp) _
  go_enter Try.func95, Try.ntmps95
  go_wp2_with fail
  generalize (w.alloc (.cells (pairC n M) 85)).alloc (.cells (cellsOf .i64 (List.replicate n 0)) 3) = W0 at *
  have Hb0 := Lib.hid hbel0
  clear hbel0 hmk
  generalize hg : w.heap.size = g at *
  have Hg := Lib.hid hg
  clear hg
  go_loopw [12] (fun vv wr => ∃ v : Nat, v ≤ n ∧ vv = .int .i64 v ∧ Blk wr (g + 1) 3 (cellsOf .i64 (ordTo n M v)) ∧ Only (g + 1) W0 wr) (fun vv _ => n - (intOf vv).toNat)
  case atStart => exact ⟨0, Nat.zero_le _, rfl, hb1, Only.refl _ _⟩
  case round =>
    obtain ⟨v, hv, rfl, hblk, honly⟩ := hrel
    have hbM : Blk wr g 85 (pairC n M) := honly.blk (by omega) hb0'
    have k0 : _ = some (Value.int .i64 (n : Nat)) := (hbM.cell 0).trans (pairC_zero n _)
    by_cases hlt : v < n
    · go_wp2_with fail
      go_loopw [5, 17] (fun bv xv wx => ∃ x : Nat, x ≤ n ∧ xv = .int .i64 x ∧ bv = .int .i64 (befCnt M v x : Nat) ∧ wx = wr) (fun _ xv _ => n - (intOf xv).toNat)
      case atStart => exact ⟨0, Nat.zero_le _, rfl, rfl, rfl⟩
      case round =>
        rename_i hrel
        obtain ⟨x, hx, rfl, rfl, rfl⟩ := hrel
        have hbl := (befCnt_le M v x).1
        by_cases hlt2 : x < n
        · have k1 : _ = some (Value.bool (M x v)) := (hbM.cell (1 + x * 60 + v)).trans (pairC_at n _ x v (by omega) (by omega))
          have k2 : _ = some (Value.bool (M v x)) := (hbM.cell (1 + v * 60 + x)).trans (pairC_at n _ v x (by omega) (by omega))
          have Hnext := Lib.hid (show befCnt M v (x + 1) = befCnt M v x + if comes M v x = true then 1 else 0 from rfl)
          have Hc := Lib.hid (show comes M v x = (decide (v < x) && M x v || decide (x < v) && !M v x) from rfl)
          generalize befCnt M v x = c at *
          generalize comes M v x = q at *
          generalize M x v = a at *
          generalize M v x = b at *
          rcases Nat.lt_trichotomy v x with h | h | h
          · have hq := Hc.out
            rw [decide_eq_true h, decide_eq_false (by omega : ¬ x < v)] at hq
            have hd1 : decide ((v : Int) < x) = true := decide_eq_true (by omega)
            have hd2 : decide ((x : Int) < v) = false := decide_eq_false (by omega)
            cases a
            · obtain rfl : q = false := by simpa using hq
              clear hq
              go_wp2_with fail
              go_roundw
              case rel => exact ⟨x + 1, by omega, by go_num, by rw [Hnext.out]; rfl, trivial⟩
              case measure => simp [intOf]; omega
            · obtain rfl : q = true := by simpa using hq
              clear hq
              go_wp2_with fail
              go_roundw
              case rel => exact ⟨x + 1, by omega, by go_num, by rw [Hnext.out]; go_num, trivial⟩
              case measure => simp [intOf]; omega
          · have hq := Hc.out
            rw [decide_eq_false (by omega : ¬ v < x), decide_eq_false (by omega : ¬ x < v)] at hq
            have hd1 : decide ((v : Int) < x) = false := decide_eq_false (by omega)
            have hd2 : decide ((x : Int) < v) = false := decide_eq_false (by omega)
            obtain rfl : q = false := by simpa using hq
            clear hq
            go_wp2_with fail
            go_roundw
            case rel => exact ⟨x + 1, by omega, by go_num, by rw [Hnext.out]; rfl, trivial⟩
            case measure => simp [intOf]; omega
          · have hq := Hc.out
            rw [decide_eq_false (by omega : ¬ v < x), decide_eq_true h] at hq
            have hd1 : decide ((v : Int) < x) = false := decide_eq_false (by omega)
            have hd2 : decide ((x : Int) < v) = true := decide_eq_true (by omega)
            cases b
            · obtain rfl : q = true := by simpa using hq
              clear hq
              go_wp2_with fail
              go_roundw
              case rel => exact ⟨x + 1, by omega, by go_num, by rw [Hnext.out]; go_num, trivial⟩
              case measure => simp [intOf]; omega
            · obtain rfl : q = false := by simpa using hq
              clear hq
              go_wp2_with fail
              go_roundw
              case rel => exact ⟨x + 1, by omega, by go_num, by rw [Hnext.out]; rfl, trivial⟩
              case measure => simp [intOf]; omega
        · obtain rfl : x = n := by omega
          have hb := (befCnt_le M v x).2 hlt
          have Hput := Lib.hid (hblk.put (befCnt M v x) v (z := (v : Int)) rfl)
          have hc := hblk.num (befCnt M v x) (by rw [ordTo_length]; omega)
          have hf := hblk.free (befCnt M v x)
          have Hnext := Lib.hid (show ordTo x M (v + 1) = (ordTo x M v).set (befCnt M v x) v from rfl)
          generalize befCnt M v x = c at *
          generalize (ordTo x M v).getD c 0 = y at *
          go_wp2_with fail
          go_roundw
          case rel => exact ⟨v + 1, by omega, by go_num, by rw [Hnext.out]; exact Hput.out, honly.setCell _ _⟩
          case measure => simp [intOf]; omega
    · obtain rfl : v = n := by omega
      have hbel : Below w.heap.size w wr := by rw [Hg.out]; exact Hb0.out.trans (honly.below (by omega))
      go_wp2_with fail
      go_ret
      exact ⟨g + 1, by rw [ordTo_length]; rfl, by rw [Hg.out]; omega, hblk, hbel⟩

end Go.Proofs.Ytcklgdcjedikoaa

namespace Go.Proofs.Ytcklgdcjedikoaa
open Go.RowKit

theorem cells_bool : Try.prog.cellsOf 4 = 1 := by kernel_rfl
theorem cells_row : Try.prog.cellsOf 81 = 60 := by kernel_rfl
theorem cells_rows : Try.prog.cellsOf 83 = 3600 := by kernel_rfl

theorem run_part_agg {t : TypeId} {d : TypeDesc} (hu : Try.prog.underlying t = some d) (hd : (match d with | .struct _ | .array _ _ => true | _ => false) = true) (xs : Array Value) (off : Nat) (w : World) :
    (part t xs off).run Try.prog w = .ok (.agg (xs.extract off (off + Try.prog.cellsOf t))) w := by
  obtain ⟨i, hi⟩ := info_of_underlying hu
  have hagg : (isAgg t).run Try.prog w = .ok true w := by
    unfold isAgg
    rw [Sem.run_bind, run_underlying hu w]
    cases d <;> simp_all
  simp only [part, Sem.run_bind, hagg, Result.andThen_ok, if_true, run_sizeOf w hi, Sem.run_pure]

theorem eq_row (d : Nat) (xs ys : Array Value) (f g : Nat → Bool) (w : World) : ∀ is : List Nat, (∀ i ∈ is, xs[i]? = some (.bool (f i)) ∧ ys[i]? = some (.bool (g i))) →
    (Op.eqItems (d + 1) 4 (Try.prog.cellsOf 4) xs ys is).run Try.prog w = .ok (is.all fun i => f i == g i) w
  | [], _ => by simp [Op.eqItems]
  | i :: is, h => by
    have ih := eq_row d xs ys f g w is fun j hj => h j (by simp [hj])
    obtain ⟨h1, h2⟩ := h i (by simp)
    have p1 := run_part_plain (P := Try.prog) w (e := 4) (by kernel_rfl) h1
    have p2 := run_part_plain (P := Try.prog) w (e := 4) (by kernel_rfl) h2
    have p3 := run_equalIn_bool' (P := Try.prog) w d 4 (f i) (g i) Try.underlying4
    simp only [Op.eqItems, cells_bool, Nat.mul_one, Sem.run_bind, p1, p2, p3, Result.andThen_ok, List.all_cons]
    rw [cells_bool] at ih
    cases e : (f i == g i)
    · simp
    · simpa using ih

/-- Whether two rows are the same. -/
def rowEq (f g : Nat → Bool) : Bool := (List.range 60).all fun x => f x == g x
theorem part_row (d : Nat) (xs ys : Array Value) (f g : Nat → Bool) (off : Nat) (w : World) (h : ∀ x, x < 60 → xs[off + x]? = some (.bool (f x)) ∧ ys[off + x]? = some (.bool (g x))) :
    ∃ a b, (part 81 xs off).run Try.prog w = .ok a w ∧ (part 81 ys off).run Try.prog w = .ok b w ∧ (Op.equalIn (d + 2) 81 a b).run Try.prog w = .ok (rowEq f g) w := by
  have p1 := run_part_agg (t := 81) Try.underlying81 rfl xs off w
  have p2 := run_part_agg (t := 81) Try.underlying81 rfl ys off w
  obtain ⟨it, hit⟩ := info_of_underlying (P := Try.prog) Try.underlying4
  have sx := (Array.getElem?_eq_some_iff.1 (h 59 (by omega)).1).1
  have sy := (Array.getElem?_eq_some_iff.1 (h 59 (by omega)).2).1
  rw [cells_row] at p1 p2
  refine ⟨_, _, p1, p2, ?_⟩
  rw [run_equalIn_array (P := Try.prog) w (d + 1) _ _ Try.underlying81 hit]
  unfold rowEq
  refine eq_row d _ _ f g w _ fun x hx => ?_
  rw [List.mem_range] at hx
  rw [Array.getElem?_extract, Array.getElem?_extract, if_pos (by omega), if_pos (by omega)]
  exact h x hx

theorem eq_rows (d : Nat) (xs ys : Array Value) (f g : Nat → Nat → Bool) (w : World) (is : List Nat) : (∀ i ∈ is, ∀ x, x < 60 → xs[i * 60 + x]? = some (.bool (f i x)) ∧ ys[i * 60 + x]? = some (.bool (g i x))) →
    (Op.eqItems (d + 2) 81 (Try.prog.cellsOf 81) xs ys is).run Try.prog w = .ok (is.all fun i => rowEq (f i) (g i)) w := by
  rw [cells_row]
  induction is with
  | nil => intro _; simp [Op.eqItems]
  | cons i is ih =>
    intro h
    have ih := ih fun j hj => h j (List.mem_cons_of_mem _ hj)
    obtain ⟨a, b, p1, p2, p3⟩ := part_row d xs ys (f i) (g i) (i * 60) w (h i (List.mem_cons_self ..))
    generalize hq : rowEq (f i) (g i) = q at p3
    simp only [Op.eqItems, Sem.run_bind, p1, p2, p3, Result.andThen_ok, List.all_cons, hq]
    cases q
    · simp
    · simpa using ih

/-- Whether two tables are the same. -/
def eqT (M N : Nat → Nat → Bool) : Bool := (List.range 60).all fun v => rowEq (M v) (N v)
theorem eqT_iff {M N : Nat → Nat → Bool} : eqT M N = true ↔ ∀ v x, v < 60 → x < 60 → M v x = N v x := by
  unfold eqT
  rw [List.all_eq_true]
  constructor
  · intro h v x hv hx
    have := List.all_eq_true.1 (show ((List.range 60).all fun x => M v x == N v x) = true from h v (List.mem_range.2 hv)) x (List.mem_range.2 hx)
    simpa using this
  · intro h v hv
    show ((List.range 60).all fun x => M v x == N v x) = true
    rw [List.all_eq_true]
    intro x hx
    have := h v x (List.mem_range.1 hv) (List.mem_range.1 hx)
    simpa using this

theorem fields_list : (Try.prog.fieldsOf 85).toList = [(Try.prog.fieldsOf 85)[0]!, (Try.prog.fieldsOf 85)[1]!] := by kernel_rfl
theorem fields_facts : ((Try.prog.fieldsOf 85)[0]!.name != "_") = true ∧ ((Try.prog.fieldsOf 85)[1]!.name != "_") = true ∧ (Try.prog.fieldsOf 85)[0]!.type = 3 ∧ (Try.prog.fieldsOf 85)[1]!.type = 83 ∧
    (Try.prog.fieldsOf 85)[0]!.offset = 0 ∧ (Try.prog.fieldsOf 85)[1]!.offset = 1 := ⟨by kernel_rfl, by kernel_rfl, by kernel_rfl, by kernel_rfl, by kernel_rfl, by kernel_rfl⟩

theorem part_rows (n : Nat) (M N : Nat → Nat → Bool) (w : World) :
    ∃ a b, (part 83 (pairC n M) 1).run Try.prog w = .ok a w ∧ (part 83 (pairC n N) 1).run Try.prog w = .ok b w ∧ (Op.equalIn 9999 83 a b).run Try.prog w = .ok (eqT M N) w := by
  have p3 := fun M => run_part_agg (t := 83) Try.underlying83 rfl (pairC n M) 1 w
  obtain ⟨it, hit⟩ := info_of_underlying (P := Try.prog) Try.underlying81
  rw [cells_rows] at p3
  refine ⟨_, _, p3 M, p3 N, ?_⟩
  rw [run_equalIn_array (P := Try.prog) w 9998 _ _ Try.underlying83 hit]
  have hex : ∀ (M : Nat → Nat → Bool) (v x : Nat), v < 60 → x < 60 → ((pairC n M).extract 1 (1 + 3600))[v * 60 + x]? = some (.bool (M v x)) := fun M v x hv hx => by
    rw [Array.getElem?_extract, if_pos (by rw [pairC_size]; omega), show 1 + (v * 60 + x) = 1 + v * 60 + x by omega]
    exact pairC_at n M v x hv hx
  unfold eqT
  exact eq_rows 9996 _ _ M N w _ (fun v hv x hx => ⟨hex M v x (List.mem_range.1 hv) hx, hex N v x (List.mem_range.1 hv) hx⟩)

theorem plain_int : Try.prog.plainKey 3 = true := by kernel_rfl
theorem part_size (n : Nat) (M : Nat → Nat → Bool) (w : World) : (part 3 (pairC n M) 0).run Try.prog w = .ok (.int .i64 (n : Nat)) w := run_part_plain (P := Try.prog) w plain_int (pairC_zero n M)
theorem struct_pairs : Try.prog.underlying 85 = some (.struct (Try.prog.fieldsOf 85)) := by kernel_rfl
theorem stood_pairs : Try.prog.stoodInHeld 85 = false := by kernel_rfl
theorem eq_fields {d : Nat} {a b c e : Value} {us vs : Array Value} {f0 f1 : Field} {r : Bool} {w : World} (n0 : f0.name ≠ "_") (n1 : f1.name ≠ "_") (h1 : (part f0.type us f0.offset).run Try.prog w = .ok a w) (h2 : (part f0.type vs f0.offset).run Try.prog w = .ok b w)
    (h3 : (Op.equalIn d f0.type a b).run Try.prog w = .ok true w) (h4 : (part f1.type us f1.offset).run Try.prog w = .ok c w) (h5 : (part f1.type vs f1.offset).run Try.prog w = .ok e w) (h6 : (Op.equalIn d f1.type c e).run Try.prog w = .ok r w) :
    (Op.eqFields d us vs [f0, f1]).run Try.prog w = .ok r w := by
  simp only [Op.eqFields, n0, n1, Sem.run_bind, ne_eq, not_false_eq_true, if_true]
  rw [h1]
  simp only [Result.andThen_ok]
  rw [h2]
  simp only [Result.andThen_ok]
  rw [h3]
  simp only [Result.andThen_ok, Bool.not_true, Bool.false_eq_true, if_false, Sem.run_bind]
  rw [h4]
  simp only [Result.andThen_ok]
  rw [h5]
  simp only [Result.andThen_ok]
  rw [h6]
  cases r <;> simp

theorem eq_tables (n : Nat) (M N : Nat → Nat → Bool) (w : World) : (binOp .eql 85 (.agg (pairC n M)) (.agg (pairC n N))).run Try.prog w = .ok (.bool (eqT M N)) w := by
  rw [run_eql_struct, run_equalIn_struct w 9999 85 _ _ struct_pairs stood_pairs, fields_list]
  obtain ⟨n0, n1, t0, t1, o0, o1⟩ := fields_facts
  obtain ⟨a, b, q1, q2, q3⟩ := part_rows n M N w
  have p2 := run_equalIn_int (P := Try.prog) w 9998 3 .i64 .i64 (n : Int) (n : Int) Try.underlying3
  have e : ((n : Int) == (n : Int)) = true := by simp
  rw [e] at p2
  rw [eq_fields (r := eqT M N) (by simpa using n0) (by simpa using n1) (by rw [t0, o0]; exact part_size n M w) (by rw [t0, o0]; exact part_size n N w) (by rw [t0]; exact p2) (by rw [t1, o1]; exact q1) (by rw [t1, o1]; exact q2) (by rw [t1]; exact q3)]
  rfl

end Go.Proofs.Ytcklgdcjedikoaa
