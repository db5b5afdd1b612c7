/-
  The walk of Separables of the reference.
-/
import Derived.Test.YtgdaidmkcgblbaaSep
namespace Go.Proofs.Ytgdaidmkcgblbaa
open Go.RowKit

/-- The first j + 1 of two rows in blocks of their own. -/
def SepAt (g n j : Nat) (w : World) : Prop :=
  ∃ xs ys : List Nat, Blk w g 2 (cellsOf .i64 xs) ∧ Blk w (g + 1) 2 (cellsOf .i64 ys) ∧ xs.length = n + 1 ∧ ys.length = n + 1 ∧
    (∀ i, i ≤ j → xs.getD i 0 = (rsep j).1.getD i 0) ∧ (∀ i, i ≤ j → ys.getD i 0 = (rsep j).2.getD i 0)

theorem SepAt.drewN {g n j : Nat} {w : World} (h : SepAt g n j w) (q : Nat) : SepAt g n j (w.drewN q) := h

theorem SepAt.next {g n j : Nat} {w : World} (h : SepAt g n j w) (hj : j < n) (a b : Nat) {za zb : Int} (hza : za = (a : Nat)) (hzb : zb = (b : Nat))
    (ha : rsep (j + 1) = ((rsep j).1 ++ [a], (rsep j).2 ++ [b])) : SepAt g n (j + 1) ((w.setCell ⟨g, j + 1, none⟩ (.int .i64 za)).setCell ⟨g + 1, j + 1, none⟩ (.int .i64 zb)) := by
  obtain ⟨xs, ys, h1, h2, h3, h4, h5, h6⟩ := h
  have hl := rsep_length j
  refine ⟨xs.set (j + 1) a, ys.set (j + 1) b, ?_, ?_, by rw [List.length_set]; exact h3, by rw [List.length_set]; exact h4, fun i hi => ?_, fun i hi => ?_⟩
  · exact Blk.rest (Below.heap_setCell _ _ _ _ (by simp)) (h1.put _ _ hza)
  · exact Blk.put (Blk.rest (Below.heap_setCell _ _ _ _ (by simp)) h2) _ _ hzb
  · rw [getD_set _ _ _ _ (by rw [h3]; omega), ha]
    by_cases e : j + 1 = i
    · subst e
      rw [if_pos rfl]
      simp [List.getD_eq_getElem?_getD, hl.1]
    · rw [if_neg e, h5 i (by omega)]
      simp only [List.getD_eq_getElem?_getD]
      rw [List.getElem?_append_left (by rw [hl.1]; omega)]
  · rw [getD_set _ _ _ _ (by rw [h4]; omega), ha]
    by_cases e : j + 1 = i
    · subst e
      rw [if_pos rfl]
      simp [List.getD_eq_getElem?_getD, hl.2]
    · rw [if_neg e, h6 i (by omega)]
      simp only [List.getD_eq_getElem?_getD]
      rw [List.getElem?_append_left (by rw [hl.2]; omega)]

theorem SepAt.cells {g n j : Nat} {w : World} (h : SepAt g n j w) (i : Nat) (hi : i ≤ j) (hn : j ≤ n) :
    w.cell? ⟨g, i, none⟩ = some (.int .i64 ((rsep j).1.getD i 0 : Nat)) ∧ w.cell? ⟨g + 1, i, none⟩ = some (.int .i64 ((rsep j).2.getD i 0 : Nat)) := by
  obtain ⟨xs, ys, h1, h2, h3, h4, h5, h6⟩ := h
  exact ⟨by rw [h1.num i (by omega), h5 i hi], by rw [h2.num i (by omega), h6 i hi]⟩
theorem SepAt.any {g n j : Nat} {w : World} (h : SepAt g n j w) (i : Nat) (hi : i ≤ n) :
    ∃ x y : Nat, w.cell? ⟨g, i, none⟩ = some (.int .i64 x) ∧ w.cell? ⟨g + 1, i, none⟩ = some (.int .i64 y) ∧ w.frozen? ⟨g, i, none⟩ = false ∧ w.frozen? ⟨g + 1, i, none⟩ = false := by
  obtain ⟨xs, ys, h1, h2, h3, h4, h5, h6⟩ := h
  exact ⟨_, _, h1.num i (by omega), h2.num i (by omega), h1.free i, h2.free i⟩

set_option maxRecDepth 100000 in
set_option maxHeartbeats 1600000 in
theorem rseparables_any (n : Nat) (w : World) (h1 : 1 ≤ n) (h2 : n ≤ 20) :
    Calls Try.prog 61 #[.int .i64 n] w fun e w' => e = .returned (.int .i64 ((rsep n).1.getD n 0 : Nat)) ∧ Below w.heap.size w w' := by
  have hmk : ∀ W : World, (Instr.makeSlice 112 (.int .i64 ((n : Int) + 1)) (.int .i64 ((n : Int) + 1))).run Try.prog W = .ok (.slice (some ⟨W.heap.size, 0, none⟩) (n + 1) (n + 1)) (W.alloc (.cells (cellsOf .i64 (List.replicate (n + 1) 0)) 2)) :=
    fun W => run_makeInts Try.underlying112 info_i64 (by omega) .i64 .i64 (n + 1) (by omega) W
  have Hfacts := Lib.hid (fun k f hk hf => rsep_facts k f hk hf)
  go_enter Try.func61, Try.ntmps61
  go_wp2
  go_loopw [5] (fun i wr => ∃ j : Nat, j ≤ n ∧ i = .int .i64 (j + 1 : Nat) ∧ SepAt w.heap.size n j wr ∧ Below w.heap.size w wr) (fun i _ => n + 1 - (intOf i).toNat)
  case atStart =>
    refine ⟨0, Nat.zero_le _, rfl, ⟨List.replicate (n + 1) 0, List.replicate (n + 1) 0, Blk.rest (Below.heap_alloc _ _ _ (by simp)) (Blk.new _ _ _), ?_, by simp, by simp, fun i hi => ?_, fun i hi => ?_⟩, ((Below.refl _ _).alloc (Nat.le_refl _) _).alloc (by simp) _⟩
    · have := Blk.new (w.alloc (.cells (cellsOf .i64 (List.replicate (n + 1) 0)) 2)) 2 (cellsOf .i64 (List.replicate (n + 1) 0))
      rwa [World.size_alloc] at this
    · obtain rfl : i = 0 := by omega
      simp [rsep, List.getD_eq_getElem?_getD]
    · obtain rfl : i = 0 := by omega
      simp [rsep, List.getD_eq_getElem?_getD]
  case round =>
    obtain ⟨j, hj, rfl, hat, hbel⟩ := hrel
    clear hmk
    by_cases hlt : j < n
    · obtain ⟨x0, y0, hx0, hy0, hfx, hfy⟩ := hat.any (j + 1) (by omega)
      by_cases h0 : j = 0
      · subst h0
        have hnext := Lib.hid (fun za zb ha hb => hat.next hlt 1 1 (za := za) (zb := zb) ha hb rfl)
        go_wp2
        go_roundw
        case rel => exact ⟨1, by omega, by go_num, hnext.out _ _ rfl rfl, (hbel.setCell (Nat.le_refl _) _).setCell (by simp) _⟩
        case measure => simp [intOf]; omega
      · have hb1 : (((j + 1 : Nat) : Int) == 1) = false := by rw [beq_eq_false_iff_ne]; omega
        have hb2 : ((j : Int) == 0) = false := by rw [beq_eq_false_iff_ne]; omega
        clear hx0 hy0 hfx hfy
        have Hat := Lib.hid (fun i hi => hat.cells i hi hj)
        have HatAny := Lib.hid (hat.any (j + 1) (by omega))
        go_wp2
        obtain ⟨wo, rfl⟩ : ∃ wo : World, wo = wr := ⟨_, rfl⟩
        go_loopw [6, 7] (fun t i wr => ∃ f : Nat, f ≤ j ∧ i = .int .i64 (f + 1 : Nat) ∧ t = .int .i64 (plusTo (rsep j).1 (rsep j).2 (j + 1) f : Nat) ∧ Drew wo wr) (fun _ i _ => j + 1 - (intOf i).toNat)
        case atStart => exact ⟨0, Nat.zero_le _, rfl, rfl, Drew.refl _⟩
        case round =>
          obtain ⟨f, hf, rfl, rfl, q, rfl⟩ := hrel
          by_cases hfj : f < j
          · have c1 := (Hat.out (f + 1) (by omega)).2
            have c2 := (Hat.out (j - f) (by omega)).1
            have hfa := Hfacts.out (j - 1) f (by omega) (by omega)
            rw [show j - 1 + 1 = j by omega, show j - 1 + 2 = j + 1 by omega, show j + 1 - (f + 1) = j - f by omega] at hfa
            have Hto := Lib.hid (show plusTo (rsep j).1 (rsep j).2 (j + 1) (f + 1) = plusTo (rsep j).1 (rsep j).2 (j + 1) f + (rsep j).2.getD (f + 1) 0 * (rsep j).1.getD (j - f) 0 by
              show _ + _ * (rsep j).1.getD (j + 1 - (f + 1)) 0 = _
              rw [show j + 1 - (f + 1) = j - f by omega])
            rw [Hto.out] at hfa
            generalize (rsep j).2.getD (f + 1) 0 = x at *
            generalize (rsep j).1.getD (j - f) 0 = y at *
            generalize plusTo (rsep j).1 (rsep j).2 (j + 1) f = s at *
            have hv := sum_val s x y hfa.1 hfa.2.1
            have i1 := hv.1
            have i2 := hv.2
            have i5 : IntKind.i64.wrap (((j + 1 : Nat) : Int) - ((f + 1 : Nat) : Int)) = ((j - f : Nat) : Int) := by rw [IntWalk.i64_in _ (by omega)]; omega
            have i6 : ((j + 1 : Nat) : Int) - ((f + 1 : Nat) : Int) = ((j - f : Nat) : Int) := by omega
            clear hfa hv
            go_wp2
            go_quiet (fail)
            go_wp2
            go_roundw
            case rel =>
              refine ⟨f + 1, by omega, by go_num, ?_, by exact ⟨_, rfl⟩⟩
              rw [Hto.out]
              simp
            case measure => simp [intOf]; omega
          · obtain rfl : f = j := by omega
            obtain ⟨x0, y0, hx0, hy0, hfx, hfy⟩ := HatAny.out
            have hfa := (Hfacts.out (f - 1) 0 (by omega) (by omega)).2.2
            rw [show f - 1 + 1 = f by omega, show f - 1 + 2 = f + 1 by omega] at hfa
            have hnext := Lib.hid (fun za zb ha hb => (hat.drewN q).next hlt (2 * plusTo (rsep f).1 (rsep f).2 (f + 1) f) (plusTo (rsep f).1 (rsep f).2 (f + 1) f) (za := za) (zb := zb) ha hb (by
              obtain ⟨m, rfl⟩ : ∃ m, f = m + 1 := ⟨f - 1, by omega⟩
              rfl))
            generalize plusTo (rsep f).1 (rsep f).2 (f + 1) f = s at *
            have i1 : IntKind.i64.wrap (2 * (s : Int)) = 2 * (s : Int) := IntWalk.i64_in _ (by omega)
            clear hfa hat Hat HatAny
            go_wp2
            go_roundw
            case rel => exact ⟨f + 1, by omega, by go_num, hnext.out _ _ (by omega) rfl, ((below_drewN hbel q).setCell (Nat.le_refl _) _).setCell (by simp) _⟩
            case measure => simp [intOf]; omega
    · obtain rfl : j = n := by omega
      have hc := (hat.cells j (Nat.le_refl _) (Nat.le_refl _)).1
      generalize hrr : (rsep j).1.getD j 0 = r at hc
      have Hr := Lib.hid hrr
      clear hrr
      go_wp2
      go_ret
      exact ⟨ret_int (by rw [Hr.out]), hbel⟩

end Go.Proofs.Ytgdaidmkcgblbaa
