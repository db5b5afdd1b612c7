/-
  Two appends of rows of integers: onto an empty row that has room, and of zeros that were never made.
  Rows that grow: what is known of them before and behind; append of zeros that were never made, onto a row that grows.
-/
import Derived.Test.YtemcdnppgnobmaaGreatDoorBase
import Derived.Laws.Append
import Derived.Laws.AppendOwn
import Derived.Laws.Tables
import Derived.Deep.RegionLaw
import Derived.Deep.AppendLies
import Derived.Lib.AppendZeros
set_option linter.unusedVariables false
namespace Go.Proofs.YtemcdnppgnobmaaGreatDoor
open Go.RowKit

theorem add_at (b o j : Nat) : (⟨b, o, none⟩ : Addr).add j = ⟨b, o + j, none⟩ := by
  unfold Addr.add; split <;> simp_all

theorem one_of_cells (k : IntKind) (l : List Nat) : ∀ u ∈ (l.map fun x => Value.int k (x : Nat)), u.oneCell' = true := by
  intro u hu
  obtain ⟨x, _, rfl⟩ := List.mem_map.1 hu
  rfl

theorem Sl.cellsAt {k : IntKind} {w : World} {b off n : Nat} {l : List Nat} (h : Sl k w (some ⟨b, off, none⟩) n l) : ∀ j u, (l.map fun x => Value.int k (x : Nat))[j]? = some u → w.cell? ((⟨b, off, none⟩ : Addr).add j) = some u := by
  intro j u hu
  have hj : j < l.length := by
    have := (List.getElem?_eq_some_iff.1 hu).1
    simpa using this
  rw [h.len] at hj
  obtain ⟨b', off', e, _, hc⟩ := h.at (by omega)
  injection e with e
  injection e with e1 e2
  subst e1 e2
  rw [add_at, hc j hj, ← hu]
  simp [List.getD_eq_getElem?_getD, show j < l.length by rw [h.len]; exact hj]

/-- append of a row onto an empty row with just the room for it; the two slice types may have two names. -/
theorem run_append_fill {P : Program} {t t' ty e : TypeId} {e' : TypeId} {k : IntKind} {by' : Nat} {z : Value} (ht : P.underlying t = some (.slice e)) (ht' : P.underlying t' = some (.slice e'))
    (hi : (P.info? e).map (fun i => (i.zero, i.size, i.bytes)) = some (some z, 1, by')) (g n c : Nat) (A : Option Addr) (xs l : List Nat) (w : World) (hb : Blk w g e (cellsOf k xs)) (hxs : xs.length = n) (h : Sl k w A n l) :
    ∃ w', (Builtin.append_ #[t, t'] ty #[.slice (some ⟨g, 0, none⟩) 0 n, .slice A n c]).run P w = .ok (.slice (some ⟨g, 0, none⟩) n n) w' ∧ Blk w' g e (cellsOf k l) ∧ Only g w w' := by
  obtain ⟨i, hi0, _, hs, _⟩ := info_parts hi
  have hsw : (Builtin.append_ #[t, t'] ty #[.slice (some ⟨g, 0, none⟩) 0 n, .slice A n c]).run P w = (Builtin.append_ #[t, t] ty #[.slice (some ⟨g, 0, none⟩) 0 n, .slice A n c]).run P w := by
    simp [Builtin.append_, run_underlying ht, run_underlying ht']
  rw [hsw]
  by_cases hn : n = 0
  · subst hn
    have hl : l = [] := List.eq_nil_of_length_eq_zero h.len
    have hx : xs = [] := List.eq_nil_of_length_eq_zero hxs
    subst hl hx
    refine ⟨w, ?_, hb, Only.refl _ _⟩
    cases A with
    | none => simp [Builtin.append_, run_underlying ht, sizeOf, typeInfo, hi0, Builtin.lenOf, Builtin.firstCells, storeCells]
    | some ad => simp [Builtin.append_, run_underlying ht, sizeOf, typeInfo, hi0, Builtin.lenOf, Builtin.firstCells, loadCells, loadCellsFrom, storeCells]
  · obtain ⟨b, off, rfl, hbs, hc⟩ := h.at (by omega)
    have hr := run_append_room (P := P) w t ty e i ht hi0 g 0 n (cellsOf k xs) hb ⟨b, off, none⟩ n c (l.map fun x => Value.int k (x : Nat)) (by rw [List.length_map, h.len, hs, Nat.mul_one]) h.cellsAt (one_of_cells k l) (by omega) (by simp [cellsOf, h.len, hxs])
    rw [Nat.zero_add] at hr
    refine ⟨_, hr, ?_, ?_⟩
    · have := setRow_heap w g (cellsOf k xs) ((cellsOf k xs).toList.take (0 * i.size) ++ (l.map fun x => Value.int k (x : Nat)) ++ (cellsOf k xs).toList.drop (0 * i.size + (l.map fun x => Value.int k (x : Nat)).length)).toArray e (0, 0) hb
      unfold Blk
      rw [this]
      congr 2
      simp [cellsOf, h.len, hxs]
    · exact ⟨rfl, rfl, rfl, by simp [World.setRow], fun j hj => setRow_other w g j _ hj⟩

theorem zeroCells_ints (k : IntKind) (n : Nat) : Builtin.zeroCells (Value.int k 0).cells n = cellsOf k (List.replicate n 0) := by
  apply Array.ext
  · simp [Builtin.zeroCells, cellsOf, Value.cells]
  · intro i h1 h2
    simp [Builtin.zeroCells, cellsOf, Value.cells, Nat.mod_one]

theorem cellsOf_append (k : IntKind) (l m : List Nat) : cellsOf k l ++ cellsOf k m = cellsOf k (l ++ m) := by simp [cellsOf]

/-- append of zeros that were never made, onto a row without room. -/
theorem run_append_zeros {P : Program} {t u ty e : TypeId} {k ku : IntKind} {by' : Nat} (ht : P.underlying t = some (.slice e)) (hu : P.underlying u = some (.int ku))
    (hi : (P.info? e).map (fun i => (i.zero, i.size, i.bytes)) = some (some (.int k 0), 1, by')) (hby : by' ≤ 8) (m j : Nat) (A : Option Addr) (l : List Nat) (w : World) (h : Sl k w A m l) (hm : 0 < m) (hj : 0 < j) (hmax : m + j ≤ 1000000000000) :
    ∃ C w' r, (Builtin.append_ #[t, u] ty #[.slice A m m, .int .i64 (j : Nat)]).run P w = .ok (.slice (some ⟨w.heap.size, 0, none⟩) (m + j) C) w' ∧ m + j ≤ C ∧ j ≤ r ∧ Blk w' w.heap.size e (cellsOf k (l ++ List.replicate r 0)) ∧ Below w.heap.size w w' := by
  obtain ⟨i, hi0, hz, hs, hb⟩ := info_parts hi
  obtain ⟨b, off, rfl, hbs, hc⟩ := h.at hm
  have hn : ¬ (m + j ≤ m) := by omega
  have hwrap : IntKind.i64.wrap ((j : Nat) : Int) = j := IntWalk.i64_in _ (by omega)
  have hneg : ¬ ((j : Int) < 0) := by omega
  have hjb : ¬ (281474976710656 < (j : Int) * i.bytes) := by
    rw [hb]
    have : (j : Int) * by' ≤ j * 8 := Int.mul_le_mul_of_nonneg_left (by omega) (by omega)
    omega
  have h63' : ¬ (9223372036854775807 < ((m : Int) + (j : Int))) := by omega
  have hfit := growslice_fits (need := m + j) (old := m) (bytes := i.bytes) (by omega) (by
    rw [hb]
    have : (m + j) * by' ≤ (m + j) * 8 := Nat.mul_le_mul_left _ hby
    omega)
  have h48' : ¬ (281474976710656 < Builtin.nextslicecap (m + j) m * i.bytes) := by omega
  have hfo := run_firstCells_some (P := P) w.drew i.size m ⟨b, off, none⟩ m m (l.map fun x => Value.int k (x : Nat)) (by rw [List.length_map, h.len, hs, Nat.mul_one]) (by simpa using h.cellsAt)
  rw [hs] at hfo
  have hj1 : j ≠ 0 := by omega
  refine ⟨grownCap w (m + j) m e, w.drew.alloc (.cells (cellsOf k (l ++ List.replicate (j + (grownCap w (m + j) m e - (m + j))) 0)) e), j + (grownCap w (m + j) m e - (m + j)), ?_, grownCap_ge w (m + j) m e, by omega, Blk.new w.drew e _, (Below.refl _ _).drew.alloc (by simp) _⟩
  have hcells : (l.map fun x => Value.int k (x : Nat)).toArray ++ Builtin.zeroCells (Value.int k 0).cells j ++ Builtin.zeroCells (Value.int k 0).cells (grownCap w (m + j) m e - (m + j)) = cellsOf k (l ++ List.replicate (j + (grownCap w (m + j) m e - (m + j))) 0) := by
    rw [zeroCells_ints, zeroCells_ints, show (l.map fun x => Value.int k (x : Nat)).toArray = cellsOf k l from rfl, cellsOf_append, cellsOf_append, List.append_assoc, List.replicate_append_replicate]
  rw [← hcells]
  simp [Builtin.append_, run_underlying ht, run_underlying hu, sizeOf, typeInfo, zeroValue, hi0, hz, hn, hwrap, hneg, hjb, h63', h48', Question.forced, hfo, hj1, hs, newRow, grownCap, asInt, asIntOf]

/-- An append whose run is known. -/
theorem wpList_append_run {P : Program} {w w' : World} {ops : Array Oper} {rest : List Oper} {o : Oper} {a : Act} {Q : Exit → Act → World → Prop} {s x : Operand} {ts : Array TypeId} {sv xv v : Value}
    (hg : o.guard = none) (ho : o.op = .call { callee := .builtin .append, args := #[s, x], argTypes := ts }) (hs : a.eval s = sv) (hx : a.eval x = xv)
    (hrun : (Builtin.append_ ts o.type #[sv, xv]).run P w = .ok v w') (hK : wpList P ops Q rest (a.put o.dst v) w') : wpList P ops Q (o :: rest) a w := by
  refine wpList_plain hg fun K hK' => ?_
  unfold Oper.wp
  simp [execOp, ho, resolve, invoke, builtin, hs, hx, hrun, Result.andThen]
  exact hK' _ _ hK

end Go.Proofs.YtemcdnppgnobmaaGreatDoor

namespace Go.Proofs.YtemcdnppgnobmaaGreatDoor
open Go.RowKit

/-- Numbers as values. -/
def nums (k : IntKind) (l : List Nat) : List Value := l.map fun x => Value.int k (x : Nat)
theorem nums_length (k : IntKind) (l : List Nat) : (nums k l).length = l.length := by simp [nums]
theorem nums_snoc (k : IntKind) (l : List Nat) (x : Nat) : nums k l ++ [Value.int k (x : Nat)] = nums k (l ++ [x]) := by simp [nums]
theorem nums_append (k : IntKind) (l m : List Nat) : nums k l ++ nums k m = nums k (l ++ m) := by simp [nums]
theorem nums_one (k : IntKind) (l : List Nat) : ∀ u ∈ nums k l, u.oneCell' = true := one_of_cells k l

/-- Behind an append whatever lay below B is as it was. -/
theorem own_below {W w1 : World} {B : Nat} {e : TypeId} {size k : Nat} {v : Value} {xs : List Value} {tmp : Obj} (h : W.ownsRow B e size v k xs) (hB : B ≤ W.heap.size) (hg : (W.alloc tmp).grownBy w1 v.ownBlock) : Below B W w1 := by
  refine ((Below.refl B W).alloc hB tmp).grown hg (by simp; omega) fun j ej => ?_
  rcases h.2 with ⟨rfl, _⟩ | ⟨g, cap, cur, rfl, hb, _, _⟩
  · simp [Value.ownBlock] at ej
  · obtain rfl : g = j := by simpa [Value.ownBlock] using ej
    exact hb
theorem own_below0 {W w1 : World} {B : Nat} {e : TypeId} {size k : Nat} {v : Value} {xs : List Value} (h : W.ownsRow B e size v k xs) (hB : B ≤ W.heap.size) (hg : W.grownBy w1 v.ownBlock) : Below B W w1 := by
  refine (Below.refl B W).grown hg hB fun j ej => ?_
  rcases h.2 with ⟨rfl, _⟩ | ⟨g, cap, cur, rfl, hb, _, _⟩
  · simp [Value.ownBlock] at ej
  · obtain rfl : g = j := by simpa [Value.ownBlock] using ej
    exact hb

/-- What a grown row reads as. -/
theorem own_cell {w : World} {B g cap n : Nat} {e : TypeId} {xs : List Value} (h : w.ownsRow B e 1 (.slice (some ⟨g, 0, none⟩) n cap) n xs) (i : Nat) (hi : i < n) : w.cell? ⟨g, i, none⟩ = xs[i]? := by
  obtain ⟨hl, ⟨e1, _⟩ | ⟨g', cap', cur, e1, hb, hg, hc, _, hs, ht⟩⟩ := h
  · cases e1
  · injection e1 with e1 e2 e3
    injection e1 with e1
    injection e1 with e1
    subst e1
    rw [cell_of_row w g i cur e (0, 0) hg, ← ht, List.getElem?_take_of_lt (by omega)]
    simp
theorem own_lt {w : World} {B g cap n : Nat} {e : TypeId} {xs : List Value} (h : w.ownsRow B e 1 (.slice (some ⟨g, 0, none⟩) n cap) n xs) : g < w.heap.size ∧ B ≤ g := by
  obtain ⟨hl, ⟨e1, _⟩ | ⟨g', cap', cur, e1, hb, hg, hc, _, hs, ht⟩⟩ := h
  · cases e1
  · injection e1 with e1 e2 e3
    injection e1 with e1
    injection e1 with e1
    subst e1
    exact ⟨(Array.getElem?_eq_some_iff.1 hg).1, hb⟩
theorem own_free {w : World} {B g cap n : Nat} {e : TypeId} {xs : List Value} (h : w.ownsRow B e 1 (.slice (some ⟨g, 0, none⟩) n cap) n xs) (i : Nat) : w.frozen? ⟨g, i, none⟩ = false := by
  obtain ⟨hl, ⟨e1, _⟩ | ⟨g', cap', cur, e1, hb, hg, hc, _, hs, ht⟩⟩ := h
  · cases e1
  · injection e1 with e1 e2 e3
    injection e1 with e1
    injection e1 with e1
    subst e1
    simp [World.frozen?, hg]
theorem own_len {w : World} {B n : Nat} {e : TypeId} {v : Value} {k : IntKind} {l : List Nat} (h : w.ownsRow B e 1 v n (nums k l)) : l.length = n := by have := h.1; rw [nums_length] at this; omega
theorem own_num {w : World} {B g cap n : Nat} {e : TypeId} {k : IntKind} {l : List Nat} (h : w.ownsRow B e 1 (.slice (some ⟨g, 0, none⟩) n cap) n (nums k l)) (i : Nat) (hi : i < n) : w.cell? ⟨g, i, none⟩ = some (.int k (l.getD i 0 : Nat)) := by
  have hl : l.length = n := own_len h
  rw [own_cell h i hi]
  simp [nums, List.getD_eq_getElem?_getD, show i < l.length by omega]
theorem own_max {w : World} {B n : Nat} {e : TypeId} {v : Value} {xs : List Value} (h : w.ownsRow B e 1 v n xs) : n ≤ maxLen := by
  obtain ⟨hl, ⟨e1, rfl⟩ | ⟨g', cap', cur, e1, hb, hg, hc, hm, hs, ht⟩⟩ := h
  · exact Nat.zero_le _
  · omega
theorem own_pos {w : World} {B k : Nat} {e : TypeId} {v : Value} {xs : List Value} (h : w.ownsRow B e 1 v k xs) (h0 : 0 < k) : ∃ g cap, v = .slice (some ⟨g, 0, none⟩) k cap := by
  obtain ⟨hl, ⟨e1, rfl⟩ | ⟨g', cap', cur, e1, _⟩⟩ := h
  · omega
  · exact ⟨g', cap', e1⟩

/-- A number of a grown row is turned. -/
theorem own_set {w : World} {B g cap n : Nat} {e : TypeId} {k : IntKind} {l : List Nat} (h : w.ownsRow B e 1 (.slice (some ⟨g, 0, none⟩) n cap) n (nums k l)) (i x : Nat) {z : Int} (hz : z = (x : Nat)) :
    (w.setCell ⟨g, i, none⟩ (.int k z)).ownsRow B e 1 (.slice (some ⟨g, 0, none⟩) n cap) n (nums k (l.set i x)) := by
  subst hz
  have hl := own_len h
  obtain ⟨hl', ⟨e1, _⟩ | ⟨g', cap', cur, e1, hb, hg, hc, hm, hs, ht⟩⟩ := h
  · cases e1
  · injection e1 with e1 e2 e3
    injection e1 with e1
    injection e1 with e1
    subst e1 e3
    refine ⟨by rw [nums_length, List.length_set]; omega, .inr ⟨g, cap, cur.setIfInBounds i (.int k (x : Nat)), rfl, hb, ?_, hc, hm, by simpa using hs, ?_⟩⟩
    · have := Blk.store (w := w) (g := g) (t := e) (cs := cur) hg i (.int k (x : Nat))
      exact this
    · rw [Array.toList_setIfInBounds, List.take_set, ht]
      unfold nums
      rw [List.map_set]

theorem own_not {w : World} {B size n g : Nat} {e : TypeId} {v : Value} {xs : List Value} (h : w.ownsRow B e size v n xs) (hg : g < B) : some g ≠ v.ownBlock := by
  obtain ⟨hl, ⟨rfl, _⟩ | ⟨g', cap, cur, rfl, hb, _⟩⟩ := h
  · simp [Value.ownBlock]
  · simp [Value.ownBlock]; omega

theorem own_keep {w w' : World} {B size n : Nat} {e : TypeId} {v : Value} {xs : List Value} (h : w.ownsRow B e size v n xs) (hk : Below w.heap.size w w') : w'.ownsRow B e size v n xs := by
  obtain ⟨hl, h1 | ⟨g, cap, cur, e1, hb, hg, rest⟩⟩ := h
  · exact ⟨hl, .inl h1⟩
  · exact ⟨hl, .inr ⟨g, cap, cur, e1, hb, (hk.block g (Array.getElem?_eq_some_iff.1 hg).1).trans hg, rest⟩⟩

theorem own_drewN {w : World} {B size n : Nat} {e : TypeId} {v : Value} {xs : List Value} (h : w.ownsRow B e size v n xs) (q : Nat) : (w.drewN q).ownsRow B e size v n xs := h

/-- append of zeros that were never made, onto a row that grows. -/
theorem run_append_own_zeros {P : Program} {t u ty e : TypeId} {k ku : IntKind} {by' : Nat} (ht : P.underlying t = some (.slice e)) (hu : P.underlying u = some (.int ku))
    (hi : (P.info? e).map (fun i => (i.zero, i.size, i.bytes)) = some (some (.int k 0), 1, by')) (hby : by' ≤ 8) (B n j : Nat) (v : Value) (l : List Nat) (w : World)
    (hown : w.ownsRow B e 1 v n (nums k l)) (hB : B ≤ w.heap.size) (hj : 0 < j) (hmax : n + j ≤ 1000000000000) :
    ∃ g cap w', (Builtin.append_ #[t, u] ty #[v, .int .i64 (j : Nat)]).run P w = .ok (.slice (some ⟨g, 0, none⟩) (n + j) cap) w' ∧
      w'.ownsRow B e 1 (.slice (some ⟨g, 0, none⟩) (n + j) cap) (n + j) (nums k (l ++ List.replicate j 0)) ∧ w.grownBy w' v.ownBlock := by
  obtain ⟨i, hi0, hz, hs, hb⟩ := info_parts hi
  have hlen := own_len hown
  have hzc : ∀ r, Builtin.zeroCells (Value.int k 0).cells r = (nums k (List.replicate r 0)).toArray := fun r => zeroCells_ints k r
  have hwrap : IntKind.i64.wrap ((j : Nat) : Int) = j := IntWalk.i64_in _ (by omega)
  have hneg : ¬ ((j : Int) < 0) := by omega
  have hjb : ¬ (281474976710656 < (j : Int) * i.bytes) := by
    rw [hb]
    have : (j : Int) * by' ≤ j * 8 := Int.mul_le_mul_of_nonneg_left (by omega) (by omega)
    omega
  have h63' : ¬ (9223372036854775807 < ((n : Int) + (j : Int))) := by omega
  have hfits : ∀ old, old < n + j → ¬ (281474976710656 < Builtin.nextslicecap (n + j) old * i.bytes) := by
    intro old ho
    have := growslice_fits (need := n + j) (old := old) (bytes := i.bytes) ho (by
      rw [hb]
      have : (n + j) * by' ≤ (n + j) * 8 := Nat.mul_le_mul_left _ hby
      omega)
    omega
  have hj1 : j ≠ 0 := by omega
  have hm : n + j ≤ maxLen := by simp only [maxLen]; omega
  have grown : ∀ (old : Nat) (row : Option Nat),
      (w.drew.alloc (.cells (nums k l ++ nums k (List.replicate j 0) ++ nums k (List.replicate (grownCap w (n + j) old e - (n + j)) 0)).toArray e)).ownsRow B e 1
        (.slice (some ⟨w.heap.size, 0, none⟩) (n + j) (grownCap w (n + j) old e)) (n + j) (nums k (l ++ List.replicate j 0)) ∧
      w.grownBy (w.drew.alloc (.cells (nums k l ++ nums k (List.replicate j 0) ++ nums k (List.replicate (grownCap w (n + j) old e - (n + j)) 0)).toArray e)) row := by
    intro old row
    have hge := grownCap_ge w (n + j) old e
    have hcm : grownCap w (n + j) old e ≤ maxLen := grownCap_le_maxLen w (n + j) old e hm
    refine ⟨⟨by rw [nums_length]; simp [hlen], .inr ⟨w.heap.size, _, _, rfl, hB, heap_alloc_new w.drew _, hge, hcm, ?_, ?_⟩⟩, ⟨rfl, rfl, rfl, by simp, fun j hj _ => Below.heap_alloc w.drew _ j hj⟩⟩
    · simp only [List.size_toArray, List.length_append, nums_length, List.length_replicate, hlen]
      omega
    · simp only [nums_append]
      rw [show (n + j) * 1 = (nums k (l ++ List.replicate j 0)).length by rw [nums_length]; simp [hlen], ← nums_append k (l ++ List.replicate j 0)]
      exact List.take_left
  rcases hown.2 with ⟨rfl, rfl⟩ | ⟨g, cap, cur, rfl, hbg, hg, hnc, hcm, hcs, htake⟩
  · obtain rfl : l = [] := List.eq_nil_of_length_eq_zero hlen
    have hr := Lib.run_append_nil_zeros (P := P) w t u ty e i _ .i64 ku ht hu hi0 hz j hj (by omega) (by omega) (by rw [hb]; have : j * by' ≤ j * 8 := Nat.mul_le_mul_left _ hby; omega)
    have hgr := grown 0 (Value.ownBlock (.slice none 0 0))
    rw [hzc, hzc] at hr
    simp only [Nat.zero_add, List.nil_append, nums, List.map_nil] at hgr hr ⊢
    refine ⟨w.heap.size, _, _, ?_, hgr.1, hgr.2⟩
    rw [hr]
    simp
  · by_cases hroom : n + j ≤ cap
    · have h1 : ∀ u ∈ (nums k (List.replicate j 0)), u.oneCell' = true := nums_one k _
      have hlr : (nums k (List.replicate j 0)).length = j := by rw [nums_length, List.length_replicate]
      have hst := run_storeCells_at P g n e (nums k (List.replicate j 0)) 0 cur w hg (by rw [hlr]; omega) h1
      simp only [Nat.add_zero] at hst
      refine ⟨g, cap, w.setRow g (cur.toList.take n ++ nums k (List.replicate j 0) ++ cur.toList.drop (n + (nums k (List.replicate j 0)).length)).toArray, ?_, ⟨by rw [nums_length]; simp [hlen], .inr ⟨g, cap, _, rfl, hbg, setRow_heap w g cur _ e _ hg, hroom, hcm, ?_, ?_⟩⟩, ⟨rfl, rfl, rfl, by simp, fun k _ hk => setRow_other w g k _ (fun e => hk (by simp [Value.ownBlock, e]))⟩⟩
      · simp [Builtin.append_, run_underlying ht, run_underlying hu, sizeOf, typeInfo, zeroValue, hi0, hz, hwrap, hneg, hjb, hroom, hj1, hs, asInt, asIntOf, Addr.add_lit, hzc, hst]
      · simp only [List.size_toArray, List.length_append, List.length_take, List.length_drop, Array.length_toList, hlr]
        omega
      · have e0 : cur.toList.take n = nums k l := by rw [← htake, Nat.mul_one]
        rw [e0, nums_append, show (n + j) * 1 = (nums k (l ++ List.replicate j 0)).length by rw [nums_length]; simp [hlen]]
        exact List.take_left
    · have holds : ∀ j u, (nums k l)[j]? = some u → w.cell? ((⟨g, 0, none⟩ : Addr).add j) = some u := hown.cells (g := g) rfl
      have hfo := run_firstCells_some (P := P) w.drew i.size n ⟨g, 0, none⟩ n cap (nums k l) (by rw [hown.1, hs]) (by simpa using holds)
      rw [hs] at hfo
      have hgr := grown cap (Value.ownBlock (.slice (some ⟨g, 0, none⟩) n cap))
      refine ⟨w.heap.size, _, _, ?_, hgr.1, hgr.2⟩
      have hh := hfits cap (by omega)
      simp [Builtin.append_, run_underlying ht, run_underlying hu, sizeOf, typeInfo, zeroValue, hi0, hz, hroom, hwrap, hneg, hjb, h63', hh, Question.forced, hfo, hj1, hs, newRow, grownCap, asInt, asIntOf, hzc]
end Go.Proofs.YtemcdnppgnobmaaGreatDoor
