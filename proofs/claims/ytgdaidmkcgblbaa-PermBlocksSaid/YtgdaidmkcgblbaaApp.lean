/-
  Two appends of rows of integers: onto an empty row that has room, and of zeros that were never made.
-/
import Derived.Test.YtgdaidmkcgblbaaBase
import Derived.Laws.Append
import Derived.Laws.AppendOwn
import Derived.Laws.Tables
namespace Go.Proofs.Ytgdaidmkcgblbaa
open Go.RowKit

theorem add_at (b o j : Nat) : (⟨b, o, none⟩ : Addr).add j = ⟨b, o + j, none⟩ := by
  unfold Addr.add; split <;> simp_all

theorem one_of_cells (k : IntKind) (l : List Nat) : ∀ u ∈ (l.map fun x => Value.int k (x : Nat)), u.oneCell' = true := by
  intro u hu
  obtain ⟨x, _, rfl⟩ := List.mem_map.1 hu
  rfl

theorem Sl.cellsAt {k : IntKind} {w : World} {b off n : Nat} {l : List Nat} (h : Sl k w (some ⟨b, off, none⟩) n l) : ∀ j u, (l.map fun x => Value.int k (x : Nat))[j]? = some u → w.cell? ((⟨b, off, none⟩ : Addr).add j) = some u := by
  intro j u hu
  have hj : j < l.length := by
    have := (List.getElem?_eq_some_iff.1 hu).1
    simpa using this
  rw [h.len] at hj
  obtain ⟨b', off', e, _, hc⟩ := h.at (by omega)
  injection e with e
  injection e with e1 e2
  subst e1 e2
  rw [add_at, hc j hj, ← hu]
  simp [List.getD_eq_getElem?_getD, show j < l.length by rw [h.len]; exact hj]

/-- append of a row onto an empty row with just the room for it; the two slice types may have two names. -/
theorem run_append_fill {P : Program} {t t' ty e : TypeId} {e' : TypeId} {k : IntKind} {by' : Nat} {z : Value} (ht : P.underlying t = some (.slice e)) (ht' : P.underlying t' = some (.slice e'))
    (hi : (P.info? e).map (fun i => (i.zero, i.size, i.bytes)) = some (some z, 1, by')) (g n c : Nat) (A : Option Addr) (xs l : List Nat) (w : World) (hb : Blk w g e (cellsOf k xs)) (hxs : xs.length = n) (h : Sl k w A n l) :
    ∃ w', (Builtin.append_ #[t, t'] ty #[.slice (some ⟨g, 0, none⟩) 0 n, .slice A n c]).run P w = .ok (.slice (some ⟨g, 0, none⟩) n n) w' ∧ Blk w' g e (cellsOf k l) ∧ Only g w w' := by
  obtain ⟨i, hi0, _, hs, _⟩ := info_parts hi
  have hsw : (Builtin.append_ #[t, t'] ty #[.slice (some ⟨g, 0, none⟩) 0 n, .slice A n c]).run P w = (Builtin.append_ #[t, t] ty #[.slice (some ⟨g, 0, none⟩) 0 n, .slice A n c]).run P w := by
    simp [Builtin.append_, run_underlying ht, run_underlying ht']
  rw [hsw]
  by_cases hn : n = 0
  · subst hn
    have hl : l = [] := List.eq_nil_of_length_eq_zero h.len
    have hx : xs = [] := List.eq_nil_of_length_eq_zero hxs
    subst hl hx
    refine ⟨w, ?_, hb, Only.refl _ _⟩
    cases A with
    | none => simp [Builtin.append_, run_underlying ht, sizeOf, typeInfo, hi0, Builtin.lenOf, Builtin.firstCells, storeCells]
    | some ad => simp [Builtin.append_, run_underlying ht, sizeOf, typeInfo, hi0, Builtin.lenOf, Builtin.firstCells, loadCells, loadCellsFrom, storeCells]
  · obtain ⟨b, off, rfl, hbs, hc⟩ := h.at (by omega)
    have hr := run_append_room (P := P) w t ty e i ht hi0 g 0 n (cellsOf k xs) hb ⟨b, off, none⟩ n c (l.map fun x => Value.int k (x : Nat)) (by rw [List.length_map, h.len, hs, Nat.mul_one]) h.cellsAt (one_of_cells k l) (by omega) (by simp [cellsOf, h.len, hxs])
    rw [Nat.zero_add] at hr
    refine ⟨_, hr, ?_, ?_⟩
    · have := setRow_heap w g (cellsOf k xs) ((cellsOf k xs).toList.take (0 * i.size) ++ (l.map fun x => Value.int k (x : Nat)) ++ (cellsOf k xs).toList.drop (0 * i.size + (l.map fun x => Value.int k (x : Nat)).length)).toArray e (0, 0) hb
      unfold Blk
      rw [this]
      congr 2
      simp [cellsOf, h.len, hxs]
    · exact ⟨rfl, rfl, rfl, by simp [World.setRow], fun j hj => setRow_other w g j _ hj⟩

theorem zeroCells_ints (k : IntKind) (n : Nat) : Builtin.zeroCells (Value.int k 0).cells n = cellsOf k (List.replicate n 0) := by
  apply Array.ext
  · simp [Builtin.zeroCells, cellsOf, Value.cells]
  · intro i h1 h2
    simp [Builtin.zeroCells, cellsOf, Value.cells, Nat.mod_one]

theorem cellsOf_append (k : IntKind) (l m : List Nat) : cellsOf k l ++ cellsOf k m = cellsOf k (l ++ m) := by simp [cellsOf]

/-- append of zeros that were never made, onto a row without room. -/
theorem run_append_zeros {P : Program} {t u ty e : TypeId} {k ku : IntKind} {by' : Nat} (ht : P.underlying t = some (.slice e)) (hu : P.underlying u = some (.int ku))
    (hi : (P.info? e).map (fun i => (i.zero, i.size, i.bytes)) = some (some (.int k 0), 1, by')) (hby : by' ≤ 8) (m j : Nat) (A : Option Addr) (l : List Nat) (w : World) (h : Sl k w A m l) (hm : 0 < m) (hj : 0 < j) (hmax : m + j ≤ 1000000000000) :
    ∃ C w' r, (Builtin.append_ #[t, u] ty #[.slice A m m, .int .i64 (j : Nat)]).run P w = .ok (.slice (some ⟨w.heap.size, 0, none⟩) (m + j) C) w' ∧ m + j ≤ C ∧ j ≤ r ∧ Blk w' w.heap.size e (cellsOf k (l ++ List.replicate r 0)) ∧ Below w.heap.size w w' := by
  obtain ⟨i, hi0, hz, hs, hb⟩ := info_parts hi
  obtain ⟨b, off, rfl, hbs, hc⟩ := h.at hm
  have hn : ¬ (m + j ≤ m) := by omega
  have hwrap : IntKind.i64.wrap ((j : Nat) : Int) = j := IntWalk.i64_in _ (by omega)
  have hneg : ¬ ((j : Int) < 0) := by omega
  have hjb : ¬ (281474976710656 < (j : Int) * i.bytes) := by
    rw [hb]
    have : (j : Int) * by' ≤ j * 8 := Int.mul_le_mul_of_nonneg_left (by omega) (by omega)
    omega
  have h63' : ¬ (9223372036854775807 < ((m : Int) + (j : Int))) := by omega
  have hfit := growslice_fits (need := m + j) (old := m) (bytes := i.bytes) (by omega) (by
    rw [hb]
    have : (m + j) * by' ≤ (m + j) * 8 := Nat.mul_le_mul_left _ hby
    omega)
  have h48' : ¬ (281474976710656 < Builtin.nextslicecap (m + j) m * i.bytes) := by omega
  have hfo := run_firstCells_some (P := P) w.drew i.size m ⟨b, off, none⟩ m m (l.map fun x => Value.int k (x : Nat)) (by rw [List.length_map, h.len, hs, Nat.mul_one]) (by simpa using h.cellsAt)
  rw [hs] at hfo
  have hj1 : j ≠ 0 := by omega
  refine ⟨grownCap w (m + j) m e, w.drew.alloc (.cells (cellsOf k (l ++ List.replicate (j + (grownCap w (m + j) m e - (m + j))) 0)) e), j + (grownCap w (m + j) m e - (m + j)), ?_, grownCap_ge w (m + j) m e, by omega, Blk.new w.drew e _, (Below.refl _ _).drew.alloc (by simp) _⟩
  have hcells : (l.map fun x => Value.int k (x : Nat)).toArray ++ Builtin.zeroCells (Value.int k 0).cells j ++ Builtin.zeroCells (Value.int k 0).cells (grownCap w (m + j) m e - (m + j)) = cellsOf k (l ++ List.replicate (j + (grownCap w (m + j) m e - (m + j))) 0) := by
    rw [zeroCells_ints, zeroCells_ints, show (l.map fun x => Value.int k (x : Nat)).toArray = cellsOf k l from rfl, cellsOf_append, cellsOf_append, List.append_assoc, List.replicate_append_replicate]
  rw [← hcells]
  simp [Builtin.append_, run_underlying ht, run_underlying hu, sizeOf, typeInfo, zeroValue, hi0, hz, hn, hwrap, hneg, hjb, h63', h48', Question.forced, hfo, hj1, hs, newRow, grownCap, asInt, asIntOf]

/-- An append whose run is known. -/
theorem wpList_append_run {P : Program} {w w' : World} {ops : Array Oper} {rest : List Oper} {o : Oper} {a : Act} {Q : Exit → Act → World → Prop} {s x : Operand} {ts : Array TypeId} {sv xv v : Value}
    (hg : o.guard = none) (ho : o.op = .call { callee := .builtin .append, args := #[s, x], argTypes := ts }) (hs : a.eval s = sv) (hx : a.eval x = xv)
    (hrun : (Builtin.append_ ts o.type #[sv, xv]).run P w = .ok v w') (hK : wpList P ops Q rest (a.put o.dst v) w') : wpList P ops Q (o :: rest) a w := by
  refine wpList_plain hg fun K hK' => ?_
  unfold Oper.wp
  simp [execOp, ho, resolve, invoke, builtin, hs, hx, hrun, Result.andThen]
  exact hK' _ _ hK

end Go.Proofs.Ytgdaidmkcgblbaa
