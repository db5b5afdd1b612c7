/-
  Plain words for rows of integers in memory: what it means that a slice reads as a list of numbers, or that a new block is known whole, and how both carry over to later worlds.
-/
import Derived.Test.YtemcdnppgnobmaaGreatDoorProg
import Derived.WalkKit
import Derived.IntWalk
import Derived.OwnWalk
import Derived.WalkSmall
import Derived.Laws.MakeOwn
import Derived.Laws.Rows
import Derived.Deep.QuietTactic
import Derived.BigQuiet
import Derived.Lib.Hide
import Derived.KernelRfl
import Derived.Outline
set_option linter.unusedVariables false
namespace Go.Proofs.YtemcdnppgnobmaaGreatDoor
open Go.RowKit

/-- The slice with the address A and n elements reads in w as the numbers l, of the kind k. -/
def Sl (k : IntKind) (w : World) (A : Option Addr) (n : Nat) (l : List Nat) : Prop :=
  l.length = n ∧ n ≤ 4611686018427387904 ∧ (0 < n → ∃ b off, A = some ⟨b, off, none⟩ ∧ b < w.heap.size ∧ ∀ i, i < n → w.cell? ⟨b, off + i, none⟩ = some (.int k (l.getD i 0 : Nat)))

theorem Sl.len {k : IntKind} {w : World} {A : Option Addr} {n : Nat} {l : List Nat} (h : Sl k w A n l) : l.length = n := h.1
theorem Sl.max {k : IntKind} {w : World} {A : Option Addr} {n : Nat} {l : List Nat} (h : Sl k w A n l) : n ≤ 4611686018427387904 := h.2.1
theorem Sl.at {k : IntKind} {w : World} {A : Option Addr} {n : Nat} {l : List Nat} (h : Sl k w A n l) (hn : 0 < n) :
    ∃ b off, A = some ⟨b, off, none⟩ ∧ b < w.heap.size ∧ ∀ i, i < n → w.cell? ⟨b, off + i, none⟩ = some (.int k (l.getD i 0 : Nat)) := h.2.2 hn
theorem Sl.nil {k : IntKind} {w : World} {A : Option Addr} : Sl k w A 0 [] := ⟨rfl, by omega, fun h => absurd h (by omega)⟩

theorem Sl.below {k : IntKind} {w w' : World} {A : Option Addr} {n : Nat} {l : List Nat} (h : Sl k w A n l) (hb : Below w.heap.size w w') : Sl k w' A n l := by
  obtain ⟨h1, h2, h3⟩ := h
  refine ⟨h1, h2, fun hn => ?_⟩
  obtain ⟨b, off, e, hs, hc⟩ := h3 hn
  exact ⟨b, off, e, Nat.lt_of_lt_of_le hs hb.size, fun i hi => (hb.cell hs).trans (hc i hi)⟩

theorem Sl.drewN {k : IntKind} {w : World} {A : Option Addr} {n : Nat} {l : List Nat} (h : Sl k w A n l) (q : Nat) : Sl k (w.drewN q) A n l := h.below (below_drewN (Below.refl _ _) q)

/-- The world but for draws. -/
def Drew (w w' : World) : Prop := ∃ n, w' = w.drewN n
theorem Drew.refl (w : World) : Drew w w := ⟨0, rfl⟩
theorem Drew.drewN {w w' : World} (h : Drew w w') (n : Nat) : Drew w (w'.drewN n) := by
  obtain ⟨m, rfl⟩ := h
  exact ⟨m + n, by rw [World.drewN_drewN]⟩
theorem Drew.below {w w' : World} {B : Nat} (h : Drew w w') : Below B w w' := by
  obtain ⟨m, rfl⟩ := h
  exact below_drewN (Below.refl _ _) m

theorem ret_bool {a b : Bool} (h : a = b) : Ending.returned (.bool a) = .returned (.bool b) := by rw [h]
theorem ret_int {k : IntKind} {a b : Int} (h : a = b) : Ending.returned (.int k a) = .returned (.int k b) := by rw [h]

/-- Block g of w is just these cells, none of them frozen. -/
def Blk (w : World) (g : Nat) (t : TypeId) (cs : Array Value) : Prop := w.heap[g]? = some (.cells cs t (0, 0))

theorem Blk.lt {w : World} {g : Nat} {t : TypeId} {cs : Array Value} (h : Blk w g t cs) : g < w.heap.size := by
  unfold Blk at h
  exact (Array.getElem?_eq_some_iff.1 h).1
theorem Blk.cell {w : World} {g : Nat} {t : TypeId} {cs : Array Value} (h : Blk w g t cs) (i : Nat) : w.cell? ⟨g, i, none⟩ = cs[i]? := cell_of_row w g i cs t (0, 0) h
theorem Blk.free {w : World} {g : Nat} {t : TypeId} {cs : Array Value} (h : Blk w g t cs) (i : Nat) : w.frozen? ⟨g, i, none⟩ = false := by
  unfold Blk at h
  simp [World.frozen?, h]
theorem Blk.new (w : World) (t : TypeId) (cs : Array Value) : Blk (w.alloc (.cells cs t)) w.heap.size t cs := heap_alloc_new w _
theorem Blk.drewN {w : World} {g : Nat} {t : TypeId} {cs : Array Value} (h : Blk w g t cs) (q : Nat) : Blk (w.drewN q) g t cs := h
theorem Blk.store {w : World} {g : Nat} {t : TypeId} {cs : Array Value} (h : Blk w g t cs) (i : Nat) (u : Value) : Blk (w.setCell ⟨g, i, none⟩ u) g t (cs.setIfInBounds i u) := by
  unfold Blk at h ⊢
  simp [World.setCell, Array.getElem?_modify, h]
theorem Blk.below {w w' : World} {g : Nat} {t : TypeId} {cs : Array Value} {B : Nat} (h : Blk w g t cs) (hb : Below B w w') (hg : g < B) : Blk w' g t cs := (hb.block g hg).trans h

/-- Numbers as cells. -/
def cellsOf (k : IntKind) (l : List Nat) : Array Value := (l.map fun x => Value.int k (x : Nat)).toArray

theorem cellsOf_get (k : IntKind) (l : List Nat) (i : Nat) (h : i < l.length) : (cellsOf k l)[i]? = some (.int k (l.getD i 0 : Nat)) := by
  simp [cellsOf, h, List.getD_eq_getElem?_getD]
theorem cellsOf_set (k : IntKind) (l : List Nat) (i x : Nat) : (cellsOf k l).setIfInBounds i (.int k (x : Nat)) = cellsOf k (l.set i x) := by
  simp [cellsOf, List.map_set]
theorem cellsOf_made (k : IntKind) (n : Nat) : madeCells (Value.int k 0).cells n = cellsOf k (List.replicate n 0) := by
  unfold madeCells cellsOf Value.cells
  apply Array.ext
  · simp
  · intro i h1 h2
    simp [Nat.mod_one]

theorem Sl.of_blk {k : IntKind} {w : World} {g : Nat} {t : TypeId} {l : List Nat} {n : Nat} (h : Blk w g t (cellsOf k l)) (hl : l.length = n) (hm : n ≤ 4611686018427387904) : Sl k w (some ⟨g, 0, none⟩) n l := by
  refine ⟨hl, hm, fun _ => ⟨g, 0, rfl, h.lt, fun i hi => ?_⟩⟩
  rw [Nat.zero_add, h.cell i]
  exact cellsOf_get k l i (by omega)

/-- A number stored into a block of numbers. -/
theorem Blk.put {k : IntKind} {w : World} {g : Nat} {t : TypeId} {l : List Nat} (h : Blk w g t (cellsOf k l)) (i d : Nat) {z : Int} (hz : z = (d : Nat)) : Blk (w.setCell ⟨g, i, none⟩ (.int k z)) g t (cellsOf k (l.set i d)) := by
  subst hz
  have := h.store i (.int k (d : Nat))
  rwa [cellsOf_set] at this
theorem Blk.num {k : IntKind} {w : World} {g : Nat} {t : TypeId} {l : List Nat} (h : Blk w g t (cellsOf k l)) (i : Nat) (hi : i < l.length) : w.cell? ⟨g, i, none⟩ = some (.int k (l.getD i 0 : Nat)) := by
  rw [h.cell]; exact cellsOf_get k l i hi

/-- Only block g has turned; none is new. -/
structure Only (g : Nat) (w w' : World) : Prop where
  os : w'.os = w.os
  tape : w'.tape = w.tape
  output : w'.output = w.output
  size : w'.heap.size = w.heap.size
  block : ∀ k, k ≠ g → w'.heap[k]? = w.heap[k]?

theorem Only.refl (g : Nat) (w : World) : Only g w w := ⟨rfl, rfl, rfl, rfl, fun _ _ => rfl⟩
theorem Only.trans {g : Nat} {a b c : World} (h : Only g a b) (k : Only g b c) : Only g a c :=
  ⟨k.os.trans h.os, k.tape.trans h.tape, k.output.trans h.output, k.size.trans h.size, fun i hi => (k.block i hi).trans (h.block i hi)⟩
theorem Only.drewN {g : Nat} {a w : World} (h : Only g a w) (n : Nat) : Only g a (w.drewN n) := ⟨h.os, h.tape, h.output, h.size, h.block⟩
theorem Only.setCell {g : Nat} {a w : World} (h : Only g a w) (i : Nat) (u : Value) : Only g a (w.setCell ⟨g, i, none⟩ u) :=
  h.trans ⟨rfl, rfl, rfl, by simp [World.setCell], fun k hk => Below.heap_setCell _ _ _ _ hk⟩
theorem Only.below {g B : Nat} {a w : World} (h : Only g a w) (hB : B ≤ g) : Below B a w := ⟨h.os, h.tape, h.output, Nat.le_of_eq h.size.symm, fun k hk => h.block k (by omega)⟩
theorem Only.blk {g k : Nat} {a w : World} {t : TypeId} {cs : Array Value} (h : Only g a w) (hk : k ≠ g) (hb : Blk a k t cs) : Blk w k t cs := (h.block k hk).trans hb
theorem Only.cell {g : Nat} {a w : World} (h : Only g a w) {p : Addr} (hp : p.block ≠ g) : w.cell? p = a.cell? p := World.cell?_of_block (w := a) (h.block p.block hp)

/-- A whole block of n numbers. -/
def Bl (k : IntKind) (w : World) (g : Nat) (t : TypeId) (n : Nat) (l : List Nat) : Prop := Blk w g t (cellsOf k l) ∧ l.length = n ∧ n ≤ 4611686018427387904
theorem Bl.of_blk {k : IntKind} {w : World} {g : Nat} {t : TypeId} {l : List Nat} {n : Nat} (h : Blk w g t (cellsOf k l)) (hl : l.length = n) (hm : n ≤ 4611686018427387904) : Bl k w g t n l := ⟨h, hl, hm⟩
theorem Bl.sl {k : IntKind} {w : World} {g : Nat} {t : TypeId} {l : List Nat} {n : Nat} (h : Bl k w g t n l) : Sl k w (some ⟨g, 0, none⟩) n l := Sl.of_blk h.1 h.2.1 h.2.2

/-- A row cut to its first elements. -/
theorem Sl.take {k : IntKind} {w : World} {A : Option Addr} {n m : Nat} {l : List Nat} (h : Sl k w A n l) (hm : m ≤ n) : Sl k w A m (l.take m) := by
  obtain ⟨h1, h2, h3⟩ := h
  refine ⟨by rw [List.length_take]; omega, by omega, fun hn => ?_⟩
  obtain ⟨b, off, e, hs, hc⟩ := h3 (by omega)
  refine ⟨b, off, e, hs, fun i hi => ?_⟩
  rw [hc i (by omega)]
  simp [List.getD_eq_getElem?_getD, hi]

/-- make([]T, n) of one-cell integers, in any world. -/
theorem run_makeInts {P : Program} {t e : TypeId} {k : IntKind} {by' : Nat} (ht : P.underlying t = some (.slice e))
    (hi : (P.info? e).map (fun i => (i.zero, i.size, i.bytes)) = some (some (.int k 0), 1, by')) (hby : by' ≤ 8) (kl kc : IntKind) (n : Nat) (hn : n ≤ 17592186044416) (w : World) :
    (Instr.makeSlice t (.int kl (n : Int)) (.int kc (n : Int))).run P w = .ok (.slice (some ⟨w.heap.size, 0, none⟩) n n) (w.alloc (.cells (cellsOf k (List.replicate n 0)) e)) := by
  obtain ⟨i0, h0, hz, hs, hb⟩ := info_parts hi
  have hbb : (i0.bytes : Int) * n ≤ 281474976710656 := by
    rw [hb]
    have h8 : (by' : Int) * n ≤ 8 * n := Int.mul_le_mul_of_nonneg_right (by omega) (by omega)
    omega
  have hr := run_make (P := P) w t e i0 _ ht h0 hz kl kc n n (by omega) (by omega) hbb (by omega)
  rw [hs, Nat.mul_one, Int.toNat_natCast, cellsOf_made] at hr
  exact hr

end Go.Proofs.YtemcdnppgnobmaaGreatDoor
