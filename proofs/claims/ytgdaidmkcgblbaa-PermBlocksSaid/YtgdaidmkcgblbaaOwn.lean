/-
  Rows that grow by append, one element at a time: what is known of them before and behind.
-/
import Derived.Test.YtgdaidmkcgblbaaSame
import Derived.RangeFuncBox
import Derived.Maps.AppendAt
namespace Go.Proofs.Ytgdaidmkcgblbaa
open Go.RowKit

/-- Numbers as values. -/
def nums (k : IntKind) (l : List Nat) : List Value := l.map fun x => Value.int k (x : Nat)
theorem nums_length (k : IntKind) (l : List Nat) : (nums k l).length = l.length := by simp [nums]
theorem nums_snoc (k : IntKind) (l : List Nat) (x : Nat) : nums k l ++ [Value.int k (x : Nat)] = nums k (l ++ [x]) := by simp [nums]

/-- Behind an append whatever lay below B is as it was. -/
theorem own_below {W w1 : World} {B : Nat} {e : TypeId} {size k : Nat} {v : Value} {xs : List Value} {tmp : Obj} (h : W.ownsRow B e size v k xs) (hB : B ≤ W.heap.size) (hg : (W.alloc tmp).grownBy w1 v.ownBlock) : Below B W w1 := by
  refine ((Below.refl B W).alloc hB tmp).grown hg (by simp; omega) fun j ej => ?_
  rcases h.2 with ⟨rfl, _⟩ | ⟨g, cap, cur, rfl, hb, _, _⟩
  · simp [Value.ownBlock] at ej
  · obtain rfl : g = j := by simpa [Value.ownBlock] using ej
    exact hb

/-- What a grown row reads as. -/
theorem own_cell {w : World} {B g cap n : Nat} {e : TypeId} {xs : List Value} (h : w.ownsRow B e 1 (.slice (some ⟨g, 0, none⟩) n cap) n xs) (i : Nat) (hi : i < n) : w.cell? ⟨g, i, none⟩ = xs[i]? := by
  obtain ⟨hl, ⟨e1, _⟩ | ⟨g', cap', cur, e1, hb, hg, hc, _, hs, ht⟩⟩ := h
  · cases e1
  · injection e1 with e1 e2 e3
    injection e1 with e1
    injection e1 with e1
    subst e1
    rw [cell_of_row w g i cur e (0, 0) hg, ← ht, List.getElem?_take_of_lt (by omega)]
    simp
theorem own_lt {w : World} {B g cap n : Nat} {e : TypeId} {xs : List Value} (h : w.ownsRow B e 1 (.slice (some ⟨g, 0, none⟩) n cap) n xs) : g < w.heap.size ∧ B ≤ g := by
  obtain ⟨hl, ⟨e1, _⟩ | ⟨g', cap', cur, e1, hb, hg, hc, _, hs, ht⟩⟩ := h
  · cases e1
  · injection e1 with e1 e2 e3
    injection e1 with e1
    injection e1 with e1
    subst e1
    exact ⟨(Array.getElem?_eq_some_iff.1 hg).1, hb⟩
theorem own_free {w : World} {B g cap n : Nat} {e : TypeId} {xs : List Value} (h : w.ownsRow B e 1 (.slice (some ⟨g, 0, none⟩) n cap) n xs) (i : Nat) : w.frozen? ⟨g, i, none⟩ = false := by
  obtain ⟨hl, ⟨e1, _⟩ | ⟨g', cap', cur, e1, hb, hg, hc, _, hs, ht⟩⟩ := h
  · cases e1
  · injection e1 with e1 e2 e3
    injection e1 with e1
    injection e1 with e1
    subst e1
    simp [World.frozen?, hg]
theorem own_num {w : World} {B g cap n : Nat} {e : TypeId} {k : IntKind} {l : List Nat} (h : w.ownsRow B e 1 (.slice (some ⟨g, 0, none⟩) n cap) n (nums k l)) (i : Nat) (hi : i < n) : w.cell? ⟨g, i, none⟩ = some (.int k (l.getD i 0 : Nat)) := by
  have hl : l.length = n := by have := h.1; rw [nums_length] at this; omega
  rw [own_cell h i hi]
  simp [nums, List.getD_eq_getElem?_getD, show i < l.length by omega]
theorem own_len {w : World} {B n : Nat} {e : TypeId} {v : Value} {k : IntKind} {l : List Nat} (h : w.ownsRow B e 1 v n (nums k l)) : l.length = n := by have := h.1; rw [nums_length] at this; omega
theorem own_max {w : World} {B n : Nat} {e : TypeId} {v : Value} {xs : List Value} (h : w.ownsRow B e 1 v n xs) : n ≤ maxLen := by
  obtain ⟨hl, ⟨e1, rfl⟩ | ⟨g', cap', cur, e1, hb, hg, hc, hm, hs, ht⟩⟩ := h
  · exact Nat.zero_le _
  · omega
theorem own_sl {w : World} {B g cap n : Nat} {e : TypeId} {k : IntKind} {l : List Nat} (h : w.ownsRow B e 1 (.slice (some ⟨g, 0, none⟩) n cap) n (nums k l)) (hn : n ≤ 4611686018427387904) : Sl k w (some ⟨g, 0, none⟩) n l :=
  ⟨own_len h, hn, fun _ => ⟨g, 0, rfl, (own_lt h).1, fun i hi => by rw [Nat.zero_add]; exact own_num h i hi⟩⟩

theorem own_pos {w : World} {B k : Nat} {e : TypeId} {v : Value} {xs : List Value} (h : w.ownsRow B e 1 v k xs) (h0 : 0 < k) : ∃ g cap, v = .slice (some ⟨g, 0, none⟩) k cap := by
  obtain ⟨hl, ⟨e1, rfl⟩ | ⟨g', cap', cur, e1, _⟩⟩ := h
  · omega
  · exact ⟨g', cap', e1⟩

/-- A literal row owns its elements. -/
theorem own_lit (w : World) (e : TypeId) (xs : List Value) (hm : xs.length ≤ maxLen) : (w.alloc (.cells xs.toArray e)).ownsRow w.heap.size e 1 (.slice (some ⟨w.heap.size, 0, none⟩) xs.length xs.length) xs.length xs :=
  ⟨by omega, .inr ⟨w.heap.size, xs.length, xs.toArray, rfl, Nat.le_refl _, heap_alloc_new w _, Nat.le_refl _, hm, by simp, by simp⟩⟩

/-- A number of a grown row is turned. -/
theorem own_set {w : World} {B g cap n : Nat} {e : TypeId} {k : IntKind} {l : List Nat} (h : w.ownsRow B e 1 (.slice (some ⟨g, 0, none⟩) n cap) n (nums k l)) (i x : Nat) {z : Int} (hz : z = (x : Nat)) :
    (w.setCell ⟨g, i, none⟩ (.int k z)).ownsRow B e 1 (.slice (some ⟨g, 0, none⟩) n cap) n (nums k (l.set i x)) := by
  subst hz
  have hl := own_len h
  obtain ⟨hl', ⟨e1, _⟩ | ⟨g', cap', cur, e1, hb, hg, hc, hm, hs, ht⟩⟩ := h
  · cases e1
  · injection e1 with e1 e2 e3
    injection e1 with e1
    injection e1 with e1
    subst e1 e3
    refine ⟨by rw [nums_length, List.length_set]; omega, .inr ⟨g, cap, cur.setIfInBounds i (.int k (x : Nat)), rfl, hb, ?_, hc, hm, by simpa using hs, ?_⟩⟩
    · have := Blk.store (w := w) (g := g) (t := e) (cs := cur) hg i (.int k (x : Nat))
      exact this
    · rw [Array.toList_setIfInBounds, List.take_set, ht]
      unfold nums
      rw [List.map_set]

theorem Blk.rest {w w' : World} {g : Nat} {t : TypeId} {cs : Array Value} (h : w'.heap[g]? = w.heap[g]?) (hb : Blk w g t cs) : Blk w' g t cs := h.trans hb

end Go.Proofs.Ytgdaidmkcgblbaa
