/-
  Rows that grow by append, what is known of them before and behind; letters of strings as numbers.
-/
import Derived.Test.YtkdalgdckgmccaaGreatDoorBase
import Derived.RangeFuncBox
import Derived.Maps.AppendAt
import Derived.Deep.RegionLaw
import Derived.Deep.AppendLies
import Derived.Laws.Append
import Derived.Laws.AppendOwn
import Derived.Laws.Tables
import Derived.Laws.IdiomStrings
import Derived.Laws.RangeString
import Derived.Laws.RangeAny
import Derived.Laws.BytesString
import Derived.Laws.BytesArg
namespace Go.Proofs.YtkdalgdckgmccaaGreatDoor
open Go.RowKit

theorem take_snoc (l : List Nat) (k : Nat) (h : k < l.length) : l.take (k + 1) = l.take k ++ [l.getD k 0] := by
  rw [List.take_succ_eq_append_getElem h, List.getD_eq_getElem?_getD, List.getElem?_eq_getElem h]; rfl



/-- Numbers as values. -/
def nums (k : IntKind) (l : List Nat) : List Value := l.map fun x => Value.int k (x : Nat)
theorem nums_length (k : IntKind) (l : List Nat) : (nums k l).length = l.length := by simp [nums]
theorem nums_snoc (k : IntKind) (l : List Nat) (x : Nat) : nums k l ++ [Value.int k (x : Nat)] = nums k (l ++ [x]) := by simp [nums]

/-- Behind an append whatever lay below B is as it was. -/
theorem own_below {W w1 : World} {B : Nat} {e : TypeId} {size k : Nat} {v : Value} {xs : List Value} {tmp : Obj} (h : W.ownsRow B e size v k xs) (hB : B ≤ W.heap.size) (hg : (W.alloc tmp).grownBy w1 v.ownBlock) : Below B W w1 := by
  refine ((Below.refl B W).alloc hB tmp).grown hg (by simp; omega) fun j ej => ?_
  rcases h.2 with ⟨rfl, _⟩ | ⟨g, cap, cur, rfl, hb, _, _⟩
  · simp [Value.ownBlock] at ej
  · obtain rfl : g = j := by simpa [Value.ownBlock] using ej
    exact hb

/-- What a grown row reads as. -/
theorem own_cell {w : World} {B g cap n : Nat} {e : TypeId} {xs : List Value} (h : w.ownsRow B e 1 (.slice (some ⟨g, 0, none⟩) n cap) n xs) (i : Nat) (hi : i < n) : w.cell? ⟨g, i, none⟩ = xs[i]? := by
  obtain ⟨hl, ⟨e1, _⟩ | ⟨g', cap', cur, e1, hb, hg, hc, _, hs, ht⟩⟩ := h
  · cases e1
  · injection e1 with e1 e2 e3
    injection e1 with e1
    injection e1 with e1
    subst e1
    rw [cell_of_row w g i cur e (0, 0) hg, ← ht, List.getElem?_take_of_lt (by omega)]
    simp
theorem own_lt {w : World} {B g cap n : Nat} {e : TypeId} {xs : List Value} (h : w.ownsRow B e 1 (.slice (some ⟨g, 0, none⟩) n cap) n xs) : g < w.heap.size ∧ B ≤ g := by
  obtain ⟨hl, ⟨e1, _⟩ | ⟨g', cap', cur, e1, hb, hg, hc, _, hs, ht⟩⟩ := h
  · cases e1
  · injection e1 with e1 e2 e3
    injection e1 with e1
    injection e1 with e1
    subst e1
    exact ⟨(Array.getElem?_eq_some_iff.1 hg).1, hb⟩
theorem own_free {w : World} {B g cap n : Nat} {e : TypeId} {xs : List Value} (h : w.ownsRow B e 1 (.slice (some ⟨g, 0, none⟩) n cap) n xs) (i : Nat) : w.frozen? ⟨g, i, none⟩ = false := by
  obtain ⟨hl, ⟨e1, _⟩ | ⟨g', cap', cur, e1, hb, hg, hc, _, hs, ht⟩⟩ := h
  · cases e1
  · injection e1 with e1 e2 e3
    injection e1 with e1
    injection e1 with e1
    subst e1
    simp [World.frozen?, hg]
theorem own_num {w : World} {B g cap n : Nat} {e : TypeId} {k : IntKind} {l : List Nat} (h : w.ownsRow B e 1 (.slice (some ⟨g, 0, none⟩) n cap) n (nums k l)) (i : Nat) (hi : i < n) : w.cell? ⟨g, i, none⟩ = some (.int k (l.getD i 0 : Nat)) := by
  have hl : l.length = n := by have := h.1; rw [nums_length] at this; omega
  rw [own_cell h i hi]
  simp [nums, List.getD_eq_getElem?_getD, show i < l.length by omega]
theorem own_len {w : World} {B n : Nat} {e : TypeId} {v : Value} {k : IntKind} {l : List Nat} (h : w.ownsRow B e 1 v n (nums k l)) : l.length = n := by have := h.1; rw [nums_length] at this; omega
theorem own_max {w : World} {B n : Nat} {e : TypeId} {v : Value} {xs : List Value} (h : w.ownsRow B e 1 v n xs) : n ≤ maxLen := by
  obtain ⟨hl, ⟨e1, rfl⟩ | ⟨g', cap', cur, e1, hb, hg, hc, hm, hs, ht⟩⟩ := h
  · exact Nat.zero_le _
  · omega
theorem own_sl {w : World} {B g cap n : Nat} {e : TypeId} {k : IntKind} {l : List Nat} (h : w.ownsRow B e 1 (.slice (some ⟨g, 0, none⟩) n cap) n (nums k l)) (hn : n ≤ 4611686018427387904) : Sl k w (some ⟨g, 0, none⟩) n l :=
  ⟨own_len h, hn, fun _ => ⟨g, 0, rfl, (own_lt h).1, fun i hi => by rw [Nat.zero_add]; exact own_num h i hi⟩⟩

theorem own_pos {w : World} {B k : Nat} {e : TypeId} {v : Value} {xs : List Value} (h : w.ownsRow B e 1 v k xs) (h0 : 0 < k) : ∃ g cap, v = .slice (some ⟨g, 0, none⟩) k cap := by
  obtain ⟨hl, ⟨e1, rfl⟩ | ⟨g', cap', cur, e1, _⟩⟩ := h
  · omega
  · exact ⟨g', cap', e1⟩

/-- A literal row owns its elements. -/
theorem own_lit (w : World) (e : TypeId) (xs : List Value) (hm : xs.length ≤ maxLen) : (w.alloc (.cells xs.toArray e)).ownsRow w.heap.size e 1 (.slice (some ⟨w.heap.size, 0, none⟩) xs.length xs.length) xs.length xs :=
  ⟨by omega, .inr ⟨w.heap.size, xs.length, xs.toArray, rfl, Nat.le_refl _, heap_alloc_new w _, Nat.le_refl _, hm, by simp, by simp⟩⟩

/-- A number of a grown row is turned. -/
theorem own_set {w : World} {B g cap n : Nat} {e : TypeId} {k : IntKind} {l : List Nat} (h : w.ownsRow B e 1 (.slice (some ⟨g, 0, none⟩) n cap) n (nums k l)) (i x : Nat) {z : Int} (hz : z = (x : Nat)) :
    (w.setCell ⟨g, i, none⟩ (.int k z)).ownsRow B e 1 (.slice (some ⟨g, 0, none⟩) n cap) n (nums k (l.set i x)) := by
  subst hz
  have hl := own_len h
  obtain ⟨hl', ⟨e1, _⟩ | ⟨g', cap', cur, e1, hb, hg, hc, hm, hs, ht⟩⟩ := h
  · cases e1
  · injection e1 with e1 e2 e3
    injection e1 with e1
    injection e1 with e1
    subst e1 e3
    refine ⟨by rw [nums_length, List.length_set]; omega, .inr ⟨g, cap, cur.setIfInBounds i (.int k (x : Nat)), rfl, hb, ?_, hc, hm, by simpa using hs, ?_⟩⟩
    · have := Blk.store (w := w) (g := g) (t := e) (cs := cur) hg i (.int k (x : Nat))
      exact this
    · rw [Array.toList_setIfInBounds, List.take_set, ht]
      unfold nums
      rw [List.map_set]

theorem Blk.rest {w w' : World} {g : Nat} {t : TypeId} {cs : Array Value} (h : w'.heap[g]? = w.heap[g]?) (hb : Blk w g t cs) : Blk w' g t cs := h.trans hb

theorem below_new' (w : World) (o : Obj) : Below w.heap.size w (w.alloc o) := (Below.refl _ _).alloc (Nat.le_refl _) o

theorem Blk.more' {w : World} {g : Nat} {t : TypeId} {cs : Array Value} (h : Blk w g t cs) (o : Obj) : Blk (w.alloc o) g t cs := (Below.heap_alloc w o g h.lt).trans h

theorem alloc_size_le {n : Nat} (w : World) (o : Obj) (h : n ≤ w.heap.size) : n ≤ (w.alloc o).heap.size := by simp; omega
theorem three_cells (a b c : Value) (ha : a.oneCell' = true) (hb : b.oneCell' = true) (hc : c.oneCell' = true) : ∀ u ∈ [a, b, c], u.oneCell' = true := by
  intro u hu
  simp only [List.mem_cons, List.not_mem_nil, or_false] at hu
  rcases hu with rfl | rfl | rfl <;> assumption

theorem one_cell (a : Value) (ha : a.oneCell' = true) : ∀ u ∈ [a], u.oneCell' = true := by
  intro u hu
  rw [List.mem_singleton.1 hu]; exact ha
theorem size_new'' (w : World) (o : Obj) : (w.alloc o).heap.size = w.heap.size + 1 := by simp

theorem own_not {w : World} {B size n g : Nat} {e : TypeId} {v : Value} {xs : List Value} (h : w.ownsRow B e size v n xs) (hg : g < B) : some g ≠ v.ownBlock := by
  obtain ⟨hl, ⟨rfl, _⟩ | ⟨g', cap, cur, rfl, hb, _⟩⟩ := h
  · simp [Value.ownBlock]
  · simp [Value.ownBlock]; omega

theorem own_keep {w w' : World} {B size n : Nat} {e : TypeId} {v : Value} {xs : List Value} (h : w.ownsRow B e size v n xs) (hk : Below w.heap.size w w') : w'.ownsRow B e size v n xs := by
  obtain ⟨hl, h1 | ⟨g, cap, cur, e1, hb, hg, rest⟩⟩ := h
  · exact ⟨hl, .inl h1⟩
  · exact ⟨hl, .inr ⟨g, cap, cur, e1, hb, (hk.block g (Array.getElem?_eq_some_iff.1 hg).1).trans hg, rest⟩⟩

/-- But for new blocks nothing has turned but g and a row. -/
structure GRow (g : Nat) (row : Option Nat) (w w' : World) : Prop where
  os : w'.os = w.os
  tape : w'.tape = w.tape
  output : w'.output = w.output
  size : w.heap.size ≤ w'.heap.size
  block : ∀ k, k < w.heap.size → k ≠ g → some k ≠ row → w'.heap[k]? = w.heap[k]?

theorem GRow.refl (g : Nat) (row : Option Nat) (w : World) : GRow g row w w := ⟨rfl, rfl, rfl, Nat.le_refl _, fun _ _ _ _ => rfl⟩
theorem GRow.drew {g : Nat} {row : Option Nat} {a w : World} (h : GRow g row a w) : GRow g row a w.drew := ⟨h.os, h.tape, h.output, h.size, h.block⟩
theorem GRow.drewN {g : Nat} {row : Option Nat} {a w : World} (h : GRow g row a w) (n : Nat) : GRow g row a (w.drewN n) := ⟨h.os, h.tape, h.output, h.size, h.block⟩
theorem GRow.alloc {g : Nat} {row : Option Nat} {a w : World} (h : GRow g row a w) (o : Obj) : GRow g row a (w.alloc o) :=
  ⟨h.os, h.tape, h.output, by simp; have := h.size; omega, fun k hk h1 h2 => (Below.heap_alloc w o k (Nat.lt_of_lt_of_le hk h.size)).trans (h.block k hk h1 h2)⟩
theorem GRow.setCell {g : Nat} {row : Option Nat} {a w : World} (h : GRow g row a w) (i : Nat) (u : Value) : GRow g row a (w.setCell ⟨g, i, none⟩ u) :=
  ⟨h.os, h.tape, h.output, by simpa [World.setCell] using h.size, fun k hk h1 h2 => (Below.heap_setCell _ _ _ _ h1).trans (h.block k hk h1 h2)⟩
theorem GRow.grown {g : Nat} {row : Option Nat} {a w w' : World} (h : GRow g row a w) (hg : w.grownBy w' row) : GRow g row a w' :=
  ⟨hg.os.trans h.os, hg.tape.trans h.tape, hg.output.trans h.output, Nat.le_trans h.size hg.size, fun k hk h1 h2 => (hg.block k (Nat.lt_of_lt_of_le hk h.size) h2).trans (h.block k hk h1 h2)⟩
theorem GRow.below {g B : Nat} {row : Option Nat} {a w : World} (h : GRow g row a w) (hg : B ≤ g) (hr : ∀ k, row = some k → B ≤ k) (hB : B ≤ a.heap.size) : Below B a w :=
  ⟨h.os, h.tape, h.output, h.size, fun k hk => h.block k (by omega) (by omega) (fun e => by have := hr k e.symm; omega)⟩

theorem own_stay {w w' : World} {B size n : Nat} {e : TypeId} {v : Value} {xs : List Value} (h : w.ownsRow B e size v n xs) (hs : ∀ g, v.ownBlock = some g → w'.heap[g]? = w.heap[g]?) : w'.ownsRow B e size v n xs := by
  obtain ⟨hl, h1 | ⟨g, cap, cur, e1, hb, hg, rest⟩⟩ := h
  · exact ⟨hl, .inl h1⟩
  · exact ⟨hl, .inr ⟨g, cap, cur, e1, hb, (hs g (by rw [e1]; rfl)).trans hg, rest⟩⟩
theorem own_take {w : World} {B g cap n m : Nat} {e : TypeId} {k : IntKind} {l : List Nat} (h : w.ownsRow B e 1 (.slice (some ⟨g, 0, none⟩) n cap) n (nums k l)) (hm : m ≤ n) : w.ownsRow B e 1 (.slice (some ⟨g, 0, none⟩) m cap) m (nums k (l.take m)) := by
  have hl := own_len h
  obtain ⟨hl', ⟨e1, _⟩ | ⟨g', cap', cur, e1, hb, hg, hc, hx, hs, ht⟩⟩ := h
  · cases e1
  · injection e1 with e1 e2 e3
    injection e1 with e1
    injection e1 with e1
    subst e1 e3
    refine ⟨by rw [nums_length, List.length_take]; omega, .inr ⟨g, cap, cur, rfl, hb, hg, by omega, hx, hs, ?_⟩⟩
    have e4 : nums k (l.take m) = (nums k l).take m := by simp [nums, List.map_take]
    rw [e4, ← ht, List.take_take]
    congr 1
    omega

theorem own_slice' {w : World} {B size n : Nat} {e : TypeId} {v : Value} {xs : List Value} (h : w.ownsRow B e size v n xs) : ∃ A c, v = .slice A n c := by
  obtain ⟨hl, ⟨e1, rfl⟩ | ⟨g, cap, cur, e1, _⟩⟩ := h
  · exact ⟨none, 0, e1⟩
  · exact ⟨_, cap, e1⟩

theorem own_capd {w : World} {B g cap n : Nat} {e : TypeId} {xs : List Value} (h : w.ownsRow B e 1 (.slice (some ⟨g, 0, none⟩) n cap) n xs) : n ≤ cap := by
  obtain ⟨hl, ⟨e1, _⟩ | ⟨g', cap', cur, e1, hb, hg, hc, _, hs, ht⟩⟩ := h
  · cases e1
  · injection e1 with e1 e2 e3
    omega

theorem GRow.own {g B n : Nat} {row : Option Nat} {a w : World} {e : TypeId} {size : Nat} {v : Value} {xs : List Value} (h : GRow g row a w) (ho : a.ownsRow B e size v n xs) (hg : g < B) (hr : ∀ j, v.ownBlock = some j → row ≠ some j) : w.ownsRow B e size v n xs :=
  own_stay ho fun j hj => h.block j (ho.lt j hj).2 (by have := (ho.lt j hj).1; omega) (fun e => hr j hj e.symm)

theorem add_at (b o j : Nat) : (⟨b, o, none⟩ : Addr).add j = ⟨b, o + j, none⟩ := by
  unfold Addr.add; split <;> simp_all

theorem one_of_cells (k : IntKind) (l : List Nat) : ∀ u ∈ (l.map fun x => Value.int k (x : Nat)), u.oneCell' = true := by
  intro u hu
  obtain ⟨x, _, rfl⟩ := List.mem_map.1 hu
  rfl

/-- An append whose run is known. -/
theorem wpList_append_run {P : Program} {w w' : World} {ops : Array Oper} {rest : List Oper} {o : Oper} {a : Act} {Q : Exit → Act → World → Prop} {s x : Operand} {ts : Array TypeId} {sv xv v : Value}
    (hg : o.guard = none) (ho : o.op = .call { callee := .builtin .append, args := #[s, x], argTypes := ts }) (hs : a.eval s = sv) (hx : a.eval x = xv)
    (hrun : (Builtin.append_ ts o.type #[sv, xv]).run P w = .ok v w') (hK : wpList P ops Q rest (a.put o.dst v) w') : wpList P ops Q (o :: rest) a w := by
  refine wpList_plain hg fun K hK' => ?_
  unfold Oper.wp
  simp [execOp, ho, resolve, invoke, builtin, hs, hx, hrun, Result.andThen]
  exact hK' _ _ hK

/-- The letters of a string, as numbers. -/
def lettersOf (s : ByteArray) : List Nat := s.data.toList.map fun b => b.toNat
theorem lettersOf_length (s : ByteArray) : (lettersOf s).length = s.size := by
  unfold lettersOf
  rw [List.length_map, Array.length_toList]
  rfl
theorem lettersOf_get (s : ByteArray) (k : Nat) (h : k < s.size) : (lettersOf s).getD k 0 = (s[k]'h).toNat := by
  have e : s.data[k]? = some (s[k]'h) := Array.getElem?_eq_getElem (show k < s.data.size from h)
  unfold lettersOf
  rw [List.getD_eq_getElem?_getD, List.getElem?_map, Array.getElem?_toList, e]
  rfl
theorem lettersOf_lt (s : ByteArray) (k : Nat) : (lettersOf s).getD k 0 < 256 := by
  by_cases h : k < s.size
  · rw [lettersOf_get s k h]
    exact UInt8.toNat_lt _
  · rw [List.getD_eq_getElem?_getD, List.getElem?_eq_none (by rw [lettersOf_length]; omega)]
    decide

theorem bytesRow_get (s : ByteArray) (cap k : Nat) (h : k < s.size) : (bytesRow s cap)[k]? = some (.int .u8 ((lettersOf s).getD k 0 : Nat)) := by
  have hk : k < s.data.size := h
  have e : s.data[k]? = some (s[k]'h) := Array.getElem?_eq_getElem hk
  rw [lettersOf_get s k h]
  unfold bytesRow
  rw [Array.getElem?_append_left (by simpa using hk), Array.getElem?_map, e]
  rfl

theorem info_u8 : (Tryz.prog.info? 5).map (fun i => (i.zero, i.size, i.bytes)) = some (some (.int .u8 0), 1, 1) := by kernel_rfl

end Go.Proofs.YtkdalgdckgmccaaGreatDoor
