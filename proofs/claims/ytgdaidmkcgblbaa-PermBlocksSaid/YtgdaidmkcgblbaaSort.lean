/-
  The walks of the sorter's put and take.
-/
import Derived.Test.YtgdaidmkcgblbaaTree
import Derived.Test.YtgdaidmkcgblbaaSortP
import Derived.Deep.RegionLaw
namespace Go.Proofs.Ytgdaidmkcgblbaa
open Go.RowKit

/-- The sorter lies in g: what is still to come, the stack, what comes off next. -/
def SortAt (g : Nat) (rv sv : Value) (nx : Nat) (w : World) : Prop := Blk w g 94 #[rv, sv, .int .i64 nx]

theorem sort_three {g : Nat} {rv sv : Value} {nx : Nat} {w : World} (h : SortAt g rv sv nx w) :
    w.cell? ⟨g, 0, none⟩ = some rv ∧ w.cell? ⟨g, 1, none⟩ = some sv ∧ w.cell? ⟨g, 2, none⟩ = some (.int .i64 nx) ∧ w.frozen? ⟨g, 0, none⟩ = false ∧ w.frozen? ⟨g, 1, none⟩ = false ∧ w.frozen? ⟨g, 2, none⟩ = false :=
  ⟨Blk.cell h 0, Blk.cell h 1, Blk.cell h 2, Blk.free h 0, Blk.free h 1, Blk.free h 2⟩

/-- But for new blocks nothing has turned but g and a row. -/
structure GRow (g : Nat) (row : Option Nat) (w w' : World) : Prop where
  os : w'.os = w.os
  tape : w'.tape = w.tape
  output : w'.output = w.output
  size : w.heap.size ≤ w'.heap.size
  block : ∀ k, k < w.heap.size → k ≠ g → some k ≠ row → w'.heap[k]? = w.heap[k]?

theorem GRow.refl (g : Nat) (row : Option Nat) (w : World) : GRow g row w w := ⟨rfl, rfl, rfl, Nat.le_refl _, fun _ _ _ _ => rfl⟩
theorem GRow.drew {g : Nat} {row : Option Nat} {a w : World} (h : GRow g row a w) : GRow g row a w.drew := ⟨h.os, h.tape, h.output, h.size, h.block⟩
theorem GRow.drewN {g : Nat} {row : Option Nat} {a w : World} (h : GRow g row a w) (n : Nat) : GRow g row a (w.drewN n) := ⟨h.os, h.tape, h.output, h.size, h.block⟩
theorem GRow.alloc {g : Nat} {row : Option Nat} {a w : World} (h : GRow g row a w) (o : Obj) : GRow g row a (w.alloc o) :=
  ⟨h.os, h.tape, h.output, by simp; have := h.size; omega, fun k hk h1 h2 => (Below.heap_alloc w o k (Nat.lt_of_lt_of_le hk h.size)).trans (h.block k hk h1 h2)⟩
theorem GRow.setCell {g : Nat} {row : Option Nat} {a w : World} (h : GRow g row a w) (i : Nat) (u : Value) : GRow g row a (w.setCell ⟨g, i, none⟩ u) :=
  ⟨h.os, h.tape, h.output, by simpa [World.setCell] using h.size, fun k hk h1 h2 => (Below.heap_setCell _ _ _ _ h1).trans (h.block k hk h1 h2)⟩
theorem GRow.grown {g : Nat} {row : Option Nat} {a w w' : World} (h : GRow g row a w) (hg : w.grownBy w' row) : GRow g row a w' :=
  ⟨hg.os.trans h.os, hg.tape.trans h.tape, hg.output.trans h.output, Nat.le_trans h.size hg.size, fun k hk h1 h2 => (hg.block k (Nat.lt_of_lt_of_le hk h.size) h2).trans (h.block k hk h1 h2)⟩
theorem GRow.below {g B : Nat} {row : Option Nat} {a w : World} (h : GRow g row a w) (hg : B ≤ g) (hr : ∀ k, row = some k → B ≤ k) (hB : B ≤ a.heap.size) : Below B a w :=
  ⟨h.os, h.tape, h.output, h.size, fun k hk => h.block k (by omega) (by omega) (fun e => by have := hr k e.symm; omega)⟩

theorem own_stay {w w' : World} {B size n : Nat} {e : TypeId} {v : Value} {xs : List Value} (h : w.ownsRow B e size v n xs) (hs : ∀ g, v.ownBlock = some g → w'.heap[g]? = w.heap[g]?) : w'.ownsRow B e size v n xs := by
  obtain ⟨hl, h1 | ⟨g, cap, cur, e1, hb, hg, rest⟩⟩ := h
  · exact ⟨hl, .inl h1⟩
  · exact ⟨hl, .inr ⟨g, cap, cur, e1, hb, (hs g (by rw [e1]; rfl)).trans hg, rest⟩⟩
theorem own_take {w : World} {B g cap n m : Nat} {e : TypeId} {k : IntKind} {l : List Nat} (h : w.ownsRow B e 1 (.slice (some ⟨g, 0, none⟩) n cap) n (nums k l)) (hm : m ≤ n) : w.ownsRow B e 1 (.slice (some ⟨g, 0, none⟩) m cap) m (nums k (l.take m)) := by
  have hl := own_len h
  obtain ⟨hl', ⟨e1, _⟩ | ⟨g', cap', cur, e1, hb, hg, hc, hx, hs, ht⟩⟩ := h
  · cases e1
  · injection e1 with e1 e2 e3
    injection e1 with e1
    injection e1 with e1
    subst e1 e3
    refine ⟨by rw [nums_length, List.length_take]; omega, .inr ⟨g, cap, cur, rfl, hb, hg, by omega, hx, hs, ?_⟩⟩
    have e4 : nums k (l.take m) = (nums k l).take m := by simp [nums, List.map_take]
    rw [e4, ← ht, List.take_take]
    congr 1
    omega

/-- Nothing is put. -/
theorem put_none (g : Nat) (A : Option Addr) (c : Nat) (sv : Value) (nx : Nat) (w : World) (h : SortAt g (.slice A 0 c) sv nx w) :
    Calls Try.prog 73 #[.pointer (some ⟨g, 0, none⟩)] w fun e w' => e = .returned (.bool false) ∧ w = w' := by
  obtain ⟨c0, c1, c2, f0, f1, f2⟩ := sort_three h
  go_enter Try.func73, Try.ntmps73
  go_wp2
  go_ret
  exact ⟨rfl, rfl⟩

/-- What putting a value does. -/
structure PutTo (B g b o m x nx k : Nat) (sv : Value) (st : List Nat) (w : World) (e : Ending) (w' : World) (A : Option Addr) (c' gg cg : Nat) : Prop where
  ret : e = .returned (.bool true)
  sorter : SortAt g (.slice A m c') (.slice (some ⟨gg, 0, none⟩) (k + 1) cg) nx w'
  rest : 0 < m → A = some ⟨b, o + 1, none⟩ ∧ m ≤ c' ∧ c' ≤ 9223372036854775807
  own : w'.ownsRow B 3 1 (.slice (some ⟨gg, 0, none⟩) (k + 1) cg) (k + 1) (nums .i64 (st ++ [x]))
  at' : sv.ownBlock = some gg ∨ w.heap.size ≤ gg
  grow : GRow g sv.ownBlock w w'
def RetPut (B g b o m x nx k : Nat) (sv : Value) (st : List Nat) (w : World) (e : Ending) (w' : World) : Prop :=
  ∃ A c' gg cg, PutTo B g b o m x nx k sv st w e w' A c' gg cg

theorem put_end {B g b o m c x nx k : Nat} {sv : Value} {st : List Nat} {w w3 : World} {gg cg : Nat} {ob : Obj} {A : Option Addr} {c' : Nat} (hg : g < B)
    (hown4 : w3.ownsRow B 3 1 (.slice (some ⟨gg, 0, none⟩) (k + 1) cg) (k + 1) (nums .i64 st ++ [.int .i64 x])) (hgrow : (w.alloc ob).drew.grownBy w3 sv.ownBlock) (hat : sv.ownBlock = some gg ∨ gg = w.heap.size + 1)
    (hB4 : SortAt g (.slice (some ⟨b, o, none⟩) (m + 1) c) (.slice (some ⟨gg, 0, none⟩) (k + 1) cg) nx (w3.setCell ⟨g, 1, none⟩ (.slice (some ⟨gg, 0, none⟩) (k + 1) cg)))
    (hrest : 0 < m → A = some ⟨b, o + 1, none⟩ ∧ m ≤ c' ∧ c' ≤ 9223372036854775807) :
    RetPut B g b o m x nx k sv st w (.returned (.bool true)) ((w3.setCell ⟨g, 1, none⟩ (.slice (some ⟨gg, 0, none⟩) (k + 1) cg)).setCell ⟨g, 0, none⟩ (.slice A m c')) := by
  have hgg : B ≤ gg := (own_lt hown4).2
  refine ⟨A, c', gg, cg, rfl, ?_, hrest, ?_, ?_, ?_⟩
  · have := Blk.store (w := w3.setCell ⟨g, 1, none⟩ (.slice (some ⟨gg, 0, none⟩) (k + 1) cg)) (g := g) hB4 0 (.slice A m c')
    simpa [SortAt] using this
  · rw [nums_snoc] at hown4
    refine own_stay hown4 fun j hj => ?_
    obtain rfl : gg = j := by simpa [Value.ownBlock] using hj
    exact (Below.heap_setCell _ _ _ _ (by simp; omega)).trans (Below.heap_setCell _ _ _ _ (by simp; omega))
  · rcases hat with h | h
    · exact .inl h
    · exact .inr (by omega)
  · exact ((((((GRow.refl g sv.ownBlock w).alloc ob).drew).grown hgrow).setCell 1 _).setCell 0 _)

set_option maxRecDepth 100000 in
set_option maxHeartbeats 2000000 in
theorem put_some (B g b o m c x nx k : Nat) (sv : Value) (st : List Nat) (w : World) (h : SortAt g (.slice (some ⟨b, o, none⟩) (m + 1) c) sv nx w) (hc : m + 1 ≤ c) (hc9 : c ≤ 9223372036854775807)
    (hx : w.cell? ⟨b, o, none⟩ = some (.int .i64 x)) (hown : w.ownsRow B 3 1 sv k (nums .i64 st)) (hB : B ≤ w.heap.size) (hg : g < B) (_hb : b < B) (_hbg : b ≠ g) (hk : k ≤ 1000) :
    Calls Try.prog 73 #[.pointer (some ⟨g, 0, none⟩)] w (RetPut B g b o m x nx k sv st w) := by
  obtain ⟨i0, hi, hz0, hz1, hz2⟩ := info_parts info_int'
  obtain ⟨c0, c1, c2, f0, f1, f2⟩ := sort_three h
  have h63 : k + 1 ≤ maxLen := by unfold maxLen; omega
  have h47 : (k + 1) * 8 ≤ 140737488355328 := by omega
  have hda : SortAt g (.slice (some ⟨b, o, none⟩) (m + 1) c) sv nx (w.alloc (.cells #[.int .i64 x] 3)) := Blk.more' h _
  obtain ⟨a0, a1, a2, p0, p1, p2⟩ := sort_three hda
  have hdd : SortAt g (.slice (some ⟨b, o, none⟩) (m + 1) c) sv nx (w.alloc (.cells #[.int .i64 x] 3)).drew := hda
  have howna : (w.alloc (.cells #[.int .i64 x] 3)).drew.ownsRow B 3 1 sv k (nums .i64 st) := hown.alloc _
  have hHid : Hid (SortAt g (.slice (some ⟨b, o, none⟩) (m + 1) c) sv nx (w.alloc (.cells #[.int .i64 x] 3))) := hda
  have hszd : w.drew.heap.size = w.heap.size := rfl
  go_enter Try.func73, Try.ntmps73
  go_wp2
  go_region_law (refine step_append_lies _ rfl _ _ _ rfl B 3 i0 _ 1 8 Try.underlying22 hi hz0 hz1 hz2 rfl (Nat.succ_pos 0) sv k (nums .i64 st) rfl howna ⟨w.heap.size, 0, none⟩ 1 1 [.int .i64 x] rfl rfl (cell_one_new _ _ _) (one_cell _ rfl) Nat.one_pos h63 h47 (alloc_size_le _ _ hB) (w.heap.size + 1) (size_new'' _ _) ?_; intro gg cg w3 hown4 hgrow hat hlt3; have hB3 : SortAt g (.slice (some ⟨b, o, none⟩) (m + 1) c) sv nx w3 := (hgrow.block g (Blk.lt hda) (own_not hown hg)).trans hdd; have kc0 := Blk.cell hB3 0; have kc1 := Blk.cell hB3 1; have kf0 := Blk.free hB3 0; have kf1 := Blk.free hB3 1)
  all_goals
    have hB4 : SortAt g (.slice (some ⟨b, o, none⟩) (m + 1) c) (.slice (some ⟨gg, 0, none⟩) (k + 1) cg) nx (w3.setCell ⟨g, 1, none⟩ (.slice (some ⟨gg, 0, none⟩) (k + 1) cg)) := by
      have := Blk.store (w := w3) (g := g) hB3 1 (.slice (some ⟨gg, 0, none⟩) (k + 1) cg)
      simpa [SortAt] using this
    obtain ⟨q0, q1, q2, u0, u1, u2⟩ := sort_three hB4
    have Hend := Lib.hid (fun A c' hr => put_end (A := A) (c' := c') (x := x) hg hown4 hgrow hat hB4 hr)
    clear hown4 hgrow hat hB4 hB3
    go_wp2
  all_goals
    go_ret
    first
      | exact Hend.out _ _ (fun h => ⟨rfl, by omega, by omega⟩)
      | exact Hend.out _ _ (fun h => absurd h (by omega))

/-- What comes off is not on top, or nothing is there. -/
theorem take_none (g : Nat) (A : Option Addr) (c : Nat) (rv : Value) (nx : Nat) (w : World) (h : SortAt g rv (.slice A 0 c) nx w) :
    Calls Try.prog 74 #[.pointer (some ⟨g, 0, none⟩)] w fun e w' => e = .returned (.bool false) ∧ Drew w w' := by
  obtain ⟨c0, c1, c2, f0, f1, f2⟩ := sort_three h
  go_enter Try.func74, Try.ntmps74
  go_wp2
  go_quiet (fail)
  go_wp2
  go_ret
  exact ⟨rfl, _, rfl⟩

theorem take_no (g gg c k y nx : Nat) (rv : Value) (w : World) (h : SortAt g rv (.slice (some ⟨gg, 0, none⟩) (k + 1) c) nx w) (hy : w.cell? ⟨gg, k, none⟩ = some (.int .i64 y)) (hk : k ≤ 1000) (hne : y ≠ nx) :
    Calls Try.prog 74 #[.pointer (some ⟨g, 0, none⟩)] w fun e w' => e = .returned (.bool false) ∧ Drew w w' := by
  obtain ⟨c0, c1, c2, f0, f1, f2⟩ := sort_three h
  have hd : ((y : Int) != (nx : Int)) = true := by rw [bne_iff_ne]; omega
  have hd0 : decide ((k : Int) < 0) = false := decide_eq_false (by omega)
  clear hne
  go_enter Try.func74, Try.ntmps74
  go_wp2
  go_quiet (fail)
  go_wp2
  go_ret
  exact ⟨rfl, _, rfl⟩

theorem take_yes (g gg c k nx : Nat) (rv : Value) (w : World) (h : SortAt g rv (.slice (some ⟨gg, 0, none⟩) (k + 1) c) nx w) (hy : w.cell? ⟨gg, k, none⟩ = some (.int .i64 nx)) (hk : k ≤ 1000) (hc : k + 1 ≤ c) (hnx : nx ≤ 1000) :
    Calls Try.prog 74 #[.pointer (some ⟨g, 0, none⟩)] w fun e w' => e = .returned (.bool true) ∧ SortAt g rv (.slice (some ⟨gg, 0, none⟩) k c) (nx + 1) w' ∧ GRow g none w w' := by
  obtain ⟨c0, c1, c2, f0, f1, f2⟩ := sort_three h
  have hd : ((nx : Int) != (nx : Int)) = false := by simp
  have hd0 : decide ((k : Int) < 0) = false := decide_eq_false (by omega)
  have H := Lib.hid h
  clear h
  go_enter Try.func74, Try.ntmps74
  go_wp2
  go_quiet (fail)
  go_wp2
  go_ret
  have h2 : SortAt g rv (.slice (some ⟨gg, 0, none⟩) (k + 1) c) nx (w.drewN nq) := H.out
  refine ⟨rfl, ?_, ?_⟩
  · have := Blk.store (Blk.store (w := w.drewN nq) (g := g) h2 1 (.slice (some ⟨gg, 0, none⟩) k c)) 2 (.int .i64 (nx + 1))
    simpa [SortAt] using this
  · exact (((GRow.refl g none w).drewN nq).setCell 1 _).setCell 2 _

end Go.Proofs.Ytgdaidmkcgblbaa
