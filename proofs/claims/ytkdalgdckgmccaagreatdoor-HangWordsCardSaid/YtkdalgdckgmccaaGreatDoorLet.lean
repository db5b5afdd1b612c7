/-
  The walks of isNail, nailOf and of one letter more on a wire.
-/
import Derived.Test.YtkdalgdckgmccaaGreatDoorOwn
import Derived.Test.YtkdalgdckgmccaaGreatDoorWordM
namespace Go.Proofs.YtkdalgdckgmccaaGreatDoor
open Go.RowKit

theorem isNail_any (x : Nat) (w : World) : Calls Tryz.prog 19 #[.int .i32 x] w fun e w' => e = .returned (.bool (decide (97 ≤ x) && decide (x ≤ 122))) ∧ w' = w := by
  by_cases h1 : 97 ≤ x
  · by_cases h2 : x ≤ 122
    · have e : (decide (97 ≤ x) && decide (x ≤ 122)) = true := by simp [h1, h2]
      have E := Lib.hid e
      clear e
      have h3 : decide ((x : Int) ≤ 122) = true := decide_eq_true (by omega)
      go_enter Tryz.func19, Tryz.ntmps19
      go_wp2
      go_ret
      exact ⟨ret_bool E.out.symm, rfl⟩
    · have e : (decide (97 ≤ x) && decide (x ≤ 122)) = false := by simp [h2]
      have E := Lib.hid e
      clear e
      have h3 : decide ((x : Int) ≤ 122) = false := decide_eq_false (by omega)
      go_enter Tryz.func19, Tryz.ntmps19
      go_wp2
      go_ret
      exact ⟨ret_bool E.out.symm, rfl⟩
  · have e : (decide (97 ≤ x) && decide (x ≤ 122)) = false := by simp [h1]
    have E := Lib.hid e
    clear e
    go_enter Tryz.func19, Tryz.ntmps19
    go_wp2
    go_ret
    exact ⟨rfl, rfl⟩

theorem nail_bits : ∀ x : Nat, x < 123 → Lt x → wrap64 (wrap64 (bits BinOp.or IntKind.i32 (x : Int) 32) - 97) = (nailN x : Nat) := by decide +kernel
theorem inv_bits : ∀ x : Nat, x < 123 → Lt x → bits BinOp.xor IntKind.u8 (x : Int) 32 = (inv x : Nat) := by decide +kernel
theorem Lt.lt {x : Nat} (h : Lt x) : x < 123 := by unfold Lt at h; omega

theorem nailOf_any (x : Nat) (hx : Lt x) (w : World) : Calls Tryz.prog 33 #[.int .i32 x] w fun e w' => e = .returned (.int .i64 (nailN x)) ∧ w' = w := by
  have hb := Lib.hid (nail_bits x hx.lt hx)
  go_enter Tryz.func33, Tryz.ntmps33
  go_wp2
  go_ret
  exact ⟨ret_int hb.out, rfl⟩

/-- But for new blocks nothing has turned but one row. -/
structure Gr (row : Option Nat) (w w' : World) : Prop where
  os : w'.os = w.os
  tape : w'.tape = w.tape
  output : w'.output = w.output
  size : w.heap.size ≤ w'.heap.size
  block : ∀ k, k < w.heap.size → some k ≠ row → w'.heap[k]? = w.heap[k]?
theorem Gr.refl (row : Option Nat) (w : World) : Gr row w w := ⟨rfl, rfl, rfl, Nat.le_refl _, fun _ _ _ => rfl⟩
theorem Gr.drewN {row : Option Nat} {a w : World} (h : Gr row a w) (n : Nat) : Gr row a (w.drewN n) := ⟨h.os, h.tape, h.output, h.size, h.block⟩
theorem Gr.alloc {row : Option Nat} {a w : World} (h : Gr row a w) (o : Obj) : Gr row a (w.alloc o) :=
  ⟨h.os, h.tape, h.output, by simp; have := h.size; omega, fun k hk h2 => (Below.heap_alloc w o k (Nat.lt_of_lt_of_le hk h.size)).trans (h.block k hk h2)⟩
theorem Gr.grown {row : Option Nat} {a w w' : World} (h : Gr row a w) (hg : w.grownBy w' row) : Gr row a w' :=
  ⟨hg.os.trans h.os, hg.tape.trans h.tape, hg.output.trans h.output, Nat.le_trans h.size hg.size, fun k hk h2 => (hg.block k (Nat.lt_of_lt_of_le hk h.size) h2).trans (h.block k hk h2)⟩
theorem Gr.below {B : Nat} {row : Option Nat} {a w : World} (h : Gr row a w) (hr : ∀ k, row = some k → B ≤ k) (hB : B ≤ a.heap.size) : Below B a w :=
  ⟨h.os, h.tape, h.output, h.size, fun k hk => h.block k (by omega) (fun e => by have := hr k e.symm; omega)⟩

/-- A wire of its own: the row behind it, and what of the heap turned. -/
structure Wire (B : Nat) (xs : List Nat) (w : World) (v : Value) : Prop where
  own : w.ownsRow B 5 1 v xs.length (nums .u8 xs)
  base : B ≤ w.heap.size

/-- What one letter more returns. -/
def RetThen (B : Nat) (v : Value) (ys : List Nat) (w : World) (e : Ending) (w' : World) : Prop :=
  ∃ v', e = .returned v' ∧ Wire B ys w' v' ∧ Gr v.ownBlock w w' ∧ (v'.ownBlock = v.ownBlock ∨ ∃ g, v'.ownBlock = some g ∧ w.heap.size ≤ g)

theorem thenL_no {xs : List Nat} {c : Nat} (h : ¬(0 < xs.length ∧ xs.getD (xs.length - 1) 0 = inv c)) : thenL xs c = xs ++ [c] := by unfold thenL; rw [if_neg h]
theorem thenL_yes {xs : List Nat} {c : Nat} (h0 : 0 < xs.length) (h : xs.getD (xs.length - 1) 0 = inv c) : thenL xs c = xs.take (xs.length - 1) := by unfold thenL; rw [if_pos ⟨h0, h⟩]

theorem wire_appended {B c m : Nat} {xs : List Nat} {v : Value} {w w2 : World} {gr cr : Nat} (hx : xs.length = m) (hW : Wire B xs w v) (hno : thenL xs c = xs ++ [c])
    (hown : w2.ownsRow B 5 1 (.slice (some ⟨gr, 0, none⟩) (m + 1) cr) (m + 1) (nums .u8 xs ++ [Value.int .u8 (c : Nat)])) {o : Obj} (hgrow : (w.alloc o).grownBy w2 v.ownBlock)
    (hat : v.ownBlock = some gr ∨ gr = w.heap.size + 1) : RetThen B v (thenL xs c) w (.returned (.slice (some ⟨gr, 0, none⟩) (m + 1) cr)) w2 := by
  have hsz := hgrow.size
  rw [World.size_alloc] at hsz
  have e1 : (xs ++ [c]).length = m + 1 := by rw [List.length_append, hx]; rfl
  refine ⟨_, rfl, ⟨?_, by have := hW.base; omega⟩, ((Gr.refl _ w).alloc _).grown hgrow, ?_⟩
  · rw [hno, e1, ← nums_snoc]; exact hown
  · rcases hat with h | h
    · exact .inl h.symm
    · exact .inr ⟨gr, rfl, by omega⟩

set_option maxHeartbeats 1000000 in
set_option maxRecDepth 100000 in
theorem then_any (B c : Nat) (xs : List Nat) (v : Value) (w : World) (hW : Wire B xs w v) (hc : Lt c) (hn : xs.length ≤ 1000000000000) :
    Calls Tryz.prog 55 #[v, .int .u8 c] w (RetThen B v (thenL xs c) w) := by
  obtain ⟨i0, hi, hz0, hz1, hz2⟩ := info_parts info_u8
  have hbits := inv_bits c hc.lt hc
  obtain ⟨n, hxn⟩ : ∃ n, xs.length = n := ⟨_, rfl⟩
  have hown := hW.own
  have hbase := hW.base
  rw [hxn] at hown
  rcases Nat.eq_zero_or_pos n with h0 | h0
  · subst h0
    have hx : xs = [] := List.eq_nil_of_length_eq_zero hxn
    subst hx
    obtain ⟨A, cap, rfl⟩ := own_slice' hown
    have HW := Lib.hid hW
    clear hW
    go_enter Tryz.func55, Tryz.ntmps55
    go_wp2_with (at_builtin; refine wpList_append_lies _ rfl _ _ 44 rfl B 5 i0 (.int .u8 0) 1 1 Tryz.underlying44 hi hz0 hz1 hz2 rfl (by decide) _ 0 (nums .u8 []) rfl (hown.alloc _) ⟨w.heap.size, 0, none⟩ 1 1 [.int .u8 c] rfl rfl ?c1 ?c2 ?c3 ?c4 ?c5 ?c6 (w.heap.size + 1) (size_new'' _ _) ?_)
    case c1 => exact cell_one_new _ _ _
    case c2 => exact one_cell _ rfl
    case c3 => exact Nat.one_pos
    case c4 => unfold maxLen; omega
    case c5 => omega
    case c6 => simp; omega
    intro gr cr w2 hown2 hgrow2 hat2 hlt2
    go_wp2
    go_ret
    exact wire_appended (xs := []) (m := 0) rfl HW.out (thenL_no (by simp)) hown2 hgrow2 hat2
  · obtain ⟨g, cap, rfl⟩ := own_pos hown h0
    obtain ⟨m, rfl⟩ : ∃ m, n = m + 1 := ⟨n - 1, by omega⟩
    have hcell : w.cell? ⟨g, m, none⟩ = some (.int .u8 (xs.getD m 0 : Nat)) := own_num hown m (by omega)
    have hcap := own_capd hown
    have hm : m ≤ 1000000000000 := by omega
    clear hn
    have HW := Lib.hid hW
    have Hxn := Lib.hid hxn
    by_cases hz : xs.getD m 0 = inv c
    · have hy : thenL xs c = xs.take m := by rw [thenL_yes (by omega) (by rw [hxn]; exact hz), hxn]; rfl
      have Htake : Hid (w.ownsRow B 5 1 (.slice (some ⟨g, 0, none⟩) m cap) m (nums .u8 (xs.take m))) := Lib.hid (own_take hown (by omega))
      have Hy := Lib.hid hy
      rw [hz] at hcell
      clear hW hy hz hxn hown
      go_enter Tryz.func55, Tryz.ntmps55
      go_wp2
      go_ret
      refine ⟨_, rfl, ⟨?_, hbase⟩, Gr.refl _ _, .inl rfl⟩
      rw [Hy.out, List.length_take, Hxn.out, show min m (m + 1) = m by omega]
      exact Htake.out
    · have hy : thenL xs c = xs ++ [c] := thenL_no (fun h => hz (by have := h.2; rw [hxn] at this; exact this))
      have Hy := Lib.hid hy
      have hne : ((xs.getD m 0 : Nat) : Int) ≠ (inv c : Nat) := by omega
      generalize xs.getD m 0 = x at *
      have hb : ((x : Int) == ((inv c : Nat) : Int)) = false := by simpa using hne
      clear hW hy hz hxn hne
      go_enter Tryz.func55, Tryz.ntmps55
      go_wp2_with (at_builtin; refine wpList_append_lies _ rfl _ _ 44 rfl B 5 i0 (.int .u8 0) 1 1 Tryz.underlying44 hi hz0 hz1 hz2 rfl (by decide) _ (m + 1) (nums .u8 xs) rfl (hown.alloc _) ⟨w.heap.size, 0, none⟩ 1 1 [.int .u8 c] rfl rfl ?c1 ?c2 ?c3 ?c4 ?c5 ?c6 (w.heap.size + 1) (size_new'' _ _) ?_)
      case c1 => exact cell_one_new _ _ _
      case c2 => exact one_cell _ rfl
      case c3 => exact Nat.one_pos
      case c4 => have := Hxn.out; unfold maxLen; omega
      case c5 => have := Hxn.out; omega
      case c6 => simp; omega
      intro gr cr w2 hown2 hgrow2 hat2 hlt2
      go_wp2
      go_ret
      exact wire_appended Hxn.out HW.out Hy.out hown2 hgrow2 hat2

end Go.Proofs.YtkdalgdckgmccaaGreatDoor
