/-
  Sets of nails as the program holds them, ranges over the letters of a word, and the walk of left: what is left of a word without the letters of some nails.
-/
import Derived.Test.YtkdalgdckgmccaaGreatDoorLet
import Derived.Lib.OthersKept
import Derived.Deep.WholeRow
import Derived.Deep.DeepCutAuto
namespace Go.Proofs.YtkdalgdckgmccaaGreatDoor
open Go.RowKit

/-- A set of nails as cells. -/
def nailC (S : Nat → Bool) : Array Value := ((List.range 26).map fun k => Value.bool (S k)).toArray
theorem nailC_size (S : Nat → Bool) : (nailC S).size = 26 := by simp [nailC]
theorem nailC_at (S : Nat → Bool) (k : Nat) (h : k < 26) : (nailC S)[k]? = some (.bool (S k)) := by
  unfold nailC
  rw [List.getElem?_toArray, List.getElem?_map, List.getElem?_range h]
  rfl
theorem info_nails : (Tryz.prog.info? 49).map (·.size) = some 26 := by kernel_rfl
theorem nailC_info (S : Nat → Bool) : (Tryz.prog.info? 49).map (·.size) = some (nailC S).size := by rw [info_nails, nailC_size]
theorem nailC_one (S : Nat → Bool) : (nailC S).all (·.oneCell') = true := by
  rw [Array.all_eq_true_iff_forall_mem]
  intro v hv
  have hv : v ∈ (List.range 26).map fun k => Value.bool (S k) := by simpa [nailC] using hv
  obtain ⟨k, -, rfl⟩ := List.mem_map.1 hv
  rfl
/-- A set with one nail told anew. -/
def setN (S : Nat → Bool) (k : Nat) (b : Bool) : Nat → Bool := fun j => if j = k then b else S j
theorem nailC_set (S : Nat → Bool) (k : Nat) (b : Bool) : (nailC S).setIfInBounds k (.bool b) = nailC (setN S k b) := by
  apply Array.ext
  · simp [nailC]
  · intro i h1 h2
    have hi : i < 26 := by simpa [nailC] using h2
    simp only [Array.getElem_setIfInBounds, nailC, setN]
    by_cases e : k = i
    · subst e; simp
    · simp [e, show ¬ i = k from fun h => e h.symm]
theorem nailC_congr {S T : Nat → Bool} (h : ∀ k, k < 26 → S k = T k) : nailC S = nailC T := by
  unfold nailC
  congr 1
  apply List.map_congr_left
  intro k hk
  rw [h k (List.mem_range.1 hk)]


theorem own_iterAt {w : World} {base : Nat} {e : TypeId} {size : Nat} {v : Value} {n : Nat} {xs : List Value} (h : w.ownsRow base e size v n xs) {k : Nat} (hk : v.ownBlock ≠ some k) (s : ByteArray) (p : Nat) : (w.iterAt k s p).ownsRow base e size v n xs :=
  own_stay h fun g hg => Lib.iterAt_other _ _ _ _ _ (fun e => hk (by rw [hg, e]))
theorem own_mono {w : World} {B B' size n : Nat} {e : TypeId} {v : Value} {xs : List Value} (h : w.ownsRow B e size v n xs) (hB : B' ≤ B) : w.ownsRow B' e size v n xs := by
  obtain ⟨hl, h1 | ⟨g, cap, cur, e1, hb, rest⟩⟩ := h
  · exact ⟨hl, .inl h1⟩
  · exact ⟨hl, .inr ⟨g, cap, cur, e1, by omega, rest⟩⟩
theorem iterPos_of {w : World} {k : Nat} {s : ByteArray} {p : Nat} (h : w.heap[k]? = some (.stringIter s p)) : w.iterPos k = p := by simp [World.iterPos, h]

/-- The next letter of a word. -/
theorem next_letter {P : Program} (w : World) (k : Nat) (s : ByteArray) (pos c : Nat) (ty : TypeId) (hit : w.heap[k]? = some (.stringIter s pos)) (h : pos < s.size) (hc : (lettersOf s).getD pos 0 = c) (ha : c < 128) :
    (Instr.next (.pointer (some ⟨k, 0, none⟩)) true ty).run P w = .ok (.tuple #[.bool true, .int .i64 pos, .int .i32 (c : Nat)]) (w.iterAt k s (pos + 1)) := by
  rw [lettersOf_get s pos h] at hc
  rw [Lib.run_next_any_at w k s pos ty hit h, decode_ascii s pos h (by omega), hc]

/-- What a set keeps. -/
def keep (S : Nat → Bool) (c : Nat) : Bool := !S (nailN c)
/-- What is left of a word. -/
def leftL (S : Nat → Bool) (l : List Nat) : List Nat := redL (l.filter (keep S))
theorem keep_inv (S : Nat → Bool) (c : Nat) (h : Lt c) : keep S (inv c) = keep S c := by unfold keep; rw [nail_inv h]
theorem leftL_take {S : Nat → Bool} {l : List Nat} {k : Nat} (h : k < l.length) : leftL S (l.take (k + 1)) = if keep S (l.getD k 0) = true then thenL (leftL S (l.take k)) (l.getD k 0) else leftL S (l.take k) := by
  rw [take_snoc l k h]
  unfold leftL
  rw [List.filter_append]
  by_cases hk : keep S (l.getD k 0) = true
  · rw [if_pos hk, List.filter_cons_of_pos hk, List.filter_nil, redL_eq, redL_eq, List.foldl_append]; rfl
  · rw [if_neg hk, List.filter_cons_of_neg hk, List.filter_nil, List.append_nil]
theorem leftL_length (S : Nat → Bool) (l : List Nat) : (leftL S l).length ≤ l.length := Nat.le_trans (redL_length _) (List.length_filter_le ..)

theorem own_made (w : World) (e : TypeId) (cs : Array Value) (h : cs.size ≤ maxLen) : (w.alloc (.cells cs e)).ownsRow w.heap.size e 1 (.slice (some ⟨w.heap.size, 0, none⟩) 0 cs.size) 0 [] :=
  ⟨rfl, .inr ⟨w.heap.size, cs.size, cs, rfl, Nat.le_refl _, heap_alloc_new w _, Nat.zero_le _, h, by simp, by simp⟩⟩

/-- What left returns. -/
def RetWire (l : List Nat) (w : World) (e : Ending) (w' : World) : Prop := ∃ v, e = .returned v ∧ Wire w.heap.size l w' v ∧ Below w.heap.size w w'

set_option maxRecDepth 100000 in
set_option maxHeartbeats 1000000 in
theorem left_any (s : ByteArray) (S : Nat → Bool) (w : World) (hword : IsWord (lettersOf s)) (hsz : s.size ≤ 1000000) :
    Calls Tryz.prog 32 #[.string s, .agg (nailC S)] w (RetWire (leftL S (lettersOf s)) w) := by
  obtain ⟨i0, hi, hz0, hz1, hz2⟩ := info_parts info_u8
  have hlen := lettersOf_length s
  have Hword := Lib.hid hword
  clear hword
  have hb0 := (Blk.new w 49 (nailC S))
  have hmk := run_make (P := Tryz.prog) (w.alloc (.cells (nailC S) 49)) 44 5 i0 (.int .u8 0) Tryz.underlying44 hi hz0 .i64 .i64 0 (s.size : Nat) (by omega) (by omega) (by rw [hz2]; omega) (by omega)
  rw [hz1, Nat.mul_one, Int.toNat_natCast, show (0 : Int).toNat = 0 from rfl, show madeCells (Value.int .u8 0).cells s.size = cellsOf .u8 (List.replicate s.size 0) from cellsOf_made .u8 s.size] at hmk
  have hown0 := own_made (w.alloc (.cells (nailC S) 49)) 5 (cellsOf .u8 (List.replicate s.size 0)) (by simp [cellsOf, maxLen]; omega)
  rw [show (cellsOf .u8 (List.replicate s.size 0)).size = s.size by simp [cellsOf]] at hown0
  have hbel0 : Below w.heap.size w ((w.alloc (.cells (nailC S) 49)).alloc (.cells (cellsOf .u8 (List.replicate s.size 0)) 5)) := ((Below.refl _ w).alloc (Nat.le_refl _) _).alloc (by simp) _
  have hb1 := hb0.more' (.cells (cellsOf .u8 (List.replicate s.size 0)) 5)
  generalize cellsOf .u8 (List.replicate s.size 0) = Z at *
  go_enter Tryz.func32, Tryz.ntmps32
  go_upto_region 2 with fail
  have hs0 : ((w.alloc (.cells (nailC S) 49)).alloc (.cells Z 5)).heap.size = w.heap.size + 2 := by simp
  simp only [World.size_alloc] at hown0
  generalize (w.alloc (.cells (nailC S) 49)).alloc (.cells Z 5) = W0 at *
  have hit0 : (W0.iter s 0).heap[w.heap.size + 2]? = some (.stringIter s 0) := by rw [← hs0]; exact World.iter_heap W0 s 0
  have hown1 : (W0.iter s 0).ownsRow (w.heap.size + 1) 5 1 (.slice (some ⟨w.heap.size + 1, 0, none⟩) 0 s.size) 0 (nums .u8 []) := hown0.alloc _
  have hbel1 : Below w.heap.size w (W0.iter s 0) := hbel0.trans ((below_new' W0 (.stringIter s 0)).mono hbel0.size)
  have hb2 : Blk (W0.iter s 0) w.heap.size 49 (nailC S) := hb1.more' _
  have hsz1 : w.heap.size + 3 ≤ (W0.iter s 0).heap.size := by
    have := World.size_alloc W0 (.stringIter s 0)
    show w.heap.size + 3 ≤ (W0.alloc (.stringIter s 0)).heap.size
    omega
  generalize hg : w.heap.size = g at *
  have Hg := Lib.hid hg
  have Hl := Lib.hid hlen
  clear hg hmk hown0 hbel0 hb0 hb1 hlen
  go_wp2_with fail
  generalize W0.iter s 0 = W1 at *
  clear hs0
  go_loopw [5] (fun v wr => ∃ pos : Nat, pos ≤ s.size ∧ wr.heap[g + 2]? = some (.stringIter s pos) ∧ Wire (g + 1) (leftL S ((lettersOf s).take pos)) wr v ∧ v.ownBlock ≠ some (g + 2) ∧ Blk wr g 49 (nailC S) ∧ Below g w wr) (fun _ wr => s.size - wr.iterPos (g + 2))
  case atStart => exact ⟨0, Nat.zero_le _, hit0, ⟨hown1, by omega⟩, by simp [Value.ownBlock], hb2, hbel1⟩
  case round =>
    obtain ⟨pos, hpos, hit, hW, hne, hblk, hbel⟩ := hrel
    have hpos0 := iterPos_of hit
    by_cases hp : pos < s.size
    · obtain ⟨c, hc⟩ : ∃ c, (lettersOf s).getD pos 0 = c := ⟨_, rfl⟩
      have hlt : Lt c := by
        rw [← hc, List.getD_eq_getElem?_getD, List.getElem?_eq_getElem (by have := Hl.out; omega)]
        exact Hword.out _ (List.getElem_mem _)
      have hnx : ∀ ty, (Instr.next (.pointer (some ⟨g + 2, 0, none⟩)) true ty).run Tryz.prog wr = _ := fun ty => next_letter wr (g + 2) s pos c ty hit hp hc (by have := hlt.lt; omega)
      have hit2 := Lib.iterAt_heap wr (g + 2) s pos (pos + 1) hit
      have hbel2 := Lib.below_iterAt hbel (k := g + 2) (by omega) s (pos + 1)
      have hown2 := own_iterAt hW.own hne s (pos + 1)
      have hblk2 : Blk (wr.iterAt (g + 2) s (pos + 1)) g 49 (nailC S) := (Lib.iterAt_other _ _ _ _ _ (by omega)).trans hblk
      have hsz2 : g + 1 ≤ (wr.iterAt (g + 2) s (pos + 1)).heap.size := by rw [Lib.iterAt_size]; exact hW.base
      obtain ⟨W2, hW2⟩ : ∃ W2, W2 = wr.iterAt (g + 2) s (pos + 1) := ⟨_, rfl⟩
      rw [← hW2] at hnx hit2 hbel2 hown2 hblk2 hsz2
      have hcell := (hblk2.cell (nailN c)).trans (nailC_at S _ (nail_lt hlt))
      have Hnext := Lib.hid (leftL_take (S := S) (l := lettersOf s) (k := pos) (by have := Hl.out; omega))
      rw [hc] at Hnext
      have hlen2 : (leftL S ((lettersOf s).take pos)).length ≤ 1000000000000 := by
        have h1 := leftL_length S ((lettersOf s).take pos)
        rw [List.length_take] at h1
        omega
      have Hthen := Lib.hid (then_any (g + 1) c _ u5 W2 ⟨hown2, hsz2⟩ hlt hlen2)
      have Hnail := Lib.hid (nailOf_any c hlt W2)
      have Hlt := Lib.hid hlt
      have hc123 : c < 123 := hlt.lt
      have hn26 : nailN c < 26 := nail_lt hlt
      have HW2 := Lib.hid (show Wire (g + 1) (leftL S ((lettersOf s).take pos)) W2 u5 from ⟨hown2, hsz2⟩)
      clear hW2 hit hW hblk hbel hc hlt hlen2 hown2
      have hkp : keep S c = !S (nailN c) := rfl
      rw [hkp] at Hnext
      clear hkp
      generalize S (nailN c) = b at *
      cases b
      · go_wp2_with (first
          | (go_at_call 33; refine Hnail.out.mono ?_; rintro e w3 ⟨rfl, rfl⟩)
          | (go_at_call 55; refine Hthen.out.mono ?_; rintro e w3 ⟨v3, rfl, hW3, hgr3, hat3⟩))
        have hw2lt := (Array.getElem?_eq_some_iff.1 hit2).1
        have hit3 : w3.heap[g + 2]? = some (.stringIter s (pos + 1)) := (hgr3.block _ hw2lt (fun e => hne e.symm)).trans hit2
        have hblk3 : Blk w3 g 49 (nailC S) := (hgr3.block g hblk2.lt (fun e => by have := (HW2.out.own.lt g e.symm).1; omega)).trans hblk2
        have hbel3 : Below g w w3 := hbel2.trans (hgr3.below (fun k e => by have := (HW2.out.own.lt k e).1; omega) (by omega))
        go_roundw
        case rel => exact ⟨pos + 1, by omega, hit3, by rw [Hnext.out]; exact hW3, (by rcases hat3 with h | ⟨g', h, hge⟩ <;> rw [h] <;> first | exact hne | (intro e; injection e; omega)), hblk3, hbel3⟩
        case measure => rw [iterPos_of hit3, hpos0]; omega
      · go_wp2_with (first
          | (go_at_call 33; refine Hnail.out.mono ?_; rintro e w3 ⟨rfl, rfl⟩))
        go_roundw
        case rel => exact ⟨pos + 1, by omega, hit2, by rw [Hnext.out]; exact HW2.out, hne, hblk2, hbel2⟩
        case measure => rw [iterPos_of hit2, hpos0]; omega
    · have hnx : ∀ ty, (Instr.next (.pointer (some ⟨g + 2, 0, none⟩)) true ty).run Tryz.prog wr = _ := fun ty => Lib.run_next_end_at wr (g + 2) s pos ty hit hp
      have he : (lettersOf s).take pos = lettersOf s := List.take_of_length_le (by have := Hl.out; omega)
      rw [he] at hW
      go_wp2
      go_ret
      unfold RetWire
      rw [Hg.out]
      exact ⟨u5, rfl, ⟨own_mono hW.own (by omega), by have := hW.base; omega⟩, hbel⟩

end Go.Proofs.YtkdalgdckgmccaaGreatDoor
