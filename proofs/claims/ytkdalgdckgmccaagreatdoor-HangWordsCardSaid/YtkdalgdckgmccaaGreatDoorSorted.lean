/-
  The walk of names: the names of sets in the order of strings.
-/
import Derived.Test.YtkdalgdckgmccaaGreatDoorHas
import Derived.Test.YtkdalgdckgmccaaGreatDoorLeast
import Derived.Test.YtkdalgdckgmccaaGreatDoorShelf
import Derived.Sort.OwnSorted
namespace Go.Proofs.YtkdalgdckgmccaaGreatDoor
open Go.RowKit

/-- The bytes of some letters. -/
def bytesL (l : List Nat) : List UInt8 := l.map UInt8.ofNat
theorem strL_bytes (l : List Nat) : strL l = ⟨(bytesL l).toArray⟩ := by
  unfold strL strOfNums bytesL
  rw [List.map_map]
  congr 2
/-- The names of sets, in the order of strings. -/
def namesB (Ss : List (Nat → Bool)) : List (List UInt8) := (Ss.map fun S => bytesL (nameL S)).mergeSort fun x y => decide (x ≤ y)
theorem namesB_length (Ss : List (Nat → Bool)) : (namesB Ss).length = Ss.length := by unfold namesB; rw [List.length_mergeSort, List.length_map]
/-- A row of strings of its own. -/
def OwnStrs (B : Nat) (w : World) (v : Value) (ss : List (List UInt8)) : Prop := w.ownsRow B 9 1 v ss.length (ss.map encStr)

theorem info_str : (Tryz.prog.info? 9).map (fun i => (i.zero, i.size, i.bytes)) = some (some (.string ⟨#[]⟩), 1, 16) := by kernel_rfl

set_option maxRecDepth 100000 in
set_option maxHeartbeats 2000000 in
theorem names_any (A : Option Addr) (cap n : Nat) (Ss : List (Nat → Bool)) (w : World) (hS : RowS w A n Ss) (hn1 : n ≤ 1000000) :
    Calls Tryz.prog 46 #[.slice A n cap] w fun e w' => ∃ v, e = .returned v ∧ OwnStrs w.heap.size w' v (namesB Ss) ∧ Below w.heap.size w w' := by
  obtain ⟨i0, hi, hz0, hz1, hz2⟩ := info_parts info_str
  have HS := Lib.hid hS
  have Hn := Lib.hid hS.1
  generalize hg : w.heap.size = g at *
  have Hg := Lib.hid hg
  clear hS hg
  go_enter Tryz.func46, Tryz.ntmps46
  go_wp2_with fail
  go_loopw [3, 8] (fun v iv wr => ∃ i : Nat, i ≤ n ∧ iv = .int .i64 i ∧ wr.ownsRow g 9 1 v i (((Ss.take i).map fun S => bytesL (nameL S)).map encStr) ∧ Below g w wr) (fun _ iv _ => n - (intOf iv).toNat)
  case atStart => exact ⟨0, Nat.zero_le _, rfl, ⟨rfl, .inl ⟨rfl, rfl⟩⟩, Below.refl _ _⟩
  case round =>
    obtain ⟨i, hi2, rfl, hown, hbel⟩ := hrel
    by_cases hlt : i < n
    · obtain ⟨b, off, rfl, hrow⟩ := (HS.out.below (w' := wr) (by rw [Hg.out]; exact hbel)).2 (by omega)
      have hrange := hrow.range (i := i) (by have := Hn.out; omega)
      have Htake := Lib.hid (row_take (Ss := Ss) (i := i) (by have := Hn.out; omega))
      generalize Ss.getD i (fun _ => false) = S at *
      have Hsn : Hid (((Ss.take (i + 1)).map fun S => bytesL (nameL S)).map encStr = ((Ss.take i).map fun S => bytesL (nameL S)).map encStr ++ [.string (strL (nameL S))]) := by
        show _ = _
        rw [Htake.out, List.map_append, List.map_append, strL_bytes]; rfl
      generalize ((Ss.take i).map fun S => bytesL (nameL S)).map encStr = xs at *
      have hlist := nailC_list S
      have hnewE : Blk (wr.alloc (.cells (nailC (fun _ => false)) 49)) wr.heap.size 49 (nailC (fun _ => false)) := Blk.new _ _ _
      rw [zero_agg] at hnewE
      go_upto_region 5 with (first
        | (refine wpList_load_mid rfl 49 _ rfl b (off + i * 26) rfl (nailC S).toList _ hrange Tryz.underlying49 rfl hlist ?_)
        | (refine wpList_plain rfl fun _ hK => wp_store_row 49 _ _ rfl wr.heap.size (nailC S) rfl rfl 49 _ hnewE (nailC_info _) ?h1 (nailC_one _) (hK _ _ ?_)))
      case h1 => rw [nailC_size]; rfl
      rw [World.setRow_alloc_new]
      have hnew := Blk.new wr 49 (nailC S)
      have hgle : g ≤ wr.heap.size := by have := hbel.size; have := Hg.out; omega
      have hbel1 : Below g w (wr.alloc (.cells (nailC S) 49)) := hbel.trans ((below_new' wr _).mono hgle)
      have hown1 := hown.alloc (.cells (nailC S) 49)
      have hgle1 : g ≤ (wr.alloc (.cells (nailC S) 49)).heap.size := by rw [World.size_alloc]; omega
      generalize hgn : wr.heap.size = gn at *
      generalize wr.alloc (.cells (nailC S) 49) = W1 at *
      clear hnewE hrange hrow hown hbel hgn
      have Hname := Lib.hid (name_any S W1)
      have Hown1 := Lib.hid (fun (W2 : World) (h : Below W1.heap.size W1 W2) => own_keep hown1 h)
      have Hgle2 := Lib.hid (fun (W2 : World) (h : Below W1.heap.size W1 W2) => Nat.le_trans hgle1 h.size)
      go_wp2_with (first
        | (refine wpList_load_row rfl 49 _ rfl gn rfl 49 (nailC S) (0, 0) _ hnew Tryz.underlying49 rfl (nailC_info S) ?_)
        | (go_at_call 52; refine Hname.out.mono ?_; rintro e w2 ⟨rfl, hb2⟩; have hown2 := Hown1.out w2 hb2)
        | (at_builtin; refine wpList_append_lies _ rfl _ _ 36 rfl g 9 i0 (.string ⟨#[]⟩) 1 16 Tryz.underlying36 hi hz0 hz1 hz2 rfl (by decide) _ i xs rfl (hown2.alloc _) ⟨w2.heap.size, 0, none⟩ 1 1 [.string (strL (nameL S))] rfl rfl ?c1 ?c2 ?c3 ?c4 ?c5 ?c6 (w2.heap.size + 1) (size_new'' _ _) ?_))
      case c1 => exact cell_one_new _ _ _
      case c2 => exact one_cell _ rfl
      case c3 => exact Nat.one_pos
      case c4 => unfold maxLen; omega
      case c5 => omega
      case c6 =>
        rw [World.size_alloc]
        have := Hgle2.out w2 hb2
        omega
      intro gr cr w3 hown3 hgrow3 hat3 hlt3
      have hbel3 : Below g w w3 := (hbel1.trans (hb2.mono hgle1)).trans ((own_below hown2 (Hgle2.out w2 hb2) hgrow3).mono (Nat.le_refl _))
      go_wp2_with fail
      go_roundw
      case rel => exact ⟨i + 1, by omega, by go_num, by rw [Hsn.out]; exact hown3, hbel3⟩
      case measure => simp [intOf]; omega
    · obtain rfl : i = n := by omega
      rw [List.take_of_length_le (by have := Hn.out; omega)] at hown
      have hlen : (Ss.map fun S => bytesL (nameL S)).length = i := by rw [List.length_map, Hn.out]
      have hgle : g ≤ wr.heap.size := by have := hbel.size; have := Hg.out; omega
      rcases Nat.eq_zero_or_pos i with h0 | h0
      · subst h0
        obtain ⟨A3, c3, rfl⟩ := own_slice' hown
        have hS0 : Ss = [] := List.eq_nil_of_length_eq_zero Hn.out
        have Hsort := Lib.hid (Tryz.slices_Sort_string_none A3 c3 wr)
        have Hown := Lib.hid hown
        have Hbel := Lib.hid hbel
        clear hown hbel hlen
        go_wp2_with (go_at_call 64; refine Hsort.out.mono ?_; rintro e w2 ⟨rfl, rfl⟩)
        go_ret
        refine ⟨_, rfl, ?_, Hbel.out⟩
        subst hS0
        rw [show namesB [] = [] from by simp [namesB]]
        exact Hown.out
      · obtain ⟨gr, cr, rfl⟩ := own_pos hown h0
        obtain ⟨_, ⟨e1, _⟩ | ⟨g', cap', cur, e1, hb, hgb, hc, hm, hs, ht⟩⟩ := hown
        · cases e1
        · injection e1 with e1 e2 e3
          injection e1 with e1
          injection e1 with e1
          subst e1 e3
          have hH := holds_of_block (w := wr) (ss := Ss.map fun S => bytesL (nameL S)) hgb (by rw [hlen]; simpa using ht)
          have hsort := Tryz.slices_Sort_string gr 0 cr (Ss.map fun S => bytesL (nameL S)) wr hH (Array.getElem?_eq_some_iff.1 hgb).1 (by rw [hlen]; omega)
          have hsorted := fun q os => ownsRow_sorted (w := wr) (base := g) (g := gr) (cap := cr) (n := q) (os := os) (e := 9) (ss := Ss.map fun S => bytesL (nameL S)) (ts := namesB Ss) (by rw [namesB_length, List.length_map]) hb hgb (by rw [hlen]; exact hc) hm hs
          rw [hlen] at hsort hsorted
          have Hsort := Lib.hid hsort
          have Hsorted := Lib.hid hsorted
          have Hbel := Lib.hid hbel
          have Hgr := Lib.hid (fun q os => grownBy_sorted (w := wr) (g := gr) (n := q) (os := os) (namesB Ss).toArray)
          clear hsort hsorted hbel hlen hH ht
          go_wp2_with (go_at_call 64; refine Hsort.out.mono ?_; rintro e w2 ⟨rfl, q, os, rfl⟩)
          go_ret
          refine ⟨_, rfl, ?_, ?_⟩
          · unfold OwnStrs
            rw [namesB_length, Hn.out]
            exact Hsorted.out q os
          · exact Hbel.out.grown (Hgr.out q os) hgle (fun k e => by injection e with e; omega)

end Go.Proofs.YtkdalgdckgmccaaGreatDoor
