/-
  The walks of dual and of the question that it asks of each set.
-/
import Derived.Test.YtkdalgdckgmccaaGreatDoorSets
namespace Go.Proofs.YtkdalgdckgmccaaGreatDoor
open Go.RowKit Go.Shelf

set_option maxRecDepth 100000 in
set_option maxHeartbeats 2000000 in
theorem dual1_any (gl : Nat) (A : Option Addr) (n c : Nat) (Ss : List (Nat → Bool)) (T : Nat → Bool) (w : World) (hl : Blk w gl 79 #[.slice A n c]) (hS : RowS w A n Ss) (hn1 : n ≤ 1000000) :
    Calls Tryz.prog 69 #[.agg (nailC T), .pointer (some ⟨gl, 0, none⟩)] w fun e w' => e = .returned (.bool (Ss.all fun S => meetN T S)) ∧ Below w.heap.size w w' := by
  have hb0 := Blk.new w 49 (nailC T)
  have hl1 := (hl.more' (.cells (nailC T) 49)).cell 0
  have hbel := below_new' w (.cells (nailC T) 49)
  have HS := Lib.hid hS
  have Hn := Lib.hid hS.1
  clear hS
  go_enter Tryz.func69, Tryz.ntmps69
  go_wp2_with fail
  generalize w.alloc (.cells (nailC T) 49) = W0 at *
  generalize hg : w.heap.size = g at *
  have Hg := Lib.hid hg
  have Hbel := Lib.hid hbel
  clear hg hbel
  go_loopw [8] (fun iv wr => ∃ i : Nat, i ≤ n ∧ iv = .int .i64 i ∧ ((Ss.take i).all fun S => meetN T S) = true ∧ Blk wr g 49 (nailC T) ∧ Below g w wr) (fun iv _ => n - (intOf iv).toNat)
  case atStart => exact ⟨0, Nat.zero_le _, rfl, rfl, hb0, Hbel.out⟩
  case round =>
    obtain ⟨i, hi, rfl, hall, hbT, hbel⟩ := hrel
    have Hall := Lib.hid hall
    clear hall
    by_cases hlt : i < n
    · obtain ⟨b, off, rfl, hrow⟩ := (HS.out.below (w' := wr) (by rw [Hg.out]; exact hbel)).2 (by omega)
      have hrange := hrow.range (i := i) (by have := Hn.out; omega)
      have Htake := Lib.hid (row_take (Ss := Ss) (i := i) (by have := Hn.out; omega))
      have Hmem : Hid (Ss.getD i (fun _ => false) ∈ Ss) := by
        show _ ∈ _
        rw [List.getD_eq_getElem?_getD, List.getElem?_eq_getElem (by have := Hn.out; omega)]
        exact List.getElem_mem _
      have Hno : Hid (meetN T (Ss.getD i fun _ => false) = false → (Ss.all fun S => meetN T S) = false) := by
        show _ → _
        intro h
        rw [List.all_eq_false]
        exact ⟨_, Hmem.out, by rw [h]; decide⟩
      have Hstep : Hid (((Ss.take (i + 1)).all fun S => meetN T S) = meetN T (Ss.getD i fun _ => false)) := by
        show _ = _
        rw [Htake.out, List.all_append, Hall.out]
        simp
      generalize Ss.getD i (fun _ => false) = S at *
      have hlist := nailC_list S
      have hnewE : Blk (wr.alloc (.cells (nailC (fun _ => false)) 49)) wr.heap.size 49 (nailC (fun _ => false)) := Blk.new _ _ _
      rw [zero_agg] at hnewE
      go_upto_region 4 with (first
        | (refine wpList_load_mid rfl 49 _ rfl b (off + i * 26) rfl (nailC S).toList _ hrange Tryz.underlying49 rfl hlist ?_)
        | (refine wpList_plain rfl fun _ hK => wp_store_row 49 _ _ rfl wr.heap.size (nailC S) rfl rfl 49 _ hnewE (nailC_info _) ?h1 (nailC_one _) (hK _ _ ?_)))
      case h1 => rw [nailC_size]; rfl
      rw [World.setRow_alloc_new]
      have hnew := Blk.new wr 49 (nailC S)
      have hgle : g ≤ wr.heap.size := Nat.le_of_lt hbT.lt
      have hbel1 : Below g w (wr.alloc (.cells (nailC S) 49)) := hbel.trans ((below_new' wr _).mono hgle)
      have hbT1 := hbT.more' (.cells (nailC S) 49)
      have hgle1 : g ≤ (wr.alloc (.cells (nailC S) 49)).heap.size := by rw [World.size_alloc]; omega
      generalize hgn : wr.heap.size = gn at *
      generalize wr.alloc (.cells (nailC S) 49) = W1 at *
      clear hnewE hrange hrow hbel hbT hgn
      have Hm := Lib.hid (meets_any T S W1)
      have HbT2 := Lib.hid (fun (V : World) (h : Below W1.heap.size W1 V) => hbT1.below h hbT1.lt)
      have Hbel2 := Lib.hid (fun (V : World) (h : Below W1.heap.size W1 V) => hbel1.trans (h.mono hgle1))
      generalize meetN T S = a at *
      cases a
      · go_wp2_with (first
          | (refine wpList_load_row rfl 49 _ rfl g rfl 49 (nailC T) (0, 0) _ hbT1 Tryz.underlying49 rfl (nailC_info _) ?_)
          | (refine wpList_load_row rfl 49 _ rfl gn rfl 49 (nailC S) (0, 0) _ hnew Tryz.underlying49 rfl (nailC_info _) ?_)
          | (go_at_call 70; refine Hm.out.mono ?_; rintro e w2 ⟨rfl, hb2⟩))
        go_ret
        exact ⟨by rw [Hno.out trivial]; rfl, by rw [Hg.out]; exact Hbel2.out w2 hb2⟩
      · go_wp2_with (first
          | (refine wpList_load_row rfl 49 _ rfl g rfl 49 (nailC T) (0, 0) _ hbT1 Tryz.underlying49 rfl (nailC_info _) ?_)
          | (refine wpList_load_row rfl 49 _ rfl gn rfl 49 (nailC S) (0, 0) _ hnew Tryz.underlying49 rfl (nailC_info _) ?_)
          | (go_at_call 70; refine Hm.out.mono ?_; rintro e w2 ⟨rfl, hb2⟩))
        go_roundw
        case rel => exact ⟨i + 1, by omega, by go_num, Hstep.out, HbT2.out w2 hb2, Hbel2.out w2 hb2⟩
        case measure => simp [intOf]; omega
    · obtain rfl : i = n := by omega
      have hf := Hall.out
      rw [List.take_of_length_le (by have := Hn.out; omega)] at hf
      have Hf := Lib.hid hf
      clear hf
      go_wp2_with fail
      go_ret
      exact ⟨by rw [Hf.out]; rfl, by rw [Hg.out]; exact hbel⟩

/-- The dual's sets, counted in so many steps. -/
def dualL (Ss : List (Nat → Bool)) (N : Nat) : List (Nat → Bool) := leastL (fun T => Ss.all fun S => meetN T S) (subsF (unionN Ss) N fun _ => false)

set_option maxRecDepth 100000 in
set_option maxHeartbeats 2000000 in
theorem dual_any (b off n c N : Nat) (Ss : List (Nat → Bool)) (w : World) (hS : RowS w (some ⟨b, off, none⟩) n Ss) (h0 : 0 < n) (hn1 : n ≤ 1000000) (hN : doneF (unionN Ss) N (fun _ => false) = true) (hNb : N ≤ 1000000) :
    Calls Tryz.prog 50 #[.slice (some ⟨b, off, none⟩) n c] w fun e w' => ∃ v, e = .returned v ∧ OwnSets w.heap.size w' v (dualL Ss N) ∧ Below w.heap.size w w' := by
  have hbl := Blk.new w 79 #[.slice (some ⟨b, off, none⟩) n c]
  have hbel := below_new' w (.cells #[.slice (some ⟨b, off, none⟩) n c] 79)
  have hS1 := hS.below hbel
  have hcl := hbl.cell 0
  obtain ⟨b', off', e, hrow⟩ := hS1.2 h0
  injection e with e
  injection e with e1 e2
  subst e1 e2
  have Hu := Lib.hid (union_any b off c n Ss _ hS1.1 hrow hn1)
  have Hleast : Hid (∀ V, Below (w.alloc (.cells #[.slice (some ⟨b, off, none⟩) n c] 79)).heap.size (w.alloc (.cells #[.slice (some ⟨b, off, none⟩) n c] 79)) V → Calls Tryz.prog 47 #[.agg (nailC (unionN Ss)), .func (.func 69) #[] #[.pointer (some ⟨w.heap.size, 0, none⟩)]] V fun e w' => ∃ v, e = .returned v ∧ OwnSets V.heap.size w' v (dualL Ss N) ∧ Below V.heap.size V w') := by
    show ∀ _, _
    intro V hV
    refine leastSubsets_any (unionN Ss) N 69 #[.pointer (some ⟨w.heap.size, 0, none⟩)] (fun T => Ss.all fun S => meetN T S) V hN hNb (enters_of Tryz.func69 (by kernel_rfl) rfl) ?_
    intro X T hX
    have hVX : Below (w.alloc (.cells #[.slice (some ⟨b, off, none⟩) n c] 79)).heap.size (w.alloc (.cells #[.slice (some ⟨b, off, none⟩) n c] 79)) X := hV.trans (hX.mono hV.size)
    exact dual1_any w.heap.size _ n c Ss T X (hbl.below hVX hbl.lt) (hS1.below hVX) hn1
  clear hS hS1 hrow hN
  go_enter Tryz.func50, Tryz.ntmps50
  go_wp2_with (first
    | (go_at_call 49; refine Hu.out.mono ?_; rintro e w2 ⟨rfl, hb2⟩)
    | (go_at_call 47; refine (Hleast.out w2 hb2).mono ?_; rintro e w3 ⟨v3, rfl, hown3, hb3⟩))
  go_ret
  have h1 := hbel.trans (hb2.mono hbel.size)
  exact ⟨v3, rfl, own_mono hown3 h1.size, h1.trans (hb3.mono h1.size)⟩

end Go.Proofs.YtkdalgdckgmccaaGreatDoor
