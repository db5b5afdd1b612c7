/-
  The walks of the nails of a word, and of the set that a string names.
-/
import Derived.Test.YtkdalgdckgmccaaGreatDoorNames
namespace Go.Proofs.YtkdalgdckgmccaaGreatDoor
open Go.RowKit

/-- The nails of some letters. -/
def nailsL (l : List Nat) : Nat → Bool := fun k => l.any fun c => decide (nailN c = k)
theorem nailsL_nil : nailsL [] = fun _ => false := rfl
theorem nailsL_snoc (l : List Nat) (c : Nat) : nailsL (l ++ [c]) = setN (nailsL l) (nailN c) true := by
  funext k
  unfold nailsL setN
  rw [List.any_append]
  by_cases h : k = nailN c
  · subst h; simp
  · rw [if_neg h]
    simp [show ¬ nailN c = k from fun e => h e.symm]

/-- The end of a function whose result is a set in a cell: the set is read from block a and stored into block b. -/
theorem set_hbel {w W0 wr : World} {g a b : Nat} {cs : Array Value} (h0 : Below g w W0) (h1 : Only a W0 wr) (ha : g ≤ a) (hb : g ≤ b) : Below g w (wr.setRow b cs) :=
  (h0.trans (h1.below ha)).trans ((only_setRow _ b _).below hb)

set_option maxRecDepth 100000 in
set_option maxHeartbeats 1000000 in
theorem nailsOf_any (s : ByteArray) (w : World) (hword : IsWord (lettersOf s)) :
    Calls Tryz.prog 44 #[.string s] w fun e w' => e = .returned (.agg (nailC (nailsL (lettersOf s)))) ∧ Below w.heap.size w w' := by
  have hlen := lettersOf_length s
  have hb0 := ((Blk.new w 49 (nailC (fun _ => false))).more' (.cells (nailC (fun _ => false)) 49)).more' (.stringIter s 0)
  have hb1 := (Blk.new (w.alloc (.cells (nailC (fun _ => false)) 49)) 49 (nailC (fun _ => false))).more' (.stringIter s 0)
  simp only [World.size_alloc] at hb1
  have hbel : Below w.heap.size w (((w.alloc (.cells (nailC (fun _ => false)) 49)).alloc (.cells (nailC (fun _ => false)) 49)).alloc (.stringIter s 0)) := (((Below.refl _ w).alloc (Nat.le_refl _) _).alloc (by simp) _).alloc (by simp; omega) _
  have hit0 : (((w.alloc (.cells (nailC (fun _ => false)) 49)).alloc (.cells (nailC (fun _ => false)) 49)).alloc (.stringIter s 0)).heap[w.heap.size + 2]? = some (.stringIter s 0) := by
    have := World.iter_heap ((w.alloc (.cells (nailC (fun _ => false)) 49)).alloc (.cells (nailC (fun _ => false)) 49)) s 0
    simp only [World.size_alloc] at this
    exact this
  have Hword := Lib.hid hword
  have Hl := Lib.hid hlen
  clear hword hlen
  go_enter Tryz.func44, Tryz.ntmps44
  go_upto_region 2 with fail
  rw [← zero_agg]
  go_wp2_with fail
  rw [show ((w.alloc (.cells (nailC (fun _ => false)) 49)).alloc (.cells (nailC (fun _ => false)) 49)).iter s 0 = ((w.alloc (.cells (nailC (fun _ => false)) 49)).alloc (.cells (nailC (fun _ => false)) 49)).alloc (.stringIter s 0) from rfl]
  generalize ((w.alloc (.cells (nailC (fun _ => false)) 49)).alloc (.cells (nailC (fun _ => false)) 49)).alloc (.stringIter s 0) = W0 at *
  generalize hg : w.heap.size = g at *
  have Hg := Lib.hid hg
  have Hbel := Lib.hid hbel
  clear hg hbel
  go_loopw [5] (fun _ wr => ∃ pos : Nat, pos ≤ s.size ∧ wr.heap[g + 1 + 1]? = some (.stringIter s pos) ∧ Blk wr (g + 1) 49 (nailC (nailsL ((lettersOf s).take pos))) ∧ Blk wr g 49 (nailC (fun _ => false)) ∧ Below g w wr) (fun _ wr => s.size - wr.iterPos (g + 1 + 1))
  case atStart => exact ⟨0, Nat.zero_le _, hit0, hb1, hb0, Hbel.out⟩
  case round =>
    obtain ⟨pos, hpos, hit, hblk, hblk0, hbel⟩ := hrel
    have hpos0 := iterPos_of hit
    by_cases hp : pos < s.size
    · obtain ⟨c, hc⟩ : ∃ c, (lettersOf s).getD pos 0 = c := ⟨_, rfl⟩
      have hlt : Lt c := by
        rw [← hc, List.getD_eq_getElem?_getD, List.getElem?_eq_getElem (by have := Hl.out; omega)]
        exact Hword.out _ (List.getElem_mem _)
      have hnx : ∀ ty, (Instr.next (.pointer (some ⟨g + 1 + 1, 0, none⟩)) true ty).run Tryz.prog wr = _ := fun ty => next_letter wr (g + 1 + 1) s pos c ty hit hp hc (by have := hlt.lt; omega)
      have hit2 := Lib.iterAt_heap wr (g + 1 + 1) s pos (pos + 1) hit
      have hbel2 := Lib.below_iterAt hbel (k := g + 1 + 1) (by omega) s (pos + 1)
      have hblk2 : Blk (wr.iterAt (g + 1 + 1) s (pos + 1)) (g + 1) 49 (nailC (nailsL ((lettersOf s).take pos))) := (Lib.iterAt_other _ _ _ _ _ (by omega)).trans hblk
      have hblk3 : Blk (wr.iterAt (g + 1 + 1) s (pos + 1)) g 49 (nailC (fun _ => false)) := (Lib.iterAt_other _ _ _ _ _ (by omega)).trans hblk0
      obtain ⟨W2, hW2⟩ : ∃ W2, W2 = wr.iterAt (g + 1 + 1) s (pos + 1) := ⟨_, rfl⟩
      rw [← hW2] at hnx hit2 hbel2 hblk2 hblk3
      have hcell := (hblk2.cell (nailN c)).trans (nailC_at _ _ (nail_lt hlt))
      have hfree := hblk2.free (nailN c)
      have Hput : Hid (Blk (W2.setCell ⟨g + 1, nailN c, none⟩ (.bool true)) (g + 1) 49 (nailC (nailsL ((lettersOf s).take (pos + 1))))) := by
        show Blk _ _ _ _
        rw [take_snoc _ pos (by have := Hl.out; omega), hc, nailsL_snoc]
        exact hblk2.putN _ _
      have Hnail := Lib.hid (nailOf_any c hlt W2)
      have hn26 : nailN c < 26 := nail_lt hlt
      have Hblk3 := Lib.hid (hblk3.store (nailN c) (.bool true))
      have Hother : Hid (Blk (W2.setCell ⟨g + 1, nailN c, none⟩ (.bool true)) g 49 (nailC (fun _ => false))) := (Below.heap_setCell W2 ⟨g + 1, nailN c, none⟩ (.bool true) g (by simp)).trans hblk3
      have Hit3 : Hid ((W2.setCell ⟨g + 1, nailN c, none⟩ (.bool true)).heap[g + 1 + 1]? = some (.stringIter s (pos + 1))) := (Below.heap_setCell W2 ⟨g + 1, nailN c, none⟩ (.bool true) (g + 1 + 1) (by simp)).trans hit2
      have Hbel3 := Lib.hid (hbel2.setCell (p := ⟨g + 1, nailN c, none⟩) (by simp) (.bool true))
      generalize nailsL ((lettersOf s).take pos) (nailN c) = old at hcell
      clear hW2 hit hblk hblk0 hbel hc hlt hblk2 hblk3 hbel2
      go_wp2_with (first
        | (go_at_call 33; refine Hnail.out.mono ?_; rintro e w3 ⟨rfl, rfl⟩))
      go_roundw
      case rel => exact ⟨pos + 1, by omega, Hit3.out, Hput.out, Hother.out, Hbel3.out⟩
      case measure => rw [iterPos_of Hit3.out, hpos0]; omega
    · have hnx : ∀ ty, (Instr.next (.pointer (some ⟨g + 1 + 1, 0, none⟩)) true ty).run Tryz.prog wr = _ := fun ty => Lib.run_next_end_at wr (g + 1 + 1) s pos ty hit hp
      have he : (lettersOf s).take pos = lettersOf s := List.take_of_length_le (by have := Hl.out; omega)
      rw [he] at hblk
      have Hset := Lib.hid (setRow_heap _ g _ (nailC (nailsL (lettersOf s))) 49 (0, 0) hblk0)
      have HbelE : Hid (Below w.heap.size w (wr.setRow g (nailC (nailsL (lettersOf s))))) := by
        show Below _ _ _
        rw [Hg.out]
        exact hbel.trans ((only_setRow _ g _).below (Nat.le_refl _))
      clear hbel he
      go_wp2_with (first
        | (refine wpList_load_row rfl 49 _ rfl (g + 1) rfl 49 (nailC (nailsL (lettersOf s))) (0, 0) _ hblk Tryz.underlying49 rfl (nailC_info _) ?_)
        | (refine wpList_plain rfl fun _ hK => wp_store_row 49 _ _ rfl g (nailC (nailsL (lettersOf s))) rfl rfl 49 (nailC (fun _ => false)) hblk0 (nailC_info _) ?h1 (nailC_one _) (hK _ _ ?_)))
      case h1 => rw [nailC_size, nailC_size]
      exact bodyPost_ret (v := .agg (nailC (nailsL (lettersOf s)))) (results_cell_row rfl _ _ g 49 _ (0, 0) _ rfl Hset.out Tryz.underlying49 rfl (nailC_info _)) rfl ⟨rfl, HbelE.out⟩

/-- Whether letters are small ones, rising, all behind one. -/
def risingB (last : Nat) : List Nat → Bool
  | [] => true
  | c :: r => decide (97 ≤ c) && decide (c ≤ 122) && decide (last < c) && risingB c r
theorem rising_drop {last : Nat} {l : List Nat} {k : Nat} (h : k < l.length) : risingB last (l.drop k) = (decide (97 ≤ l.getD k 0) && decide (l.getD k 0 ≤ 122) && decide (last < l.getD k 0) && risingB (l.getD k 0) (l.drop (k + 1))) := by
  rw [List.drop_eq_getElem_cons h, List.getD_eq_getElem?_getD, List.getElem?_eq_getElem h]
  rfl
/-- The set that is named, if one is. -/
def setOf (l : List Nat) : Nat → Bool := if risingB 0 l = true then nailsL l else fun _ => false

theorem results_cell_row_tmp {P : Program} {fn : Func} {p u : Tmp} {ty : TypeId} (h : fn.results = #[.cell p ty, .tmp u]) (tmps : Array Value) (w : World) (g : Nat) (t : TypeId) (cs : Array Value) (fr : Nat × Nat) (d : TypeDesc)
    (x : Value) (hp : tmps.getD p undef = .pointer (some ⟨g, 0, none⟩)) (hq : tmps.getD u undef = x) (hg : w.heap[g]? = some (.cells cs t fr))
    (hu : P.underlying ty = some d) (hd : (match d with | .struct _ | .array _ _ => true | _ => false) = true) (hi : (P.info? ty).map (·.size) = some cs.size) :
    (results fn tmps).run P w = .ok (.tuple #[.agg cs, x]) w := by
  rw [results_cell_tmp h, hp, hq]
  simp [asAddr, run_loadVar_row w g t ty cs fr d hg hu hd hi]

/-- The next rune of a string. -/
theorem next_rune {P : Program} (w : World) (k : Nat) (s : ByteArray) (pos : Nat) (ty : TypeId) (hit : w.heap[k]? = some (.stringIter s pos)) (h : pos < s.size) :
    ∃ r n, (Instr.next (.pointer (some ⟨k, 0, none⟩)) true ty).run P w = .ok (.tuple #[.bool true, .int .i64 pos, .int .i32 (r : Nat)]) (w.iterAt k s (pos + n)) ∧ 1 ≤ n ∧ r ≤ 2147483647 ∧
      (((lettersOf s).getD pos 0 < 128 ∧ r = (lettersOf s).getD pos 0 ∧ n = 1) ∨ (128 ≤ (lettersOf s).getD pos 0 ∧ 128 ≤ r)) := by
  refine ⟨(Utf8.decode s pos).1, (Utf8.decode s pos).2, Lib.run_next_any_at w k s pos ty hit h, ?_, decode_le s pos, ?_⟩
  · by_cases ha : (s[pos]'h).toNat < 128
    · rw [decode_ascii s pos h ha]; exact Nat.le_refl _
    · exact (decode_high s pos h (by omega)).2
  · rw [lettersOf_get s pos h]
    by_cases ha : (s[pos]'h).toNat < 128
    · rw [decode_ascii s pos h ha]; exact .inl ⟨ha, rfl, rfl⟩
    · exact .inr ⟨by omega, (decode_high s pos h (by omega)).1⟩

/-- What parseNails returns. -/
def RetParse (l : List Nat) (w : World) (e : Ending) (w' : World) : Prop := e = .returned (.tuple #[.agg (nailC (setOf l)), .bool (risingB 0 l)]) ∧ Below w.heap.size w w'

set_option maxRecDepth 100000 in
set_option maxHeartbeats 1000000 in
theorem parseNails_any (s : ByteArray) (w : World) (hsz : s.size ≤ 9223372036854775807) :
    Calls Tryz.prog 22 #[.string s] w (RetParse (lettersOf s) w) := by
  have hlen := lettersOf_length s
  have hb0 := ((Blk.new w 49 (nailC (fun _ => false))).more' (.cells (nailC (fun _ => false)) 49)).more' (.stringIter s 0)
  have hb1 := (Blk.new (w.alloc (.cells (nailC (fun _ => false)) 49)) 49 (nailC (fun _ => false))).more' (.stringIter s 0)
  simp only [World.size_alloc] at hb1
  have hbel : Below w.heap.size w (((w.alloc (.cells (nailC (fun _ => false)) 49)).alloc (.cells (nailC (fun _ => false)) 49)).alloc (.stringIter s 0)) := (((Below.refl _ w).alloc (Nat.le_refl _) _).alloc (by simp) _).alloc (by simp; omega) _
  have hit0 : (((w.alloc (.cells (nailC (fun _ => false)) 49)).alloc (.cells (nailC (fun _ => false)) 49)).alloc (.stringIter s 0)).heap[w.heap.size + 2]? = some (.stringIter s 0) := by
    have := World.iter_heap ((w.alloc (.cells (nailC (fun _ => false)) 49)).alloc (.cells (nailC (fun _ => false)) 49)) s 0
    simp only [World.size_alloc] at this
    exact this
  have Hl := Lib.hid hlen
  clear hlen
  go_enter Tryz.func22, Tryz.ntmps22
  go_upto_region 3 with fail
  rw [← zero_agg]
  go_wp2_with fail
  rw [show ((w.alloc (.cells (nailC (fun _ => false)) 49)).alloc (.cells (nailC (fun _ => false)) 49)).iter s 0 = ((w.alloc (.cells (nailC (fun _ => false)) 49)).alloc (.cells (nailC (fun _ => false)) 49)).alloc (.stringIter s 0) from rfl]
  generalize ((w.alloc (.cells (nailC (fun _ => false)) 49)).alloc (.cells (nailC (fun _ => false)) 49)).alloc (.stringIter s 0) = W0 at *
  generalize hg : w.heap.size = g at *
  have Hg := Lib.hid hg
  have Hbel := Lib.hid hbel
  clear hg hbel
  go_loopw [5, 7] (fun v _ wr => ∃ pos last : Nat, pos ≤ s.size ∧ last ≤ 122 ∧ v = .int .i32 last ∧ risingB 0 (lettersOf s) = risingB last ((lettersOf s).drop pos) ∧ wr.heap[g + 1 + 1]? = some (.stringIter s pos) ∧ Blk wr (g + 1) 49 (nailC (nailsL ((lettersOf s).take pos))) ∧ Blk wr g 49 (nailC (fun _ => false)) ∧ Below g w wr) (fun _ _ wr => s.size - wr.iterPos (g + 1 + 1))
  case atStart => exact ⟨0, 0, Nat.zero_le _, Nat.zero_le _, rfl, rfl, hit0, hb1, hb0, Hbel.out⟩
  case round =>
    obtain ⟨pos, last, hpos, hlast, rfl, hris, hit, hblk, hblk0, hbel⟩ := hrel
    have hpos0 := iterPos_of hit
    have Hris := Lib.hid hris
    clear hris
    by_cases hp : pos < s.size
    · obtain ⟨r, nn, hnx', hnn, hr2, hcase⟩ := next_rune (P := Tryz.prog) wr (g + 1 + 1) s pos 0 hit hp
      have hnx : ∀ ty, (Instr.next (.pointer (some ⟨g + 1 + 1, 0, none⟩)) true ty).run Tryz.prog wr = _ := fun ty => by
        have e : (Instr.next (.pointer (some ⟨g + 1 + 1, 0, none⟩)) true ty) = (Instr.next (.pointer (some ⟨g + 1 + 1, 0, none⟩)) true 0) := rfl
        rw [e, hnx']
      have hit2 := Lib.iterAt_heap wr (g + 1 + 1) s pos (pos + nn) hit
      have hbel2 := Lib.below_iterAt hbel (k := g + 1 + 1) (by omega) s (pos + nn)
      have hblk2 : Blk (wr.iterAt (g + 1 + 1) s (pos + nn)) (g + 1) 49 (nailC (nailsL ((lettersOf s).take pos))) := (Lib.iterAt_other _ _ _ _ _ (by omega)).trans hblk
      have hblk3 : Blk (wr.iterAt (g + 1 + 1) s (pos + nn)) g 49 (nailC (fun _ => false)) := (Lib.iterAt_other _ _ _ _ _ (by omega)).trans hblk0
      obtain ⟨W2, hW2⟩ : ∃ W2, W2 = wr.iterAt (g + 1 + 1) s (pos + nn) := ⟨_, rfl⟩
      rw [← hW2] at hnx hit2 hbel2 hblk2 hblk3
      have hdr := rising_drop (last := last) (l := lettersOf s) (k := pos) (by have := Hl.out; omega)
      have Hnail := Lib.hid (isNail_any r W2)
      clear hW2 hnx' hit hblk hblk0 hbel
      by_cases hn : 97 ≤ r ∧ r ≤ 122
      · obtain ⟨hc, hr, rfl⟩ : (lettersOf s).getD pos 0 < 128 ∧ r = (lettersOf s).getD pos 0 ∧ nn = 1 := by
          rcases hcase with h | h
          · exact h
          · omega
        have e1 : (decide (97 ≤ r) && decide (r ≤ 122)) = true := by simp [hn.1, hn.2]
        rw [e1] at Hnail
        have hLt : Lt r := by unfold Lt; omega
        have Htake := Lib.hid (take_snoc (lettersOf s) pos (by have := Hl.out; omega))
        rw [← hr] at hdr Htake
        have hn1 := hn.1
        have hn2 := hn.2
        by_cases hlr : last < r
        · have Hgood : Hid (risingB 0 (lettersOf s) = risingB r ((lettersOf s).drop (pos + 1))) := by
            show _ = _
            rw [Hris.out, hdr]
            simp [hn1, hn2, hlr]
          have hcell := (hblk2.cell (nailN r)).trans (nailC_at _ _ (nail_lt hLt))
          have hfree := hblk2.free (nailN r)
          have Hput : Hid (Blk (W2.setCell ⟨g + 1, nailN r, none⟩ (.bool true)) (g + 1) 49 (nailC (nailsL ((lettersOf s).take (pos + 1))))) := by
            show Blk _ _ _ _
            rw [Htake.out, nailsL_snoc]
            exact hblk2.putN _ _
          have Hno := Lib.hid (nailOf_any r hLt W2)
          have hn26 : nailN r < 26 := nail_lt hLt
          have Hother : Hid (Blk (W2.setCell ⟨g + 1, nailN r, none⟩ (.bool true)) g 49 (nailC (fun _ => false))) := (Below.heap_setCell W2 ⟨g + 1, nailN r, none⟩ (.bool true) g (by simp)).trans hblk3
          have Hit3 : Hid ((W2.setCell ⟨g + 1, nailN r, none⟩ (.bool true)).heap[g + 1 + 1]? = some (.stringIter s (pos + 1))) := (Below.heap_setCell W2 ⟨g + 1, nailN r, none⟩ (.bool true) (g + 1 + 1) (by simp)).trans hit2
          have Hbel3 := Lib.hid (hbel2.setCell (p := ⟨g + 1, nailN r, none⟩) (by simp) (.bool true))
          generalize nailsL ((lettersOf s).take pos) (nailN r) = old at hcell
          clear hblk2 hblk3 hbel2 hdr hr hcase e1 hLt hc hn
          go_wp2_with (first
            | (go_at_call 19; refine Hnail.out.mono ?_; rintro e w3 ⟨rfl, rfl⟩)
            | (go_at_call 33; refine Hno.out.mono ?_; rintro e w3 ⟨rfl, rfl⟩))
          go_roundw
          case rel => exact ⟨pos + 1, r, by omega, by omega, rfl, Hgood.out, Hit3.out, Hput.out, Hother.out, Hbel3.out⟩
          case measure => rw [iterPos_of Hit3.out, hpos0]; omega
        · have Hbad : Hid (risingB 0 (lettersOf s) = false) := by
            show _ = _
            rw [Hris.out, hdr]
            simp [hlr]
          clear hdr hr hcase e1 hLt hc hn
          have hblkE := hblk3
          have Hset := Lib.hid (setRow_heap _ g _ (nailC (fun _ => false)) 49 (0, 0) hblkE)
          have HbelE : Hid (Below w.heap.size w (W2.setRow g (nailC (fun _ => false)))) := by
            show Below _ _ _
            rw [Hg.out]
            exact hbel2.trans ((only_setRow _ g _).below (Nat.le_refl _))
          have Hret : Hid (nailC (setOf (lettersOf s)) = nailC (fun _ => false)) := by
            show _ = _
            unfold setOf
            rw [if_neg (by rw [Hbad.out]; decide)]
          clear hbel2 hblk3 hblk2 hit2
          go_wp2_with (first
            | (go_at_call 19; refine Hnail.out.mono ?_; rintro e w3 ⟨rfl, rfl⟩)
            | (refine wpList_plain rfl fun _ hK => wp_store_row 49 _ _ rfl g (nailC (fun _ => false)) rfl rfl 49 (nailC (fun _ => false)) hblkE (nailC_info _) rfl (nailC_one _) (hK _ _ ?_)))
          exact bodyPost_ret (v := .tuple #[.agg (nailC (fun _ => false)), .bool false]) (results_cell_row_tmp rfl _ _ g 49 _ (0, 0) _ _ rfl rfl Hset.out Tryz.underlying49 rfl (nailC_info _)) rfl ⟨by rw [Hret.out, Hbad.out], HbelE.out⟩
      · have e1 : (decide (97 ≤ r) && decide (r ≤ 122)) = false := by
          rw [Bool.and_eq_false_iff, decide_eq_false_iff_not, decide_eq_false_iff_not]; omega
        rw [e1] at Hnail
        have Hbad : Hid (risingB 0 (lettersOf s) = false) := by
          show _ = _
          rw [Hris.out, hdr]
          have : (decide (97 ≤ (lettersOf s).getD pos 0) && decide ((lettersOf s).getD pos 0 ≤ 122)) = false := by
            rw [Bool.and_eq_false_iff, decide_eq_false_iff_not, decide_eq_false_iff_not]
            rcases hcase with ⟨_, h, _⟩ | ⟨h, _⟩
            · rw [← h]; omega
            · omega
          rw [this]
          simp
        clear hdr hcase e1 hn
        have hblkE := hblk3
        have Hset := Lib.hid (setRow_heap _ g _ (nailC (fun _ => false)) 49 (0, 0) hblkE)
        have HbelE : Hid (Below w.heap.size w (W2.setRow g (nailC (fun _ => false)))) := by
          show Below _ _ _
          rw [Hg.out]
          exact hbel2.trans ((only_setRow _ g _).below (Nat.le_refl _))
        have Hret : Hid (nailC (setOf (lettersOf s)) = nailC (fun _ => false)) := by
          show _ = _
          unfold setOf
          rw [if_neg (by rw [Hbad.out]; decide)]
        clear hbel2 hblk3 hblk2 hit2
        go_wp2_with (first
          | (go_at_call 19; refine Hnail.out.mono ?_; rintro e w3 ⟨rfl, rfl⟩)
          | (refine wpList_plain rfl fun _ hK => wp_store_row 49 _ _ rfl g (nailC (fun _ => false)) rfl rfl 49 (nailC (fun _ => false)) hblkE (nailC_info _) rfl (nailC_one _) (hK _ _ ?_)))
        exact bodyPost_ret (v := .tuple #[.agg (nailC (fun _ => false)), .bool false]) (results_cell_row_tmp rfl _ _ g 49 _ (0, 0) _ _ rfl rfl Hset.out Tryz.underlying49 rfl (nailC_info _)) rfl ⟨by rw [Hret.out, Hbad.out], HbelE.out⟩
    · have hnx : ∀ ty, (Instr.next (.pointer (some ⟨g + 1 + 1, 0, none⟩)) true ty).run Tryz.prog wr = _ := fun ty => Lib.run_next_end_at wr (g + 1 + 1) s pos ty hit hp
      have he : (lettersOf s).take pos = lettersOf s := List.take_of_length_le (by have := Hl.out; omega)
      have Hok : Hid (risingB 0 (lettersOf s) = true) := by
        show _ = _
        rw [Hris.out, List.drop_of_length_le (by have := Hl.out; omega)]; rfl
      have hse : setOf (lettersOf s) = nailsL (lettersOf s) := by unfold setOf; rw [if_pos Hok.out]
      rw [he, ← hse] at hblk
      have Hset := Lib.hid (setRow_heap _ g _ (nailC (setOf (lettersOf s))) 49 (0, 0) hblk0)
      have HbelE : Hid (Below w.heap.size w (wr.setRow g (nailC (setOf (lettersOf s))))) := by
        show Below _ _ _
        rw [Hg.out]
        exact hbel.trans ((only_setRow _ g _).below (Nat.le_refl _))
      clear hbel he hse
      go_wp2_with (first
        | (refine wpList_load_row rfl 49 _ rfl (g + 1) rfl 49 (nailC (setOf (lettersOf s))) (0, 0) _ hblk Tryz.underlying49 rfl (nailC_info _) ?_)
        | (refine wpList_plain rfl fun _ hK => wp_store_row 49 _ _ rfl g (nailC (setOf (lettersOf s))) rfl rfl 49 (nailC (fun _ => false)) hblk0 (nailC_info _) ?h1 (nailC_one _) (hK _ _ ?_)))
      case h1 => rw [nailC_size, nailC_size]
      exact bodyPost_ret (v := .tuple #[.agg (nailC (setOf (lettersOf s))), .bool true]) (results_cell_row_tmp rfl _ _ g 49 _ (0, 0) _ _ rfl rfl Hset.out Tryz.underlying49 rfl (nailC_info _)) rfl ⟨by rw [Hok.out], HbelE.out⟩

end Go.Proofs.YtkdalgdckgmccaaGreatDoor
