/-
  What a program must do whatever the input is: the walk of awake, by the calls that it makes of known lists.
-/
import Derived.Test.YtgdaidmkcgblbaaCode
import Derived.Test.YtgdaidmkcgblbaaSep
import Derived.Test.YtgdaidmkcgblbaaTreeW
import Derived.Test.YtgdaidmkcgblbaaSortW
namespace Go.Proofs.Ytgdaidmkcgblbaa
open Go.RowKit

def permB (l : List Nat) : Bool := (List.range l.length).all fun i => decide (l.getD i 0 < l.length) && (List.range l.length).all fun j => decide (i = j) || !decide (l.getD i 0 = l.getD j 0)
theorem isPerm_of {l : List Nat} (h : permB l = true) : IsPerm l := by
  have h' := List.all_eq_true.1 h
  refine ⟨fun i hi => ?_, fun i j hi hj e => ?_⟩
  · have := h' i (List.mem_range.2 hi)
    rw [Bool.and_eq_true] at this
    exact of_decide_eq_true this.1
  · have := h' i (List.mem_range.2 hi)
    rw [Bool.and_eq_true] at this
    have := List.all_eq_true.1 this.2 j (List.mem_range.2 hj)
    simp only [Bool.or_eq_true, decide_eq_true_eq, Bool.not_eq_true', decide_eq_false_iff_not] at this
    rcases this with e1 | e1
    · exact e1
    · exact absurd e e1

/-- A row of numbers in a block of its own, and no error. -/
def RetRowE (l : List Nat) (w : World) (e : Ending) (w' : World) : Prop :=
  ∃ g, e = .returned (.tuple #[.slice (some ⟨g, 0, none⟩) l.length l.length, .int .i64 0]) ∧ w.heap.size ≤ g ∧ Blk w' g 3 (cellsOf .i64 l) ∧ Below w.heap.size w w'

set_option maxRecDepth 100000 in
theorem codes_any (b off n cap : Nat) (p : List Nat) (w : World) (hS : Sl .i64 w (some ⟨b, off, none⟩) n p) (hp : IsPerm p) (hn : n ≤ 60) (h0 : 0 < n) :
    Calls Try.prog 26 #[.slice (some ⟨b, off, none⟩) n cap] w (RetRowE (codeL p) w) := by
  have hl := hS.len
  subst hl
  have Hchk := Lib.hid (check_perm b off p.length cap p w hS hp hn h0)
  have Hcode := Lib.hid (fun W (hW : Sl .i64 W (some ⟨b, off, none⟩) p.length p) => code_any b off p.length cap p W hW hp hn h0)
  have HS := Lib.hid hS
  clear hS
  go_enter Try.func26, Try.ntmps26
  go_wp2_with (first
    | (go_at_call 16; refine Hchk.out.mono ?_; rintro e w1 ⟨rfl, hb1⟩)
    | (go_at_call 72; refine (Hcode.out _ (HS.out.below hb1)).mono ?_; rintro e w2 ⟨g, rfl, hg, hblk, hb2⟩))
  go_ret2
  exact ⟨g, rfl, Nat.le_trans hb1.size hg, hblk, hb1.trans (hb2.mono hb1.size)⟩

theorem perm201 : IsPerm [2, 0, 1] := isPerm_of (by decide)
theorem perm1302 : IsPerm [1, 3, 0, 2] := isPerm_of (by decide)

theorem code201 (b : Nat) (w : World) (h : Sl .i64 w (some ⟨b, 0, none⟩) 3 [2, 0, 1]) :
    Calls Try.prog 26 #[.slice (some ⟨b, 0, none⟩) 3 3] w fun e w' => ∃ g, e = .returned (.tuple #[.slice (some ⟨g, 0, none⟩) 3 3, .int .i64 0]) ∧ (Blk w' g 3 #[.int .i64 2, .int .i64 0, .int .i64 0]) ∧ Below w.heap.size w w' := by
  have hc := codes_any b 0 3 3 _ w h perm201 (by omega) (by omega)
  have e : codeL [2, 0, 1] = [2, 0, 0] := by decide
  rw [e] at hc
  exact hc.mono fun _ _ ⟨g, h1, _, h3, h4⟩ => ⟨g, h1, h3, h4⟩
theorem baxters4 (w : World) : Calls Try.prog 58 #[.int .i64 4] w fun e w' => e = .returned (.tuple #[.int .i64 22, .int .i64 0]) ∧ Below w.heap.size w w' := by
  have hc := baxters_yes 4 w (by omega) (by omega)
  have e : baxN 4 = 22 := by decide
  rw [e] at hc
  exact hc
theorem blocks1302 (b : Nat) (w : World) (h : Sl .i64 w (some ⟨b, 0, none⟩) 4 [1, 3, 0, 2]) :
    Calls Try.prog 29 #[.slice (some ⟨b, 0, none⟩) 4 4] w fun e w' => ∃ pa pn pc A c, e = .returned (.tuple #[.agg #[.int .i64 3, .slice pa pn pc, .slice A 4 c], .int .i64 0]) ∧ Below w.heap.size w w' := by
  have hc := blocks_any b 0 4 4 _ w h perm1302 (by omega) (by omega) (by omega) (by omega)
  have e1 : kindOf [1, 3, 0, 2] = 3 := by decide
  have e2 : partsOf [1, 3, 0, 2] = 4 := by decide
  unfold RetBlocks at hc
  rw [e1, e2] at hc
  exact hc
theorem sort201 (b : Nat) (w : World) (h : Sl .i64 w (some ⟨b, 0, none⟩) 3 [2, 0, 1]) :
    Calls Try.prog 28 #[.slice (some ⟨b, 0, none⟩) 3 3] w fun e w' => ∃ s : ByteArray, e = .returned (.tuple #[.string s, .bool true, .int .i64 0]) ∧ s.size = 6 ∧ Below w.heap.size w w' := by
  have hc := sort_any b 0 3 3 _ w h perm201 (by omega) (by omega) (by omega) (by omega)
  have e1 : sortsB [2, 0, 1] = true := by decide
  have e2 : (sortStr [2, 0, 1]).size = 6 := by
    unfold sortStr
    rw [if_pos e1]
    decide
  unfold RetSort at hc
  rw [e1] at hc
  exact hc.mono fun _ _ ⟨h1, h2⟩ => ⟨_, h1, e2, h2⟩

theorem lit3 (W : World) : Sl .i64 (W.alloc (.cells #[.int .i64 2, .int .i64 0, .int .i64 1] 3)) (some ⟨W.heap.size, 0, none⟩) 3 [2, 0, 1] :=
  Sl.of_blk (t := 3) (l := [2, 0, 1]) (Blk.new W _ _) rfl (by omega)
theorem lit4 (W : World) : Sl .i64 (W.alloc (.cells #[.int .i64 1, .int .i64 3, .int .i64 0, .int .i64 2] 3)) (some ⟨W.heap.size, 0, none⟩) 4 [1, 3, 0, 2] :=
  Sl.of_blk (t := 3) (l := [1, 3, 0, 2]) (Blk.new W _ _) rfl (by omega)

theorem lit3' (W : World) (a : Nat) (ha : W.heap.size = a) : Sl .i64 (W.alloc (.cells #[.int .i64 2, .int .i64 0, .int .i64 1] 3)) (some ⟨a, 0, none⟩) 3 [2, 0, 1] := by
  subst ha; exact lit3 W

set_option maxRecDepth 100000 in
set_option maxHeartbeats 1000000 in
theorem awake_any (w : World) : Calls Try.prog 23 #[] w fun e w' => e = .returned (.bool true) ∧ Below w.heap.size w w' := by
  go_enter Try.func23, Try.ntmps23
  go_wp2_with fail
  refine (code201 _ _ (lit3 _)).mono ?_
  rintro e w1 ⟨gc, rfl, hc, hb1⟩
  have Hc := Lib.hid hc
  clear hc
  go_wp2_with fail
  refine (baxters4 _).mono ?_
  rintro e w2 ⟨rfl, hb2⟩
  go_wp2_with fail
  refine (blocks1302 _ _ (lit4 _)).mono ?_
  rintro e w3 ⟨pa, pn, pc, A, c, rfl, hb3⟩
  go_wp2_with fail
  refine (sort201 _ _ (lit3' _ _ (size_new'' _ _))).mono ?_
  rintro e w4 ⟨s, rfl, hs, hb4⟩
  have hc2 := Hc.out.below hb2 Hc.out.lt
  have hc3 := (hc2.more' (.cells #[.int .i64 1, .int .i64 3, .int .i64 0, .int .i64 2] 3)).below hb3 (hc2.more' _).lt
  have ht := Blk.new w3 43 #[.int .i64 3, .slice pa pn pc, .slice A 4 c]
  have hc4 : Blk w4 gc _ _ := ((hc3.more' _).more' _).below hb4 ((hc3.more' _).more' _).lt
  have ht4 := (ht.more' _).below hb4 (ht.more' _).lt
  have k0 := hc4.cell 0
  have k1 := ht4.cell 0
  have k2 := ht4.cell 2
  have hs' : ((s.size : Int) == 6) = true := by rw [hs]; rfl
  have Hbel := Lib.hid (show Below w.heap.size w w4 from by
    have q0 := below_new' w (.cells #[.int .i64 2, .int .i64 0, .int .i64 1] 3)
    have q1 := q0.trans (hb1.mono q0.size)
    have q2 := q1.trans (hb2.mono q1.size)
    have q3 := q2.alloc q2.size (.cells #[.int .i64 1, .int .i64 3, .int .i64 0, .int .i64 2] 3)
    have q4 := q3.trans (hb3.mono q3.size)
    have q5 := q4.alloc q4.size (.cells #[.int .i64 3, .slice pa pn pc, .slice A 4 c] 43)
    have q6 := q5.alloc q5.size (.cells #[.int .i64 2, .int .i64 0, .int .i64 1] 3)
    exact q6.trans (hb4.mono q6.size))
  clear hc2 hc3 hc4 ht ht4 hb1 hb2 hb3 hb4 hs Hc
  go_wp2
  go_ret
  exact ⟨rfl, Hbel.out⟩

end Go.Proofs.Ytgdaidmkcgblbaa
