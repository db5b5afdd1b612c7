/-
  The walk of root: of a reduced wire that is not empty.
-/
import Derived.Test.YtkdalgdckgmccaaGreatDoorRot
import Derived.Deep.RegionHeld
namespace Go.Proofs.YtkdalgdckgmccaaGreatDoor
open Go.RowKit Go.Shelf

def handleL (l : List Nat) : List Nat := l.take (coreK l)
/-- The least period of the loop. -/
def perL (l : List Nat) : Nat := (1 + rotF (loopL l) (loopL l) 1).toNat
def rootL (l : List Nat) : List Nat := redL (handleL l ++ ((loopL l).take (perL l) ++ invL (handleL l)))
def powL (l : List Nat) : Nat := (loopL l).length / perL l
/-- What the mathematics of words says of the loop. -/
def Looped (l : List Nat) : Prop := 0 < (loopL l).length ∧ 0 ≤ rotF (loopL l) (loopL l) 1 ∧ perL l ≤ (loopL l).length
/-- What root returns. -/
def RetRoot (l : List Nat) (w : World) (e : Ending) (w' : World) : Prop := ∃ v, e = .returned (.tuple #[v, .int .i64 (powL l)]) ∧ Wire w.heap.size (rootL l) w' v ∧ Below w.heap.size w w'

theorem loop_word {l : List Nat} (h : IsWord l) : IsWord (loopL l) := fun c hc => h c (List.mem_of_mem_drop (List.mem_of_mem_take hc))
theorem handle_word {l : List Nat} (h : IsWord l) : IsWord (handleL l) := fun c hc => h c (List.mem_of_mem_take hc)

set_option maxRecDepth 100000 in
set_option maxHeartbeats 2000000 in
theorem root_any (b off n cap : Nat) (l : List Nat) (m : Int) (w : World) (hS : Sl .u8 w (some ⟨b, off, none⟩) n l) (hword : IsWord l) (hn : n ≤ 1000000) (hcap : n ≤ cap) (hcap2 : cap ≤ 9223372036854775807) (hlo : Looped l) (hm : w.cell? ⟨0, 0, none⟩ = some (.int .i64 m)) (hw0 : 0 < w.heap.size) :
    Calls Tryz.prog 54 #[.slice (some ⟨b, off, none⟩) n cap] w (RetRoot l w) := by
  have Hl := Lib.hid hS.len
  have Hsplit := Lib.hid (split_any b off n cap l w hS hword hn hcap hcap2)
  have Hlo := Lib.hid hlo
  have Hm := Lib.hid hm
  have Hw0 := Lib.hid hw0
  have Hword := Lib.hid hword
  clear hS hlo hm hw0 hword
  go_enter Tryz.func54, Tryz.ntmps54
  go_wp2_with fail
  refine Hsplit.out.mono ?_
  rintro e w1 ⟨A1, c1, A2, c2, rfl, hS1, hS2, hc1, hc2, hd⟩
  have hb1 : Below w.heap.size w w1 := hd.below
  have hlen := loopL_length l
  have hpos := Hlo.out.1
  have hz : (loopL l).length ≤ n := by rw [hlen, Hl.out]; omega
  have hck := coreK_le l
  rw [Hl.out] at hck
  rw [← hlen] at hS2 hc2
  rw [← hlen]
  have Hhl : Hid ((handleL l).length = coreK l) := by
    show _ = _
    unfold handleL
    rw [List.length_take, Hl.out]
    omega
  obtain ⟨b2, off2, rfl, hbs2, hcl2⟩ := hS2.at hpos
  have Hrot := Lib.hid (rotation_any b2 off2 b2 off2 _ _ c2 c2 1 (loopL l) (loopL l) m w1 hS2 hS2 (loop_word Hword.out) (loop_word Hword.out) hpos (by omega) (by omega) ((hb1.cell (p := ⟨0, 0, none⟩) Hw0.out).trans Hm.out) (Nat.lt_of_lt_of_le Hw0.out hb1.size))
  have hrv : rotV (loopL l) (loopL l) 1 = .tuple #[.int .i64 (perL l), .bool true] := by
    unfold rotV
    rw [if_pos ⟨rfl, by have := Hlo.out.2.1; omega⟩]
    have : (1 : Int) + rotF (loopL l) (loopL l) 1 = (perL l : Nat) := by
      unfold perL
      have := Hlo.out.2.1
      omega
    rw [← this]
    rfl
  rw [hrv] at Hrot
  have hS1' : Sl .u8 w1 A1 (coreK l) (handleL l) := hS1
  have Hinv := Lib.hid (fun W (hW : Below w1.heap.size w1 W) => inverse_any A1 _ c1 (handleL l) W (hS1'.below hW) (handle_word Hword.out) (by omega))
  have hp0 : 0 < perL l := by unfold perL; have := Hlo.out.2.1; omega
  have hpl : perL l ≤ (loopL l).length := Hlo.out.2.2
  have Hpow : Hid (powL l = (loopL l).length / perL l) := rfl
  have HS1 := Lib.hid hS1'
  have HS2 := Lib.hid hS2
  have Hb1 := Lib.hid hb1
  clear hrv hS1 hS1' hS2 hcl2 hd hb1 hlen Hsplit
  go_wp2_with fail
  refine Hrot.out.mono ?_
  rintro e w2 ⟨rfl, hb2⟩
  clear Hrot
  have hb12 : Below w.heap.size w w2 := Hb1.out.trans (hb2.mono Hb1.out.size)
  have Hb12 := Lib.hid hb12
  have Hinv2 := Lib.hid (Hinv.out w2.drew hb2.drew)
  have HS1' := Lib.hid (HS1.out.below hb2)
  have HS2' := Lib.hid ((HS2.out.take hpl).below hb2)
  clear Hinv hb12 hb2 HS1 HS2 Hb1
  have hlr : (loopL l).length ≤ 4611686018427387904 := by omega
  generalize hN : (loopL l).length = N at *
  generalize hp : perL l = p at *
  generalize hk : coreK l = k at *
  have hpc : p ≤ c2 := by omega
  go_upto_region 5 with fail
  have Hb0 : Hid (Below w.heap.size w w2.drew) := Hb12.out.drew
  have HS1d : Hid (Sl .u8 w2.drew A1 k (handleL l)) := HS1'.out.drewN 1
  have HS2d : Hid (Sl .u8 w2.drew (some ⟨b2, off2, none⟩) p (List.take p (loopL l))) := HS2'.out.drewN 1
  refine wp_region_held_drew (S := fun _ => True) (by kernel_rfl) trivial (fun hHeld => ?_)
  refine wpAnyH_take (i := 0) (oi := { dst := some 22, op := .move (.tmp 4), type := 44, pos := "power.go:29", after := #[], guard := none }) (v := Value.slice A1 k c1) rfl (by kernel_rfl) (by kernel_rfl) (by kernel_rfl) (fun _ _ _ h => h) (Or.inl ⟨by rfl, fun W _ => by go_simp⟩) hHeld ?_
  refine wpAnyH_take (i := 1) (oi := { dst := some 23, op := .move (.tmp 5), type := 44, pos := "power.go:29", after := #[], guard := none }) (v := Value.slice (some ⟨b2, off2, none⟩) N c2) rfl (by kernel_rfl) (by kernel_rfl) (by kernel_rfl) (fun _ _ _ h => h) (Or.inl ⟨by rfl, fun W _ => by go_simp⟩) hHeld ?_
  refine wpAnyH_take (i := 2) (oi := { dst := some 24, op := .move (.tmp 6), type := 3, pos := "power.go:29", after := #[], guard := none }) (v := Value.int IntKind.i64 (p : Nat)) rfl (by kernel_rfl) (by kernel_rfl) (by kernel_rfl) (fun _ _ _ h => h) (Or.inl ⟨by rfl, fun W _ => by go_simp⟩) hHeld ?_
  refine wpAnyH_take (i := 4) (oi := { dst := some 26, op := .move (.tmp 4), type := 44, pos := "power.go:29", after := #[], guard := none }) (v := Value.slice A1 k c1) rfl (by kernel_rfl) (by kernel_rfl) (by kernel_rfl) (fun _ _ _ h => h) (Or.inl ⟨by rfl, fun W _ => by go_simp⟩) hHeld ?_
  refine wpAnyH_take (i := 8) (oi := { dst := some 30, op := .move (.tmp 5), type := 44, pos := "power.go:29", after := #[], guard := none }) (v := Value.slice (some ⟨b2, off2, none⟩) N c2) rfl (by kernel_rfl) (by kernel_rfl) (by kernel_rfl) (fun _ _ _ h => h) (Or.inl ⟨by rfl, fun W _ => by go_simp⟩) hHeld ?_
  refine wpAnyH_take (i := 10) (oi := { dst := some 32, op := .move (.tmp 6), type := 3, pos := "power.go:29", after := #[{ on := 12, ground := Ground.gcOnly Departure.lateStores }], guard := none }) (v := Value.int IntKind.i64 (p : Nat)) rfl (by kernel_rfl) (by kernel_rfl) (by kernel_rfl) (fun _ _ _ h => h) (Or.inl ⟨by rfl, fun W _ => by go_simp⟩) hHeld ?_
  change wpAnyH _ _ _ _ _ _ _ { tmps := #[Value.slice (some ⟨b, off, none⟩) n cap, undef, Value.slice none 0 0, Value.int IntKind.i64 0, Value.slice A1 k c1, Value.slice (some ⟨b2, off2, none⟩) N c2, Value.int IntKind.i64 (p : Nat), Value.bool true, Value.tuple #[Value.slice A1 k c1, Value.slice (some ⟨b2, off2, none⟩) N c2], Value.slice (some ⟨b, off, none⟩) n cap, Value.tuple #[Value.slice A1 k c1, Value.slice (some ⟨b2, off2, none⟩) N c2], Value.slice A1 k c1, Value.slice (some ⟨b2, off2, none⟩) N c2, Value.slice (some ⟨b2, off2, none⟩) N c2, Value.int IntKind.i64 (N : Nat), Value.bool false, Value.tuple #[Value.int IntKind.i64 (p : Nat), Value.bool true], Value.slice (some ⟨b2, off2, none⟩) N c2, Value.slice (some ⟨b2, off2, none⟩) N c2, Value.tuple #[Value.int IntKind.i64 (p : Nat), Value.bool true], Value.int IntKind.i64 (p : Nat), Value.bool true, Value.slice A1 k c1, Value.slice (some ⟨b2, off2, none⟩) N c2, Value.int IntKind.i64 (p : Nat), undef, Value.slice A1 k c1, undef, undef, undef, Value.slice (some ⟨b2, off2, none⟩) N c2, undef, Value.int IntKind.i64 (p : Nat), undef], defers := [] } _
  refine wpAnyH_take (i := 3) (oi := { dst := some 25, op := .slice 44 (.tmp 23) none (some (.tmp 24)) none, type := 44, pos := "power.go:29", after := #[{ on := 1, ground := Ground.data }, { on := 2, ground := Ground.data }], guard := none }) (v := Value.slice (some ⟨b2, off2, none⟩) p c2) rfl (by kernel_rfl) (by kernel_rfl) (by kernel_rfl) (fun _ _ _ h => h) (Or.inl ⟨by rfl, fun W _ => by go_simp⟩) hHeld ?_
  change wpAnyH _ _ _ _ _ _ _ { tmps := #[Value.slice (some ⟨b, off, none⟩) n cap, undef, Value.slice none 0 0, Value.int IntKind.i64 0, Value.slice A1 k c1, Value.slice (some ⟨b2, off2, none⟩) N c2, Value.int IntKind.i64 (p : Nat), Value.bool true, Value.tuple #[Value.slice A1 k c1, Value.slice (some ⟨b2, off2, none⟩) N c2], Value.slice (some ⟨b, off, none⟩) n cap, Value.tuple #[Value.slice A1 k c1, Value.slice (some ⟨b2, off2, none⟩) N c2], Value.slice A1 k c1, Value.slice (some ⟨b2, off2, none⟩) N c2, Value.slice (some ⟨b2, off2, none⟩) N c2, Value.int IntKind.i64 (N : Nat), Value.bool false, Value.tuple #[Value.int IntKind.i64 (p : Nat), Value.bool true], Value.slice (some ⟨b2, off2, none⟩) N c2, Value.slice (some ⟨b2, off2, none⟩) N c2, Value.tuple #[Value.int IntKind.i64 (p : Nat), Value.bool true], Value.int IntKind.i64 (p : Nat), Value.bool true, Value.slice A1 k c1, Value.slice (some ⟨b2, off2, none⟩) N c2, Value.int IntKind.i64 (p : Nat), Value.slice (some ⟨b2, off2, none⟩) p c2, Value.slice A1 k c1, undef, undef, undef, Value.slice (some ⟨b2, off2, none⟩) N c2, undef, Value.int IntKind.i64 (p : Nat), undef], defers := [] } _
  refine wpAnyH_take (i := 9) (oi := { dst := some 31, op := .call { callee := .builtin .len, args := #[.tmp 30], argTypes := #[44] }, type := 3, pos := "power.go:29", after := #[{ on := 8, ground := Ground.data }], guard := none }) (v := Value.int IntKind.i64 (N : Nat)) rfl (by kernel_rfl) (by kernel_rfl) (by kernel_rfl) (fun _ _ _ h => h) (Or.inl ⟨by rfl, fun W _ => by go_simp⟩) hHeld ?_
  change wpAnyH _ _ _ _ _ _ _ { tmps := #[Value.slice (some ⟨b, off, none⟩) n cap, undef, Value.slice none 0 0, Value.int IntKind.i64 0, Value.slice A1 k c1, Value.slice (some ⟨b2, off2, none⟩) N c2, Value.int IntKind.i64 (p : Nat), Value.bool true, Value.tuple #[Value.slice A1 k c1, Value.slice (some ⟨b2, off2, none⟩) N c2], Value.slice (some ⟨b, off, none⟩) n cap, Value.tuple #[Value.slice A1 k c1, Value.slice (some ⟨b2, off2, none⟩) N c2], Value.slice A1 k c1, Value.slice (some ⟨b2, off2, none⟩) N c2, Value.slice (some ⟨b2, off2, none⟩) N c2, Value.int IntKind.i64 (N : Nat), Value.bool false, Value.tuple #[Value.int IntKind.i64 (p : Nat), Value.bool true], Value.slice (some ⟨b2, off2, none⟩) N c2, Value.slice (some ⟨b2, off2, none⟩) N c2, Value.tuple #[Value.int IntKind.i64 (p : Nat), Value.bool true], Value.int IntKind.i64 (p : Nat), Value.bool true, Value.slice A1 k c1, Value.slice (some ⟨b2, off2, none⟩) N c2, Value.int IntKind.i64 (p : Nat), Value.slice (some ⟨b2, off2, none⟩) p c2, Value.slice A1 k c1, undef, undef, undef, Value.slice (some ⟨b2, off2, none⟩) N c2, Value.int IntKind.i64 (N : Nat), Value.int IntKind.i64 (p : Nat), undef], defers := [] } _
  have hpne : ¬ p = 0 := by omega
  have hqle : N / p ≤ N := Nat.div_le_self N p
  have hwq : IntKind.i64.wrap ((N : Int) / (p : Int)) = (N : Int) / (p : Int) := by
    rw [show (N : Int) / (p : Int) = ((N / p : Nat) : Int) by simp]
    generalize N / p = z at *
    exact IntWalk.i64_in _ (by omega)
  refine wpAnyH_take (i := 11) (oi := { dst := some 33, op := .binOp .quo 3 (.tmp 31) (.tmp 32) 3, type := 3, pos := "power.go:29", after := #[{ on := 9, ground := Ground.data }, { on := 10, ground := Ground.data }, { on := 12, ground := Ground.gcOnly Departure.lateStores }], guard := none }) (v := Value.int IntKind.i64 ((N / p : Nat) : Int)) rfl (by kernel_rfl) (by kernel_rfl) (by kernel_rfl) (fun _ _ _ h => h) (Or.inl ⟨by rfl, fun W _ => by go_simp⟩) hHeld ?_
  change wpAnyH _ _ _ _ _ _ _ { tmps := #[Value.slice (some ⟨b, off, none⟩) n cap, undef, Value.slice none 0 0, Value.int IntKind.i64 0, Value.slice A1 k c1, Value.slice (some ⟨b2, off2, none⟩) N c2, Value.int IntKind.i64 (p : Nat), Value.bool true, Value.tuple #[Value.slice A1 k c1, Value.slice (some ⟨b2, off2, none⟩) N c2], Value.slice (some ⟨b, off, none⟩) n cap, Value.tuple #[Value.slice A1 k c1, Value.slice (some ⟨b2, off2, none⟩) N c2], Value.slice A1 k c1, Value.slice (some ⟨b2, off2, none⟩) N c2, Value.slice (some ⟨b2, off2, none⟩) N c2, Value.int IntKind.i64 (N : Nat), Value.bool false, Value.tuple #[Value.int IntKind.i64 (p : Nat), Value.bool true], Value.slice (some ⟨b2, off2, none⟩) N c2, Value.slice (some ⟨b2, off2, none⟩) N c2, Value.tuple #[Value.int IntKind.i64 (p : Nat), Value.bool true], Value.int IntKind.i64 (p : Nat), Value.bool true, Value.slice A1 k c1, Value.slice (some ⟨b2, off2, none⟩) N c2, Value.int IntKind.i64 (p : Nat), Value.slice (some ⟨b2, off2, none⟩) p c2, Value.slice A1 k c1, undef, undef, undef, Value.slice (some ⟨b2, off2, none⟩) N c2, Value.int IntKind.i64 (N : Nat), Value.int IntKind.i64 (p : Nat), Value.int IntKind.i64 ((N / p : Nat) : Int)], defers := [] } _
  refine wpAnyH_ready (rs := [5]) (by kernel_rfl) (by simp) (AllReadyH.cons rfl (fun K' hK => ?_) AllReadyH.nil)
  rw [if_pos (by rfl)]
  change Oper.wp _ { dst := some 27, op := .call { callee := .value (.func 21), args := #[.tmp 26], argTypes := #[44] }, type := 44, pos := "power.go:29", after := _, guard := none } _ _ _ _
  go_simp
  refine (Hinv2.out).mono ?_
  rintro e w3 ⟨v3, rfl, hW3, hb3⟩
  have hi3 : (invL (handleL l)).length = k := by rw [invL_length, Hhl.out]
  obtain ⟨A3, c3, rfl, hS3⟩ := wire_sl hW3 (by omega)
  rw [hi3] at hS3
  rw [hi3]
  dsimp only
  refine hK.out _ _ trivial (fun hHeld => ?_)
  change wpAnyH _ _ _ _ _ _ _ { tmps := #[Value.slice (some ⟨b, off, none⟩) n cap, undef, Value.slice none 0 0, Value.int IntKind.i64 0, Value.slice A1 k c1, Value.slice (some ⟨b2, off2, none⟩) N c2, Value.int IntKind.i64 (p : Nat), Value.bool true, Value.tuple #[Value.slice A1 k c1, Value.slice (some ⟨b2, off2, none⟩) N c2], Value.slice (some ⟨b, off, none⟩) n cap, Value.tuple #[Value.slice A1 k c1, Value.slice (some ⟨b2, off2, none⟩) N c2], Value.slice A1 k c1, Value.slice (some ⟨b2, off2, none⟩) N c2, Value.slice (some ⟨b2, off2, none⟩) N c2, Value.int IntKind.i64 (N : Nat), Value.bool false, Value.tuple #[Value.int IntKind.i64 (p : Nat), Value.bool true], Value.slice (some ⟨b2, off2, none⟩) N c2, Value.slice (some ⟨b2, off2, none⟩) N c2, Value.tuple #[Value.int IntKind.i64 (p : Nat), Value.bool true], Value.int IntKind.i64 (p : Nat), Value.bool true, Value.slice A1 k c1, Value.slice (some ⟨b2, off2, none⟩) N c2, Value.int IntKind.i64 (p : Nat), Value.slice (some ⟨b2, off2, none⟩) p c2, Value.slice A1 k c1, Value.slice A3 k c3, undef, undef, Value.slice (some ⟨b2, off2, none⟩) N c2, Value.int IntKind.i64 (N : Nat), Value.int IntKind.i64 (p : Nat), Value.int IntKind.i64 ((N / p : Nat) : Int)], defers := [] } _
  refine wpAnyH_ready (rs := [6]) (by kernel_rfl) (by simp) (AllReadyH.cons rfl (fun K' hK => ?_) AllReadyH.nil)
  rw [if_pos (by rfl)]
  change Oper.wp _ { dst := some 28, op := .buildSlice 84 3 #[(0, .tmp 22), (1, .tmp 25), (2, .tmp 27)], type := 84, pos := "power.go:29", after := _, guard := none } _ _ _ _
  go_simp
  refine hK.out _ _ trivial (fun hHeld => ?_)
  change wpAnyH _ _ _ _ _ _ _ { tmps := #[Value.slice (some ⟨b, off, none⟩) n cap, undef, Value.slice none 0 0, Value.int IntKind.i64 0, Value.slice A1 k c1, Value.slice (some ⟨b2, off2, none⟩) N c2, Value.int IntKind.i64 (p : Nat), Value.bool true, Value.tuple #[Value.slice A1 k c1, Value.slice (some ⟨b2, off2, none⟩) N c2], Value.slice (some ⟨b, off, none⟩) n cap, Value.tuple #[Value.slice A1 k c1, Value.slice (some ⟨b2, off2, none⟩) N c2], Value.slice A1 k c1, Value.slice (some ⟨b2, off2, none⟩) N c2, Value.slice (some ⟨b2, off2, none⟩) N c2, Value.int IntKind.i64 (N : Nat), Value.bool false, Value.tuple #[Value.int IntKind.i64 (p : Nat), Value.bool true], Value.slice (some ⟨b2, off2, none⟩) N c2, Value.slice (some ⟨b2, off2, none⟩) N c2, Value.tuple #[Value.int IntKind.i64 (p : Nat), Value.bool true], Value.int IntKind.i64 (p : Nat), Value.bool true, Value.slice A1 k c1, Value.slice (some ⟨b2, off2, none⟩) N c2, Value.int IntKind.i64 (p : Nat), Value.slice (some ⟨b2, off2, none⟩) p c2, Value.slice A1 k c1, Value.slice A3 k c3, Value.slice (some ⟨w3.heap.size, 0, none⟩) 3 3, undef, Value.slice (some ⟨b2, off2, none⟩) N c2, Value.int IntKind.i64 (N : Nat), Value.int IntKind.i64 (p : Nat), Value.int IntKind.i64 ((N / p : Nat) : Int)], defers := [] } _
  have hb4 := below_new' w3 (.cells #[.slice A1 k c1, .slice (some ⟨b2, off2, none⟩) p c2, .slice A3 k c3] 44)
  have hblk := Blk.new w3 44 #[.slice A1 k c1, .slice (some ⟨b2, off2, none⟩) p c2, .slice A3 k c3]
  have htl : (List.take p (loopL l)).length = p := by rw [List.length_take, hN]; omega
  have hP : Parts (w3.alloc (.cells #[.slice A1 k c1, .slice (some ⟨b2, off2, none⟩) p c2, .slice A3 k c3] 44)) w3.heap.size 0 [handleL l, List.take p (loopL l), invL (handleL l)] := by
    refine parts_cons (A := A1) (c := c1) hblk.lt ((hblk.cell 0).trans (by rw [Hhl.out]; rfl)) ?_ (parts_cons (A := some ⟨b2, off2, none⟩) (c := c2) hblk.lt ((hblk.cell 1).trans (by rw [htl]; rfl)) ?_ (parts_cons (A := A3) (c := c3) hblk.lt ((hblk.cell 2).trans (by rw [hi3]; rfl)) ?_ (parts_nil _ _ _)))
    · rw [Hhl.out]; exact (HS1d.out.below hb3).below hb4
    · rw [htl]; exact (HS2d.out.below hb3).below hb4
    · rw [hi3]; exact hS3.below hb4
  have hflat : [handleL l, List.take p (loopL l), invL (handleL l)].flatten = handleL l ++ (List.take p (loopL l) ++ invL (handleL l)) := by simp
  have hj := joined_any w3.heap.size 0 3 3 [handleL l, List.take p (loopL l), invL (handleL l)] _ rfl hP (by
    intro l' hl
    simp only [List.mem_cons, List.not_mem_nil, or_false] at hl
    rcases hl with rfl | rfl | rfl
    · exact handle_word Hword.out
    · exact fun c hc => loop_word Hword.out c (List.mem_of_mem_take hc)
    · exact invL_word (handle_word Hword.out)) (by rw [hflat]; simp only [List.length_append, htl, hi3, Hhl.out]; omega) (by omega)
  rw [hflat] at hj
  have hroot : redL (handleL l ++ (List.take p (loopL l) ++ invL (handleL l))) = rootL l := by unfold rootL; rw [hp]
  rw [hroot] at hj
  have hb34 : Below w.heap.size w (w3.alloc (.cells #[.slice A1 k c1, .slice (some ⟨b2, off2, none⟩) p c2, .slice A3 k c3] 44)) := (Hb0.out.trans (hb3.mono Hb0.out.size)).trans (hb4.mono (Nat.le_trans Hb0.out.size hb3.size))
  generalize w3.alloc (.cells #[.slice A1 k c1, .slice (some ⟨b2, off2, none⟩) p c2, .slice A3 k c3] 44) = w4 at *
  refine wpAnyH_ready (rs := [7]) (by kernel_rfl) (by simp) (AllReadyH.cons rfl (fun K' hK => ?_) AllReadyH.nil)
  rw [if_pos (by rfl)]
  change Oper.wp _ { dst := some 29, op := .call { callee := .value (.func 53), args := #[.tmp 28], argTypes := #[84] }, type := 44, pos := "power.go:29", after := _, guard := none } _ _ _ _
  go_simp
  refine hj.mono ?_
  rintro e w5 ⟨v5, rfl, hW5, hb5⟩
  dsimp only
  refine hK.out _ _ trivial (fun hHeld => ?_)
  change wpAnyH _ _ _ _ _ _ _ { tmps := #[Value.slice (some ⟨b, off, none⟩) n cap, undef, Value.slice none 0 0, Value.int IntKind.i64 0, Value.slice A1 k c1, Value.slice (some ⟨b2, off2, none⟩) N c2, Value.int IntKind.i64 (p : Nat), Value.bool true, Value.tuple #[Value.slice A1 k c1, Value.slice (some ⟨b2, off2, none⟩) N c2], Value.slice (some ⟨b, off, none⟩) n cap, Value.tuple #[Value.slice A1 k c1, Value.slice (some ⟨b2, off2, none⟩) N c2], Value.slice A1 k c1, Value.slice (some ⟨b2, off2, none⟩) N c2, Value.slice (some ⟨b2, off2, none⟩) N c2, Value.int IntKind.i64 (N : Nat), Value.bool false, Value.tuple #[Value.int IntKind.i64 (p : Nat), Value.bool true], Value.slice (some ⟨b2, off2, none⟩) N c2, Value.slice (some ⟨b2, off2, none⟩) N c2, Value.tuple #[Value.int IntKind.i64 (p : Nat), Value.bool true], Value.int IntKind.i64 (p : Nat), Value.bool true, Value.slice A1 k c1, Value.slice (some ⟨b2, off2, none⟩) N c2, Value.int IntKind.i64 (p : Nat), Value.slice (some ⟨b2, off2, none⟩) p c2, Value.slice A1 k c1, Value.slice A3 k c3, Value.slice (some ⟨w3.heap.size, 0, none⟩) 3 3, v5, Value.slice (some ⟨b2, off2, none⟩) N c2, Value.int IntKind.i64 (N : Nat), Value.int IntKind.i64 (p : Nat), Value.int IntKind.i64 ((N / p : Nat) : Int)], defers := [] } _
  have hbel : Below w.heap.size w w5 := hb34.trans (hb5.mono hb34.size)
  refine wpAnyH_ready (rs := [12]) (by kernel_rfl) (by simp) (AllReadyH.cons rfl (fun K' hK => ?_) AllReadyH.nil)
  rw [if_pos (by rfl)]
  change Oper.wp _ { dst := some 2, op := .assign (.tmp 29), type := 44, pos := "power.go:29", after := _, guard := none } _ _ _ _
  go_simp
  refine hK.out _ _ trivial (fun hHeld => ?_)
  change wpAnyH _ _ _ _ _ _ _ { tmps := #[Value.slice (some ⟨b, off, none⟩) n cap, undef, v5, Value.int IntKind.i64 0, Value.slice A1 k c1, Value.slice (some ⟨b2, off2, none⟩) N c2, Value.int IntKind.i64 (p : Nat), Value.bool true, Value.tuple #[Value.slice A1 k c1, Value.slice (some ⟨b2, off2, none⟩) N c2], Value.slice (some ⟨b, off, none⟩) n cap, Value.tuple #[Value.slice A1 k c1, Value.slice (some ⟨b2, off2, none⟩) N c2], Value.slice A1 k c1, Value.slice (some ⟨b2, off2, none⟩) N c2, Value.slice (some ⟨b2, off2, none⟩) N c2, Value.int IntKind.i64 (N : Nat), Value.bool false, Value.tuple #[Value.int IntKind.i64 (p : Nat), Value.bool true], Value.slice (some ⟨b2, off2, none⟩) N c2, Value.slice (some ⟨b2, off2, none⟩) N c2, Value.tuple #[Value.int IntKind.i64 (p : Nat), Value.bool true], Value.int IntKind.i64 (p : Nat), Value.bool true, Value.slice A1 k c1, Value.slice (some ⟨b2, off2, none⟩) N c2, Value.int IntKind.i64 (p : Nat), Value.slice (some ⟨b2, off2, none⟩) p c2, Value.slice A1 k c1, Value.slice A3 k c3, Value.slice (some ⟨w3.heap.size, 0, none⟩) 3 3, v5, Value.slice (some ⟨b2, off2, none⟩) N c2, Value.int IntKind.i64 (N : Nat), Value.int IntKind.i64 (p : Nat), Value.int IntKind.i64 ((N / p : Nat) : Int)], defers := [] } _
  refine wpAnyH_ready (rs := [13]) (by kernel_rfl) (by simp) (AllReadyH.cons rfl (fun K' hK => ?_) AllReadyH.nil)
  rw [if_pos (by rfl)]
  change Oper.wp _ { dst := some 3, op := .assign (.tmp 33), type := 3, pos := "power.go:29", after := _, guard := none } _ _ _ _
  go_simp
  refine hK.out _ _ trivial (fun hHeld => ?_)
  change wpAnyH _ _ _ _ _ _ _ { tmps := #[Value.slice (some ⟨b, off, none⟩) n cap, undef, v5, Value.int IntKind.i64 ((N / p : Nat) : Int), Value.slice A1 k c1, Value.slice (some ⟨b2, off2, none⟩) N c2, Value.int IntKind.i64 (p : Nat), Value.bool true, Value.tuple #[Value.slice A1 k c1, Value.slice (some ⟨b2, off2, none⟩) N c2], Value.slice (some ⟨b, off, none⟩) n cap, Value.tuple #[Value.slice A1 k c1, Value.slice (some ⟨b2, off2, none⟩) N c2], Value.slice A1 k c1, Value.slice (some ⟨b2, off2, none⟩) N c2, Value.slice (some ⟨b2, off2, none⟩) N c2, Value.int IntKind.i64 (N : Nat), Value.bool false, Value.tuple #[Value.int IntKind.i64 (p : Nat), Value.bool true], Value.slice (some ⟨b2, off2, none⟩) N c2, Value.slice (some ⟨b2, off2, none⟩) N c2, Value.tuple #[Value.int IntKind.i64 (p : Nat), Value.bool true], Value.int IntKind.i64 (p : Nat), Value.bool true, Value.slice A1 k c1, Value.slice (some ⟨b2, off2, none⟩) N c2, Value.int IntKind.i64 (p : Nat), Value.slice (some ⟨b2, off2, none⟩) p c2, Value.slice A1 k c1, Value.slice A3 k c3, Value.slice (some ⟨w3.heap.size, 0, none⟩) 3 3, v5, Value.slice (some ⟨b2, off2, none⟩) N c2, Value.int IntKind.i64 (N : Nat), Value.int IntKind.i64 (p : Nat), Value.int IntKind.i64 ((N / p : Nat) : Int)], defers := [] } _
  refine wpAnyH_done (by kernel_rfl) ?_ _
  go_wp2
  go_ret2
  exact ⟨v5, by rw [Hpow.out]; rfl, wire_mono hW5 hb34.size, hbel⟩

end Go.Proofs.YtkdalgdckgmccaaGreatDoor
