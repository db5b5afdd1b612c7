/-
  The walk of awake: what ends every statement of the stage.
-/
import Derived.Test.YtkdalgdckgmccaaGreatDoorRootX
import Derived.Test.YtkdalgdckgmccaaGreatDoorFallsW
import Derived.Test.YtkdalgdckgmccaaGreatDoorHang
namespace Go.Proofs.YtkdalgdckgmccaaGreatDoor
open Go.RowKit Go.Shelf

def wAB : ByteArray := ⟨#[97, 98, 65, 66]⟩
def wsH : List ByteArray := [⟨#[97, 98]⟩, ⟨#[98, 99]⟩, ⟨#[97, 99]⟩]
def wH : ByteArray := ⟨#[97, 98, 65, 66, 97, 99, 65, 67, 98, 99, 66, 67]⟩
def wR : ByteArray := ⟨#[98, 97, 97, 66]⟩
theorem aw_least : (leastL (fun T => fallsL T (redL (lettersOf wAB))) (subsF (nailsL (lettersOf wAB)) 4 fun _ => false)).map (fun S => bytesL (nameL S)) = [[97], [98]] := by decide +kernel
theorem aw_sets : setsB (lettersOf wAB) 4 = [[97], [98]] := by
  unfold setsB namesB
  rw [aw_least]
  exact List.mergeSort_of_pairwise (by decide +kernel)
theorem aw_done : doneF (nailsL (lettersOf wAB)) 4 (fun _ => false) = true := by decide +kernel
theorem aw_few : (nameL (nailsL (lettersOf wAB))).length ≤ 10 := by decide +kernel
theorem aw_chk : checkN (lettersOf wAB) = 0 := by decide +kernel
theorem aw_hang : strL (hangL (setsOf wsH) 8) = wH := by decide +kernel
theorem aw_done2 : doneF (unionN (setsOf wsH)) 8 (fun _ => false) = true := by decide +kernel
theorem aw_few2 : (nameL (unionN (setsOf wsH))).length ≤ 10 := by decide +kernel
theorem aw_named : Named wsH := by
  intro s hs
  simp only [wsH, List.mem_cons, List.not_mem_nil, or_false] at hs
  rcases hs with rfl | rfl | rfl <;> exact ⟨by decide +kernel, by decide +kernel⟩
theorem aw_chk2 : checkN (lettersOf wH) = 0 := by decide +kernel
theorem aw_f1 : fallsL (nailsL (lettersOf ⟨#[97, 98]⟩)) (redL (lettersOf wH)) = true := by decide +kernel
theorem aw_f2 : fallsL (nailsL (lettersOf ⟨#[97]⟩)) (redL (lettersOf wH)) = false := by decide +kernel
theorem aw_r1 : risingB 0 (lettersOf ⟨#[97, 98]⟩) = true := by decide +kernel
theorem aw_r2 : risingB 0 (lettersOf ⟨#[97]⟩) = true := by decide +kernel
theorem aw_chk3 : checkN (lettersOf wR) = 0 := by decide +kernel
theorem aw_loop : 0 < (loopL (redL (lettersOf wR))).length ∧ 0 ≤ rotF (loopL (redL (lettersOf wR))) (loopL (redL (lettersOf wR))) 1 ∧ perL (redL (lettersOf wR)) ≤ (loopL (redL (lettersOf wR))).length := by decide +kernel
theorem aw_root : strL (rootL (redL (lettersOf wR))) = ⟨#[98, 97, 66]⟩ := by decide +kernel
theorem aw_pow : powL (redL (lettersOf wR)) = 2 := by decide +kernel

set_option maxRecDepth 100000 in
set_option maxHeartbeats 2000000 in
theorem awake_any (m : Int) (w : World) (hm : w.cell? ⟨0, 0, none⟩ = some (.int .i64 m)) (hw0 : 0 < w.heap.size) :
    Calls Tryz.prog 17 #[] w fun e w' => e = .returned (.bool true) ∧ Below w.heap.size w w' := by
  have Hsets := Lib.hid (fun W => sets_any wAB 4 W (by decide) aw_chk aw_few aw_done (by omega))
  have Hhang := Lib.hid (fun A c W (h : StrS W A 3 wsH) => hang_any A 3 c 8 wsH W h (by omega) (by omega) aw_named aw_few2 aw_done2 (by omega))
  rw [aw_hang] at Hhang
  have Hf1 := Lib.hid (fun W => falls_any wH ⟨#[97, 98]⟩ W (by decide) (by decide) aw_chk2 aw_r1)
  rw [aw_f1] at Hf1
  have Hf2 := Lib.hid (fun W => falls_any wH ⟨#[97]⟩ W (by decide) (by decide) aw_chk2 aw_r2)
  rw [aw_f2] at Hf2
  have Hroot := Lib.hid (fun W (hW : Below w.heap.size w W) => rootOf_any wR m W (by decide) aw_chk3 aw_loop ((hW.cell (p := ⟨0, 0, none⟩) hw0).trans hm) (Nat.lt_of_lt_of_le hw0 hW.size))
  rw [aw_root, aw_pow] at Hroot
  unfold RetSets at Hsets
  rw [aw_sets] at Hsets
  unfold wAB wR at *
  clear hm hw0
  go_enter Tryz.func17, Tryz.ntmps17
  go_wp2_with (first
    | (go_at_call 29; refine (Hsets.out _).mono ?_; clear Hsets; rintro e w1 ⟨v1, rfl, hown1, hb1⟩))
  have hS : StrS (w1.alloc (.cells #[.string ⟨#[97, 98]⟩, .string ⟨#[98, 99]⟩, .string ⟨#[97, 99]⟩] 9)) (some ⟨w1.heap.size, 0, none⟩) 3 wsH := by
    have hblk := Blk.new w1 9 #[.string ⟨#[97, 98]⟩, .string ⟨#[98, 99]⟩, .string ⟨#[97, 99]⟩]
    refine ⟨rfl, fun _ => ⟨_, 0, rfl, hblk.lt, fun i hi => ?_⟩⟩
    rw [Nat.zero_add, hblk.cell]
    have : i = 0 ∨ i = 1 ∨ i = 2 := by omega
    rcases this with rfl | rfl | rfl <;> rfl
  have hbA := below_new' w1 (.cells #[.string ⟨#[97, 98]⟩, .string ⟨#[98, 99]⟩, .string ⟨#[97, 99]⟩] 9)
  refine (Hhang.out _ _ _ hS).mono ?_
  rintro e w2 ⟨rfl, hb2⟩
  have hb12 : Below w1.heap.size w1 w2 := hbA.trans (hb2.mono hbA.size)
  have hbw2 : Below w.heap.size w w2 := hb1.trans (hb12.mono hb1.size)
  obtain ⟨g, cap, rfl⟩ := own_pos hown1 (by decide)
  have hlt1 := (own_lt hown1).1
  have hc0 := own_cell hown1 0 (by decide)
  have hcap := own_capd hown1
  have hc0' : w1.cell? ⟨g, 0, none⟩ = some (.string ⟨#[97]⟩) := hc0
  unfold wH at *
  have Hw2 := Lib.hid hbw2
  have Hc0 := Lib.hid ((hb12.cell (p := ⟨g, 0, none⟩) hlt1).trans hc0')
  have hg2 : g < w2.heap.size := Nat.lt_of_lt_of_le hlt1 hb12.size
  clear hS hbA hb2 hb12 hbw2 hc0 hc0' hown1 hlt1 Hhang hb1
  go_wp2_with (first
    | (go_at_call 8; refine (Hf1.out _).mono ?_; clear Hf1; rintro e w3 ⟨rfl, hb3⟩)
    | (go_at_call 8; refine (Hf2.out _).mono ?_; clear Hf2; rintro e w4 ⟨rfl, hb4⟩; have hb24 := hb3.trans (hb4.mono hb3.size); have hb04 := Hw2.out.trans (hb24.mono Hw2.out.size))
    | (go_at_call 31; refine (Hroot.out _ hb04).mono ?_; clear Hroot; rintro e w5 ⟨rfl, hb5⟩; have hb25 := hb24.trans (hb5.mono hb24.size); have hcl := (hb25.cell (p := ⟨g, 0, none⟩) hg2).trans Hc0.out))
  go_ret
  exact ⟨rfl, Hw2.out.trans (hb25.mono Hw2.out.size)⟩

end Go.Proofs.YtkdalgdckgmccaaGreatDoor
