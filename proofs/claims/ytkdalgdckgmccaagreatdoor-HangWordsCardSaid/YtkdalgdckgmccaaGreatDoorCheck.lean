/-
  The walk of Check: whether a string is a word.
-/
import Derived.Test.YtkdalgdckgmccaaGreatDoorParse
namespace Go.Proofs.YtkdalgdckgmccaaGreatDoor
open Go.RowKit

theorem i32_xor_nat (a b : Nat) (ha : a < 2147483648) (hb : b < 2147483648) : bits .xor .i32 (a : Int) (b : Int) = ((a ^^^ b : Nat) : Int) := by
  have hx : a ^^^ b < 2 ^ 31 := Nat.xor_lt_two_pow (by omega) (by omega)
  have h1 : (BitVec.ofInt 32 (a : Int)).toNat = a := by
    rw [BitVec.ofInt_natCast, BitVec.toNat_ofNat]; exact Nat.mod_eq_of_lt (by omega)
  have h2 : (BitVec.ofInt 32 (b : Int)).toNat = b := by
    rw [BitVec.ofInt_natCast, BitVec.toNat_ofNat]; exact Nat.mod_eq_of_lt (by omega)
  show IntKind.i32.wrap ((BitVec.ofInt 32 (a : Int) ^^^ BitVec.ofInt 32 (b : Int)).toNat : Int) = _
  rw [BitVec.toNat_xor, h1, h2]
  rw [IntKind.wrap_i32]
  omega

/-- Whether a number is that of a letter. -/
def letB (c : Nat) : Bool := decide (65 ≤ c) && decide (c ≤ 90) || decide (97 ≤ c) && decide (c ≤ 122)
theorem letB_iff {c : Nat} : letB c = true ↔ Lt c := by
  unfold letB Lt
  simp
theorem flip_small : ∀ r : Nat, r < 128 → ¬(97 ≤ r ∧ r ≤ 122) → (decide (97 ≤ r ^^^ 32) && decide (r ^^^ 32 ≤ 122)) = letB r := by decide +kernel
theorem flip_big (r : Nat) (h : 128 ≤ r) : 128 ≤ r ^^^ 32 := by
  have h1 : (r ^^^ 32) >>> 7 = r >>> 7 := by
    rw [Nat.shiftRight_xor_distrib]
    simp
  rw [Nat.shiftRight_eq_div_pow, Nat.shiftRight_eq_div_pow] at h1
  omega
/-- The code that Check returns. -/
def checkN (l : List Nat) : Nat := if l.all letB = true then (if 30000 < l.length then 2 else 0) else 40
theorem checkN_zero {l : List Nat} (h : checkN l = 0) : IsWord l ∧ l.length ≤ 30000 := by
  unfold checkN at h
  split at h
  · rename_i h1
    split at h
    · omega
    · exact ⟨fun c hc => letB_iff.1 (List.all_eq_true.1 h1 c hc), by omega⟩
  · omega
theorem checkN_word {l : List Nat} (h : IsWord l) (hl : l.length ≤ 30000) : checkN l = 0 := by
  unfold checkN
  rw [if_pos (List.all_eq_true.2 fun c hc => letB_iff.2 (h c hc)), if_neg (by omega)]

set_option maxRecDepth 100000 in
set_option maxHeartbeats 1000000 in
theorem check_any (s : ByteArray) (w : World) (hsz : s.size ≤ 9223372036854775807) :
    Calls Tryz.prog 5 #[.string s] w fun e w' => e = .returned (.int .i64 (checkN (lettersOf s))) ∧ Below w.heap.size w w' := by
  have hlen := lettersOf_length s
  have hit0 := World.iter_heap w s 0
  have hbel : Below w.heap.size w (w.iter s 0) := below_new' w _
  have Hl := Lib.hid hlen
  clear hlen
  go_enter Tryz.func5, Tryz.ntmps5
  go_wp2_with fail
  generalize hW : w.iter s 0 = W0 at *
  generalize hg : w.heap.size = g at *
  have Hg := Lib.hid hg
  have Hbel := Lib.hid hbel
  clear hg hbel hW
  go_loopw [4] (fun _ wr => ∃ pos : Nat, pos ≤ s.size ∧ ((lettersOf s).take pos).all letB = true ∧ wr.heap[g]? = some (.stringIter s pos) ∧ Below g w wr) (fun _ wr => s.size - wr.iterPos g)
  case atStart => exact ⟨0, Nat.zero_le _, rfl, hit0, Hbel.out⟩
  case round =>
    obtain ⟨pos, hpos, hall, hit, hbel⟩ := hrel
    have hpos0 := iterPos_of hit
    have Hall := Lib.hid hall
    clear hall
    by_cases hp : pos < s.size
    · obtain ⟨r, nn, hnx', hnn, hr2, hcase⟩ := next_rune (P := Tryz.prog) wr g s pos 0 hit hp
      have hnx : ∀ ty, (Instr.next (.pointer (some ⟨g, 0, none⟩)) true ty).run Tryz.prog wr = _ := fun ty => by
        have e : (Instr.next (.pointer (some ⟨g, 0, none⟩)) true ty) = (Instr.next (.pointer (some ⟨g, 0, none⟩)) true 0) := rfl
        rw [e, hnx']
      have hit2 := Lib.iterAt_heap wr g s pos (pos + nn) hit
      have hbel2 := Lib.below_iterAt hbel (k := g) (Nat.le_refl _) s (pos + nn)
      obtain ⟨W2, hW2⟩ : ∃ W2, W2 = wr.iterAt g s (pos + nn) := ⟨_, rfl⟩
      rw [← hW2] at hnx hit2 hbel2
      have hxor : bits BinOp.xor IntKind.i32 (r : Int) 32 = ((r ^^^ 32 : Nat) : Int) := i32_xor_nat r 32 (by omega) (by omega)
      have Hn1 := Lib.hid (isNail_any r W2)
      have Hn2 := Lib.hid (isNail_any (r ^^^ 32) W2)
      have Htake : Hid (((lettersOf s).take (pos + 1)).all letB = letB ((lettersOf s).getD pos 0)) := by
        show _ = _
        rw [take_snoc _ pos (by have := Hl.out; omega), List.all_append, Hall.out]
        simp
      have Hbadc : Hid (letB ((lettersOf s).getD pos 0) = false → checkN (lettersOf s) = 40) := by
        show _ → _
        intro h
        unfold checkN
        rw [if_neg]
        intro hh
        have := List.all_eq_true.1 hh ((lettersOf s).getD pos 0) (by
          rw [List.getD_eq_getElem?_getD, List.getElem?_eq_getElem (by have := Hl.out; omega)]
          exact List.getElem_mem _)
        rw [h] at this
        cases this
      clear hW2 hnx' hit hbel
      by_cases hn : 97 ≤ r ∧ r ≤ 122
      · obtain ⟨hc, hr, rfl⟩ : (lettersOf s).getD pos 0 < 128 ∧ r = (lettersOf s).getD pos 0 ∧ nn = 1 := by
          rcases hcase with h | h
          · exact h
          · omega
        have e1 : (decide (97 ≤ r) && decide (r ≤ 122)) = true := by simp [hn.1, hn.2]
        rw [e1] at Hn1
        rw [← hr, letB_iff.2 (show Lt r by unfold Lt; omega)] at Htake
        clear hr hcase e1 hc hn
        go_wp2_with (first
          | (go_at_call 19; refine Hn1.out.mono ?_; clear Hn1; rintro e w3 ⟨rfl, rfl⟩))
        go_roundw
        case rel => exact ⟨pos + 1, by omega, Htake.out, hit2, hbel2⟩
        case measure => rw [iterPos_of hit2, hpos0]; omega
      · have e1 : (decide (97 ≤ r) && decide (r ≤ 122)) = false := by
          rw [Bool.and_eq_false_iff, decide_eq_false_iff_not, decide_eq_false_iff_not]; omega
        rw [e1] at Hn1
        by_cases hL : letB ((lettersOf s).getD pos 0) = true
        · obtain ⟨hc, hr, rfl⟩ : (lettersOf s).getD pos 0 < 128 ∧ r = (lettersOf s).getD pos 0 ∧ nn = 1 := by
            rcases hcase with h | h
            · exact h
            · have := letB_iff.1 hL
              unfold Lt at this
              omega
          have e2 := flip_small r (by omega) hn
          rw [hr, hL] at e2
          rw [← hr] at e2
          rw [e2] at Hn2
          rw [hL] at Htake
          clear hr hcase e1 hc hn e2 hL
          generalize r ^^^ 32 = r' at *
          go_wp2_with (first
            | (go_at_call 19; refine Hn1.out.mono ?_; clear Hn1; rintro e w3 ⟨rfl, rfl⟩)
            | (go_at_call 19; refine Hn2.out.mono ?_; clear Hn2; rintro e w3 ⟨rfl, rfl⟩))
          go_roundw
          case rel => exact ⟨pos + 1, by omega, Htake.out, hit2, hbel2⟩
          case measure => rw [iterPos_of hit2, hpos0]; omega
        · have hL' : letB ((lettersOf s).getD pos 0) = false := by simpa using hL
          have Hres := Lib.hid (Hbadc.out hL')
          have e2 : (decide (97 ≤ r ^^^ 32) && decide (r ^^^ 32 ≤ 122)) = false := by
            rcases hcase with ⟨h1, h2, _⟩ | ⟨_, h2⟩
            · rw [flip_small r (by omega) hn, h2]; exact hL'
            · have := flip_big r h2
              rw [Bool.and_eq_false_iff, decide_eq_false_iff_not, decide_eq_false_iff_not]; omega
          rw [e2] at Hn2
          clear hcase e1 hn e2 hL hL' Hbadc
          generalize r ^^^ 32 = r' at *
          go_wp2_with (first
            | (go_at_call 19; refine Hn1.out.mono ?_; clear Hn1; rintro e w3 ⟨rfl, rfl⟩)
            | (go_at_call 19; refine Hn2.out.mono ?_; clear Hn2; rintro e w3 ⟨rfl, rfl⟩))
          go_ret
          exact ⟨by rw [Hres.out]; rfl, by rw [Hg.out]; exact hbel2⟩
    · have hnx : ∀ ty, (Instr.next (.pointer (some ⟨g, 0, none⟩)) true ty).run Tryz.prog wr = _ := fun ty => Lib.run_next_end_at wr g s pos ty hit hp
      have he : (lettersOf s).take pos = lettersOf s := List.take_of_length_le (by have := Hl.out; omega)
      rw [he] at Hall
      by_cases hbig : 30000 < s.size
      · have Hres : Hid (checkN (lettersOf s) = 2) := by
          show _ = _
          unfold checkN
          rw [if_pos Hall.out, if_pos (by rw [Hl.out]; exact hbig)]
        clear he
        go_wp2_with fail
        go_ret
        exact ⟨by rw [Hres.out]; rfl, by rw [Hg.out]; exact hbel⟩
      · have Hres : Hid (checkN (lettersOf s) = 0) := by
          show _ = _
          unfold checkN
          rw [if_pos Hall.out, if_neg (by rw [Hl.out]; exact hbig)]
        clear he
        go_wp2_with fail
        go_ret
        exact ⟨by rw [Hres.out]; rfl, by rw [Hg.out]; exact hbel⟩

end Go.Proofs.YtkdalgdckgmccaaGreatDoor
