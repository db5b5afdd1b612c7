/-
  The walk of the law's text: a word of any string.
-/
import Derived.Test.YtkdalgdckgmccaaGreatDoorLaw
namespace Go.Proofs.YtkdalgdckgmccaaGreatDoor
open Go.RowKit Go.Shelf

/-- The letter that a byte stands for. -/
def textC (nails c : Nat) : Nat := if c % (2 * nails) < nails then 97 + c % (2 * nails) else 65 + (c % (2 * nails) - nails)
def textL (nails : Nat) (l : List Nat) : List Nat := l.map (textC nails)
theorem textC_lt {nails c : Nat} (h : 0 < nails) (h2 : nails ≤ 26) : Lt (textC nails c) := by
  have := Nat.mod_lt c (show 0 < 2 * nails by omega)
  unfold textC Lt
  split <;> omega
theorem textL_word {nails : Nat} (l : List Nat) (h : 0 < nails) (h2 : nails ≤ 26) : IsWord (textL nails l) := by
  intro c hc
  obtain ⟨x, _, rfl⟩ := List.mem_map.1 hc
  exact textC_lt h h2

theorem wrap64_in (z : Int) (h1 : -9223372036854775808 ≤ z) (h2 : z ≤ 9223372036854775807) : wrap64 z = z := by
  unfold wrap64
  omega
theorem strL_append (a b : List Nat) : strL a ++ strL b = strL (a ++ b) := by
  apply ByteArray.ext
  unfold strL strOfNums
  simp
theorem byte_string (W : World) (x : Nat) (z : Int) (hz : z = (x : Nat)) : (convert 43 9 (.slice (some ⟨W.heap.size, 0, none⟩) 1 1)).run Tryz.prog (W.alloc (.cells #[.int .u8 z] 5)) = .ok (.string (strL [x])) (W.alloc (.cells #[.int .u8 z] 5)) := by
  subst hz
  exact own_string Tryz.underlying43 (own_lit W 5 (nums .u8 [x]) (by simp [nums, maxLen]))

set_option maxRecDepth 100000 in
set_option maxHeartbeats 2000000 in
theorem text_any (s : ByteArray) (nails most : Nat) (w : World) (h0 : 0 < nails) (h26 : nails ≤ 26) (hm : most ≤ 1000000) :
    Calls Tryz.prog 15 #[.string s, .int .i64 nails, .int .i64 most] w fun e w' => e = .returned (.string (strL (textL nails ((lettersOf s).take most)))) ∧ Below w.heap.size w w' := by
  go_enter Tryz.func15, Tryz.ntmps15
  go_wp2_with fail
  go_loopw [7, 8] (fun v kv wr => ∃ k : Nat, k ≤ s.size ∧ k ≤ most ∧ kv = .int .i64 k ∧ v = .string (strL (textL nails ((lettersOf s).take k))) ∧ Below w.heap.size w wr) (fun _ kv _ => most - (intOf kv).toNat)
  case atStart => exact ⟨0, Nat.zero_le _, Nat.zero_le _, rfl, rfl, Below.refl _ _⟩
  case round =>
    obtain ⟨k, hk, hkm, rfl, rfl, hbel⟩ := hrel
    have Hbel := Lib.hid hbel
    clear hbel
    by_cases hlt : k < s.size ∧ k < most
    · obtain ⟨hlt1, hlt2⟩ := hlt
      have hki : (k : Int) < (s.size : Int) := by omega
      have hkm2 : (k : Int) < (most : Int) := by omega
      have Hstep : Hid ((lettersOf s).take (k + 1) = (lettersOf s).take k ++ [(lettersOf s).getD k 0]) := take_snoc _ _ (by rw [lettersOf_length]; exact hlt1)
      have Hc := Lib.hid (lettersOf_get s k hlt1)
      obtain ⟨c, hc⟩ : ∃ c, (lettersOf s).getD k 0 = c := ⟨_, rfl⟩
      rw [hc] at Hc Hstep
      have hc8 : c < 256 := by rw [← hc]; exact lettersOf_lt s k
      have hcc : (s[k]'hlt1).toNat = c := Hc.out.symm
      obtain ⟨r, hr⟩ : ∃ r, c % (2 * nails) = r := ⟨_, rfl⟩
      have hr2 : r < 2 * nails := by rw [← hr]; exact Nat.mod_lt _ (by omega)
      have hw1 : wrap64 (c : Int) = (c : Int) := wrap64_in _ (by omega) (by omega)
      have htm : Int.tmod (c : Int) (2 * (nails : Int)) = (r : Int) := by
        rw [← hr, Int.tmod_eq_emod_of_nonneg (by omega)]
        simp
      have hlen : (textL nails ((lettersOf s).take k)).length ≤ 1000000 := by
        unfold textL
        rw [List.length_map, List.length_take]
        omega
      have hX : Hid (textL nails ((lettersOf s).take (k + 1)) = textL nails ((lettersOf s).take k) ++ [textC nails c]) := by
        show _ = _
        rw [Hstep.out]
        unfold textL
        rw [List.map_append]; rfl
      have Htc : Hid (textC nails c = if r < nails then 97 + r else 65 + (r - nails)) := by
        show _ = _
        unfold textC
        rw [hr]
      have Hk1 : Hid (k + 1 ≤ s.size ∧ k + 1 ≤ most) := ⟨hlt1, hlt2⟩
      generalize textL nails ((lettersOf s).take k) = X at *
      have hXs : (strL X).size ≤ 1000000 := by rw [strL_size]; exact hlen
      clear hc hr Hc Hstep hlen
      by_cases hrn : r < nails
      · have hdec : decide ((r : Int) < (nails : Int)) = true := decide_eq_true (by omega)
        have h97 : (97 + (r : Int)) % 256 = 97 + (r : Int) := by omega
        have hr8 : (r : Int) % 256 = (r : Int) := by omega
        have hconv := fun W => byte_string W (97 + r) (97 + (r : Int)) (by omega)
        have Htc2 : Hid (textC nails c = 97 + r) := by show _ = _; rw [Htc.out, if_pos hrn]
        have hcat := strL_append X [97 + r]
        have hone : (strL [97 + r]).size = 1 := by rw [strL_size]; rfl
        clear Htc
        go_wp2_with fail
        refine ⟨⟨k + 1, Hk1.out.1, Hk1.out.2, by go_num, ?_, (Hbel.out.trans ((below_new' _ _).mono Hbel.out.size))⟩, by simp [intOf]; omega⟩
        rw [hX.out, Htc2.out]
      · have hdec : decide ((r : Int) < (nails : Int)) = false := decide_eq_false (by omega)
        have hw2 : wrap64 ((r : Int) - (nails : Int)) = (r : Int) - (nails : Int) := wrap64_in _ (by omega) (by omega)
        have h97 : (65 + ((r : Int) - (nails : Int))) % 256 = 65 + ((r : Int) - (nails : Int)) := by omega
        have hr8 : ((r : Int) - (nails : Int)) % 256 = (r : Int) - (nails : Int) := by omega
        have hconv := fun W => byte_string W (65 + (r - nails)) (65 + ((r : Int) - (nails : Int))) (by omega)
        have Htc2 : Hid (textC nails c = 65 + (r - nails)) := by show _ = _; rw [Htc.out, if_neg hrn]
        have hcat := strL_append X [65 + (r - nails)]
        have hone : (strL [65 + (r - nails)]).size = 1 := by rw [strL_size]; rfl
        clear Htc
        go_wp2_with fail
        refine ⟨⟨k + 1, Hk1.out.1, Hk1.out.2, by go_num, ?_, (Hbel.out.trans ((below_new' _ _).mono Hbel.out.size))⟩, by simp [intOf]; omega⟩
        rw [hX.out, Htc2.out]
    · have htk : (lettersOf s).take k = (lettersOf s).take most := by
        have := lettersOf_length s
        by_cases h : k < s.size
        · rw [show most = k by omega]
        · rw [List.take_of_length_le (by omega), List.take_of_length_le (by omega)]
      rw [htk]
      have hno : ¬ ((k : Int) < (s.size : Int) ∧ (k : Int) < (most : Int)) := by omega
      by_cases h : k < s.size
      · have h2 : ¬ ((k : Int) < (most : Int)) := by omega
        have h3 : (k : Int) < (s.size : Int) := by omega
        go_wp2_with fail
        go_ret
        exact ⟨rfl, Hbel.out⟩
      · have h2 : ¬ ((k : Int) < (s.size : Int)) := by omega
        go_wp2_with fail
        go_ret
        exact ⟨rfl, Hbel.out⟩

end Go.Proofs.YtkdalgdckgmccaaGreatDoor
