/-
  The walks of the reference's small functions: letters, their inverses and nails, whether a string has a byte, contains another set, or is a word.
  The walks of the reference's Check, Contains, Reduce and Falls.
-/
import Derived.Test.YtkdalgdckgmccaaGreatDoorCheck
import Derived.Test.YtkdalgdckgmccaaGreatDoorText
namespace Go.Proofs.YtkdalgdckgmccaaGreatDoor
open Go.RowKit

theorem rother_any (c : Nat) (hc : Lt c) (w : World) : Calls Tryz.prog 26 #[.int .u8 c] w fun e w' => e = .returned (.int .u8 (inv c : Nat)) ∧ w' = w := by
  have h1 := hc
  unfold Lt at h1
  by_cases h : 97 ≤ c
  · have h2 : (97 : Int) ≤ (c : Int) := by omega
    have h3 : ((c : Int) - 32) % 256 = (c : Int) - 32 := by omega
    have h4 : Hid ((inv c : Nat) = ((c : Int) - 32)) := by show _ = _; unfold inv; rw [if_pos h]; omega
    clear h
    go_enter Tryz.func26, Tryz.ntmps26
    go_wp2_with fail
    go_ret
    exact ⟨by rw [h4.out]; rfl, rfl⟩
  · have h2 : ¬ (97 : Int) ≤ (c : Int) := by omega
    have h3 : ((c : Int) + 32) % 256 = (c : Int) + 32 := by omega
    have h4 : Hid ((inv c : Nat) = ((c : Int) + 32)) := by show _ = _; unfold inv; rw [if_neg h]; omega
    clear h
    go_enter Tryz.func26, Tryz.ntmps26
    go_wp2_with fail
    go_ret
    exact ⟨by rw [h4.out]; rfl, rfl⟩

theorem rnail_any (c : Nat) (hc : Lt c) (w : World) : Calls Tryz.prog 28 #[.int .u8 c] w fun e w' => e = .returned (.int .u8 (97 + (nailN c : Nat))) ∧ w' = w := by
  have h1 := hc
  unfold Lt at h1
  by_cases h : 97 ≤ c
  · have h2 : (97 : Int) ≤ (c : Int) := by omega
    have h4 : Hid ((97 + (nailN c : Nat) : Int) = (c : Int)) := by show _ = _; unfold nailN; rw [if_pos h]; omega
    clear h
    go_enter Tryz.func28, Tryz.ntmps28
    go_wp2_with fail
    go_ret
    exact ⟨by rw [h4.out]; rfl, rfl⟩
  · have h2 : ¬ (97 : Int) ≤ (c : Int) := by omega
    have h3 : ((c : Int) + 32) % 256 = (c : Int) + 32 := by omega
    have h4 : Hid ((97 + (nailN c : Nat) : Int) = (c : Int) + 32) := by show _ = _; unfold nailN; rw [if_neg h]; omega
    clear h
    go_enter Tryz.func28, Tryz.ntmps28
    go_wp2_with fail
    go_ret
    exact ⟨by rw [h4.out]; rfl, rfl⟩

theorem isLetter_any (c : Nat) (w : World) : Calls Tryz.prog 18 #[.int .u8 c] w fun e w' => e = .returned (.bool (letB c)) ∧ w' = w := by
  have hB : Hid (letB c = (decide (65 ≤ c) && decide (c ≤ 90) || decide (97 ≤ c) && decide (c ≤ 122))) := rfl
  obtain ⟨r, hr⟩ : ∃ r, letB c = r := ⟨_, rfl⟩
  rw [hr] at hB ⊢
  clear hr
  by_cases h1 : (97 : Int) ≤ (c : Int)
  · by_cases h2 : (c : Int) ≤ 122
    · have e : Hid (r = true) := by show _ = _; rw [hB.out]; simp; omega
      go_enter Tryz.func18, Tryz.ntmps18
      go_wp2_with fail
      go_ret
      exact ⟨by rw [e.out]; rfl, rfl⟩
    · have e : Hid (r = false) := by
        show _ = _; rw [hB.out]
        rw [decide_eq_false (show ¬ c ≤ 122 by omega), decide_eq_false (show ¬ c ≤ 90 by omega), Bool.and_false, Bool.and_false]; rfl
      have h3 : (65 : Int) ≤ (c : Int) := by omega
      have h4 : ¬ (c : Int) ≤ 90 := by omega
      go_enter Tryz.func18, Tryz.ntmps18
      go_wp2_with fail
      go_ret
      exact ⟨by rw [e.out]; rfl, rfl⟩
  · have e0 : Hid (r = (decide (65 ≤ c) && decide (c ≤ 90))) := by
      show _ = _; rw [hB.out, decide_eq_false (show ¬ 97 ≤ c by omega), Bool.false_and, Bool.or_false]
    by_cases h3 : (65 : Int) ≤ (c : Int)
    · by_cases h4 : (c : Int) ≤ 90
      · have e : Hid (r = true) := by show _ = _; rw [e0.out, decide_eq_true (show 65 ≤ c by omega), decide_eq_true (show c ≤ 90 by omega)]; rfl
        go_enter Tryz.func18, Tryz.ntmps18
        go_wp2_with fail
        go_ret
        exact ⟨by rw [e.out]; rfl, rfl⟩
      · have e : Hid (r = false) := by show _ = _; rw [e0.out, decide_eq_false (show ¬ c ≤ 90 by omega), Bool.and_false]
        go_enter Tryz.func18, Tryz.ntmps18
        go_wp2_with fail
        go_ret
        exact ⟨by rw [e.out]; rfl, rfl⟩
    · have e : Hid (r = false) := by show _ = _; rw [e0.out, decide_eq_false (show ¬ 65 ≤ c by omega), Bool.false_and]
      go_enter Tryz.func18, Tryz.ntmps18
      go_wp2_with fail
      go_ret
      exact ⟨by rw [e.out]; rfl, rfl⟩

/-- Whether a byte is among some. -/
def hasL (l : List Nat) (c : Nat) : Bool := l.any fun x => decide (x = c)
theorem hasL_iff {l : List Nat} {c : Nat} : hasL l c = true ↔ c ∈ l := by
  unfold hasL
  rw [List.any_eq_true]
  constructor
  · rintro ⟨x, hx, e⟩
    rw [decide_eq_true_eq] at e
    exact e ▸ hx
  · intro h
    exact ⟨c, h, by simp⟩
theorem any_take {l : List Nat} {P : Nat → Bool} {k : Nat} (h : k < l.length) : (l.take (k + 1)).any P = ((l.take k).any P || P (l.getD k 0)) := by
  rw [take_snoc _ _ h, List.any_append]; simp
theorem all_take {l : List Nat} {P : Nat → Bool} {k : Nat} (h : k < l.length) : (l.take (k + 1)).all P = ((l.take k).all P && P (l.getD k 0)) := by
  rw [take_snoc _ _ h, List.all_append]; simp

set_option maxRecDepth 100000 in
theorem has_any (s : ByteArray) (c : Nat) (w : World) (hsz : s.size ≤ 1000000000) : Calls Tryz.prog 27 #[.string s, .int .u8 c] w fun e w' => e = .returned (.bool (hasL (lettersOf s) c)) ∧ w' = w := by
  have hl := lettersOf_length s
  obtain ⟨r, hr⟩ : ∃ r, hasL (lettersOf s) c = r := ⟨_, rfl⟩
  have Hr := Lib.hid hr
  rw [hr]
  clear hr
  go_enter Tryz.func27, Tryz.ntmps27
  go_wp2_with fail
  go_loopw [5] (fun kv wr => ∃ k : Nat, k ≤ s.size ∧ kv = .int .i64 k ∧ ((lettersOf s).take k).any (fun x => decide (x = c)) = false ∧ wr = w) (fun kv _ => s.size - (intOf kv).toNat)
  case atStart => exact ⟨0, Nat.zero_le _, rfl, rfl, rfl⟩
  case round =>
    obtain ⟨k, hk, rfl, hno, rfl⟩ := hrel
    have Hno := Lib.hid hno
    clear hno
    by_cases hlt : k < s.size
    · have hki : (k : Int) < (s.size : Int) := by omega
      have hcc : (s[k]'hlt).toNat = (lettersOf s).getD k 0 := (lettersOf_get s k hlt).symm
      have Hmem : Hid ((lettersOf s).getD k 0 ∈ lettersOf s) := by
        show _ ∈ _
        rw [List.getD_eq_getElem?_getD, List.getElem?_eq_getElem (by omega)]
        exact List.getElem_mem _
      have Hst := Lib.hid (any_take (l := lettersOf s) (P := fun x => decide (x = c)) (k := k) (by omega))
      rw [Hno.out, Bool.false_or] at Hst
      generalize (lettersOf s).getD k 0 = d at *
      by_cases hd : d = c
      · subst hd
        have e : Hid (r = true) := by show _ = _; rw [← Hr.out]; exact hasL_iff.2 Hmem.out
        go_wp2_with fail
        go_ret
        exact ⟨by rw [e.out]; rfl, rfl⟩
      · have hne : ((d : Int) == (c : Int)) = false := by simp; omega
        have Hd : Hid (decide (d = c) = false) := decide_eq_false hd
        clear hd
        go_wp2_with fail
        go_roundw
        case rel => exact ⟨k + 1, by omega, by go_num, by rw [Hst.out]; exact Hd.out, (by trivial)⟩
        case measure => simp [intOf]; omega
    · obtain rfl : k = s.size := by omega
      have e : Hid (r = false) := by
        show _ = _
        rw [← Hr.out]
        have := Hno.out
        rw [List.take_of_length_le (by omega)] at this
        exact this
      go_wp2_with fail
      go_ret
      exact ⟨by rw [e.out]; rfl, rfl⟩

end Go.Proofs.YtkdalgdckgmccaaGreatDoor

namespace Go.Proofs.YtkdalgdckgmccaaGreatDoor
open Go.RowKit Go.Shelf

set_option maxRecDepth 100000 in
theorem rcheck_any (s : ByteArray) (w : World) (hsz : s.size ≤ 9223372036854775807) : Calls Tryz.prog 4 #[.string s] w fun e w' => e = .returned (.int .i64 (checkN (lettersOf s))) ∧ w' = w := by
  have hl := lettersOf_length s
  obtain ⟨r, hr⟩ : ∃ r, checkN (lettersOf s) = r := ⟨_, rfl⟩
  have Hr : Hid ((if (lettersOf s).all letB = true then (if 30000 < s.size then 2 else 0) else 40) = r) := by
    show _ = _
    rw [← hr, ← hl]; rfl
  rw [hr]
  clear hr
  go_enter Tryz.func4, Tryz.ntmps4
  go_wp2_with fail
  go_loopw [3] (fun kv wr => ∃ k : Nat, k ≤ s.size ∧ kv = .int .i64 k ∧ ((lettersOf s).take k).all letB = true ∧ wr = w) (fun kv _ => s.size - (intOf kv).toNat)
  case atStart => exact ⟨0, Nat.zero_le _, rfl, rfl, rfl⟩
  case round =>
    obtain ⟨k, hk, rfl, hno, rfl⟩ := hrel
    have Hno := Lib.hid hno
    clear hno
    by_cases hlt : k < s.size
    · have hki : (k : Int) < (s.size : Int) := by omega
      have hcc : (s[k]'hlt).toNat = (lettersOf s).getD k 0 := (lettersOf_get s k hlt).symm
      have Hmem : Hid ((lettersOf s).getD k 0 ∈ lettersOf s) := by
        show _ ∈ _
        rw [List.getD_eq_getElem?_getD, List.getElem?_eq_getElem (by omega)]
        exact List.getElem_mem _
      have Hst := Lib.hid (all_take (l := lettersOf s) (P := letB) (k := k) (by omega))
      rw [Hno.out, Bool.true_and] at Hst
      generalize (lettersOf s).getD k 0 = d at *
      have Hlet := Lib.hid (isLetter_any d wr)
      have Hbad : Hid (letB d = false → r = 40) := by
        show _ → _
        intro h
        rw [← Hr.out, if_neg]
        intro h2
        rw [List.all_eq_true.1 h2 d Hmem.out] at h
        cases h
      generalize letB d = b at *
      cases b
      · go_wp2_with (go_at_call 18; refine Hlet.out.mono ?_; rintro e w2 ⟨rfl, rfl⟩)
        go_ret
        exact ⟨by rw [Hbad.out trivial]; rfl, rfl⟩
      · go_wp2_with (go_at_call 18; refine Hlet.out.mono ?_; rintro e w2 ⟨rfl, rfl⟩)
        go_roundw
        case rel => exact ⟨k + 1, by omega, by go_num, Hst.out, (by trivial)⟩
        case measure => simp [intOf]; omega
    · obtain rfl : k = s.size := by omega
      have hall := Hno.out
      rw [List.take_of_length_le (by omega)] at hall
      by_cases hbig : 30000 < s.size
      · have e : Hid (r = 2) := by show _ = _; rw [← Hr.out, if_pos hall, if_pos hbig]
        have hb2 : (30000 : Int) < (s.size : Int) := by omega
        clear hall
        go_wp2_with fail
        go_ret
        exact ⟨by rw [e.out]; rfl, rfl⟩
      · have e : Hid (r = 0) := by show _ = _; rw [← Hr.out, if_pos hall, if_neg hbig]
        have hb2 : ¬ (30000 : Int) < (s.size : Int) := by omega
        clear hall
        go_wp2_with fail
        go_ret
        exact ⟨by rw [e.out]; rfl, rfl⟩

end Go.Proofs.YtkdalgdckgmccaaGreatDoor
