/-
  The walks of the reference's Check, Contains, Reduce and Falls.
-/
import Derived.Test.YtolppbilcmobbaaRefA
namespace Go.Proofs.Ytolppbilcmobbaa
open Go.RowKit Go.Shelf

set_option maxRecDepth 100000 in
theorem rcheck_any (s : ByteArray) (w : World) (hsz : s.size ≤ 1000000000) : Calls Try.prog 23 #[.string s] w fun e w' => e = .returned (.int .i64 (checkN (lettersOf s))) ∧ w' = w := by
  have hl := lettersOf_length s
  obtain ⟨r, hr⟩ : ∃ r, checkN (lettersOf s) = r := ⟨_, rfl⟩
  have Hr : Hid ((if (lettersOf s).all letB = true then (if 30000 < s.size then 2 else 0) else 40) = r) := by
    show _ = _
    rw [← hr, ← hl]; rfl
  rw [hr]
  clear hr
  go_enter Try.func23, Try.ntmps23
  go_wp2_with fail
  go_loopw [3] (fun kv wr => ∃ k : Nat, k ≤ s.size ∧ kv = .int .i64 k ∧ ((lettersOf s).take k).all letB = true ∧ wr = w) (fun kv _ => s.size - (intOf kv).toNat)
  case atStart => exact ⟨0, Nat.zero_le _, rfl, rfl, rfl⟩
  case round =>
    obtain ⟨k, hk, rfl, hno, rfl⟩ := hrel
    have Hno := Lib.hid hno
    clear hno
    by_cases hlt : k < s.size
    · have hki : (k : Int) < (s.size : Int) := by omega
      have hcc : (s[k]'hlt).toNat = (lettersOf s).getD k 0 := (lettersOf_get s k hlt).symm
      have Hmem : Hid ((lettersOf s).getD k 0 ∈ lettersOf s) := by
        show _ ∈ _
        rw [List.getD_eq_getElem?_getD, List.getElem?_eq_getElem (by omega)]
        exact List.getElem_mem _
      have Hst := Lib.hid (all_take (l := lettersOf s) (P := letB) (k := k) (by omega))
      rw [Hno.out, Bool.true_and] at Hst
      generalize (lettersOf s).getD k 0 = d at *
      have Hlet := Lib.hid (isLetter_any d wr)
      have Hbad : Hid (letB d = false → r = 40) := by
        show _ → _
        intro h
        rw [← Hr.out, if_neg]
        intro h2
        rw [List.all_eq_true.1 h2 d Hmem.out] at h
        cases h
      generalize letB d = b at *
      cases b
      · go_wp2_with (go_at_call 53; refine Hlet.out.mono ?_; rintro e w2 ⟨rfl, rfl⟩)
        go_ret
        exact ⟨by rw [Hbad.out trivial]; rfl, rfl⟩
      · go_wp2_with (go_at_call 53; refine Hlet.out.mono ?_; rintro e w2 ⟨rfl, rfl⟩)
        go_roundw
        case rel => exact ⟨k + 1, by omega, by go_num, Hst.out, (by trivial)⟩
        case measure => simp [intOf]; omega
    · obtain rfl : k = s.size := by omega
      have hall := Hno.out
      rw [List.take_of_length_le (by omega)] at hall
      by_cases hbig : 30000 < s.size
      · have e : Hid (r = 2) := by show _ = _; rw [← Hr.out, if_pos hall, if_pos hbig]
        have hb2 : (30000 : Int) < (s.size : Int) := by omega
        clear hall
        go_wp2_with fail
        go_ret
        exact ⟨by rw [e.out]; rfl, rfl⟩
      · have e : Hid (r = 0) := by show _ = _; rw [← Hr.out, if_pos hall, if_neg hbig]
        have hb2 : ¬ (30000 : Int) < (s.size : Int) := by omega
        clear hall
        go_wp2_with fail
        go_ret
        exact ⟨by rw [e.out]; rfl, rfl⟩

set_option maxRecDepth 100000 in
theorem rcontains_any (s t : ByteArray) (w : World) (hs1 : s.size ≤ 1000000000) (hsz : t.size ≤ 1000000000) : Calls Try.prog 27 #[.string s, .string t] w fun e w' => e = .returned (.bool ((lettersOf t).all fun c => hasL (lettersOf s) c)) ∧ w' = w := by
  have hl := lettersOf_length t
  obtain ⟨P, hP⟩ : ∃ P : Nat → Bool, P = fun c => hasL (lettersOf s) c := ⟨_, rfl⟩
  have Hhas : Hid (∀ c W, Calls Try.prog 49 #[.string s, .int .u8 (c : Nat)] W fun e w' => e = .returned (.bool (P c)) ∧ w' = W) := fun c W => by rw [hP]; exact has_any s c W hs1
  rw [← hP]
  clear hP
  obtain ⟨r, hr⟩ : ∃ r, (lettersOf t).all P = r := ⟨_, rfl⟩
  have Hr := Lib.hid hr
  rw [hr]
  clear hr
  go_enter Try.func27, Try.ntmps27
  go_wp2_with fail
  go_loopw [5] (fun kv wr => ∃ k : Nat, k ≤ t.size ∧ kv = .int .i64 k ∧ ((lettersOf t).take k).all P = true ∧ wr = w) (fun kv _ => t.size - (intOf kv).toNat)
  case atStart => exact ⟨0, Nat.zero_le _, rfl, rfl, rfl⟩
  case round =>
    obtain ⟨k, hk, rfl, hno, rfl⟩ := hrel
    have Hno := Lib.hid hno
    clear hno
    by_cases hlt : k < t.size
    · have hki : (k : Int) < (t.size : Int) := by omega
      have hcc : (t[k]'hlt).toNat = (lettersOf t).getD k 0 := (lettersOf_get t k hlt).symm
      have Hmem : Hid ((lettersOf t).getD k 0 ∈ lettersOf t) := by
        show _ ∈ _
        rw [List.getD_eq_getElem?_getD, List.getElem?_eq_getElem (by omega)]
        exact List.getElem_mem _
      have Hst := Lib.hid (all_take (l := lettersOf t) (P := P) (k := k) (by omega))
      rw [Hno.out, Bool.true_and] at Hst
      generalize (lettersOf t).getD k 0 = d at *
      have Hh := Lib.hid (Hhas.out d wr)
      have Hbad : Hid (P d = false → r = false) := by
        show _ → _
        intro h
        rw [← Hr.out, List.all_eq_false]
        exact ⟨d, Hmem.out, by rw [h]; decide⟩
      generalize P d = b at *
      cases b
      · go_wp2_with (go_at_call 49; refine Hh.out.mono ?_; rintro e w2 ⟨rfl, rfl⟩)
        go_ret
        exact ⟨by rw [Hbad.out trivial]; rfl, rfl⟩
      · go_wp2_with (go_at_call 49; refine Hh.out.mono ?_; rintro e w2 ⟨rfl, rfl⟩)
        go_roundw
        case rel => exact ⟨k + 1, by omega, by go_num, Hst.out, (by trivial)⟩
        case measure => simp [intOf]; omega
    · obtain rfl : k = t.size := by omega
      have e : Hid (r = true) := by
        show _ = _
        rw [← Hr.out]
        have := Hno.out
        rwa [List.take_of_length_le (by omega)] at this
      go_wp2_with fail
      go_ret
      exact ⟨by rw [e.out]; rfl, rfl⟩

end Go.Proofs.Ytolppbilcmobbaa
