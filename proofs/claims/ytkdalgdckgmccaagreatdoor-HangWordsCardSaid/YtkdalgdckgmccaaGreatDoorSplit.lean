/-
  The walk of split: a reduced wire as a handle, a loop and the inverse of the handle.
-/
import Derived.Test.YtkdalgdckgmccaaGreatDoorWire
namespace Go.Proofs.YtkdalgdckgmccaaGreatDoor
open Go.RowKit

/-- How many letters of the two ends undo each other, from k on. -/
def coreF (l : List Nat) : Nat → Nat → Nat
  | 0, k => k
  | f + 1, k => if k + 1 < l.length - k ∧ l.getD k 0 = inv (l.getD (l.length - k - 1) 0) then coreF l f (k + 1) else k
def coreK (l : List Nat) : Nat := coreF l l.length 0
theorem coreF_le (l : List Nat) : ∀ (f k : Nat), 2 * k ≤ l.length → 2 * coreF l f k ≤ l.length
  | 0, k, h => h
  | f + 1, k, h => by
    unfold coreF
    split
    · exact coreF_le l f (k + 1) (by omega)
    · exact h
theorem coreK_le (l : List Nat) : 2 * coreK l ≤ l.length := coreF_le l _ 0 (by omega)
/-- The loop between the two ends. -/
def loopL (l : List Nat) : List Nat := (l.drop (coreK l)).take (l.length - 2 * coreK l)
theorem loopL_length (l : List Nat) : (loopL l).length = l.length - 2 * coreK l := by
  unfold loopL
  rw [List.length_take, List.length_drop]
  have := coreK_le l
  omega

theorem Sl.drop {k : IntKind} {w : World} {b off n m : Nat} {l : List Nat} (h : Sl k w (some ⟨b, off, none⟩) n l) (hm : m ≤ n) : Sl k w (some ⟨b, off + m, none⟩) (n - m) (l.drop m) := by
  obtain ⟨h1, h2, h3⟩ := h
  refine ⟨by rw [List.length_drop, h1], by omega, fun hn => ?_⟩
  obtain ⟨b', off', e, hs, hc⟩ := h3 (by omega)
  injection e with e
  injection e with e1 e2
  subst e1 e2
  refine ⟨b, off + m, rfl, hs, fun i hi => ?_⟩
  rw [Nat.add_assoc, hc (m + i) (by omega)]
  simp [List.getD_eq_getElem?_getD]

/-- What split returns. -/
def RetSplit (l : List Nat) (w : World) (e : Ending) (w' : World) : Prop := ∃ A1 c1 A2 c2, e = .returned (.tuple #[.slice A1 (coreK l) c1, .slice A2 (l.length - 2 * coreK l) c2]) ∧ Sl .u8 w' A1 (coreK l) (l.take (coreK l)) ∧ Sl .u8 w' A2 (l.length - 2 * coreK l) (loopL l) ∧ coreK l ≤ c1 ∧ l.length - 2 * coreK l ≤ c2 ∧ Drew w w'
theorem ret_split {w : World} {b off n : Nat} {l : List Nat} (h : Sl .u8 w (some ⟨b, off, none⟩) n l) {k c1 c2 q : Nat} {A2 : Option Addr} {z : Nat} (hck : coreK l = k) (hz : z = n - 2 * k) (hkn : 2 * k ≤ n) (hA : 0 < z → A2 = some ⟨b, off + k, none⟩) (hc1 : k ≤ c1) (hc2 : z ≤ c2) :
    RetSplit l w (.returned (.tuple #[.slice (some ⟨b, off, none⟩) (k : Nat) c1, .slice A2 z c2])) (w.drewN q) := by
  have hl := h.len
  refine ⟨some ⟨b, off, none⟩, c1, A2, c2, by rw [hck, hl, ← hz], ?_, ?_, by omega, by omega, ⟨q, rfl⟩⟩
  · rw [hck]; exact (h.take (by omega)).drewN q
  · unfold loopL
    rw [hck, hl, ← hz]
    have h2 := ((h.drop (m := k) (by omega)).take (m := z) (by omega))
    refine ⟨h2.1, h2.2.1, fun hz0 => ?_⟩
    rw [hA hz0]
    exact (h2.drewN q).2.2 hz0

set_option maxRecDepth 100000 in
set_option maxHeartbeats 2000000 in
theorem split_any (b off n cap : Nat) (l : List Nat) (w : World) (hS : Sl .u8 w (some ⟨b, off, none⟩) n l) (hword : IsWord l) (hn : n ≤ 1000000) (hcap : n ≤ cap) (hcap2 : cap ≤ 9223372036854775807) :
    Calls Tryz.prog 72 #[.slice (some ⟨b, off, none⟩) n cap] w (RetSplit l w) := by
  have Hl := Lib.hid hS.len
  have HS := Lib.hid hS
  have Hword := Lib.hid hword
  clear hS hword
  go_enter Tryz.func72, Tryz.ntmps72
  go_wp2_with fail
  go_loopw [4, 5] (fun kv ev wr => ∃ k f : Nat, 2 * k ≤ n ∧ n ≤ 2 * (k + f) ∧ kv = .int .i64 k ∧ ev = .int .i64 ((n - k : Nat) : Int) ∧ coreK l = coreF l f k ∧ Drew w wr) (fun kv _ _ => n - (intOf kv).toNat)
  case atStart => exact ⟨0, n, by omega, by omega, rfl, by simp, by unfold coreK; rw [Hl.out], Drew.refl _⟩
  case round =>
    obtain ⟨k, f, hk, hf, rfl, rfl, hcore, hd⟩ := hrel
    obtain ⟨q, rfl⟩ := hd
    have Hcore := Lib.hid hcore
    clear hcore
    by_cases hlt : k + 1 < n - k
    · obtain ⟨f, rfl⟩ : ∃ f', f = f' + 1 := ⟨f - 1, by omega⟩
      obtain ⟨m, hm⟩ : ∃ m, n - k = m + 1 := ⟨n - k - 1, by omega⟩
      obtain ⟨b', off', e, hbs, hcl⟩ := HS.out.at (by omega)
      injection e with e
      injection e with e1 e2
      subst e1 e2
      have hc1 := hcl k (by omega)
      have hc2 := hcl m (by omega)
      have hLt : Lt (l.getD m 0) := by
        rw [List.getD_eq_getElem?_getD, List.getElem?_eq_getElem (by have := Hl.out; omega)]
        exact Hword.out _ (List.getElem_mem _)
      have Hst : Hid (coreF l (f + 1) k = if l.getD k 0 = inv (l.getD m 0) then coreF l f (k + 1) else k) := by
        show _ = _
        conv => lhs; unfold coreF
        rw [Hl.out, hm, Nat.add_sub_cancel]
        by_cases h : l.getD k 0 = inv (l.getD m 0)
        · rw [if_pos h, if_pos ⟨by omega, h⟩]
        · rw [if_neg h, if_neg (fun h2 => h h2.2)]
      have hkm : k < m := by omega
      have hmn : m < n := by omega
      have hwr : IntKind.i64.wrap (m : Int) = (m : Int) := IntWalk.i64_in _ (by omega)
      have hkmi : (k : Int) < (m : Int) := by omega
      have hdec : decide ((k : Int) < IntKind.i64.wrap (m : Int)) = true := by rw [hwr]; exact decide_eq_true hkmi
      have hdec2 : decide ((k : Int) < (m : Int)) = true := decide_eq_true hkmi
      have hmni : (m : Int) < (n : Int) := by omega
      have hkni : (k : Int) < (n : Int) := by omega
      have Hm := Lib.hid hm
      rw [hm]
      clear hm hlt
      generalize l.getD k 0 = x at *
      generalize l.getD m 0 = y at *
      have hbits := inv_bits y hLt.lt hLt
      clear hcl hLt
      by_cases hxy : x = inv y
      · subst hxy
        go_wp2_with fail
        go_quiet (fail)
        go_wp2_with fail
        go_roundw
        case rel => exact ⟨k + 1, f, by have := Hm.out; omega, by omega, by go_num, by rw [show n - (k + 1) = m by have := Hm.out; omega], by rw [Hcore.out, Hst.out, if_pos trivial], ⟨_, rfl⟩⟩
        case measure => simp [intOf]; omega
      · have hne : ((x : Int) == ((inv y : Nat) : Int)) = false := by
          have : ((x : Int) ≠ ((inv y : Nat) : Int)) := by omega
          simpa using this
        have hck : coreK l = k := by rw [Hcore.out, Hst.out, if_neg hxy]
        have Hck := Lib.hid hck
        clear hxy hck
        go_wp2_with fail
        go_quiet (fail)
        go_wp2_with fail
        go_quiet (fail)
        go_wp2_with fail
        go_ret2
        rw [World.drewN_drewN, World.drewN_drewN]
        exact ret_split HS.out Hck.out (by have := Hm.out; omega) hk (fun _ => rfl) (Nat.le_refl _) (Nat.le_refl _)
    · have hE : ((n - k : Nat) : Int) - 1 = (n : Int) - k - 1 := by omega
      obtain ⟨E, hE2⟩ : ∃ E, n - k = E := ⟨_, rfl⟩
      have hck : coreK l = k := by
        rw [Hcore.out]
        cases f with
        | zero => rfl
        | succ f =>
          unfold coreF
          rw [Hl.out, if_neg (fun h => hlt h.1)]
      have Hck := Lib.hid hck
      have hEn : E ≤ n := by omega
      have hwr : IntKind.i64.wrap ((E : Int) - 1) = (E : Int) - 1 := IntWalk.i64_in _ (by omega)
      have hdec : decide ((k : Int) < (E : Int) - 1) = false := decide_eq_false (by omega)
      have hdec2 : ¬ (k : Int) < (E : Int) - 1 := by omega
      have HE := Lib.hid hE2
      have hkE : k ≤ E := by omega
      rw [hE2]
      clear hck hE hE2 hlt
      go_wp2_with fail
      go_quiet (fail)
      go_wp2_with fail
      go_quiet (fail)
      go_wp2_with fail
      case neg.inl =>
        go_ret2
        exact ret_split HS.out Hck.out (by have := HE.out; omega) hk (fun h => absurd h (by omega)) (Nat.le_refl _) (Nat.le_refl _)
      case neg.inr =>
        go_ret2
        exact ret_split HS.out Hck.out (by have := HE.out; have := Hck.out; have := coreK_le l; have := Hl.out; omega) hk (fun _ => rfl) (Nat.le_refl _) (Nat.le_refl _)

end Go.Proofs.YtkdalgdckgmccaaGreatDoor
