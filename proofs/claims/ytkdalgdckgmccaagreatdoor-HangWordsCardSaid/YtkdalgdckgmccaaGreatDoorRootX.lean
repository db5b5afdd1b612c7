/-
  The walk of Root: of a word that is not the empty wire.
-/
import Derived.Test.YtkdalgdckgmccaaGreatDoorRoot
import Derived.Test.YtkdalgdckgmccaaGreatDoorCheck
namespace Go.Proofs.YtkdalgdckgmccaaGreatDoor
open Go.RowKit Go.Shelf

theorem own_capmax {w : World} {B g cap n : Nat} {e : TypeId} {xs : List Value} (h : w.ownsRow B e 1 (.slice (some ⟨g, 0, none⟩) n cap) n xs) : cap ≤ maxLen := by
  obtain ⟨_, ⟨h, _⟩ | ⟨g', c', cur, h, _, _, _, h2, _⟩⟩ := h
  · exact absurd h (by simp)
  · have : cap = c' := by simpa using congrArg (fun v => match v with | .slice _ _ c => c | _ => 0) h
    omega

set_option maxRecDepth 100000 in
set_option maxHeartbeats 2000000 in
theorem rootOf_any (s : ByteArray) (m : Int) (w : World) (hsz : s.size ≤ 1000000000) (hc : checkN (lettersOf s) = 0) (hlo : Looped (redL (lettersOf s))) (hm : w.cell? ⟨0, 0, none⟩ = some (.int .i64 m)) (hw0 : 0 < w.heap.size) :
    Calls Tryz.prog 31 #[.string s] w fun e w' => e = .returned (.tuple #[.string (strL (rootL (redL (lettersOf s)))), .int .i64 (powL (redL (lettersOf s))), .int .i64 0]) ∧ Below w.heap.size w w' := by
  obtain ⟨hword, hlen⟩ := checkN_zero hc
  have hl := lettersOf_length s
  have Hchk := Lib.hid (check_any s w (by omega))
  rw [hc] at Hchk
  have Hred := Lib.hid (fun W => reduced_any s W hword (by omega))
  have hrl := redL_length (lettersOf s)
  have hrw := red_word hword
  have hpow : 0 < powL (redL (lettersOf s)) := Nat.div_pos hlo.2.2 (by unfold perL; have := hlo.2.1; omega)
  have hlp : (loopL (redL (lettersOf s))).length ≤ (redL (lettersOf s)).length := by rw [loopL_length]; omega
  generalize redL (lettersOf s) = l at *
  have hln : l.length ≤ 30000 := by omega
  have hpow2 : powL l ≤ 30000 := by
    unfold powL
    exact Nat.le_trans (Nat.div_le_self _ _) (by omega)
  have h0 : 0 < l.length := by have := hlo.1; omega
  have Hroot := Lib.hid (fun (W : World) (v : Value) (B : Nat) (hW : Wire B l W v) (hb : Below w.heap.size w W) => show Calls Tryz.prog 54 #[v] W (RetRoot l W) by
    obtain ⟨g, cap, rfl⟩ := own_pos hW.own h0
    have hmx := own_capmax hW.own
    unfold maxLen at hmx
    exact root_any g 0 _ cap l m W (own_sl hW.own (by omega)) hrw (by omega) (own_capd hW.own) hmx hlo ((hb.cell (p := ⟨0, 0, none⟩) hw0).trans hm) (Nat.lt_of_lt_of_le hw0 hb.size))
  clear hlo hm hw0 hrw hword hlen hrl hc hl hlp
  go_enter Tryz.func31, Tryz.ntmps31
  go_wp2_with (first
    | (go_at_call 5; refine Hchk.out.mono ?_; clear Hchk; rintro e w1 ⟨rfl, hb1⟩)
    | (go_at_call 20; refine (Hred.out _).mono ?_; clear Hred; rintro e w2 ⟨v2, rfl, hW2, hb2⟩; have hb12 := hb1.trans (hb2.mono hb1.size))
    | (go_at_call 54; refine (Hroot.out _ _ _ hW2 hb12).mono ?_; clear Hroot; rintro e w3 ⟨v3, rfl, hW3, hb3⟩; have hconv := wire_string hW3))
  go_ret3
  exact ⟨rfl, hb12.trans (hb3.mono hb12.size)⟩

end Go.Proofs.YtkdalgdckgmccaaGreatDoor
