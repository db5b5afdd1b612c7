/-
  The walks of whether a row of sets has one that a set contains, and of the question that a dual asks of a set.
-/
import Derived.Test.YtkdalgdckgmccaaGreatDoorRange
namespace Go.Proofs.YtkdalgdckgmccaaGreatDoor
open Go.RowKit

/-- A slice of sets. -/
def RowS (w : World) (A : Option Addr) (n : Nat) (Ss : List (Nat → Bool)) : Prop := Ss.length = n ∧ (0 < n → ∃ b off, A = some ⟨b, off, none⟩ ∧ SetRow w b off Ss)
theorem RowS.below {w w' : World} {A : Option Addr} {n : Nat} {Ss : List (Nat → Bool)} (h : RowS w A n Ss) (hb : Below w.heap.size w w') : RowS w' A n Ss :=
  ⟨h.1, fun h0 => by obtain ⟨b, off, e, hS⟩ := h.2 h0; exact ⟨b, off, e, hS.below hb⟩⟩
theorem row_take {Ss : List (Nat → Bool)} {i : Nat} (h : i < Ss.length) : Ss.take (i + 1) = Ss.take i ++ [Ss.getD i fun _ => false] := by
  rw [List.take_succ_eq_append_getElem h, List.getD_eq_getElem?_getD, List.getElem?_eq_getElem h]; rfl

set_option maxRecDepth 100000 in
set_option maxHeartbeats 1000000 in
theorem index_has (A : Option Addr) (cap n : Nat) (Ss : List (Nat → Bool)) (T : Nat → Bool) (w : World) (hS : RowS w A n Ss) (hn1 : n ≤ 1000000000) :
    Calls Tryz.prog 87 #[.slice A n cap, .func (.func 67) #[.agg (nailC T)] #[]] w fun e w' => ∃ i : Int, e = .returned (.int .i64 i) ∧ -1 ≤ i ∧ i ≤ n ∧ (decide (0 ≤ i) = Ss.any fun S => subN T S) ∧ Below w.heap.size w w' := by
  have HS := Lib.hid hS
  have Hn := Lib.hid hS.1
  generalize hg : w.heap.size = g at *
  have Hg := Lib.hid hg
  clear hS hg
  go_enter Tryz.func87, Tryz.ntmps87
  go_wp2_with fail
  go_loopw [8] (fun iv wr => ∃ i : Nat, i ≤ n ∧ iv = .int .i64 i ∧ ((Ss.take i).any fun S => subN T S) = false ∧ Below g w wr) (fun iv _ => n - (intOf iv).toNat)
  case atStart => exact ⟨0, Nat.zero_le _, rfl, rfl, Below.refl _ _⟩
  case round =>
    obtain ⟨i, hi, rfl, hno, hbel⟩ := hrel
    have Hno := Lib.hid hno
    clear hno
    by_cases hlt : i < n
    · obtain ⟨b, off, rfl, hrow⟩ := (HS.out.below (w' := wr) (by rw [Hg.out]; exact hbel)).2 (by omega)
      have hrange := hrow.range (i := i) (by have := Hn.out; omega)
      have Htake := Lib.hid (row_take (Ss := Ss) (i := i) (by have := Hn.out; omega))
      have Hmem : Hid (Ss.getD i (fun _ => false) ∈ Ss) := by
        show _ ∈ _
        rw [List.getD_eq_getElem?_getD, List.getElem?_eq_getElem (by have := Hn.out; omega)]
        exact List.getElem_mem _
      have Hany : Hid (subN T (Ss.getD i fun _ => false) = true → (Ss.any fun S => subN T S) = true) := by
        show _ → _
        exact fun h => List.any_eq_true.2 ⟨_, Hmem.out, h⟩
      have Hstep : Hid (((Ss.take (i + 1)).any fun S => subN T S) = subN T (Ss.getD i fun _ => false)) := by
        show _ = _
        rw [Htake.out, List.any_append, Hno.out]
        simp
      generalize Ss.getD i (fun _ => false) = S at *
      have hlist := nailC_list S
      have Hc := Lib.hid (contains_any T S wr)
      have Hbel := Lib.hid hbel
      clear hrow hbel
      generalize subN T S = a at *
      cases a
      · go_wp2_with (first
          | (refine wpList_load_mid rfl 49 _ rfl b (off + i * 26) rfl (nailC S).toList _ hrange Tryz.underlying49 rfl hlist ?_)
          | (go_at_call 67; refine Hc.out.mono ?_; clear Hc; rintro e w2 ⟨rfl, hb2⟩))
        go_roundw
        case rel => exact ⟨i + 1, by omega, by go_num, Hstep.out, Hbel.out.trans (hb2.mono (by have := Hbel.out.size; have := Hg.out; omega))⟩
        case measure => simp [intOf]; omega
      · go_wp2_with (first
          | (refine wpList_load_mid rfl 49 _ rfl b (off + i * 26) rfl (nailC S).toList _ hrange Tryz.underlying49 rfl hlist ?_)
          | (go_at_call 67; refine Hc.out.mono ?_; clear Hc; rintro e w2 ⟨rfl, hb2⟩))
        go_ret
        refine ⟨_, rfl, by omega, by omega, ?_, Hbel.out.trans (hb2.mono (by have := Hbel.out.size; have := Hg.out; omega))⟩
        rw [Hany.out trivial]
        exact decide_eq_true (by omega)
    · obtain rfl : i = n := by omega
      have hf := Hno.out
      rw [List.take_of_length_le (by have := Hn.out; omega)] at hf
      have Hf := Lib.hid hf
      clear hf
      go_wp2_with fail
      go_ret
      exact ⟨_, rfl, by omega, by omega, by rw [Hf.out]; rfl, hbel⟩

set_option maxRecDepth 100000 in
theorem contains_has (A : Option Addr) (cap n : Nat) (Ss : List (Nat → Bool)) (T : Nat → Bool) (w : World) (hS : RowS w A n Ss) (hn1 : n ≤ 1000000000) :
    Calls Tryz.prog 66 #[.slice A n cap, .func (.func 67) #[.agg (nailC T)] #[]] w fun e w' => e = .returned (.bool (Ss.any fun S => subN T S)) ∧ Below w.heap.size w w' := by
  have H := Lib.hid (index_has A cap n Ss T w hS hn1)
  clear hS
  go_enter Tryz.func66, Tryz.ntmps66
  go_wp2_with (go_at_call 87; refine H.out.mono ?_; clear H; rintro e w2 ⟨i, rfl, hi1, hi2, hi3, hb2⟩)
  go_ret
  exact ⟨rfl, hb2⟩

end Go.Proofs.YtkdalgdckgmccaaGreatDoor
