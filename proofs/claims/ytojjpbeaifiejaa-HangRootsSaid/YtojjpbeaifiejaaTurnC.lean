/-
  The walk of rotation of two empty loops.
  The walks of split of a reduced word, of rotation of any two loops, and of Turned.
-/
import Derived.Test.YtojjpbeaifiejaaRot
import Derived.Test.YtojjpbeaifiejaaRefG
import Derived.Test.YtojjpbeaifiejaaGrpM
import Derived.Test.YtojjpbeaifiejaaRootX
import Derived.Test.YtojjpbeaifiejaaTurnA
namespace Go.Proofs.Ytojjpbeaifiejaa
open Go.RowKit Go.Shelf

set_option maxRecDepth 100000 in
theorem grow_none (w : World) : Calls Try.prog 95 #[.slice none 0 0, .int .i64 0] w fun e w' => e = .returned (.slice none 0 0) ∧ Below w.heap.size w w' := by
  go_enter Try.func95, Try.ntmps95
  go_wp2_with fail
  go_ret
  exact ⟨rfl, Below.refl _ _⟩

set_option maxRecDepth 100000 in
set_option maxHeartbeats 1000000 in
theorem concat_none (A1 A2 : Option Addr) (c1 c2 g : Nat) (w : World) (hblk : Blk w g 66 #[.slice A1 0 c1, .slice A2 0 c2]) :
    Calls Try.prog 82 #[.slice (some ⟨g, 0, none⟩) 2 2] w fun e w' => e = .returned (.slice none 0 0) ∧ Below w.heap.size w w' := by
  obtain ⟨i0, hi, hz0, hz1, hz2⟩ := info_parts info_u8
  have Hblk := Lib.hid hblk
  clear hblk
  go_enter Try.func82, Try.ntmps82
  go_wp2_with fail
  go_loopw [3, 11] (fun nv kv wr => ∃ k : Nat, k ≤ 2 ∧ kv = .int .i64 k ∧ nv = .int .i64 0 ∧ Drew w wr) (fun _ kv _ => 2 - (intOf kv).toNat)
  case atStart => exact ⟨0, by omega, rfl, rfl, Drew.refl _⟩
  case round =>
    obtain ⟨k, hk, rfl, rfl, hd⟩ := hrel
    have hb : Blk wr g 66 #[.slice A1 0 c1, .slice A2 0 c2] := by obtain ⟨q, rfl⟩ := hd; exact Hblk.out
    have hc0 := hb.cell 0
    have hc1 := hb.cell 1
    have Hd := Lib.hid hd
    clear hd
    have h3 : k = 0 ∨ k = 1 ∨ k = 2 := by omega
    rcases h3 with rfl | rfl | rfl
    · go_wp2_with fail
      go_roundw
      case rel => exact ⟨1, by omega, by go_num, by go_num, Hd.out⟩
      case measure => simp [intOf]
    · go_wp2_with fail
      go_roundw
      case rel => exact ⟨2, by omega, by go_num, by go_num, Hd.out⟩
      case measure => simp [intOf]
    · have hbel : Below w.heap.size w wr := Hd.out.below
      have Hbel := Lib.hid hbel
      clear hbel
      go_wp2_with (go_at_call 95; refine (grow_none _).mono ?_; rintro e w2 ⟨rfl, hb2⟩)
      have Hb2 := Lib.hid (Hbel.out.trans (hb2.mono Hbel.out.size))
      have hbk2 := hb.below hb2 hb.lt
      have Hbk2 := Lib.hid hbk2
      clear hb hc0 hc1 hb2 hbk2
      go_loopw [6, 27] (fun v kv wr => ∃ j : Nat, j ≤ 2 ∧ kv = .int .i64 j ∧ v = .slice none 0 0 ∧ wr = w2) (fun _ kv _ => 2 - (intOf kv).toNat)
      case atStart => exact ⟨0, by omega, rfl, rfl, rfl⟩
      case round =>
        rename_i hrel
        obtain ⟨j, hj, rfl, rfl, rfl⟩ := hrel
        have hc0 := Hbk2.out.cell 0
        have hc1 := Hbk2.out.cell 1
        have h3 : j = 0 ∨ j = 1 ∨ j = 2 := by omega
        rcases h3 with rfl | rfl | rfl
        · go_wp2_with (at_builtin; refine wpList_append_zero rfl _ _ 66 rfl wr.heap.size 5 i0 1 Try.underlying66 hi (.slice none 0 0) 0 [] A1 c1 rfl ⟨rfl, .inl ⟨rfl, rfl⟩⟩ rfl ?_)
          go_roundw
          case rel => exact ⟨1, by omega, by go_num, rfl, (by trivial)⟩
          case measure => simp [intOf]
        · go_wp2_with (at_builtin; refine wpList_append_zero rfl _ _ 66 rfl wr.heap.size 5 i0 1 Try.underlying66 hi (.slice none 0 0) 0 [] A2 c2 rfl ⟨rfl, .inl ⟨rfl, rfl⟩⟩ rfl ?_)
          go_roundw
          case rel => exact ⟨2, by omega, by go_num, rfl, (by trivial)⟩
          case measure => simp [intOf]
        · go_wp2_with fail
          go_ret
          exact ⟨rfl, Hb2.out⟩

set_option maxRecDepth 100000 in
theorem index_none_any (A : Option Addr) (c : Nat) (w : World) : Calls Try.prog 81 #[.slice none 0 0, .slice A 0 c] w fun e w' => e = .returned (.int .i64 0) ∧ Below w.heap.size w w' := by
  go_enter Try.func81, Try.ntmps81
  go_wp2_with fail
  go_ret
  exact ⟨rfl, Below.refl _ _⟩

set_option maxRecDepth 100000 in
theorem rotation_none (A1 A2 : Option Addr) (c1 c2 : Nat) (w : World) :
    Calls Try.prog 64 #[.slice A1 0 c1, .slice A2 0 c2, .int .i64 0] w fun e w' => e = .returned (.tuple #[.int .i64 0, .bool true]) ∧ Below w.heap.size w w' := by
  have Hc := Lib.hid (concat_none A1 A1 c1 c1 w.heap.size (w.alloc (.cells #[.slice A1 0 c1, .slice A1 0 c1] 66)) (Blk.new _ _ _))
  have hbx := below_new' w (.cells #[.slice A1 0 c1, .slice A1 0 c1] 66)
  go_enter Try.func64, Try.ntmps64
  go_wp2_with (first
    | (go_at_call 82; refine Hc.out.mono ?_; clear Hc; rintro e w2 ⟨rfl, hb2⟩; have hb02 := hbx.trans (hb2.mono hbx.size))
    | (go_at_call 81; refine (index_none_any _ _ _).mono ?_; rintro e w3 ⟨rfl, hb3⟩))
  go_ret2
  exact ⟨rfl, hb02.trans (hb3.mono hb02.size)⟩

end Go.Proofs.Ytojjpbeaifiejaa

namespace Go.Proofs.Ytojjpbeaifiejaa
open Go.RowKit Go.Shelf

set_option maxRecDepth 100000 in
theorem split_none (A : Option Addr) (c : Nat) (w : World) : Calls Try.prog 63 #[.slice A 0 c] w (RetSplit [] w) := by
  go_enter Try.func63, Try.ntmps63
  go_wp2_with fail
  go_loopw [4, 5] (fun kv ev wr => kv = .int .i64 0 ∧ ev = .int .i64 0 ∧ Drew w wr) (fun _ _ _ => 0)
  case atStart => exact ⟨rfl, rfl, Drew.refl _⟩
  case round =>
    obtain ⟨rfl, rfl, hd⟩ := hrel
    obtain ⟨q, rfl⟩ := hd
    have hwr : IntKind.i64.wrap ((0 : Int) - 1) = (0 : Int) - 1 := IntWalk.i64_in _ (by omega)
    have hdec : decide ((0 : Int) < (0 : Int) - 1) = false := decide_eq_false (by omega)
    go_wp2_with fail
    go_quiet (fail)
    go_wp2_with fail
    go_quiet (fail)
    go_wp2_with fail
    go_ret2
    exact ⟨A, 0, A, 0, rfl, Sl.nil, Sl.nil, Nat.le_refl _, Nat.le_refl _, ⟨_, by rw [World.drewN_drewN, World.drewN_drewN]⟩⟩

theorem split_gen (v : Value) (l : List Nat) (B : Nat) (w : World) (hW : Wire B l w v) (hword : IsWord l) (hn : l.length ≤ 1000000) : Calls Try.prog 63 #[v] w (RetSplit l w) := by
  rcases Nat.eq_zero_or_pos l.length with h0 | h0
  · obtain ⟨A, c, rfl⟩ := own_slice' hW.own
    have : l = [] := List.eq_nil_of_length_eq_zero h0
    subst this
    exact split_none A c w
  · obtain ⟨g, cap, rfl⟩ := own_pos hW.own h0
    have hmx := own_capmax hW.own
    unfold maxLen at hmx
    exact split_any g 0 _ cap l w (own_sl hW.own (by omega)) hword hn (own_capd hW.own) hmx

set_option maxRecDepth 100000 in
theorem rotation_diff (A1 A2 : Option Addr) (n1 n2 c1 c2 : Nat) (w : World) (h : n1 ≠ n2) :
    Calls Try.prog 64 #[.slice A1 n1 c1, .slice A2 n2 c2, .int .i64 0] w fun e w' => e = .returned (.tuple #[.int .i64 0, .bool false]) ∧ Below w.heap.size w w' := by
  have hne : ((n1 : Int) == (n2 : Int)) = false := by
    have : ((n1 : Int) ≠ (n2 : Int)) := by omega
    simpa using this
  go_enter Try.func64, Try.ntmps64
  go_wp2_with fail
  go_ret2
  exact ⟨rfl, Below.refl _ _⟩

/-- What rotation returns: a place at which a loop must begin to be the other one, if there is one. -/
def RetRot (l l2 : List Nat) (w : World) (e : Ending) (w' : World) : Prop :=
  ∃ (at' : Nat) (ok : Bool), e = .returned (.tuple #[.int .i64 at', .bool ok]) ∧ (ok = true → l2.length = l.length ∧ at' ≤ l.length ∧ rotL l at' = l2) ∧ (ok = false → ¬ (l2.length = l.length ∧ ∃ i, i ≤ l.length ∧ rotL l i = l2)) ∧ Below w.heap.size w w'
theorem rotation_gen (A1 A2 : Option Addr) (n1 n2 c1 c2 : Nat) (l l2 : List Nat) (m : Int) (w : World) (hS : Sl .u8 w A1 n1 l) (hS2 : Sl .u8 w A2 n2 l2) (hword : IsWord l) (hword2 : IsWord l2) (hn : n1 ≤ 1000000) (hm : w.cell? ⟨0, 0, none⟩ = some (.int .i64 m)) (hw0 : 0 < w.heap.size) :
    Calls Try.prog 64 #[.slice A1 n1 c1, .slice A2 n2 c2, .int .i64 0] w (RetRot l l2 w) := by
  have hl := hS.len
  have hl2 := hS2.len
  by_cases he : n1 = n2
  · subst he
    rcases Nat.eq_zero_or_pos n1 with h0 | h0
    · subst h0
      have e1 : l = [] := List.eq_nil_of_length_eq_zero hl
      have e2 : l2 = [] := List.eq_nil_of_length_eq_zero hl2
      subst e1 e2
      refine (rotation_none A1 A2 c1 c2 w).mono ?_
      rintro e w' ⟨rfl, hb⟩
      exact ⟨0, true, rfl, fun _ => ⟨rfl, Nat.le_refl _, rfl⟩, (fun h => by cases h), hb⟩
    · obtain ⟨b, off, rfl, _⟩ := hS.at h0
      obtain ⟨b2, off2, rfl, _⟩ := hS2.at h0
      refine (rotation_any b off b2 off2 n1 n1 c1 c2 0 l l2 m w hS hS2 hword hword2 h0 hn (Nat.zero_le _) hm hw0).mono ?_
      rintro e w' ⟨rfl, hb⟩
      have hlen : l2.length = l.length := by omega
      by_cases hex : ∃ i, 0 ≤ i ∧ i ≤ l.length ∧ rotL l i = l2
      · obtain ⟨d, h1, h2, h3, _⟩ := rot_hit hword.lt256 hword2.lt256 hlen (Nat.zero_le _) hex
        refine ⟨d, true, ?_, fun _ => ⟨hlen, by omega, by rw [Nat.zero_add] at h3; exact h3⟩, (fun h => by cases h), hb⟩
        unfold rotV
        rw [h1, if_pos ⟨hlen.symm, by omega⟩, show ((0 : Nat) : Int) + (d : Int) = (d : Int) by omega]
      · have h1 := rot_miss hword.lt256 hword2.lt256 hlen (Nat.zero_le _) hex
        refine ⟨0, false, ?_, (fun h => by cases h), fun _ ⟨_, i, hi, e⟩ => hex ⟨i, Nat.zero_le _, hi, e⟩, hb⟩
        unfold rotV
        rw [h1, if_neg (fun h => h.2 (by omega))]
        rfl
  · refine (rotation_diff A1 A2 n1 n2 c1 c2 w he).mono ?_
    rintro e w' ⟨rfl, hb⟩
    exact ⟨0, false, rfl, (fun h => by cases h), fun _ ⟨h, _⟩ => he (by omega), hb⟩

end Go.Proofs.Ytojjpbeaifiejaa
