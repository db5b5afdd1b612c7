/-
  The walks of a set's name, of the nails of a word, of a set that is named, and of whether there are too many nails.
-/
import Derived.Test.YtkdalgdckgmccaaGreatDoorSetW
namespace Go.Proofs.YtkdalgdckgmccaaGreatDoor
open Go.RowKit

/-- The letters of a set. -/
def nameL (S : Nat → Bool) : List Nat := (r26.filter S).map fun k => 97 + k
theorem nameL_word (S : Nat → Bool) : IsWord (nameL S) := by
  intro c hc
  obtain ⟨k, hk, rfl⟩ := List.mem_map.1 hc
  have := mem_r26.1 (List.mem_filter.1 hk).1
  unfold Lt
  omega
theorem nameL_length (S : Nat → Bool) : (nameL S).length ≤ 26 := by
  unfold nameL
  rw [List.length_map]
  have := List.length_filter_le S r26
  have e : r26.length = 26 := by decide
  omega

set_option maxRecDepth 100000 in
set_option maxHeartbeats 1000000 in
theorem name_any (S : Nat → Bool) (w : World) :
    Calls Tryz.prog 52 #[.agg (nailC S)] w fun e w' => e = .returned (.string (strL (nameL S))) ∧ Below w.heap.size w w' := by
  obtain ⟨i0, hi, hz0, hz1, hz2⟩ := info_parts info_u8
  have hb0 := Blk.new w 49 (nailC S)
  have hbel := below_new' w (.cells (nailC S) 49)
  have hsz : (w.alloc (.cells (nailC S) 49)).heap.size = w.heap.size + 1 := by simp
  go_enter Tryz.func52, Tryz.ntmps52
  go_wp2_with (refine wpList_load_row rfl 47 _ rfl w.heap.size rfl 49 (nailC S) (0, 0) _ hb0 Tryz.underlying47 rfl (nailC_flags S) ?_)
  generalize w.alloc (.cells (nailC S) 49) = W0 at *
  generalize hg : w.heap.size = g at *
  have Hg := Lib.hid hg
  have Hbel := Lib.hid hbel
  clear hg hb0 hbel
  go_loopw [3, 8] (fun v kv wr => ∃ k : Nat, k ≤ 26 ∧ kv = .int .i64 k ∧ wr.ownsRow (g + 1) 5 1 v (((r26.take k).filter S).map fun j => 97 + j).length (nums .u8 (((r26.take k).filter S).map fun j => 97 + j)) ∧ Below (g + 1) W0 wr) (fun _ kv _ => 26 - (intOf kv).toNat)
  case atStart => exact ⟨0, Nat.zero_le _, rfl, ⟨rfl, .inl ⟨rfl, rfl⟩⟩, Below.refl _ _⟩
  case round =>
    obtain ⟨k, hk, rfl, hown, hbw⟩ := hrel
    by_cases hlt : k < 26
    · have hix := fun W => index_nails S k hlt W
      have Hs : Hid ((((r26.take (k + 1)).filter S).map fun j => 97 + j) = (((r26.take k).filter S).map fun j => 97 + j) ++ (if S k = true then [97 + k] else [])) := by
        show _ = _
        rw [r26_take hlt, List.filter_append, List.map_append]
        congr 1
        by_cases h : S k = true
        · rw [if_pos h, List.filter_cons_of_pos h]; rfl
        · rw [if_neg h, List.filter_cons_of_neg h]; rfl
      have hlen : (((r26.take k).filter S).map fun j => 97 + j).length ≤ 26 := by
        rw [List.length_map]
        have h1 := List.length_filter_le S (r26.take k)
        rw [List.length_take] at h1
        omega
      generalize ((r26.take k).filter S).map (fun j => 97 + j) = out at *
      obtain ⟨n, hn⟩ : ∃ n, out.length = n := ⟨_, rfl⟩
      rw [hn] at hown hlen
      have Hn := Lib.hid hn
      have hbsz := hbw.size
      clear hn
      generalize S k = a at *
      cases a
      · go_wp2_with fail
        go_roundw
        case rel => exact ⟨k + 1, by omega, by go_num, by rw [Hs.out, if_neg (by decide), List.append_nil, Hn.out]; exact hown, hbw⟩
        case measure => simp [intOf]; omega
      · go_wp2_with (at_builtin; refine wpList_append_lies _ rfl _ _ 43 rfl (g + 1) 5 i0 (.int .u8 0) 1 1 Tryz.underlying43 hi hz0 hz1 hz2 rfl (by decide) _ n (nums .u8 out) rfl (hown.alloc _) ⟨wr.heap.size, 0, none⟩ 1 1 [.int .u8 (97 + k : Int)] rfl rfl ?c1 ?c2 ?c3 ?c4 ?c5 ?c6 (wr.heap.size + 1) (size_new'' _ _) ?_)
        case c2 => rfl
        case c4 => unfold maxLen; omega
        case c5 => omega
        case c6 => omega
        intro gr cr w2 hown2 hgrow2 hat2 hlt2
        have hbw2 : Below (g + 1) W0 w2 := hbw.trans ((own_below hown (by omega) hgrow2).mono (by omega))
        go_wp2_with fail
        go_roundw
        case rel => exact ⟨k + 1, by omega, by go_num, by rw [Hs.out, if_pos trivial, List.length_append, Hn.out, ← nums_snoc]; exact hown2, hbw2⟩
        case measure => simp [intOf]; omega
    · obtain rfl : k = 26 := by omega
      rw [r26_all] at hown
      have hconv := own_string (t := 43) Tryz.underlying43 hown
      have HbelE : Hid (Below w.heap.size w wr) := by
        show Below _ _ _
        rw [Hg.out]
        exact Hbel.out.trans (hbw.mono (by omega))
      clear hbw
      go_wp2_with fail
      go_ret
      exact ⟨rfl, HbelE.out⟩

set_option maxRecDepth 100000 in
theorem tooMany_any (S : Nat → Bool) (w : World) :
    Calls Tryz.prog 45 #[.agg (nailC S)] w fun e w' => e = .returned (.bool (decide (10 < (nameL S).length))) ∧ Below w.heap.size w w' := by
  have hb0 := Blk.new w 49 (nailC S)
  have hbel := below_new' w (.cells (nailC S) 49)
  have Hn := Lib.hid (name_any S (w.alloc (.cells (nailC S) 49)))
  have hl := strL_size (nameL S)
  go_enter Tryz.func45, Tryz.ntmps45
  go_wp2_with (first
    | (refine wpList_load_row rfl 49 _ rfl w.heap.size rfl 49 (nailC S) (0, 0) _ hb0 Tryz.underlying49 rfl (nailC_info S) ?_)
    | (go_at_call 52; refine Hn.out.mono ?_; rintro e w1 ⟨rfl, hb1⟩))
  go_ret
  refine ⟨ret_bool ?_, hbel.trans (hb1.mono hbel.size)⟩
  rw [decide_eq_decide]
  omega

end Go.Proofs.YtkdalgdckgmccaaGreatDoor
