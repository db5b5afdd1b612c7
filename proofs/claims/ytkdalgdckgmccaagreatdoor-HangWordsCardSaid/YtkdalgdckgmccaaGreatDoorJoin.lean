/-
  The walks of joined, of the commutator, and of a wire that falls with each single one of its nails.
-/
import Derived.Test.YtkdalgdckgmccaaGreatDoorWire
namespace Go.Proofs.YtkdalgdckgmccaaGreatDoor
open Go.RowKit

/-- A row of wires. -/
def Parts (w : World) (b off : Nat) (ls : List (List Nat)) : Prop :=
  (0 < ls.length → b < w.heap.size) ∧ ∀ i, i < ls.length → ∃ A c, w.cell? ⟨b, off + i, none⟩ = some (.slice A (ls.getD i []).length c) ∧ Sl .u8 w A (ls.getD i []).length (ls.getD i [])
theorem Parts.below {w w' : World} {b off : Nat} {ls : List (List Nat)} (h : Parts w b off ls) (hb : Below w.heap.size w w') : Parts w' b off ls :=
  ⟨fun h0 => Nat.lt_of_lt_of_le (h.1 h0) hb.size, fun i hi => by
    obtain ⟨A, c, h1, h2⟩ := h.2 i hi
    exact ⟨A, c, (hb.cell (p := ⟨b, off + i, none⟩) (h.1 (by omega))).trans h1, h2.below hb⟩⟩

theorem redL_snoc (l : List Nat) (c : Nat) : redL (l ++ [c]) = thenL (redL l) c := by rw [redL_eq, redL_eq, List.foldl_append]; rfl
theorem flat_take {ls : List (List Nat)} {k : Nat} (h : k < ls.length) : (ls.take (k + 1)).flatten = (ls.take k).flatten ++ ls.getD k [] := by
  rw [List.take_succ_eq_append_getElem h, List.flatten_append, List.getD_eq_getElem?_getD, List.getElem?_eq_getElem h]
  simp
theorem flat_le (ls : List (List Nat)) (k j : Nat) (h : k < ls.length) : ((ls.take k).flatten ++ (ls.getD k []).take j).length ≤ ls.flatten.length := by
  have e : ls.flatten = (ls.take (k + 1)).flatten ++ (ls.drop (k + 1)).flatten := by rw [← List.flatten_append, List.take_append_drop]
  rw [e, flat_take h]
  simp only [List.length_append, List.length_take]
  omega

theorem wire_after {g : Nat} {l ys : List Nat} {v v' : Value} {w wr w' : World} (hW : Wire g l wr v) (hgr : Gr v.ownBlock wr w') (hb : Below g w wr) (hg : w.heap.size = g) : Below g w w' :=
  hb.trans ((hgr.below (fun k e => (hW.own.lt k e).1) hW.base).mono (Nat.le_refl _))

set_option maxRecDepth 100000 in
set_option maxHeartbeats 1000000 in
theorem joined_any (b off cap : Nat) (m : Nat) (ls : List (List Nat)) (w : World) (hm : ls.length = m) (hP : Parts w b off ls) (hword : ∀ l ∈ ls, IsWord l) (hlen : ls.flatten.length ≤ 100000000) (hm1 : m ≤ 100000000) :
    Calls Tryz.prog 53 #[.slice (some ⟨b, off, none⟩) m cap] w (RetWire (redL ls.flatten) w) := by
  have HP := Lib.hid hP
  have Hword := Lib.hid hword
  have Hlen := Lib.hid hlen
  have Hm := Lib.hid hm
  generalize hg : w.heap.size = g at *
  have Hg := Lib.hid hg
  clear hP hword hlen hm hg
  go_enter Tryz.func53, Tryz.ntmps53
  go_wp2_with fail
  go_loopw [3, 10] (fun v kv wr => ∃ k : Nat, k ≤ m ∧ kv = .int .i64 k ∧ Wire g (redL (ls.take k).flatten) wr v ∧ Below g w wr) (fun _ kv _ => m - (intOf kv).toNat)
  case atStart => exact ⟨0, Nat.zero_le _, rfl, ⟨⟨rfl, .inl ⟨rfl, rfl⟩⟩, by rw [Hg.out]; exact Nat.le_refl _⟩, Below.refl _ _⟩
  case round =>
    obtain ⟨k, hk, rfl, hW, hbel⟩ := hrel
    by_cases hlt : k < m
    · obtain ⟨A, c, hc0, hS0⟩ := HP.out.2 k (by have := Hm.out; omega)
      have hc1 := (hbel.cell (p := ⟨b, off + k, none⟩) (by have := HP.out.1 (by have := Hm.out; omega); rw [Hg.out] at this; exact this)).trans hc0
      have HS0 := Lib.hid hS0
      have Hflat := Lib.hid (flat_take (ls := ls) (k := k) (by have := Hm.out; omega))
      have Hle := Lib.hid (fun j => flat_le ls k j (by have := Hm.out; omega))
      have Hwk : Hid (IsWord (ls.getD k [])) := by
        show IsWord _
        rw [List.getD_eq_getElem?_getD, List.getElem?_eq_getElem (by have := Hm.out; omega)]
        exact Hword.out _ (List.getElem_mem _)
      generalize ls.getD k [] = l at *
      obtain ⟨n, hn⟩ : ∃ n, l.length = n := ⟨_, rfl⟩
      have Hn := Lib.hid hn
      rw [hn] at hc1 HS0
      have hn1 : n ≤ 4611686018427387904 := HS0.out.max
      clear hn hS0 hc0
      generalize hX : (ls.take k).flatten = X at *
      clear hX
      go_wp2_with fail
      go_loopw [3, 16] (fun v jv wx => ∃ j : Nat, j ≤ n ∧ jv = .int .i64 j ∧ Wire g (redL (X ++ l.take j)) wx v ∧ Below g w wx) (fun _ jv _ => n - (intOf jv).toNat)
      case atStart => exact ⟨0, Nat.zero_le _, rfl, by rw [List.take_zero, List.append_nil]; exact hW, hbel⟩
      case round =>
        rename_i hrel
        obtain ⟨j, hj, rfl, hW2, hbel2⟩ := hrel
        by_cases hlt2 : j < n
        · obtain ⟨b2, off2, rfl, hbs2, hcl2⟩ := (HS0.out.below (w' := wr) (by rw [Hg.out]; exact hbel2)).at (by omega)
          have hcj := hcl2 j hlt2
          have hLt : Lt (l.getD j 0) := by
            rw [List.getD_eq_getElem?_getD, List.getElem?_eq_getElem (by have := Hn.out; omega)]
            exact Hwk.out _ (List.getElem_mem _)
          have Hnext : Hid (redL (X ++ l.take (j + 1)) = thenL (redL (X ++ l.take j)) (l.getD j 0)) := by
            show _ = _
            rw [take_snoc l j (by have := Hn.out; omega), ← List.append_assoc, redL_snoc]
          have hlen3 : (redL (X ++ l.take j)).length ≤ 1000000000000 := by
            have h1 := redL_length (X ++ l.take j)
            have h2 := Hle.out j
            have h3 := Hlen.out
            omega
          generalize l.getD j 0 = c2 at *
          have Hthen := Lib.hid (then_any g c2 _ _ _ hW2 hLt hlen3)
          have HW2 := Lib.hid hW2
          clear hcl2 hlen3 hW2 hLt
          go_wp2_with (go_at_call 55; refine Hthen.out.mono ?_; rintro e w3 ⟨v3, rfl, hW3, hgr3, hat3⟩)
          go_roundw
          case rel => exact ⟨j + 1, by omega, by go_num, by rw [Hnext.out]; exact hW3, wire_after (ys := []) (v' := v3) HW2.out hgr3 hbel2 Hg.out⟩
          case measure => simp [intOf]; omega
        · obtain rfl : j = n := by omega
          rw [List.take_of_length_le (by have := Hn.out; omega), ← Hflat.out] at hW2
          have HW2 := Lib.hid hW2
          clear hW2
          go_wp2_with fail
          go_roundw
          case rel => exact ⟨k + 1, by omega, by go_num, HW2.out, hbel2⟩
          case measure => simp [intOf]; omega
    · obtain rfl : k = m := by omega
      rw [List.take_of_length_le (by have := Hm.out; omega)] at hW
      go_wp2
      go_ret
      unfold RetWire
      rw [Hg.out]
      exact ⟨_, rfl, hW, hbel⟩

end Go.Proofs.YtkdalgdckgmccaaGreatDoor
