/-
  The walks of slices.Grow and slices.Concat, for rows of bytes.
-/
import Derived.Test.YtkdalgdckgmccaaGreatDoorJoin
import Derived.Test.YtkdalgdckgmccaaGreatDoorSplit
import Derived.Lib.AppendZeros
import Derived.Deep.AppendLies
namespace Go.Proofs.YtkdalgdckgmccaaGreatDoor
open Go.RowKit

theorem grownCap_at (w : World) (n : Nat) (e : TypeId) : n ≤ grownCap w n 0 e := grownCap_ge w n 0 e

/-- What Grow returns of nothing. -/
def RetGrow (w : World) (e : Ending) (w' : World) : Prop := ∃ g C, e = .returned (.slice (some ⟨g, 0, none⟩) 0 C) ∧ w'.ownsRow w.heap.size 5 1 (.slice (some ⟨g, 0, none⟩) 0 C) 0 [] ∧ Below w.heap.size w w'

set_option maxRecDepth 100000 in
set_option maxHeartbeats 2000000 in
theorem grow_any (N : Nat) (w : World) (h0 : 0 < N) (hN : N ≤ 1000000000) :
    Calls Tryz.prog 110 #[.slice none 0 0, .int .i64 N] w (RetGrow w) := by
  obtain ⟨i, hi0, hz, hs, hb⟩ := info_parts info_u8
  have hrun := Lib.run_append_nil_zeros (P := Tryz.prog) w 44 3 44 5 i (.int .u8 0) .i64 .i64 Tryz.underlying44 Tryz.underlying3 hi0 hz N h0 (by omega) (by omega) (by rw [hb]; omega)
  have hge := grownCap_ge w N 0 5
  have hle := grownCap_le_maxLen w N 0 5 (by unfold maxLen; omega)
  generalize grownCap w N 0 5 = C at *
  go_enter Tryz.func110, Tryz.ntmps110
  have Hrun := Lib.hid hrun
  clear hrun
  go_wp2_with (at_builtin; refine Lib.wpList_append_run _ rfl _ _ _ _ rfl _ _ rfl rfl _ _ Hrun.out ?_)
  go_ret
  refine ⟨w.heap.size, C, rfl, ⟨rfl, .inr ⟨_, C, _, rfl, Nat.le_refl _, heap_alloc_new w _, Nat.zero_le _, hle, ?_, rfl⟩⟩, ((Below.refl _ _).alloc (Nat.le_refl _) _).drew⟩
  rw [Array.size_append, size_zeroCells, size_zeroCells]
  show N * 1 + (C - N) * 1 = C * 1
  omega

theorem own_below0 {W w1 : World} {B : Nat} {e : TypeId} {size k : Nat} {v : Value} {xs : List Value} (h : W.ownsRow B e size v k xs) (hB : B ≤ W.heap.size) (hg : W.grownBy w1 v.ownBlock) : Below B W w1 := by
  refine (Below.refl B W).grown hg hB fun j ej => ?_
  rcases h.2 with ⟨rfl, _⟩ | ⟨g, cap, cur, rfl, hb, _, _⟩
  · simp [Value.ownBlock] at ej
  · obtain rfl : g = j := by simpa [Value.ownBlock] using ej
    exact hb
theorem nums_append (k : IntKind) (l m : List Nat) : nums k l ++ nums k m = nums k (l ++ m) := by simp [nums]

/-- What Concat returns. -/
def RetConcat (l : List Nat) (w : World) (e : Ending) (w' : World) : Prop := ∃ v, e = .returned v ∧ w'.ownsRow w.heap.size 5 1 v l.length (nums .u8 l) ∧ Below w.heap.size w w'

set_option maxRecDepth 100000 in
set_option maxHeartbeats 2000000 in
theorem concat_any (b off cap : Nat) (m : Nat) (ls : List (List Nat)) (w : World) (hm : ls.length = m) (hP : Parts w b off ls) (hpos : ∀ i, i < m → 0 < (ls.getD i []).length) (hm0 : 0 < m) (hlen : ls.flatten.length ≤ 100000000) (hm1 : m ≤ 100000000) :
    Calls Tryz.prog 89 #[.slice (some ⟨b, off, none⟩) m cap] w (RetConcat ls.flatten w) := by
  obtain ⟨i0, hi, hz0, hz1, hz2⟩ := info_parts info_u8
  have HP := Lib.hid hP
  have Hpos := Lib.hid hpos
  have Hlen := Lib.hid hlen
  have Hm := Lib.hid hm
  have Hflat := Lib.hid (fun k (hk : k < m) => flat_take (ls := ls) (k := k) (by omega))
  have Hle := Lib.hid (fun k (hk : k < m) => flat_le ls k ((ls.getD k []).length) (by omega))
  generalize hg : w.heap.size = g at *
  have Hg := Lib.hid hg
  clear hP hpos hlen hm hg
  go_enter Tryz.func89, Tryz.ntmps89
  go_wp2_with fail
  go_loopw [3, 11] (fun nv kv wr => ∃ k : Nat, k ≤ m ∧ kv = .int .i64 k ∧ nv = .int .i64 ((ls.take k).flatten.length : Nat) ∧ Drew w wr) (fun _ kv _ => m - (intOf kv).toNat)
  case atStart => exact ⟨0, Nat.zero_le _, rfl, rfl, Drew.refl _⟩
  case round =>
    obtain ⟨k, hk, rfl, rfl, hd⟩ := hrel
    obtain ⟨q, rfl⟩ := hd
    by_cases hlt : k < m
    · obtain ⟨A, c, hc0, hS0⟩ := HP.out.2 k (by have := Hm.out; omega)
      have hf1 : (ls.take (k + 1)).flatten.length = (ls.take k).flatten.length + (ls.getD k []).length := by rw [Hflat.out k hlt, List.length_append]
      have hf2 := Hle.out k hlt
      rw [List.take_length, List.length_append] at hf2
      have hf3 := Hlen.out
      have Hf1 := Lib.hid hf1
      generalize (ls.getD k []).length = n at *
      generalize (ls.take k).flatten.length = N at *
      have hNn : N + n ≤ 100000000 := by omega
      clear hS0 hf1 hf2 hf3
      go_wp2_with fail
      go_roundw
      case rel => exact ⟨k + 1, by omega, by go_num, by rw [Hf1.out]; go_num, ⟨_, rfl⟩⟩
      case measure => simp [intOf]; omega
    · obtain rfl : k = m := by omega
      have hN0 : 0 < (ls.take k).flatten.length := by
        rw [show k = (k - 1) + 1 by omega, Hflat.out (k - 1) (by omega), List.length_append]
        have := Hpos.out (k - 1) (by omega)
        omega
      have hN1 : (ls.take k).flatten.length ≤ 100000000 := by
        rw [List.take_of_length_le (by have := Hm.out; omega)]
        exact Hlen.out
      generalize (ls.take k).flatten.length = N at *
      have Hgrow := Lib.hid (fun W => grow_any N W hN0 (by omega))
      have Hw : Hid (w.drewN q = w.drewN q) := rfl
      clear hlt
      go_wp2_with (go_at_call 110; refine (Hgrow.out _).mono ?_; rintro e w2 ⟨g2, C, rfl, hown2, hb2⟩)
      rw [show (w.drewN q).heap.size = g from Hg.out] at hown2
      have hb2' : Below g w w2 := by
        rw [← Hg.out]
        exact (Drew.below (B := w.heap.size) ⟨q, rfl⟩).trans hb2
      have Hown2 := Lib.hid hown2
      have Hb2 := Lib.hid hb2'
      clear hown2 hb2 hb2' hN0 hN1
      go_loopw [6, 27] (fun v kv wr => ∃ j : Nat, j ≤ k ∧ kv = .int .i64 j ∧ wr.ownsRow g 5 1 v (ls.take j).flatten.length (nums .u8 (ls.take j).flatten) ∧ Below g w wr ∧ g ≤ wr.heap.size) (fun _ kv _ => k - (intOf kv).toNat)
      case atStart => exact ⟨0, Nat.zero_le _, rfl, Hown2.out, Hb2.out, by have := Hb2.out.size; have := Hg.out; omega⟩
      case round =>
        rename_i hrel
        obtain ⟨j, hj, rfl, hown, hbel, hgw⟩ := hrel
        by_cases hlt : j < k
        · obtain ⟨A, c, hc0, hS0⟩ := HP.out.2 j (by have := Hm.out; omega)
          have hf2 := Hle.out j hlt
          have hf1 := Hflat.out j hlt
          rw [List.take_length, List.length_append] at hf2
          have hf3 := Hlen.out
          have hpj := Hpos.out j hlt
          have hS1 := hS0.below (w' := wr) (by rw [Hg.out]; exact hbel)
          have hc1 := (hbel.cell (p := ⟨b, off + j, none⟩) (by have := HP.out.1 (by have := Hm.out; omega); rw [Hg.out] at this; exact this)).trans hc0
          generalize ls.getD j [] = l at *
          obtain ⟨n, hn⟩ : ∃ n, l.length = n := ⟨_, rfl⟩
          obtain ⟨b2, off2, rfl, hbs2, hcl2⟩ := hS1.at hpj
          have Hcl2 := Lib.hid hcl2
          have Hf1 := Lib.hid hf1
          generalize (ls.take j).flatten = X at *
          have HX : Hid (X.length + n ≤ 100000000) := by show _ ≤ _; omega
          have Hn := Lib.hid hn
          have Hown := Lib.hid hown
          have Hbel := Lib.hid hbel
          rw [hn] at hc1
          have hn0 : 0 < n := by omega
          have hn1 : n ≤ 100000000 := by omega
          clear hcl2 hf1 hf2 hf3 hown hbel hS0 hS1 hn hc0 hpj
          go_wp2_with (at_builtin; refine wpList_append_lies _ rfl _ _ 44 rfl g 5 i0 (.int .u8 0) 1 1 Tryz.underlying44 hi hz0 hz1 hz2 rfl (by decide) _ X.length (nums .u8 X) rfl Hown.out ⟨b2, off2, none⟩ n c (nums .u8 l) rfl ?c1 ?c2 ?c3 hn0 ?c4 ?c5 hgw wr.heap.size rfl ?_)
          case c1 => rw [nums_length, Hn.out, Nat.mul_one]
          case c2 =>
            intro i u hu
            have hi : i < l.length := by
              have := (List.getElem?_eq_some_iff.mp hu).1
              rwa [nums_length] at this
            have := Hcl2.out i hi
            rw [add_at, this, ← hu]
            simp [nums, List.getD_eq_getElem?_getD, hi]
          case c3 => exact one_of_cells .u8 l
          case c4 => have := HX.out; unfold maxLen; omega
          case c5 => have := HX.out; omega
          intro gr cr w4 hown4 hgrow4 hat4 hlt4
          have hbel4 : Below g w w4 := Hbel.out.trans (own_below0 Hown.out hgw hgrow4)
          have hown5 : w4.ownsRow g 5 1 (.slice (some ⟨gr, 0, none⟩) (X.length + n : Nat) cr) (ls.take (j + 1)).flatten.length (nums .u8 (ls.take (j + 1)).flatten) := by
            rw [Hf1.out, ← nums_append, List.length_append, Hn.out]
            exact hown4
          have Hown5 := Lib.hid hown5
          have Hbel4 := Lib.hid hbel4
          clear hown4 hown5 hbel4 hgrow4 hat4
          go_wp2_with fail
          go_roundw
          case rel => exact ⟨j + 1, by omega, by go_num, Hown5.out, Hbel4.out, by have := Hbel4.out.size; have := Hg.out; omega⟩
          case measure => simp [intOf]; omega
        · obtain rfl : j = k := by omega
          rw [List.take_of_length_le (by have := Hm.out; omega)] at hown
          have Hown := Lib.hid hown
          clear hown
          go_wp2_with fail
          go_ret
          unfold RetConcat
          rw [Hg.out]
          exact ⟨_, rfl, Hown.out, hbel⟩

end Go.Proofs.YtkdalgdckgmccaaGreatDoor
