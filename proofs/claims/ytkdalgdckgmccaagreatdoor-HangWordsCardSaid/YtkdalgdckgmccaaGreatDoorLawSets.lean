/-
  The walk of the law's sets: sets of nails of any numbers.
-/
import Derived.Test.YtkdalgdckgmccaaGreatDoorPub
import Derived.Deep.AppendLies
import Derived.Test.YtkdalgdckgmccaaGreatDoorSorted
namespace Go.Proofs.YtkdalgdckgmccaaGreatDoor
open Go.RowKit Go.Shelf

/-- A row of numbers. -/
def IntS (w : World) (A : Option Addr) (n : Nat) (xs : List Int) : Prop :=
  xs.length = n ∧ (0 < n → ∃ b off, A = some ⟨b, off, none⟩ ∧ b < w.heap.size ∧ ∀ i, i < n → w.cell? ⟨b, off + i, none⟩ = some (.int .i64 (xs.getD i 0)))
/-- Whether a number has a bit. -/
def bitZ (x : Int) (k : Nat) : Bool := (x / 2 ^ k).tmod 2 != 0
def setTo (j : Nat) (x : Int) : List Nat := ((List.range j).filter (bitZ x)).map fun k => 97 + k
theorem setTo_yes {j : Nat} {x : Int} (h : ((x / 2 ^ j).tmod 2 != 0) = true) : setTo (j + 1) x = setTo j x ++ [97 + j] := by
  unfold setTo
  rw [List.range_succ, List.filter_append, List.filter_cons_of_pos (show bitZ x j = true from h), List.map_append]
  rfl
theorem setTo_no {j : Nat} {x : Int} (h : ((x / 2 ^ j).tmod 2 != 0) = false) : setTo (j + 1) x = setTo j x := by
  unfold setTo
  rw [List.range_succ, List.filter_append, List.filter_cons_of_neg (show ¬ bitZ x j = true by unfold bitZ; rw [h]; exact Bool.false_ne_true), List.filter_nil, List.append_nil]
theorem setTo_length (j : Nat) (x : Int) : (setTo j x).length ≤ j := by
  unfold setTo
  rw [List.length_map]
  exact Nat.le_trans (List.length_filter_le _ _) (by simp)

def setL (nails : Nat) (x : Int) : List Nat := setTo nails x
def oneS (nails : Nat) (empty : Bool) (x : Int) : List Nat := if setL nails x = [] ∧ empty = false then [98] else setL nails x

set_option maxRecDepth 100000 in
set_option maxHeartbeats 2000000 in
theorem lawSets_any (A : Option Addr) (n c most nails : Nat) (empty : Bool) (xs : List Int) (w : World) (hI : IntS w A n xs) (hn : n ≤ 9223372036854775807) (hmost : most ≤ 1000000) (h26 : nails ≤ 26) (hr : ∀ x ∈ xs, -9223372036854775808 ≤ x ∧ x ≤ 9223372036854775807) :
    Calls Tryz.prog 16 #[.slice A n c, .int .i64 most, .int .i64 nails, .bool empty] w fun e w' => ∃ v, e = .returned v ∧ w'.ownsRow w.heap.size 9 1 v (xs.take most).length ((xs.take most).map fun x => Value.string (strL (oneS nails empty x))) ∧ Below w.heap.size w w' := by
  obtain ⟨i0, hi, hz0, hz1, hz2⟩ := info_parts (info_str)
  have Hl := Lib.hid hI.1
  have HI := Lib.hid hI.2
  have Hr := Lib.hid hr
  generalize hg : w.heap.size = g at *
  have Hg := Lib.hid hg
  clear hI hr hg
  go_enter Tryz.func16, Tryz.ntmps16
  go_wp2_with fail
  go_loopw [9, 10] (fun v kv wr => ∃ k : Nat, k ≤ n ∧ k ≤ most ∧ kv = .int .i64 k ∧ wr.ownsRow g 9 1 v k ((xs.take k).map fun x => Value.string (strL (oneS nails empty x))) ∧ Below g w wr ∧ g ≤ wr.heap.size) (fun _ kv _ => most - (intOf kv).toNat)
  case atStart => exact ⟨0, Nat.zero_le _, Nat.zero_le _, rfl, ⟨rfl, .inl ⟨rfl, rfl⟩⟩, Below.refl _ _, by rw [Hg.out]; exact Nat.le_refl _⟩
  case round =>
    obtain ⟨k, hk, hkm, rfl, hown, hbel, hgw⟩ := hrel
    have Hown := Lib.hid hown
    have Hbel := Lib.hid hbel
    clear hown hbel
    by_cases hlt : k < n ∧ k < most
    · obtain ⟨hlt1, hlt2⟩ := hlt
      have hki : (k : Int) < (n : Int) := by omega
      have hkm2 : (k : Int) < (most : Int) := by omega
      obtain ⟨b, off, rfl, hb, hcl⟩ := HI.out (by omega)
      have hc := hcl k hlt1
      have hb' : b < w.heap.size := by rw [Hg.out]; exact hb
      have hc := (Hbel.out.cell (p := ⟨b, off + k, none⟩) hb).trans hc
      obtain ⟨x, hx⟩ : ∃ x, xs.getD k 0 = x := ⟨_, rfl⟩
      rw [hx] at hc
      have Htake : Hid (xs.take (k + 1) = xs.take k ++ [x]) := by
        show _ = _
        rw [List.take_succ_eq_append_getElem (by rw [Hl.out]; exact hlt1)]
        rw [List.getD_eq_getElem?_getD, List.getElem?_eq_getElem (by rw [Hl.out]; exact hlt1)] at hx
        simp at hx
        rw [hx]
      have hxr : -9223372036854775808 ≤ x ∧ x ≤ 9223372036854775807 := by
        refine Hr.out x ?_
        rw [← hx, List.getD_eq_getElem?_getD, List.getElem?_eq_getElem (by rw [Hl.out]; exact hlt1)]
        exact List.getElem_mem _
      have Hc := Lib.hid hc
      clear hcl hx hc
      go_wp2_with fail
      go_loopw [11, 12] (fun sv jv wx => ∃ j : Nat, j ≤ nails ∧ jv = .int .i64 j ∧ sv = .string (strL (setTo j x)) ∧ Below wr.heap.size wr wx) (fun _ jv _ => nails - (intOf jv).toNat)
      case atStart => exact ⟨0, Nat.zero_le _, rfl, rfl, Below.refl _ _⟩
      case round =>
        rename_i hrel
        obtain ⟨j, hj, rfl, rfl, hbel2⟩ := hrel
        have Hbel2 := Lib.hid hbel2
        have hc2 := (hbel2.cell (p := ⟨b, off + k, none⟩) (Nat.lt_of_lt_of_le hb hgw)).trans Hc.out
        clear hbel2
        by_cases hjn : j < nails
        · have hji : (j : Int) < (nails : Int) := by omega
          have hXs : (strL (setTo j x)).size ≤ 26 := by rw [strL_size]; have := setTo_length j x; omega
          have hone : (strL [97 + j]).size = 1 := by rw [strL_size]; rfl
          have hcat := strL_append (setTo j x) [97 + j]
          have hconv := fun W => byte_string W (97 + j) (97 + (j : Int)) (by omega)
          cases hbit : ((x / 2 ^ j).tmod 2 != 0) with
          | true =>
            have Hst := Lib.hid (setTo_yes hbit)
            generalize setTo j x = X at *
            go_wp2_with fail
            exact ⟨⟨j + 1, by omega, by go_num, by rw [Hst.out], Hbel2.out.trans ((below_new' _ _).mono Hbel2.out.size)⟩, by simp [intOf]; omega⟩
          | false =>
            have Hst := Lib.hid (setTo_no hbit)
            generalize setTo j x = X at *
            go_wp2_with fail
            exact ⟨⟨j + 1, by omega, by go_num, by rw [Hst.out], Hbel2.out⟩, by simp [intOf]; omega⟩
        · obtain rfl : j = nails := by omega
          have hji : ¬ ((j : Int) < (j : Int)) := by omega
          have Hone : Hid (oneS j empty x = if setTo j x = [] ∧ empty = false then [98] else setTo j x) := rfl
          generalize setTo j x = X at *
          have hown2 := own_keep Hown.out Hbel2.out
          have Hown2 := Lib.hid hown2
          have Hgw2 : Hid (g ≤ wr.heap.size) := Nat.le_trans hgw Hbel2.out.size
          have Hbel3 : Hid (Below g w wr) := Hbel.out.trans (Hbel2.out.mono hgw)
          clear hown2
          by_cases hX : X = []
          · subst hX
            have hnil : strL [] = (⟨#[]⟩ : ByteArray) := rfl
            rw [hnil]
            cases empty with
            | false =>
              go_wp2_with (at_builtin; refine wpList_append_lies _ rfl _ _ 36 rfl g 9 i0 (.string ⟨#[]⟩) 1 16 Tryz.underlying36 hi hz0 hz1 hz2 rfl (by decide) _ k ((xs.take k).map fun x => Value.string (strL (oneS j false x))) rfl (Hown2.out.alloc _) ⟨wr.heap.size, 0, none⟩ 1 1 [.string ⟨#[98]⟩] rfl rfl (cell_one_new _ _ _) (one_cell _ rfl) Nat.one_pos (by unfold maxLen; omega) (by omega) (by rw [World.size_alloc]; exact Nat.le_trans Hgw2.out (Nat.le_succ _)) (wr.heap.size + 1) (size_new'' _ _) ?_)
              intro gr cr w4 hown4 hgrow4 hat4 hlt4
              have hy : Value.string ⟨#[98]⟩ = Value.string (strL (oneS j false x)) := by
                rw [Hone.out, if_pos (by simp)]; rfl
              have hbel4 : Below g w w4 := Hbel3.out.trans (own_below Hown2.out Hgw2.out hgrow4)
              have hown5 : w4.ownsRow g 9 1 (.slice (some ⟨gr, 0, none⟩) (k + 1 : Nat) cr) (k + 1) ((xs.take (k + 1)).map fun x => Value.string (strL (oneS j false x))) := by
                rw [Htake.out, List.map_append, List.map_cons, List.map_nil, ← hy, List.map_take]
                exact hown4
              have hs4 : g ≤ w4.heap.size := by
                have h1 := hbel4.size
                have h2 := Hg.out
                omega
              have Hown5 := Lib.hid hown5
              have Hbel4 := Lib.hid hbel4
              clear hown4 hgrow4 hat4 hown5 hbel4 hy
              go_wp2_with fail
              exact ⟨⟨k + 1, hlt1, hlt2, by go_num, Hown5.out, Hbel4.out, hs4⟩, by simp [intOf]; omega⟩
            | true =>
              go_wp2_with (at_builtin; refine wpList_append_lies _ rfl _ _ 36 rfl g 9 i0 (.string ⟨#[]⟩) 1 16 Tryz.underlying36 hi hz0 hz1 hz2 rfl (by decide) _ k ((xs.take k).map fun x => Value.string (strL (oneS j true x))) rfl (Hown2.out.alloc _) ⟨wr.heap.size, 0, none⟩ 1 1 [.string ⟨#[]⟩] rfl rfl (cell_one_new _ _ _) (one_cell _ rfl) Nat.one_pos (by unfold maxLen; omega) (by omega) (by rw [World.size_alloc]; exact Nat.le_trans Hgw2.out (Nat.le_succ _)) (wr.heap.size + 1) (size_new'' _ _) ?_)
              intro gr cr w4 hown4 hgrow4 hat4 hlt4
              have hy : Value.string ⟨#[]⟩ = Value.string (strL (oneS j true x)) := by
                rw [Hone.out, if_neg (by simp)]; rfl
              have hbel4 : Below g w w4 := Hbel3.out.trans (own_below Hown2.out Hgw2.out hgrow4)
              have hown5 : w4.ownsRow g 9 1 (.slice (some ⟨gr, 0, none⟩) (k + 1 : Nat) cr) (k + 1) ((xs.take (k + 1)).map fun x => Value.string (strL (oneS j true x))) := by
                rw [Htake.out, List.map_append, List.map_cons, List.map_nil, ← hy, List.map_take]
                exact hown4
              have hs4 : g ≤ w4.heap.size := by
                have h1 := hbel4.size
                have h2 := Hg.out
                omega
              have Hown5 := Lib.hid hown5
              have Hbel4 := Lib.hid hbel4
              clear hown4 hgrow4 hat4 hown5 hbel4 hy
              go_wp2_with fail
              exact ⟨⟨k + 1, hlt1, hlt2, by go_num, Hown5.out, Hbel4.out, hs4⟩, by simp [intOf]; omega⟩
          · have hE : ¬ (strL X).toList = [] := fun e => hX (by
              have h1 : (strL X).size = 0 := by
                rw [ByteArray.toList_eq] at e
                show (strL X).data.size = 0
                rw [← Array.length_toList, e]
                rfl
              rw [strL_size] at h1
              exact List.eq_nil_of_length_eq_zero h1)
            have Hone2 : Hid (oneS j empty x = X) := by show _ = _; rw [Hone.out, if_neg (fun h => hX h.1)]
            go_wp2_with (at_builtin; refine wpList_append_lies _ rfl _ _ 36 rfl g 9 i0 (.string ⟨#[]⟩) 1 16 Tryz.underlying36 hi hz0 hz1 hz2 rfl (by decide) _ k ((xs.take k).map fun x => Value.string (strL (oneS j empty x))) rfl (Hown2.out.alloc _) ⟨wr.heap.size, 0, none⟩ 1 1 [.string (strL X)] rfl rfl (cell_one_new _ _ _) (one_cell _ rfl) Nat.one_pos (by unfold maxLen; omega) (by omega) (by rw [World.size_alloc]; exact Nat.le_trans Hgw2.out (Nat.le_succ _)) (wr.heap.size + 1) (size_new'' _ _) ?_)
            intro gr cr w4 hown4 hgrow4 hat4 hlt4
            have hy : Value.string (strL X) = Value.string (strL (oneS j empty x)) := by
              rw [Hone2.out]
            have hbel4 : Below g w w4 := Hbel3.out.trans (own_below Hown2.out Hgw2.out hgrow4)
            have hown5 : w4.ownsRow g 9 1 (.slice (some ⟨gr, 0, none⟩) (k + 1 : Nat) cr) (k + 1) ((xs.take (k + 1)).map fun x => Value.string (strL (oneS j empty x))) := by
              rw [Htake.out, List.map_append, List.map_cons, List.map_nil, ← hy, List.map_take]
              exact hown4
            have hs4 : g ≤ w4.heap.size := by
              have h1 := hbel4.size
              have h2 := Hg.out
              omega
            have Hown5 := Lib.hid hown5
            have Hbel4 := Lib.hid hbel4
            clear hown4 hgrow4 hat4 hown5 hbel4 hy
            go_wp2_with fail
            exact ⟨⟨k + 1, hlt1, hlt2, by go_num, Hown5.out, Hbel4.out, hs4⟩, by simp [intOf]; omega⟩
    · have htk : xs.take k = xs.take most := by
        have := Hl.out
        by_cases h : k < n
        · rw [show most = k by omega]
        · rw [List.take_of_length_le (by omega), List.take_of_length_le (by omega)]
      have hlk : (xs.take most).length = k := by
        rw [← htk, List.length_take, Hl.out]
        omega
      have hown3 := Hown.out
      rw [htk] at hown3
      have Hown3 := Lib.hid hown3
      have Hlk := Lib.hid hlk
      clear hown3 htk hlk
      by_cases h : k < n
      · have h2 : ¬ ((k : Int) < (most : Int)) := by omega
        have h3 : (k : Int) < (n : Int) := by omega
        go_wp2_with fail
        go_ret
        exact ⟨_, rfl, by rw [← List.map_take, ← List.length_take, Hlk.out]; exact Hown3.out, Hbel.out⟩
      · have h2 : ¬ ((k : Int) < (n : Int)) := by omega
        go_wp2_with fail
        go_ret
        exact ⟨_, rfl, by rw [← List.map_take, ← List.length_take, Hlk.out]; exact Hown3.out, Hbel.out⟩

end Go.Proofs.YtkdalgdckgmccaaGreatDoor
