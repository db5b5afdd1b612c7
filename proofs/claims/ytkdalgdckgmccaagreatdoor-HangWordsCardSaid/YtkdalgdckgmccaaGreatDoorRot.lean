/-
  The walk of rotation.
-/
import Derived.Test.YtkdalgdckgmccaaGreatDoorComm
import Derived.Test.YtkdalgdckgmccaaGreatDoorConcat
import Derived.Test.YtkdalgdckgmccaaGreatDoorShelf
import Derived.Lib.IndexBytes
namespace Go.Proofs.YtkdalgdckgmccaaGreatDoor
open Go.RowKit

/-- Numbers as the library takes them. -/
def ints (l : List Nat) : List Int := l.map fun (x : Nat) => (x : Int)
theorem ints_length (l : List Nat) : (ints l).length = l.length := List.length_map ..
theorem ints_getD (l : List Nat) (i : Nat) : (ints l).getD i 0 = (l.getD i 0 : Nat) := by
  unfold ints
  rw [List.getD_eq_getElem?_getD, List.getElem?_map, List.getD_eq_getElem?_getD]
  cases l[i]? <;> rfl
theorem ints_byte {l : List Nat} (h : ∀ c ∈ l, c < 256) : ∀ x ∈ ints l, 0 ≤ x ∧ x < 256 := by
  intro x hx
  obtain ⟨c, hc, rfl⟩ := List.mem_map.mp hx
  have := h c hc
  omega
/-- Where a loop occurs in the double of another, from a first letter on; or -1. -/
def rotF (l l2 : List Nat) (first : Nat) : Int := Lib.index (Lib.bytesOf (ints ((l ++ l).drop first))) (Lib.bytesOf (ints l2))
theorem rotF_ge (l l2 : List Nat) (first : Nat) : -1 ≤ rotF l l2 first := Lib.index_ge _ _
theorem rotF_le (l l2 : List Nat) (first : Nat) : rotF l l2 first ≤ 2 * l.length := by
  have h := Lib.index_le (Lib.bytesOf (ints ((l ++ l).drop first))) (Lib.bytesOf (ints l2))
  have : (Lib.bytesOf (ints ((l ++ l).drop first))).length ≤ 2 * l.length := by
    unfold Lib.bytesOf
    rw [List.length_map, ints_length, List.length_drop, List.length_append]
    omega
  unfold rotF
  omega
/-- What rotation returns. -/
def rotV (l l2 : List Nat) (first : Nat) : Value :=
  if l.length = l2.length ∧ ¬ rotF l l2 first < 0 then .tuple #[.int .i64 ((first : Int) + rotF l l2 first), .bool true] else .tuple #[.int .i64 0, .bool false]

set_option maxRecDepth 100000 in
set_option maxHeartbeats 2000000 in
theorem rotation_any (b off b2 off2 n n2 c c2 first : Nat) (l l2 : List Nat) (m : Int) (w : World) (hS : Sl .u8 w (some ⟨b, off, none⟩) n l) (hS2 : Sl .u8 w (some ⟨b2, off2, none⟩) n2 l2) (hword : IsWord l) (hword2 : IsWord l2) (hn0 : 0 < n) (hn : n ≤ 1000000) (hf : first ≤ n) (hm : w.cell? ⟨0, 0, none⟩ = some (.int .i64 m)) (hw0 : 0 < w.heap.size) :
    Calls Tryz.prog 73 #[.slice (some ⟨b, off, none⟩) n c, .slice (some ⟨b2, off2, none⟩) n2 c2, .int .i64 first] w fun e w' => e = .returned (rotV l l2 first) ∧ Below w.heap.size w w' := by
  have Hl := Lib.hid hS.len
  have Hl2 := Lib.hid hS2.len
  have Hge := Lib.hid (rotF_ge l l2 first)
  have Hle := Lib.hid (rotF_le l l2 first)
  have hcat := fun W (hW : Below w.heap.size w W) => concat_any W.heap.size 0 2 2 [l, l] (W.alloc (.cells #[.slice (some ⟨b, off, none⟩) n c, .slice (some ⟨b, off, none⟩) n c] 44)) rfl (by
    have hb3 := below_new' W (.cells #[.slice (some ⟨b, off, none⟩) n c, .slice (some ⟨b, off, none⟩) n c] 44)
    have hblk := Blk.new W 44 #[.slice (some ⟨b, off, none⟩) n c, .slice (some ⟨b, off, none⟩) n c]
    have hs := (hS.below hW).below hb3
    exact parts_cons hblk.lt ((hblk.cell 0).trans (by rw [Hl.out]; rfl)) (by rw [Hl.out]; exact hs) (parts_cons hblk.lt ((hblk.cell 1).trans (by rw [Hl.out]; rfl)) (by rw [Hl.out]; exact hs) (parts_nil _ _ _))) (by
      intro i hi
      have : i = 0 ∨ i = 1 := by omega
      rcases this with rfl | rfl <;> simp [Hl.out, hn0]) (by omega) (by simp [Hl.out]; omega) (by omega)
  have Hcat := Lib.hid hcat
  have HS2 := Lib.hid hS2
  have Hword := Lib.hid hword
  have Hword2 := Lib.hid hword2
  have hn2 := hS2.max
  have Hm := Lib.hid hm
  have Hw0 := Lib.hid hw0
  clear hS hS2 hword hword2 hm hcat hw0
  go_enter Tryz.func73, Tryz.ntmps73
  by_cases he : n = n2
  · subst he
    go_wp2_with fail
    refine (Hcat.out w (Below.refl _ _)).mono ?_
    rintro e w1 ⟨v, rfl, hown, hb1⟩
    have hb1' : Below w.heap.size w w1 := (below_new' w _).trans (hb1.mono (alloc_size_le w _ (Nat.le_refl _)))
    have hL : ([l, l] : List (List Nat)).flatten = l ++ l := by simp
    rw [hL] at hown
    have hLn : (l ++ l).length = n + n := by rw [List.length_append, Hl.out]
    rw [hLn] at hown
    obtain ⟨g, cap, rfl⟩ := own_pos hown (by omega)
    have hcap := own_capd hown
    have hcell := own_num hown
    have hS2 := (HS2.out.below hb1').at hn0
    obtain ⟨b2', off2', e2, hbs2, hcl2⟩ := hS2
    injection e2 with e2
    injection e2 with e3 e4
    subst e3 e4
    have Hix := Lib.hid (Tryz.bytes_Index_at ⟨g, first, none⟩ ⟨b2, off2, none⟩ (n + n - first) (cap - first) n c2 (ints ((l ++ l).drop first)) (ints l2) m w1 (by rw [ints_length, List.length_drop, hLn]) (by rw [ints_length, Hl2.out])
      (ints_byte fun x hx => by
        have := List.mem_of_mem_drop hx
        rcases List.mem_append.mp this with h | h <;> exact Hword.out.lt256 x h)
      (ints_byte Hword2.out.lt256)
      (fun i hi => by
        rw [add_at, hcell (first + i) (by omega), ints_getD]
        simp [List.getD_eq_getElem?_getD, List.getElem?_drop])
      (fun i hi => by rw [add_at, hcl2 i hi, ints_getD]) (by omega) (by omega) (by omega) ((hb1'.cell (p := ⟨0, 0, none⟩) Hw0.out).trans Hm.out))
    have HB1 := Lib.hid hb1'
    have hfc : first ≤ cap := by omega
    have hcm : cap ≤ maxLen := by
      obtain ⟨_, ⟨h, _⟩ | ⟨g', c', cur, h, _, _, _, h2, _⟩⟩ := hown
      · exact absurd h (by simp)
      · have : cap = c' := by simpa using congrArg (fun v => match v with | .slice _ _ c => c | _ => 0) h
        omega
    unfold maxLen at hcm
    have hfn : first < n + n := by omega
    have hfc2 : first < cap := by omega
    generalize hN : n + n = N at *
    have HNn := Lib.hid hN
    clear hown hcell hcl2 hLn hL hb1 hb1' hN hcap
    go_wp2_with fail
    refine Hix.out.mono ?_
    rintro e w2 ⟨rfl, q, rfl⟩
    clear Hix
    have hr : Lib.index (Lib.bytesOf (ints ((l ++ l).drop first))) (Lib.bytesOf (ints l2)) = rotF l l2 first := rfl
    rw [hr]
    have hge := Hge.out
    have hle := Hle.out
    rw [Hl.out] at hle
    have Hv : Hid (rotV l l2 first = if ¬ rotF l l2 first < 0 then .tuple #[.int .i64 ((first : Int) + rotF l l2 first), .bool true] else .tuple #[.int .i64 0, .bool false]) := by
      show _ = _
      unfold rotV
      rw [Hl.out, Hl2.out]
      simp only [true_and]
    generalize rotF l l2 first = r at *
    clear hr
    by_cases hr0 : r < 0
    · go_wp2_with fail
      go_ret2
      exact ⟨by rw [Hv.out, if_neg (by omega)]; rfl, below_drewN HB1.out q⟩
    · have hdec : decide (r < 0) = false := decide_eq_false hr0
      go_wp2_with fail
      go_ret2
      exact ⟨by rw [Hv.out, if_pos (by omega)]; rfl, below_drewN HB1.out q⟩
  · have hv : rotV l l2 first = .tuple #[.int .i64 0, .bool false] := by
      unfold rotV
      rw [Hl.out, Hl2.out, if_neg (fun h => he h.1)]
    have Hv := Lib.hid hv
    clear hv
    have hne : ((n : Int) == (n2 : Int)) = false := by
      have : ((n : Int) ≠ (n2 : Int)) := by omega
      simpa using this
    go_wp2_with fail
    go_ret2
    exact ⟨by rw [Hv.out]; rfl, Below.refl _ _⟩

end Go.Proofs.YtkdalgdckgmccaaGreatDoor
