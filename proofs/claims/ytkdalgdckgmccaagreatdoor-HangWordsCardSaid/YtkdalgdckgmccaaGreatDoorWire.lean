/-
  The walks of reduced, of the question with which nails a word falls, and of the inverse of a wire.
-/
import Derived.Test.YtkdalgdckgmccaaGreatDoorNails
namespace Go.Proofs.YtkdalgdckgmccaaGreatDoor
open Go.RowKit

theorem keep_none (c : Nat) : keep (fun _ => false) c = true := rfl
theorem leftL_none (l : List Nat) : leftL (fun _ => false) l = redL l := by
  unfold leftL
  rw [List.filter_eq_self.2 (fun c _ => keep_none c)]

theorem wire_keep {B : Nat} {l : List Nat} {w w' : World} {v : Value} (h : Wire B l w v) (hk : Below w.heap.size w w') : Wire B l w' v := ⟨own_keep h.own hk, Nat.le_trans h.base hk.size⟩
theorem wire_mono {B B' : Nat} {l : List Nat} {w : World} {v : Value} (h : Wire B l w v) (hB : B' ≤ B) : Wire B' l w v := ⟨own_mono h.own hB, Nat.le_trans hB h.base⟩

theorem zero_agg : nailC (fun _ => false) = #[.bool false, .bool false, .bool false, .bool false, .bool false, .bool false, .bool false, .bool false, .bool false, .bool false, .bool false, .bool false, .bool false, .bool false, .bool false, .bool false, .bool false, .bool false, .bool false, .bool false, .bool false, .bool false, .bool false, .bool false, .bool false, .bool false] := by kernel_rfl

set_option maxRecDepth 100000 in
theorem reduced_any (s : ByteArray) (w : World) (hword : IsWord (lettersOf s)) (hsz : s.size ≤ 1000000) :
    Calls Tryz.prog 20 #[.string s] w (RetWire (redL (lettersOf s)) w) := by
  have hl := left_any s (fun _ => false) w hword hsz
  rw [leftL_none, zero_agg] at hl
  have Hl := Lib.hid hl
  clear hl hword
  go_enter Tryz.func20, Tryz.ntmps20
  go_wp2_with (go_at_call 32; refine Hl.out.mono ?_; rintro e w3 ⟨v3, rfl, hW3, hb3⟩)
  go_ret
  exact ⟨v3, rfl, hW3, hb3⟩

/-- Letters as a string. -/
def strL (l : List Nat) : ByteArray := strOfNums (l.map fun (x : Nat) => (x : Int))
theorem letters_strL {l : List Nat} (h : ∀ c ∈ l, c < 256) : lettersOf (strL l) = l := by
  unfold lettersOf strL
  rw [strOfNums_data, List.map_map, List.map_map]
  conv => rhs; rw [← List.map_id l]
  apply List.map_congr_left
  intro c hc
  have := h c hc
  simp only [Function.comp, Int.toNat_natCast, id]
  rw [UInt8.toNat_ofNat']
  omega
theorem IsWord.lt256 {l : List Nat} (h : IsWord l) : ∀ c ∈ l, c < 256 := fun c hc => by have := (h c hc).lt; omega
theorem strL_size (l : List Nat) : (strL l).size = l.length := by unfold strL; rw [strOfNums_size, List.length_map]
theorem strL_letters (s : ByteArray) : strL (lettersOf s) = s := by
  apply ByteArray.ext
  apply Array.ext'
  show (strOfNums _).data.toList = _
  rw [strOfNums_data]
  unfold lettersOf
  rw [List.map_map, List.map_map]
  conv => rhs; rw [← List.map_id s.data.toList]
  apply List.map_congr_left
  intro c _
  simp

/-- A row of letters as a string. -/
theorem own_string {B n : Nat} {l : List Nat} {w : World} {v : Value} {t : TypeId} (ht : Tryz.prog.underlying t = some (.slice 5)) (hown : w.ownsRow B 5 1 v n (nums .u8 l)) : (convert t 9 v).run Tryz.prog w = .ok (.string (strL l)) w := by
  have hn : l.length = n := own_len hown
  rcases Nat.eq_zero_or_pos n with h0 | h0
  · subst h0
    have hl : l = [] := List.eq_nil_of_length_eq_zero hn
    subst hl
    rcases hown.2 with ⟨rfl, _⟩ | ⟨g, cap, cur, rfl, _⟩
    · exact run_convert_bytes_nil w t 5 ht Tryz.underlying5 0 0 9 Tryz.underlying9
    · exact run_convert_bytes_arg w t 5 ht Tryz.underlying5 g 0 0 cap [] rfl (fun i hi => absurd hi (by omega)) 9 Tryz.underlying9
  · obtain ⟨g, cap, rfl⟩ := own_pos hown h0
    exact run_convert_bytes_arg w t 5 ht Tryz.underlying5 g 0 n cap (l.map fun (x : Nat) => (x : Int)) (by rw [List.length_map, hn]) (fun j hj => by
      rw [Nat.zero_add, own_num hown j hj]
      simp [List.getD_eq_getElem?_getD, show j < l.length by omega]) 9 Tryz.underlying9
/-- A wire as a string. -/
theorem wire_string {B : Nat} {l : List Nat} {w : World} {v : Value} (h : Wire B l w v) : (convert 44 9 v).run Tryz.prog w = .ok (.string (strL l)) w := own_string Tryz.underlying44 h.own

/-- Whether a word falls without some nails. -/
def fallsL (S : Nat → Bool) (l : List Nat) : Bool := decide (leftL S l = [])
theorem len_zero (l : List Nat) : (((l.length : Nat) : Int) == 0) = decide (l = []) := by
  cases l with
  | nil => rfl
  | cons a l =>
    have h1 : decide (a :: l = []) = false := by simp
    rw [h1]
    have : ((((a :: l).length : Nat) : Int) ≠ 0) := by simp only [List.length_cons]; omega
    simpa using this

set_option maxRecDepth 100000 in
/-- How to ask with which nails a word falls: a closure over the reduced form. -/
theorem falling_any (s : ByteArray) (w : World) (hword : IsWord (lettersOf s)) (hsz : s.size ≤ 1000000) :
    Calls Tryz.prog 23 #[.string s] w fun e w' => ∃ g, e = .returned (.func (.func 34) #[] #[.pointer (some ⟨g, 0, none⟩)]) ∧ w.heap.size ≤ g ∧ Blk w' g 9 #[.string (strL (redL (lettersOf s)))] ∧ Below w.heap.size w w' := by
  have hl := reduced_any s w hword hsz
  have Hl := Lib.hid hl
  clear hl hword
  go_enter Tryz.func23, Tryz.ntmps23
  go_wp2_with (first
    | (go_at_call 20; refine Hl.out.mono ?_; rintro e w3 ⟨v3, rfl, hW3, hb3⟩; have hconv := wire_string hW3))
  go_ret
  exact ⟨w3.heap.size, rfl, hb3.size, Blk.new _ _ _, hb3.trans ((below_new' _ _).mono hb3.size)⟩

set_option maxRecDepth 100000 in
theorem falling1_any (g : Nat) (f : ByteArray) (S : Nat → Bool) (w : World) (hf : Blk w g 9 #[.string f]) (hword : IsWord (lettersOf f)) (hsz : f.size ≤ 1000000) :
    Calls Tryz.prog 34 #[.agg (nailC S), .pointer (some ⟨g, 0, none⟩)] w fun e w' => e = .returned (.bool (fallsL S (lettersOf f))) ∧ Below w.heap.size w w' := by
  have hb0 := Blk.new w 49 (nailC S)
  have hf1 := hf.more' (.cells (nailC S) 49)
  have hc := hf1.cell 0
  have hbel := below_new' w (.cells (nailC S) 49)
  have Hl := Lib.hid (left_any f S (w.alloc (.cells (nailC S) 49)) hword hsz)
  clear hword
  go_enter Tryz.func34, Tryz.ntmps34
  go_wp2_with (first
    | (refine wpList_load_row rfl 49 _ rfl w.heap.size rfl 49 (nailC S) (0, 0) _ hb0 Tryz.underlying49 rfl (nailC_info _) ?_)
    | (go_at_call 32; refine Hl.out.mono ?_; rintro e w3 ⟨v3, rfl, hW3, hb3⟩; obtain ⟨A3, c3, rfl⟩ := own_slice' hW3.own))
  go_ret
  exact ⟨ret_bool (len_zero _), hbel.trans (hb3.mono hbel.size)⟩

theorem own_of_blk {w : World} {g : Nat} {e : TypeId} {k : IntKind} {l : List Nat} (h : Blk w g e (cellsOf k l)) {B : Nat} (hB : B ≤ g) (hm : l.length ≤ maxLen) : w.ownsRow B e 1 (.slice (some ⟨g, 0, none⟩) l.length l.length) l.length (nums k l) :=
  ⟨by rw [nums_length]; omega, .inr ⟨g, l.length, cellsOf k l, rfl, hB, h, Nat.le_refl _, hm, by simp [cellsOf], by unfold cellsOf nums; exact List.take_of_length_le (by simp)⟩⟩

theorem invTo_set (n k c : Nat) (X : List Nat) (h : k < n) : (List.replicate (n - k) 0 ++ X).set (n - 1 - k) (inv c) = List.replicate (n - (k + 1)) 0 ++ (inv c :: X) := by
  obtain ⟨m, hm⟩ : ∃ m, n - k = m + 1 := ⟨n - k - 1, by omega⟩
  rw [show n - 1 - k = m by omega, show n - (k + 1) = m by omega, hm, List.replicate_succ']
  rw [List.append_assoc, List.set_append_right _ _ (by simp)]
  simp

set_option maxRecDepth 100000 in
set_option maxHeartbeats 1000000 in
theorem inverse_any (A : Option Addr) (n cap : Nat) (l : List Nat) (w : World) (hS : Sl .u8 w A n l) (hword : IsWord l) (hn : n ≤ 1000000) :
    Calls Tryz.prog 21 #[.slice A n cap] w (RetWire (invL l) w) := by
  have hl := hS.len
  have hi : (Tryz.prog.info? 5).map (fun i => (i.zero, i.size, i.bytes)) = some (some (.int .u8 0), 1, 1) := info_u8
  have hmk := run_makeInts (P := Tryz.prog) (t := 44) (e := 5) (k := .u8) Tryz.underlying44 hi (by omega) .i64 .i64 n (by omega) w
  have hb0 := Blk.new w 5 (cellsOf .u8 (List.replicate n 0))
  have hbel0 := below_new' w (.cells (cellsOf .u8 (List.replicate n 0)) 5)
  have HS := Lib.hid hS
  have Hword := Lib.hid hword
  clear hword
  go_enter Tryz.func21, Tryz.ntmps21
  go_wp2_with fail
  generalize hg : w.heap.size = g at *
  generalize w.alloc (.cells (cellsOf .u8 (List.replicate n 0)) 5) = W0 at *
  have Hg := Lib.hid hg
  have Hl := Lib.hid hl
  clear hmk hS hg hl
  go_loopw [11] (fun kv wr => ∃ k : Nat, k ≤ n ∧ kv = .int .i64 k ∧ Blk wr g 5 (cellsOf .u8 (List.replicate (n - k) 0 ++ invL (l.take k))) ∧ Below g w wr) (fun kv _ => n - (intOf kv).toNat)
  case atStart => exact ⟨0, Nat.zero_le _, rfl, by simpa [invL] using hb0, hbel0⟩
  case round =>
    obtain ⟨k, hk, rfl, hblk, hbel⟩ := hrel
    by_cases hlt : k < n
    · obtain ⟨b, off, rfl, hbs, hcl⟩ := (HS.out.below (by rw [Hg.out]; exact hbel)).at (by omega)
      have hc0 := hcl k hlt
      have hfree := hblk.free (n - 1 - k)
      have hcx := hblk.num (n - 1 - k) (by rw [List.length_append, List.length_replicate, invL_length, List.length_take, Hl.out]; omega)
      generalize (List.replicate (n - k) 0 ++ invL (l.take k)).getD (n - 1 - k) 0 = old at hcx
      have Hnext : Hid (invL (l.take (k + 1)) = inv (l.getD k 0) :: invL (l.take k)) := by
        show _ = _
        rw [take_snoc l k (by have := Hl.out; omega), invL_append]; rfl
      have hLt : Lt (l.getD k 0) := by
        rw [List.getD_eq_getElem?_getD, List.getElem?_eq_getElem (by have := Hl.out; omega)]
        exact Hword.out _ (List.getElem_mem _)
      generalize l.getD k 0 = c at *
      have hbits := inv_bits c hLt.lt hLt
      have h1 : ((n : Int) - 1 - k) = ((n - 1 - k : Nat) : Int) := by omega
      have hput := hblk.put (n - 1 - k) (inv c) (z := (inv c : Nat)) rfl
      rw [invTo_set n k c _ hlt] at hput
      have Hput := Lib.hid hput
      have Hbel := Lib.hid hbel
      have Hblk := Lib.hid hblk
      clear hcl hblk hbel hput hLt
      go_wp2
      go_roundw
      case rel => exact ⟨k + 1, by omega, by go_num, by rw [Hnext.out]; exact Hput.out, Hbel.out.setCell (p := ⟨g, n - 1 - k, none⟩) (Nat.le_refl _) _⟩
      case measure => simp [intOf]; omega
    · obtain rfl : k = n := by omega
      rw [Nat.sub_self, List.replicate_zero, List.nil_append, List.take_of_length_le (by have := Hl.out; omega)] at hblk
      have hlen : (invL l).length = k := by rw [invL_length, Hl.out]
      have hown := own_of_blk (B := g) hblk (Nat.le_refl _) (by rw [hlen]; unfold maxLen; omega)
      rw [hlen] at hown
      have Hlen := Lib.hid hlen
      clear hlen
      go_wp2
      go_ret
      unfold RetWire
      rw [Hg.out]
      exact ⟨_, rfl, ⟨by rw [Hlen.out]; exact hown, by have := hblk.lt; omega⟩, hbel⟩

end Go.Proofs.YtkdalgdckgmccaaGreatDoor
