/-
  The walk of the reference's Falls.
-/
import Derived.Test.YtkdalgdckgmccaaGreatDoorRefC
namespace Go.Proofs.YtkdalgdckgmccaaGreatDoor
open Go.RowKit Go.Shelf

/-- The letters that are left when some nails are pulled. -/
def stayL (p l : List Nat) : List Nat := l.filter fun c => !hasL p (97 + nailN c)
theorem stay_take {p l : List Nat} {k : Nat} (h : k < l.length) : stayL p (l.take (k + 1)) = stayL p (l.take k) ++ (if hasL p (97 + nailN (l.getD k 0)) = true then [] else [l.getD k 0]) := by
  unfold stayL
  rw [take_snoc _ _ h, List.filter_append]
  congr 1
  by_cases g : hasL p (97 + nailN (l.getD k 0)) = true
  · rw [if_pos g, List.filter_cons_of_neg (by rw [g]; decide)]; rfl
  · rw [if_neg g, List.filter_cons_of_pos (by simp only [Bool.not_eq_true] at g; rw [g]; rfl)]; rfl
theorem stay_length (p l : List Nat) : (stayL p l).length ≤ l.length := List.length_filter_le _ _

theorem str_some {t : ByteArray} (h : 0 < t.size) : t.toList.isEmpty = false := by
  have h2 : t.toList.length = t.size := by rw [ByteArray.toList_eq, Array.length_toList]; rfl
  cases e : t.toList with
  | nil => rw [e] at h2; simp at h2; omega
  | cons a l => rfl

set_option maxRecDepth 100000 in
set_option maxHeartbeats 2000000 in
theorem rfalls_any (s p : ByteArray) (w : World) (hword : IsWord (lettersOf s)) (hsz : s.size ≤ 1000000) (hpz : p.size ≤ 1000000000) :
    Calls Tryz.prog 13 #[.string s, .string p] w fun e w' => e = .returned (.bool (decide (redL (stayL (lettersOf p) (lettersOf s)) = []))) ∧ Below w.heap.size w w' := by
  obtain ⟨i0, hi, hz0, hz1, hz2⟩ := info_parts info_u8
  have hlen := lettersOf_length s
  have Hword := Lib.hid hword
  clear hword
  have hmk := run_make (P := Tryz.prog) w 43 5 i0 (.int .u8 0) Tryz.underlying43 hi hz0 .i64 .i64 0 (s.size : Nat) (by omega) (by omega) (by rw [hz2]; omega) (by omega)
  rw [hz1, Nat.mul_one, Int.toNat_natCast, show (0 : Int).toNat = 0 from rfl, show madeCells (Value.int .u8 0).cells s.size = cellsOf .u8 (List.replicate s.size 0) from cellsOf_made .u8 s.size] at hmk
  have hown0 := own_made w 5 (cellsOf .u8 (List.replicate s.size 0)) (by simp [cellsOf, maxLen]; omega)
  rw [show (cellsOf .u8 (List.replicate s.size 0)).size = s.size by simp [cellsOf]] at hown0
  have hbel0 := below_new' w (.cells (cellsOf .u8 (List.replicate s.size 0)) 5)
  generalize cellsOf .u8 (List.replicate s.size 0) = Z at *
  have Hred : Hid (∀ (l : List Nat) (W : World), (∀ c ∈ l, c ∈ lettersOf s) → l.length ≤ s.size → Calls Tryz.prog 10 #[.string (strL l)] W fun e w' => e = .returned (.string (strL (redL l))) ∧ Below W.heap.size W w') := fun l W h1 h2 => by
    have hw : IsWord l := fun c hc => Hword.out c (h1 c hc)
    have h := rreduce_any (strL l) W (by rw [letters_strL hw.lt256]; exact hw) (by rw [strL_size]; omega)
    rwa [letters_strL hw.lt256] at h
  generalize hq : lettersOf p = q at *
  have Hhas : Hid (∀ (c : Nat) (W : World), Calls Tryz.prog 27 #[.string p, .int .u8 (c : Nat)] W fun e w' => e = .returned (.bool (hasL q c)) ∧ w' = W) := fun c W => by rw [← hq]; exact has_any p c W hpz
  clear hq
  obtain ⟨r, hr⟩ : ∃ r, decide (redL (stayL q (lettersOf s)) = []) = r := ⟨_, rfl⟩
  rw [hr]
  have HR := Lib.hid hr
  clear hr
  go_enter Tryz.func13, Tryz.ntmps13
  go_wp2_with fail
  have hsz1 : w.heap.size ≤ (w.alloc (.cells Z 5)).heap.size := hbel0.size
  generalize w.alloc (.cells Z 5) = W0 at *
  generalize hg : w.heap.size = g at *
  have Hg := Lib.hid hg
  have Hl := Lib.hid hlen
  clear hg hmk hlen
  go_loopw [5, 6] (fun v kv wr => ∃ k : Nat, k ≤ s.size ∧ kv = .int .i64 k ∧ wr.ownsRow g 5 1 v (stayL q ((lettersOf s).take k)).length (nums .u8 (stayL q ((lettersOf s).take k))) ∧ Below g w wr) (fun _ kv _ => s.size - (intOf kv).toNat)
  case atStart => exact ⟨0, Nat.zero_le _, rfl, hown0, hbel0⟩
  case round =>
    obtain ⟨k, hk, rfl, hown, hbel⟩ := hrel
    by_cases hlt : k < s.size
    · have hki : (k : Int) < (s.size : Int) := by omega
      have hcc : (s[k]'hlt).toNat = (lettersOf s).getD k 0 := (lettersOf_get s k hlt).symm
      have hc : Lt ((lettersOf s).getD k 0) := by
        rw [List.getD_eq_getElem?_getD, List.getElem?_eq_getElem (by have := Hl.out; omega)]
        exact Hword.out _ (List.getElem_mem _)
      have Hnext := Lib.hid (stay_take (p := q) (l := lettersOf s) (k := k) (by have := Hl.out; omega))
      have hxl : (stayL q ((lettersOf s).take k)).length ≤ k := by
        have h1 := stay_length q ((lettersOf s).take k)
        rw [List.length_take] at h1
        omega
      generalize stayL q ((lettersOf s).take k) = xs at *
      generalize (lettersOf s).getD k 0 = c at *
      have Hnail := Lib.hid (rnail_any c hc wr)
      have Hh : Hid (Calls Tryz.prog 27 #[.string p, .int .u8 (97 + (nailN c : Nat))] wr fun e w' => e = .returned (.bool (hasL q (97 + nailN c))) ∧ w' = wr) := by
        have h := Hhas.out (97 + nailN c) wr
        rw [Int.natCast_add] at h
        exact h
      have hn26 := nail_lt hc
      generalize hasL q (97 + nailN c) = b at *
      have hc8 : c < 123 := hc.lt
      obtain ⟨n, hxn⟩ : ∃ n, xs.length = n := ⟨_, rfl⟩
      rw [hxn] at hown hxl
      have Hxn := Lib.hid hxn
      have hgs : g ≤ wr.heap.size := by have := hbel.size; have := Hg.out; omega
      clear hxn hc
      cases b
      · go_wp2_with (first
          | (go_at_call 28; refine Hnail.out.mono ?_; clear Hnail; rintro e w2 ⟨rfl, rfl⟩)
          | (go_at_call 27; refine Hh.out.mono ?_; clear Hh; rintro e w3 ⟨rfl, rfl⟩)
          | (at_builtin; refine wpList_append_lies _ rfl _ _ 43 rfl g 5 i0 (.int .u8 0) 1 1 Tryz.underlying43 hi hz0 hz1 hz2 rfl (by decide) _ n (nums .u8 xs) rfl (hown.alloc _) ⟨w3.heap.size, 0, none⟩ 1 1 [.int .u8 c] rfl rfl ?c1 ?c2 ?c3 ?c4 ?c5 ?c6 (w3.heap.size + 1) (size_new'' _ _) ?_))
        case c1 => exact cell_one_new _ _ _
        case c2 => exact one_cell _ rfl
        case c3 => exact Nat.one_pos
        case c4 => unfold maxLen; omega
        case c5 => omega
        case c6 => rw [World.size_alloc]; omega
        intro gr cr w4 hown4 hgrow4 hat4 hlt4
        have hbel4 : Below g w w4 := hbel.trans ((own_below hown hgs hgrow4).mono (Nat.le_refl _))
        go_wp2_with fail
        go_roundw
        case rel => exact ⟨k + 1, by omega, by go_num, by rw [Hnext.out, if_neg (by decide), List.length_append, Hxn.out, ← nums_snoc]; exact hown4, hbel4⟩
        case measure => simp [intOf]; omega
      · go_wp2_with (first
          | (go_at_call 28; refine Hnail.out.mono ?_; clear Hnail; rintro e w2 ⟨rfl, rfl⟩)
          | (go_at_call 27; refine Hh.out.mono ?_; clear Hh; rintro e w3 ⟨rfl, rfl⟩))
        go_roundw
        case rel => exact ⟨k + 1, by omega, by go_num, by rw [Hnext.out, if_pos trivial, List.append_nil, Hxn.out]; exact hown, hbel⟩
        case measure => simp [intOf]; omega
    · obtain rfl : k = s.size := by omega
      have he : (lettersOf s).take s.size = lettersOf s := List.take_of_length_le (by have := Hl.out; omega)
      rw [he] at hown
      have hconv := own_string (t := 43) Tryz.underlying43 hown
      have Hr := Lib.hid (Hred.out (stayL q (lettersOf s)) wr (fun c hc => (List.mem_filter.1 hc).1) (by have := stay_length q (lettersOf s); have := Hl.out; omega))
      have Hbel := Lib.hid hbel
      clear hown hbel he
      generalize stayL q (lettersOf s) = l at *
      by_cases hnil : redL l = []
      · have hd : Hid (r = true) := by show _ = _; rw [← HR.out]; exact decide_eq_true hnil
        rw [hnil] at Hr
        have h0 : strL [] = (⟨#[]⟩ : ByteArray) := rfl
        rw [h0] at Hr
        clear hnil h0 HR
        go_wp2_with (go_at_call 10; refine Hr.out.mono ?_; clear Hr; rintro e w2 ⟨rfl, hb2⟩)
        go_ret
        exact ⟨by rw [hd.out]; rfl, by rw [Hg.out]; exact Hbel.out.trans (hb2.mono (by have := Hbel.out.size; have := Hg.out; omega))⟩
      · have hd : Hid (r = false) := by show _ = _; rw [← HR.out]; exact decide_eq_false hnil
        have hsz : 0 < (strL (redL l)).size := by rw [strL_size]; exact List.length_pos_iff.2 hnil
        generalize strL (redL l) = t at *
        have hte := str_some hsz
        clear hnil HR hsz
        go_wp2_with (go_at_call 10; refine Hr.out.mono ?_; clear Hr; rintro e w2 ⟨rfl, hb2⟩)
        go_ret
        exact ⟨by rw [hd.out]; rfl, by rw [Hg.out]; exact Hbel.out.trans (hb2.mono (by have := Hbel.out.size; have := Hg.out; omega))⟩

end Go.Proofs.YtkdalgdckgmccaaGreatDoor
