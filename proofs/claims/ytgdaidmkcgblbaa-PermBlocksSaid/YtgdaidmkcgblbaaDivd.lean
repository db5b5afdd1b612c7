/-
  The walk of longest.
  The walk of pattern.
  The walk of divide.
-/
import Derived.Test.YtgdaidmkcgblbaaCut
import Derived.Test.YtgdaidmkcgblbaaTame
namespace Go.Proofs.Ytgdaidmkcgblbaa
open Go.RowKit

def gapB (p : List Nat) (s e : Nat) : Bool := decide (e - s ≤ maxL (seg p s e) - minL (seg p s e))
def longEnd (p : List Nat) (s : Nat) : Nat → Nat
  | 0 => 0
  | e + 1 => if gapB p s (e + 1) then longEnd p s e else e + 1
/-- Where the part that begins at s ends. -/
def longE (p : List Nat) (s : Nat) : Nat := longEnd p s (if s = 0 then p.length - 1 else p.length)
def longFrom (p : List Nat) : Nat → Nat → List (Nat × Nat)
  | 0, _ => []
  | f + 1, s => if s < p.length then (s, longE p s) :: longFrom p f (longE p s) else []
def longL (p : List Nat) : List (Nat × Nat) := longFrom p p.length 0

theorem gapB_one (p : List Nat) (s : Nat) (h : s < p.length) : gapB p s (s + 1) = false := by
  unfold gapB
  have hl := seg_length p s (s + 1) (by omega) h
  have h1 : maxL (seg p s (s + 1)) = (seg p s (s + 1)).getD 0 0 := by
    unfold maxL; rw [hl, show s + 1 - s = 0 + 1 by omega]; show max ((seg p s (s + 1)).getD 0 0) ((seg p s (s + 1)).getD 0 0) = _; omega
  have h2 : minL (seg p s (s + 1)) = (seg p s (s + 1)).getD 0 0 := by
    unfold minL; rw [hl, show s + 1 - s = 0 + 1 by omega]; show min ((seg p s (s + 1)).getD 0 0) ((seg p s (s + 1)).getD 0 0) = _; omega
  rw [h1, h2]
  exact decide_eq_false (by omega)
theorem longEnd_in (p : List Nat) (s : Nat) : ∀ e, s < e → e ≤ p.length → s < longEnd p s e ∧ longEnd p s e ≤ e
  | 0, h, _ => absurd h (by omega)
  | e + 1, h, hl => by
    unfold longEnd
    by_cases hg : gapB p s (e + 1) = true
    · rw [if_pos hg]
      have hse : s < e := by
        by_cases e' : s = e
        · subst e'; rw [gapB_one p s (by omega)] at hg; exact absurd hg (by simp)
        · omega
      have := longEnd_in p s e hse (by omega)
      omega
    · rw [if_neg hg]; omega
theorem longE_in (p : List Nat) (s : Nat) (h : s < p.length) (h2 : 2 ≤ p.length) : s < longE p s ∧ longE p s ≤ p.length := by
  unfold longE
  by_cases e : s = 0
  · subst e
    rw [if_pos rfl]
    have := longEnd_in p 0 (p.length - 1) (by omega) (by omega)
    omega
  · rw [if_neg e]
    exact longEnd_in p s p.length h (Nat.le_refl _)
theorem maxTo_le (l : List Nat) (B : Nat) (h : ∀ i, l.getD i 0 ≤ B) : ∀ k, maxTo l k ≤ B
  | 0 => h 0
  | k + 1 => by have := maxTo_le l B h k; have := h k; simp only [maxTo]; omega
theorem seg_le (p : List Nat) (B s e : Nat) (h : ∀ i, p.getD i 0 ≤ B) : maxL (seg p s e) ≤ B := by
  refine maxTo_le _ B (fun i => ?_) _
  by_cases hi : i < e - s
  · rw [seg_get p s e i hi]; exact h _
  · unfold seg
    rw [List.getD_eq_getElem?_getD, List.getElem?_eq_none (by rw [List.length_take]; omega)]
    exact Nat.zero_le _

set_option maxRecDepth 100000 in
set_option maxHeartbeats 2000000 in
theorem longest_any (b off n cap : Nat) (p : List Nat) (w : World) (hS : Sl .i64 w (some ⟨b, off, none⟩) n p) (h0 : 2 ≤ n) (hcap : n ≤ cap) (hn : n ≤ 60) (_hc9 : cap ≤ 9223372036854775807) (hB : ∀ i, p.getD i 0 ≤ 1000) :
    Calls Try.prog 113 #[.slice (some ⟨b, off, none⟩) n cap] w (RetParts b off cap (longL p) w) := by
  have hl := hS.len
  subst hl
  obtain ⟨i0, hi, hz0, hz1, hz2⟩ := info_parts info_ints
  go_enter Try.func113, Try.ntmps113
  go_wp2
  go_loopw [3, 4] (fun o s wr => ∃ (st : Nat) (rows : List (Nat × Nat)) (f : Nat), st ≤ p.length ∧ s = .int .i64 st ∧ p.length - st ≤ f ∧ rows ++ longFrom p f st = longL p ∧ rows.length ≤ st ∧
      wr.ownsRow w.heap.size 22 1 o rows.length (rows.map (partV b off cap)) ∧ Below w.heap.size w wr) (fun _ s _ => p.length - (intOf s).toNat)
  case atStart => exact ⟨0, [], p.length, Nat.zero_le _, rfl, by omega, rfl, Nat.le_refl _, ⟨by simp, .inl ⟨rfl, rfl⟩⟩, Below.refl _ _⟩
  case round =>
    obtain ⟨st, rows, f, hst, rfl, hf, hrows, hrl, hown, hbel⟩ := hrel
    have Hrows := Lib.hid hrows
    clear hrows
    by_cases hlt : st < p.length
    · have hE := longE_in p st hlt h0
      obtain ⟨f', rfl⟩ : ∃ f', f = f' + 1 := ⟨f - 1, by omega⟩
      have Hstep := Lib.hid (show (rows ++ [(st, longE p st)]) ++ longFrom p f' (longE p st) = longL p by
        rw [← Hrows.out, List.append_assoc]
        show rows ++ ((st, longE p st) :: longFrom p f' (longE p st)) = rows ++ longFrom p (f' + 1) st
        conv => rhs; unfold longFrom
        rw [if_pos hlt])
      have hS' := hS.below hbel
      have hg : ∀ (e : Nat) (W : World), Sl .i64 W (some ⟨b, off, none⟩) p.length p → st < e → e ≤ p.length → Calls Try.prog 117 #[.slice (some ⟨b, off + st, none⟩) (e - st) (cap - st)] W fun en w' => en = .returned (.bool (gapB p st e)) ∧ W = w' :=
        fun e W hW h1 h2 => gap_any _ (e - st) (cap - st) (seg p st e) W (hW.seg st e (by omega) h2) (by omega) (by have := seg_le p 1000 st e hB; omega)
      have Hg := Lib.hid hg
      clear hg
      have HEs := Lib.hid (show longE p st = longEnd p st (if st = 0 then p.length - 1 else p.length) from rfl)
      by_cases hs0 : st = 0
      · have hb0 : ((st : Int) == 0) = true := by rw [beq_iff_eq]; omega
        have HE0 := Lib.hid (show longEnd p st (p.length - 1) = longE p st by rw [HEs.out, if_pos hs0])
        have hst1 : st < p.length - 1 := by omega
        clear hs0 HEs
        go_wp2
        obtain ⟨wo, rfl⟩ : ∃ wo : World, wo = wr := ⟨_, rfl⟩
        go_loop [5] (fun i => ∃ e : Nat, st < e ∧ e ≤ p.length ∧ i = .int .i64 e ∧ longEnd p st e = longE p st) (fun i => (intOf i).toNat)
        case atStart => exact ⟨p.length - 1, hst1, by omega, congrArg (Value.int .i64) (by omega), HE0.out⟩
        case round =>
          obtain ⟨e, he1, he2, rfl, hle⟩ := hrel
          have Hle := Lib.hid hle
          clear hle
          by_cases hgap : gapB p st e = true
          · have Hge := Lib.hid (fun (W : World) (hW : Sl .i64 W (some ⟨b, off, none⟩) p.length p) => Hg.out e W hW he1 he2)
            rw [hgap] at Hge
            obtain ⟨e', rfl⟩ : ∃ e', e = e' + 1 := ⟨e - 1, by omega⟩
            have hse : st < e' := by
              by_cases q : st = e'
              · subst q; rw [gapB_one p st hlt] at hgap; exact absurd hgap (by simp)
              · omega
            have Hnext := Lib.hid (show longEnd p st e' = longE p st by
              rw [← Hle.out]
              conv => rhs; unfold longEnd
              rw [if_pos hgap])
            clear hgap
            go_wp2_with (go_at_call 117; refine (Hge.out _ hS').mono ?_; rintro en w' ⟨rfl, rfl⟩)
            go_round
            case rel => exact ⟨e', hse, by omega, by go_num, Hnext.out⟩
            case measure => simp [intOf]
          · have hgf : gapB p st e = false := by simpa using hgap
            have Hge := Lib.hid (fun (W : World) (hW : Sl .i64 W (some ⟨b, off, none⟩) p.length p) => Hg.out e W hW he1 he2)
            rw [hgf] at Hge
            have Hfin := Lib.hid (show longE p st = e by
              rw [← Hle.out]
              obtain ⟨e', rfl⟩ : ∃ e', e = e' + 1 := ⟨e - 1, by omega⟩
              unfold longEnd
              rw [if_neg hgap])
            clear hgap hgf
            have hs2 := hbel.size
            go_wp2_with (first | (go_at_call 117; refine (Hge.out _ hS').mono ?_; rintro en w' ⟨rfl, rfl⟩) | (at_builtin; refine wpList_append_own _ rfl _ _ 118 rfl w.heap.size 22 i0 (.slice none 0 0) 1 24 Try.underlying118 hi hz0 hz1 hz2 rfl (by decide) _ _ _ rfl (hown.alloc _) ⟨wo.heap.size, 0, none⟩ 1 1 [.slice (some ⟨b, off + st, none⟩) (e - st) (cap - st)] rfl rfl ?c1 ?c2 ?c3 ?c4 ?c5 ?_))
            case c1 => exact cell_one_new _ _ _
            case c2 => simp [Value.oneCell']
            case c3 => unfold maxLen; omega
            case c4 => omega
            case c5 => simp; omega
            intro v' w1 hown' hgrow _
            have hb' := hbel.trans (own_below hown hs2 hgrow)
            go_wp2
            go_roundw
            case rel =>
              have h1 := Hstep.out
              rw [Hfin.out] at h1
              exact ⟨e, _, f', he2, rfl, by omega, h1, by rw [List.length_append]; simp; omega, by simpa [partV] using hown', hb'⟩
            case measure => simp [intOf]; omega
      · have hb0 : ((st : Int) == 0) = false := by rw [beq_eq_false_iff_ne]; omega
        have HE0 := Lib.hid (show longEnd p st p.length = longE p st by rw [HEs.out, if_neg hs0])
        clear hs0 HEs
        go_wp2
        obtain ⟨wo, rfl⟩ : ∃ wo : World, wo = wr := ⟨_, rfl⟩
        go_loop [5] (fun i => ∃ e : Nat, st < e ∧ e ≤ p.length ∧ i = .int .i64 e ∧ longEnd p st e = longE p st) (fun i => (intOf i).toNat)
        case atStart => exact ⟨p.length, hlt, Nat.le_refl _, rfl, HE0.out⟩
        case round =>
          obtain ⟨e, he1, he2, rfl, hle⟩ := hrel
          have Hle := Lib.hid hle
          clear hle
          by_cases hgap : gapB p st e = true
          · have Hge := Lib.hid (fun (W : World) (hW : Sl .i64 W (some ⟨b, off, none⟩) p.length p) => Hg.out e W hW he1 he2)
            rw [hgap] at Hge
            obtain ⟨e', rfl⟩ : ∃ e', e = e' + 1 := ⟨e - 1, by omega⟩
            have hse : st < e' := by
              by_cases q : st = e'
              · subst q; rw [gapB_one p st hlt] at hgap; exact absurd hgap (by simp)
              · omega
            have Hnext := Lib.hid (show longEnd p st e' = longE p st by
              rw [← Hle.out]
              conv => rhs; unfold longEnd
              rw [if_pos hgap])
            clear hgap
            go_wp2_with (go_at_call 117; refine (Hge.out _ hS').mono ?_; rintro en w' ⟨rfl, rfl⟩)
            go_round
            case rel => exact ⟨e', hse, by omega, by go_num, Hnext.out⟩
            case measure => simp [intOf]
          · have hgf : gapB p st e = false := by simpa using hgap
            have Hge := Lib.hid (fun (W : World) (hW : Sl .i64 W (some ⟨b, off, none⟩) p.length p) => Hg.out e W hW he1 he2)
            rw [hgf] at Hge
            have Hfin := Lib.hid (show longE p st = e by
              rw [← Hle.out]
              obtain ⟨e', rfl⟩ : ∃ e', e = e' + 1 := ⟨e - 1, by omega⟩
              unfold longEnd
              rw [if_neg hgap])
            clear hgap hgf
            have hs2 := hbel.size
            go_wp2_with (first | (go_at_call 117; refine (Hge.out _ hS').mono ?_; rintro en w' ⟨rfl, rfl⟩) | (at_builtin; refine wpList_append_own _ rfl _ _ 118 rfl w.heap.size 22 i0 (.slice none 0 0) 1 24 Try.underlying118 hi hz0 hz1 hz2 rfl (by decide) _ _ _ rfl (hown.alloc _) ⟨wo.heap.size, 0, none⟩ 1 1 [.slice (some ⟨b, off + st, none⟩) (e - st) (cap - st)] rfl rfl ?c1 ?c2 ?c3 ?c4 ?c5 ?_))
            case c1 => exact cell_one_new _ _ _
            case c2 => simp [Value.oneCell']
            case c3 => unfold maxLen; omega
            case c4 => omega
            case c5 => simp; omega
            intro v' w1 hown' hgrow _
            have hb' := hbel.trans (own_below hown hs2 hgrow)
            go_wp2
            go_roundw
            case rel =>
              have h1 := Hstep.out
              rw [Hfin.out] at h1
              exact ⟨e, _, f', he2, rfl, by omega, h1, by rw [List.length_append]; simp; omega, by simpa [partV] using hown', hb'⟩
            case measure => simp [intOf]; omega
    · obtain rfl : st = p.length := by omega
      have Hfin := Lib.hid (show rows = longL p by
        have h := Hrows.out
        have e : longFrom p f p.length = [] := by
          cases f with
          | zero => rfl
          | succ f => unfold longFrom; rw [if_neg (by omega)]
        rwa [e, List.append_nil] at h)
      have hown2 := own_pos hown (by
        rw [Hfin.out]
        have : 0 < (longL p).length := by
          unfold longL
          obtain ⟨m, hm⟩ : ∃ m, p.length = m + 1 := ⟨p.length - 1, by omega⟩
          rw [hm]; unfold longFrom
          rw [if_pos (by omega)]
          simp
        exact this)
      obtain ⟨g, c, rfl⟩ := hown2
      go_wp2
      go_ret
      refine ⟨g, c, by rw [← Hfin.out]; rfl, ?_, hbel⟩
      rw [← Hfin.out]
      exact hown

end Go.Proofs.Ytgdaidmkcgblbaa

namespace Go.Proofs.Ytgdaidmkcgblbaa
open Go.RowKit

/-- A row of n numbers in a block of its own. -/
def RetNums' (n : Nat) (l : List Nat) (w : World) (e : Ending) (w' : World) : Prop :=
  ∃ g, e = .returned (.slice (some ⟨g, 0, none⟩) n n) ∧ w.heap.size ≤ g ∧ Blk w' g 3 (cellsOf .i64 l) ∧ l.length = n ∧ Below w.heap.size w w'

/-- How many of some parts begin with less than a part does. -/
def patAt (p : List Nat) (rows : List (Nat × Nat)) (x : Nat × Nat) : Nat := rows.countP fun y => decide (p.getD y.1 0 < p.getD x.1 0)
def patL (p : List Nat) (rows : List (Nat × Nat)) : List Nat := rows.map (patAt p rows)

theorem patAt_snoc (p : List Nat) (rows : List (Nat × Nat)) (x y : Nat × Nat) : patAt p (rows ++ [y]) x = patAt p rows x + if p.getD y.1 0 < p.getD x.1 0 then 1 else 0 := by
  unfold patAt
  rw [List.countP_append]
  congr 1
  by_cases h : p.getD y.1 0 < p.getD x.1 0
  · rw [if_pos h]; simp only [List.countP_cons, List.countP_nil, h]; simp
  · rw [if_neg h]; simp only [List.countP_cons, List.countP_nil, h]; simp
theorem patAt_le (p : List Nat) (rows : List (Nat × Nat)) (x : Nat × Nat) : patAt p rows x ≤ rows.length := List.countP_le_length
theorem take_snoc' {α : Type} (l : List α) (k : Nat) (h : k < l.length) : l.take (k + 1) = l.take k ++ [l[k]] := by
  rw [List.take_succ_eq_append_getElem h]

/-- What pattern's loops keep of the numbers: those before i are as they will be, those behind it 0. -/
def PatAt (p : List Nat) (rows : List (Nat × Nat)) (i : Nat) (z : Nat) (xs : List Nat) : Prop :=
  xs.length = rows.length ∧ (∀ j (h : j < rows.length), j < i → xs.getD j 0 = patAt p rows rows[j]) ∧ (i < rows.length → xs.getD i 0 = z) ∧ (∀ j, i < j → j < rows.length → xs.getD j 0 = 0)

theorem PatAt.put {p : List Nat} {rows : List (Nat × Nat)} {i z z' : Nat} {xs : List Nat} (h : PatAt p rows i z xs) (hi : i < rows.length) : PatAt p rows i z' (xs.set i z') := by
  obtain ⟨h1, h2, h3, h4⟩ := h
  refine ⟨by rw [List.length_set]; exact h1, fun j hj hji => ?_, fun _ => ?_, fun j hj hjl => ?_⟩
  · rw [getD_set _ _ _ _ (by omega), if_neg (by omega)]; exact h2 j hj hji
  · rw [getD_set _ _ _ _ (by omega), if_pos rfl]
  · rw [getD_set _ _ _ _ (by omega), if_neg (by omega)]; exact h4 j hj hjl
theorem PatAt.next {p : List Nat} {rows : List (Nat × Nat)} {i : Nat} {xs : List Nat} (hi : i < rows.length) (h : PatAt p rows i (patAt p rows rows[i]) xs) : PatAt p rows (i + 1) 0 xs := by
  obtain ⟨h1, h2, h3, h4⟩ := h
  refine ⟨h1, fun j hj hji => ?_, fun h => h4 (i + 1) (by omega) h, fun j hj hjl => h4 j (by omega) hjl⟩
  by_cases e : j = i
  · subst e; exact h3 hi
  · exact h2 j hj (by omega)

set_option maxRecDepth 100000 in
set_option maxHeartbeats 2000000 in
theorem pattern_any (B0 b off n cap c : Nat) (g : Nat) (p : List Nat) (rows : List (Nat × Nat)) (w : World) (hS : Sl .i64 w (some ⟨b, off, none⟩) n p) (hn : n ≤ 60)
    (hrows : ∀ x ∈ rows, x.1 < x.2 ∧ x.2 ≤ n) (hm : rows.length ≤ 60) (hown : w.ownsRow B0 22 1 (.slice (some ⟨g, 0, none⟩) rows.length c) rows.length (rows.map (partV b off cap))) :
    Calls Try.prog 101 #[.slice (some ⟨g, 0, none⟩) rows.length c] w (RetNums' rows.length (patL p rows) w) := by
  have hl := hS.len
  subst hl
  have hmk : ∀ W : World, (Instr.makeSlice 22 (.int .i64 (rows.length : Nat)) (.int .i64 (rows.length : Nat))).run Try.prog W = .ok (.slice (some ⟨W.heap.size, 0, none⟩) rows.length rows.length) (W.alloc (.cells (cellsOf .i64 (List.replicate rows.length 0)) 3)) :=
    fun W => run_makeInts Try.underlying22 info_int' (by omega) .i64 .i64 rows.length (by omega) W
  have hg := own_lt hown
  have hrow : ∀ (W : World), Below w.heap.size w W → ∀ i (hi : i < rows.length), W.cell? ⟨g, i, none⟩ = some (.slice (some ⟨b, off + rows[i].1, none⟩) (rows[i].2 - rows[i].1) (cap - rows[i].1)) := by
    intro W hW i hi
    rw [(hW.cell (p := ⟨g, i, none⟩) hg.1), own_cell hown i hi]
    simp [hi, partV]
  have hfst : ∀ (W : World), Below w.heap.size w W → ∀ i (hi : i < rows.length), W.cell? ⟨b, off + rows[i].1, none⟩ = some (.int .i64 (p.getD rows[i].1 0 : Nat)) ∧ 0 < rows[i].2 - rows[i].1 := by
    intro W hW i hi
    have hx := hrows rows[i] (List.getElem_mem hi)
    obtain ⟨b', off', e, hs, hc⟩ := hS.at (by omega)
    injection e with e
    injection e with e1 e2
    subst e1 e2
    exact ⟨(hW.cell (p := ⟨b, off + rows[i].1, none⟩) hs).trans (hc _ (by omega)), by omega⟩
  have Hrow := Lib.hid hrow
  have Hfst := Lib.hid hfst
  clear hrow hfst hown hS hrows
  go_enter Try.func101, Try.ntmps101
  go_wp2
  go_loopw [13] (fun i wr => ∃ (k : Nat) (xs : List Nat), k ≤ rows.length ∧ i = .int .i64 k ∧ Blk wr w.heap.size 3 (cellsOf .i64 xs) ∧ PatAt p rows k 0 xs ∧ Below w.heap.size w wr) (fun i _ => rows.length - (intOf i).toNat)
  case atStart =>
    refine ⟨0, List.replicate rows.length 0, Nat.zero_le _, rfl, Blk.new _ _ _, ⟨by simp, fun j _ h => absurd h (by omega), fun h => ?_, fun j _ h => ?_⟩, (Below.refl _ _).alloc (Nat.le_refl _) _⟩
    · simp [List.getD_eq_getElem?_getD, h]
    · simp [List.getD_eq_getElem?_getD, h]
  case round =>
    obtain ⟨k, xs, hk, rfl, hblk, hpat, hbel⟩ := hrel
    clear hmk
    by_cases hlt : k < rows.length
    · have ck := Hrow.out wr hbel k hlt
      have Hpat := Lib.hid hpat
      clear hpat
      generalize hrk : rows[k] = xk at *
      have Hrk := Lib.hid hrk
      clear hrk
      obtain ⟨s, e⟩ := xk
      dsimp only at *
      go_wp2
      obtain ⟨wo, rfl⟩ : ∃ wo : World, wo = wr := ⟨_, rfl⟩
      go_loopw [20] (fun i wr => ∃ (j : Nat) (ys : List Nat), j ≤ rows.length ∧ i = .int .i64 j ∧ Blk wr w.heap.size 3 (cellsOf .i64 ys) ∧ PatAt p rows k (patAt p (rows.take j) (s, e)) ys ∧ Below w.heap.size w wr) (fun i _ => rows.length - (intOf i).toNat)
      case atStart => exact ⟨0, xs, Nat.zero_le _, rfl, hblk, Hpat.out, hbel⟩
      case round =>
        obtain ⟨j, ys, hj, rfl, hb2, hp2, hbel2⟩ := hrel
        by_cases hjl : j < rows.length
        · have cj := Hrow.out wr hbel2 j hjl
          have fj := Hfst.out wr hbel2 j hjl
          have fk := Hfst.out wr hbel2 k hlt
          rw [Hrk.out] at fk
          have Hsn := Lib.hid (show patAt p (rows.take (j + 1)) (s, e) = patAt p (rows.take j) (s, e) + if p.getD rows[j].1 0 < p.getD s 0 then 1 else 0 by
            rw [take_snoc' rows j hjl]; exact patAt_snoc p _ (s, e) rows[j])
          have hle := patAt_le p (rows.take j) (s, e)
          rw [List.length_take] at hle
          have hyk := hp2.2.2.1 hlt
          have hck := hb2.num k (by rw [hp2.1]; exact hlt)
          rw [hyk] at hck
          have hfk := hb2.free k
          have Hp2 := Lib.hid hp2
          clear hyk hp2
          generalize hrj : rows[j] = xj at *
          obtain ⟨s', e'⟩ := xj
          clear hrj
          dsimp only at *
          obtain ⟨fj1, fj2⟩ := fj
          obtain ⟨fk1, fk2⟩ := fk
          generalize p.getD s' 0 = u at *
          generalize p.getD s 0 = v at *
          by_cases huv : u < v
          · have Hc := Lib.hid (show patAt p (rows.take (j + 1)) (s, e) = patAt p (rows.take j) (s, e) + 1 by rw [Hsn.out, if_pos huv])
            have hput := hb2.put k (patAt p (rows.take j) (s, e) + 1) (z := ((patAt p (rows.take j) (s, e) : Nat) : Int) + 1) (by omega)
            have Hput := Lib.hid hput
            clear hput
            generalize patAt p (rows.take j) (s, e) = q at *
            generalize e' - s' = n1 at *
            generalize e - s = n2 at *
            go_wp2
            go_quiet (fail)
            go_wp2
            go_roundw
            case rel => exact ⟨j + 1, _, by omega, by go_num, Hput.out, by rw [Hc.out]; exact Hp2.out.put hlt, (below_drewN hbel2 nq).setCell (Nat.le_refl _) _⟩
            case measure => simp [intOf]; omega
          · have Hc := Lib.hid (show patAt p (rows.take (j + 1)) (s, e) = patAt p (rows.take j) (s, e) by rw [Hsn.out, if_neg huv, Nat.add_zero])
            have huv' : v ≤ u := by omega
            generalize patAt p (rows.take j) (s, e) = q at *
            generalize e' - s' = n1 at *
            generalize e - s = n2 at *
            go_wp2
            go_quiet (fail)
            go_wp2
            go_roundw
            case rel => exact ⟨j + 1, ys, by omega, by go_num, hb2, by rw [Hc.out]; exact Hp2.out, below_drewN hbel2 nq⟩
            case measure => simp [intOf]; omega
        · obtain rfl : j = rows.length := by omega
          have Hnext := Lib.hid (show PatAt p rows (k + 1) 0 ys by
            rw [List.take_length] at hp2
            rw [← Hrk.out] at hp2
            exact hp2.next hlt)
          go_wp2
          go_roundw
          case rel => exact ⟨k + 1, ys, by omega, by go_num, hb2, Hnext.out, hbel2⟩
          case measure => simp [intOf]; omega
    · obtain rfl : k = rows.length := by omega
      have Hx := Lib.hid (show xs = patL p rows by
        apply List.ext_getElem
        · rw [hpat.1]; simp [patL]
        · intro j h1 h2
          have hj : j < rows.length := by rw [← hpat.1]; exact h1
          have e := hpat.2.1 j hj hj
          rw [List.getD_eq_getElem?_getD, List.getElem?_eq_getElem h1] at e
          simpa [patL] using e)
      have hxl := hpat.1
      clear hpat
      go_wp2
      go_ret
      exact ⟨_, rfl, Nat.le_refl _, by rw [← Hx.out]; exact hblk, by rw [← Hx.out]; exact hxl, hbel⟩

end Go.Proofs.Ytgdaidmkcgblbaa

namespace Go.Proofs.Ytgdaidmkcgblbaa
open Go.RowKit

def lessL (p : List Nat) : List (Nat × Nat) := cutL (fun l r => decide (maxL l < minL r)) p
def greatL (p : List Nat) : List (Nat × Nat) := cutL (fun l r => decide (maxL r < minL l)) p
/-- The kind of a node, and its parts. -/
def divL (p : List Nat) : Nat × List (Nat × Nat) := if 1 < (lessL p).length then (1, lessL p) else if 1 < (greatL p).length then (2, greatL p) else (3, longL p)

theorem own_base {w : World} {B B' size n : Nat} {e : TypeId} {v : Value} {xs : List Value} (h : w.ownsRow B e size v n xs) (hB : B' ≤ B) : w.ownsRow B' e size v n xs := by
  obtain ⟨hl, h1 | ⟨g, cap, cur, e1, hb, rest⟩⟩ := h
  · exact ⟨hl, .inl h1⟩
  · exact ⟨hl, .inr ⟨g, cap, cur, e1, Nat.le_trans hB hb, rest⟩⟩

/-- A kind and parts, in new memory. -/
def RetDiv (b off cap kind : Nat) (rows : List (Nat × Nat)) (w : World) (e : Ending) (w' : World) : Prop :=
  ∃ g c, e = .returned (.tuple #[.int .i64 kind, .slice (some ⟨g, 0, none⟩) rows.length c]) ∧ w'.ownsRow w.heap.size 22 1 (.slice (some ⟨g, 0, none⟩) rows.length c) rows.length (rows.map (partV b off cap)) ∧ Below w.heap.size w w'

set_option maxRecDepth 100000 in
theorem divide_any (b off n cap : Nat) (p : List Nat) (w : World) (hS : Sl .i64 w (some ⟨b, off, none⟩) n p) (h0 : 2 ≤ n) (hcap : n ≤ cap) (hn : n ≤ 60) (hc9 : cap ≤ 9223372036854775807) (hB : ∀ i, p.getD i 0 ≤ 1000) :
    Calls Try.prog 100 #[.slice (some ⟨b, off, none⟩) n cap] w (RetDiv b off cap (divL p).1 (divL p).2 w) := by
  have H1 := Lib.hid (fun W hW => cut_less b off n cap p W hW (by omega) hcap hn hc9)
  have H2 := Lib.hid (fun W hW => cut_greater b off n cap p W hW (by omega) hcap hn hc9)
  have H3 := Lib.hid (fun W hW => longest_any b off n cap p W hW h0 hcap hn hc9 hB)
  by_cases h1 : 1 < (lessL p).length
  · have Hd := Lib.hid (show divL p = (1, lessL p) by unfold divL; rw [if_pos h1])
    rw [Hd.out]
    dsimp only
    unfold lessL at *
    generalize cutL (fun l r => decide (maxL l < minL r)) p = rows at *
    have d1 : decide ((1 : Int) < (rows.length : Int)) = true := decide_eq_true (by omega)
    go_enter Try.func100, Try.ntmps100
    go_wp2_with (go_at_call 110; refine (H1.out _ hS).mono ?_; rintro e w1 ⟨g, c, rfl, hown, hb⟩)
    go_ret2
    exact ⟨g, c, rfl, hown, hb⟩
  · by_cases h2 : 1 < (greatL p).length
    · have Hd := Lib.hid (show divL p = (2, greatL p) by unfold divL; rw [if_neg h1, if_pos h2])
      rw [Hd.out]
      dsimp only
      unfold lessL at h1
      unfold greatL at *
      generalize cutL (fun l r => decide (maxL l < minL r)) p = rows1 at *
      generalize cutL (fun l r => decide (maxL r < minL l)) p = rows at *
      have d1 : decide ((1 : Int) < (rows1.length : Int)) = false := decide_eq_false (by omega)
      have d2 : decide ((1 : Int) < (rows.length : Int)) = true := decide_eq_true (by omega)
      clear Hd
      go_enter Try.func100, Try.ntmps100
      go_wp2_with (go_at_call 110; first | (refine (H1.out _ hS).mono ?_; clear H1; rintro e w1 ⟨g1, c1, rfl, -, hb1⟩; have hS1 := hS.below hb1) | (refine (H2.out _ hS1).mono ?_; rintro e w2 ⟨g, c, rfl, hown, hb⟩))
      go_ret2
      exact ⟨g, c, rfl, own_base hown hb1.size, hb1.trans (hb.mono hb1.size)⟩
    · have Hd := Lib.hid (show divL p = (3, longL p) by unfold divL; rw [if_neg h1, if_neg h2])
      rw [Hd.out]
      dsimp only
      unfold lessL at h1
      unfold greatL at h2
      generalize cutL (fun l r => decide (maxL l < minL r)) p = rows1 at *
      generalize cutL (fun l r => decide (maxL r < minL l)) p = rows2 at *
      generalize longL p = rows at *
      have d1 : decide ((1 : Int) < (rows1.length : Int)) = false := decide_eq_false (by omega)
      have d2 : decide ((1 : Int) < (rows2.length : Int)) = false := decide_eq_false (by omega)
      clear Hd
      go_enter Try.func100, Try.ntmps100
      go_wp2_with (first | (go_at_call 110; first | (refine (H1.out _ hS).mono ?_; clear H1; rintro e w1 ⟨g1, c1, rfl, -, hb1⟩; have hS1 := hS.below hb1) | (refine (H2.out _ hS1).mono ?_; rintro e w2 ⟨g2, c2, rfl, -, hb2⟩; have hS2 := hS1.below hb2)) | (go_at_call 113; refine (H3.out _ hS2).mono ?_; rintro e w3 ⟨g, c, rfl, hown, hb⟩))
      go_ret2
      exact ⟨g, c, rfl, own_base hown (Nat.le_trans hb1.size hb2.size), (hb1.trans (hb2.mono hb1.size)).trans (hb.mono (Nat.le_trans hb1.size hb2.size))⟩

end Go.Proofs.Ytgdaidmkcgblbaa
