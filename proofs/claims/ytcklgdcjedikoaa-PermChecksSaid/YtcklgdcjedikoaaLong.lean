/-
  The walk of longest.
-/
import Derived.Test.YtcklgdcjedikoaaCut
namespace Go.Proofs.Ytcklgdcjedikoaa
open Go.RowKit

def gapB (p : List Nat) (s e : Nat) : Bool := decide (e - s ≤ maxL (seg p s e) - minL (seg p s e))
def longEnd (p : List Nat) (s : Nat) : Nat → Nat
  | 0 => 0
  | e + 1 => if gapB p s (e + 1) then longEnd p s e else e + 1
/-- Where the part that begins at s ends. -/
def longE (p : List Nat) (s : Nat) : Nat := longEnd p s (if s = 0 then p.length - 1 else p.length)
def longFrom (p : List Nat) : Nat → Nat → List (Nat × Nat)
  | 0, _ => []
  | f + 1, s => if s < p.length then (s, longE p s) :: longFrom p f (longE p s) else []
def longL (p : List Nat) : List (Nat × Nat) := longFrom p p.length 0

theorem gapB_one (p : List Nat) (s : Nat) (h : s < p.length) : gapB p s (s + 1) = false := by
  unfold gapB
  have hl := seg_length p s (s + 1) (by omega) h
  have h1 : maxL (seg p s (s + 1)) = (seg p s (s + 1)).getD 0 0 := by
    unfold maxL; rw [hl, show s + 1 - s = 0 + 1 by omega]; show max ((seg p s (s + 1)).getD 0 0) ((seg p s (s + 1)).getD 0 0) = _; omega
  have h2 : minL (seg p s (s + 1)) = (seg p s (s + 1)).getD 0 0 := by
    unfold minL; rw [hl, show s + 1 - s = 0 + 1 by omega]; show min ((seg p s (s + 1)).getD 0 0) ((seg p s (s + 1)).getD 0 0) = _; omega
  rw [h1, h2]
  exact decide_eq_false (by omega)
theorem longEnd_in (p : List Nat) (s : Nat) : ∀ e, s < e → e ≤ p.length → s < longEnd p s e ∧ longEnd p s e ≤ e
  | 0, h, _ => absurd h (by omega)
  | e + 1, h, hl => by
    unfold longEnd
    by_cases hg : gapB p s (e + 1) = true
    · rw [if_pos hg]
      have hse : s < e := by
        by_cases e' : s = e
        · subst e'; rw [gapB_one p s (by omega)] at hg; exact absurd hg (by simp)
        · omega
      have := longEnd_in p s e hse (by omega)
      omega
    · rw [if_neg hg]; omega
theorem longE_in (p : List Nat) (s : Nat) (h : s < p.length) (h2 : 2 ≤ p.length) : s < longE p s ∧ longE p s ≤ p.length := by
  unfold longE
  by_cases e : s = 0
  · subst e
    rw [if_pos rfl]
    have := longEnd_in p 0 (p.length - 1) (by omega) (by omega)
    omega
  · rw [if_neg e]
    exact longEnd_in p s p.length h (Nat.le_refl _)
theorem maxTo_le (l : List Nat) (B : Nat) (h : ∀ i, l.getD i 0 ≤ B) : ∀ k, maxTo l k ≤ B
  | 0 => h 0
  | k + 1 => by have := maxTo_le l B h k; have := h k; simp only [maxTo]; omega
theorem seg_le (p : List Nat) (B s e : Nat) (h : ∀ i, p.getD i 0 ≤ B) : maxL (seg p s e) ≤ B := by
  refine maxTo_le _ B (fun i => ?_) _
  by_cases hi : i < e - s
  · rw [seg_get p s e i hi]; exact h _
  · unfold seg
    rw [List.getD_eq_getElem?_getD, List.getElem?_eq_none (by rw [List.length_take]; omega)]
    exact Nat.zero_le _

set_option maxRecDepth 100000 in
set_option maxHeartbeats 2000000 in
theorem longest_any (b off n cap : Nat) (p : List Nat) (w : World) (hS : Sl .i64 w (some ⟨b, off, none⟩) n p) (h0 : 2 ≤ n) (hcap : n ≤ cap) (hn : n ≤ 60) (_hc9 : cap ≤ 9223372036854775807) (hB : ∀ i, p.getD i 0 ≤ 1000) :
    Calls Try.prog 113 #[.slice (some ⟨b, off, none⟩) n cap] w (RetParts b off cap (longL p) w) := by
  have hl := hS.len
  subst hl
  obtain ⟨i0, hi, hz0, hz1, hz2⟩ := info_parts info_ints
  go_enter Try.func113, Try.ntmps113
  go_wp2
  go_loopw [3, 4] (fun o s wr => ∃ (st : Nat) (rows : List (Nat × Nat)) (f : Nat), st ≤ p.length ∧ s = .int .i64 st ∧ p.length - st ≤ f ∧ rows ++ longFrom p f st = longL p ∧ rows.length ≤ st ∧
      wr.ownsRow w.heap.size 22 1 o rows.length (rows.map (partV b off cap)) ∧ Below w.heap.size w wr) (fun _ s _ => p.length - (intOf s).toNat)
  case atStart => exact ⟨0, [], p.length, Nat.zero_le _, rfl, by omega, rfl, Nat.le_refl _, ⟨by simp, .inl ⟨rfl, rfl⟩⟩, Below.refl _ _⟩
  case round =>
    obtain ⟨st, rows, f, hst, rfl, hf, hrows, hrl, hown, hbel⟩ := hrel
    have Hrows := Lib.hid hrows
    clear hrows
    by_cases hlt : st < p.length
    · have hE := longE_in p st hlt h0
      obtain ⟨f', rfl⟩ : ∃ f', f = f' + 1 := ⟨f - 1, by omega⟩
      have Hstep := Lib.hid (show (rows ++ [(st, longE p st)]) ++ longFrom p f' (longE p st) = longL p by
        rw [← Hrows.out, List.append_assoc]
        show rows ++ ((st, longE p st) :: longFrom p f' (longE p st)) = rows ++ longFrom p (f' + 1) st
        conv => rhs; unfold longFrom
        rw [if_pos hlt])
      have hS' := hS.below hbel
      have hg : ∀ (e : Nat) (W : World), Sl .i64 W (some ⟨b, off, none⟩) p.length p → st < e → e ≤ p.length → Calls Try.prog 117 #[.slice (some ⟨b, off + st, none⟩) (e - st) (cap - st)] W fun en w' => en = .returned (.bool (gapB p st e)) ∧ W = w' :=
        fun e W hW h1 h2 => gap_any _ (e - st) (cap - st) (seg p st e) W (hW.seg st e (by omega) h2) (by omega) (by have := seg_le p 1000 st e hB; omega)
      have Hg := Lib.hid hg
      clear hg
      have HEs := Lib.hid (show longE p st = longEnd p st (if st = 0 then p.length - 1 else p.length) from rfl)
      by_cases hs0 : st = 0
      · have hb0 : ((st : Int) == 0) = true := by rw [beq_iff_eq]; omega
        have HE0 := Lib.hid (show longEnd p st (p.length - 1) = longE p st by rw [HEs.out, if_pos hs0])
        have hst1 : st < p.length - 1 := by omega
        clear hs0 HEs
        go_wp2
        obtain ⟨wo, rfl⟩ : ∃ wo : World, wo = wr := ⟨_, rfl⟩
        go_loop [5] (fun i => ∃ e : Nat, st < e ∧ e ≤ p.length ∧ i = .int .i64 e ∧ longEnd p st e = longE p st) (fun i => (intOf i).toNat)
        case atStart => exact ⟨p.length - 1, hst1, by omega, congrArg (Value.int .i64) (by omega), HE0.out⟩
        case round =>
          obtain ⟨e, he1, he2, rfl, hle⟩ := hrel
          have Hle := Lib.hid hle
          clear hle
          by_cases hgap : gapB p st e = true
          · have Hge := Lib.hid (fun (W : World) (hW : Sl .i64 W (some ⟨b, off, none⟩) p.length p) => Hg.out e W hW he1 he2)
            rw [hgap] at Hge
            obtain ⟨e', rfl⟩ : ∃ e', e = e' + 1 := ⟨e - 1, by omega⟩
            have hse : st < e' := by
              by_cases q : st = e'
              · subst q; rw [gapB_one p st hlt] at hgap; exact absurd hgap (by simp)
              · omega
            have Hnext := Lib.hid (show longEnd p st e' = longE p st by
              rw [← Hle.out]
              conv => rhs; unfold longEnd
              rw [if_pos hgap])
            clear hgap
            go_wp2_with (go_at_call 117; refine (Hge.out _ hS').mono ?_; rintro en w' ⟨rfl, rfl⟩)
            go_round
            case rel => exact ⟨e', hse, by omega, by go_num, Hnext.out⟩
            case measure => simp [intOf]
          · have hgf : gapB p st e = false := by simpa using hgap
            have Hge := Lib.hid (fun (W : World) (hW : Sl .i64 W (some ⟨b, off, none⟩) p.length p) => Hg.out e W hW he1 he2)
            rw [hgf] at Hge
            have Hfin := Lib.hid (show longE p st = e by
              rw [← Hle.out]
              obtain ⟨e', rfl⟩ : ∃ e', e = e' + 1 := ⟨e - 1, by omega⟩
              unfold longEnd
              rw [if_neg hgap])
            clear hgap hgf
            have hs2 := hbel.size
            go_wp2_with (first | (go_at_call 117; refine (Hge.out _ hS').mono ?_; rintro en w' ⟨rfl, rfl⟩) | (at_builtin; refine wpList_append_own _ rfl _ _ 118 rfl w.heap.size 22 i0 (.slice none 0 0) 1 24 Try.underlying118 hi hz0 hz1 hz2 rfl (by decide) _ _ _ rfl (hown.alloc _) ⟨wo.heap.size, 0, none⟩ 1 1 [.slice (some ⟨b, off + st, none⟩) (e - st) (cap - st)] rfl rfl ?c1 ?c2 ?c3 ?c4 ?c5 ?_))
            case c1 => exact cell_one_new _ _ _
            case c2 => simp [Value.oneCell']
            case c3 => unfold maxLen; omega
            case c4 => omega
            case c5 => simp; omega
            intro v' w1 hown' hgrow _
            have hb' := hbel.trans (own_below hown hs2 hgrow)
            go_wp2
            go_roundw
            case rel =>
              have h1 := Hstep.out
              rw [Hfin.out] at h1
              exact ⟨e, _, f', he2, rfl, by omega, h1, by rw [List.length_append]; simp; omega, by simpa [partV] using hown', hb'⟩
            case measure => simp [intOf]; omega
      · have hb0 : ((st : Int) == 0) = false := by rw [beq_eq_false_iff_ne]; omega
        have HE0 := Lib.hid (show longEnd p st p.length = longE p st by rw [HEs.out, if_neg hs0])
        clear hs0 HEs
        go_wp2
        obtain ⟨wo, rfl⟩ : ∃ wo : World, wo = wr := ⟨_, rfl⟩
        go_loop [5] (fun i => ∃ e : Nat, st < e ∧ e ≤ p.length ∧ i = .int .i64 e ∧ longEnd p st e = longE p st) (fun i => (intOf i).toNat)
        case atStart => exact ⟨p.length, hlt, Nat.le_refl _, rfl, HE0.out⟩
        case round =>
          obtain ⟨e, he1, he2, rfl, hle⟩ := hrel
          have Hle := Lib.hid hle
          clear hle
          by_cases hgap : gapB p st e = true
          · have Hge := Lib.hid (fun (W : World) (hW : Sl .i64 W (some ⟨b, off, none⟩) p.length p) => Hg.out e W hW he1 he2)
            rw [hgap] at Hge
            obtain ⟨e', rfl⟩ : ∃ e', e = e' + 1 := ⟨e - 1, by omega⟩
            have hse : st < e' := by
              by_cases q : st = e'
              · subst q; rw [gapB_one p st hlt] at hgap; exact absurd hgap (by simp)
              · omega
            have Hnext := Lib.hid (show longEnd p st e' = longE p st by
              rw [← Hle.out]
              conv => rhs; unfold longEnd
              rw [if_pos hgap])
            clear hgap
            go_wp2_with (go_at_call 117; refine (Hge.out _ hS').mono ?_; rintro en w' ⟨rfl, rfl⟩)
            go_round
            case rel => exact ⟨e', hse, by omega, by go_num, Hnext.out⟩
            case measure => simp [intOf]
          · have hgf : gapB p st e = false := by simpa using hgap
            have Hge := Lib.hid (fun (W : World) (hW : Sl .i64 W (some ⟨b, off, none⟩) p.length p) => Hg.out e W hW he1 he2)
            rw [hgf] at Hge
            have Hfin := Lib.hid (show longE p st = e by
              rw [← Hle.out]
              obtain ⟨e', rfl⟩ : ∃ e', e = e' + 1 := ⟨e - 1, by omega⟩
              unfold longEnd
              rw [if_neg hgap])
            clear hgap hgf
            have hs2 := hbel.size
            go_wp2_with (first | (go_at_call 117; refine (Hge.out _ hS').mono ?_; rintro en w' ⟨rfl, rfl⟩) | (at_builtin; refine wpList_append_own _ rfl _ _ 118 rfl w.heap.size 22 i0 (.slice none 0 0) 1 24 Try.underlying118 hi hz0 hz1 hz2 rfl (by decide) _ _ _ rfl (hown.alloc _) ⟨wo.heap.size, 0, none⟩ 1 1 [.slice (some ⟨b, off + st, none⟩) (e - st) (cap - st)] rfl rfl ?c1 ?c2 ?c3 ?c4 ?c5 ?_))
            case c1 => exact cell_one_new _ _ _
            case c2 => simp [Value.oneCell']
            case c3 => unfold maxLen; omega
            case c4 => omega
            case c5 => simp; omega
            intro v' w1 hown' hgrow _
            have hb' := hbel.trans (own_below hown hs2 hgrow)
            go_wp2
            go_roundw
            case rel =>
              have h1 := Hstep.out
              rw [Hfin.out] at h1
              exact ⟨e, _, f', he2, rfl, by omega, h1, by rw [List.length_append]; simp; omega, by simpa [partV] using hown', hb'⟩
            case measure => simp [intOf]; omega
    · obtain rfl : st = p.length := by omega
      have Hfin := Lib.hid (show rows = longL p by
        have h := Hrows.out
        have e : longFrom p f p.length = [] := by
          cases f with
          | zero => rfl
          | succ f => unfold longFrom; rw [if_neg (by omega)]
        rwa [e, List.append_nil] at h)
      have hown2 := own_pos hown (by
        rw [Hfin.out]
        have : 0 < (longL p).length := by
          unfold longL
          obtain ⟨m, hm⟩ : ∃ m, p.length = m + 1 := ⟨p.length - 1, by omega⟩
          rw [hm]; unfold longFrom
          rw [if_pos (by omega)]
          simp
        exact this)
      obtain ⟨g, c, rfl⟩ := hown2
      go_wp2
      go_ret
      refine ⟨g, c, by rw [← Hfin.out]; rfl, ?_, hbel⟩
      rw [← Hfin.out]
      exact hown

end Go.Proofs.Ytcklgdcjedikoaa
