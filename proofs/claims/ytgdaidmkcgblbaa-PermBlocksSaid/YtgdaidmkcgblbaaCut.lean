/-
  The walks of slices.Max and slices.Min of numbers, and of less, greater and gap.
  The walk of cut.
-/
import Derived.Test.YtgdaidmkcgblbaaOwn
namespace Go.Proofs.Ytgdaidmkcgblbaa
open Go.RowKit

def maxTo (l : List Nat) : Nat → Nat
  | 0 => l.getD 0 0
  | k + 1 => max (maxTo l k) (l.getD k 0)
def minTo (l : List Nat) : Nat → Nat
  | 0 => l.getD 0 0
  | k + 1 => min (minTo l k) (l.getD k 0)
def maxL (l : List Nat) : Nat := maxTo l l.length
def minL (l : List Nat) : Nat := minTo l l.length

theorem max_any (A : Option Addr) (n cap : Nat) (l : List Nat) (w : World) (h : Sl .i64 w A n l) (h0 : 0 < n) :
    Calls Try.prog 115 #[.slice A n cap] w fun e w' => e = .returned (.int .i64 (maxL l)) ∧ w = w' := by
  have hl := h.len
  have hmax := h.max
  obtain ⟨b, off, rfl, hb, hc⟩ := h.at h0
  have HL := Lib.hid (show maxL l = maxTo l n by unfold maxL; rw [hl])
  have c0 : w.cell? ⟨b, off, none⟩ = some (.int .i64 (l.getD 0 0 : Nat)) := hc 0 h0
  have d1 : decide ((n : Int) < 1) = false := decide_eq_false (by omega)
  have H1 := Lib.hid (show maxTo l 1 = l.getD 0 0 by show max (l.getD 0 0) (l.getD 0 0) = _; omega)
  clear hl h
  generalize hx0 : l.getD 0 0 = x0 at *
  clear hx0
  go_enter Try.func115, Try.ntmps115
  go_wp2
  go_loop [3, 4] (fun m i => ∃ k : Nat, 1 ≤ k ∧ k ≤ n ∧ i = .int .i64 k ∧ m = .int .i64 (maxTo l k : Nat)) (fun _ i => n - (intOf i).toNat)
  case atStart => exact ⟨1, by omega, by omega, rfl, by rw [H1.out]⟩
  case round =>
    obtain ⟨k, hk1, hk2, rfl, rfl⟩ := hrel
    by_cases hlt : k < n
    · have ck := hc k hlt
      have Hs := Lib.hid (show maxTo l (k + 1) = max (maxTo l k) (l.getD k 0) from rfl)
      clear hc
      generalize l.getD k 0 = x at *
      generalize maxTo l k = m at *
      by_cases hmx : m ≤ x
      · have Hv := Lib.hid (show max m x = x by omega)
        by_cases hme : m = x
        · subst hme
          go_wp2
          all_goals
            go_round
            case rel => exact ⟨k + 1, by omega, by omega, by go_num, by rw [Hs.out, Hv.out]⟩
            case measure => simp [intOf]; omega
        · have hlt2 : m < x := by omega
          go_wp2
          all_goals
            go_round
            case rel => exact ⟨k + 1, by omega, by omega, by go_num, by rw [Hs.out, Hv.out]⟩
            case measure => simp [intOf]; omega
      · have Hv := Lib.hid (show max m x = m by omega)
        have hlt2 : x < m := by omega
        go_wp2
        all_goals
          go_round
          case rel => exact ⟨k + 1, by omega, by omega, by go_num, by rw [Hs.out, Hv.out]⟩
          case measure => simp [intOf]; omega
    · obtain rfl : k = n := by omega
      go_wp2
      go_ret
      exact ⟨ret_int (by rw [HL.out]), rfl⟩

theorem min_any (A : Option Addr) (n cap : Nat) (l : List Nat) (w : World) (h : Sl .i64 w A n l) (h0 : 0 < n) :
    Calls Try.prog 116 #[.slice A n cap] w fun e w' => e = .returned (.int .i64 (minL l)) ∧ w = w' := by
  have hl := h.len
  have hmax := h.max
  obtain ⟨b, off, rfl, hb, hc⟩ := h.at h0
  have HL := Lib.hid (show minL l = minTo l n by unfold minL; rw [hl])
  have c0 : w.cell? ⟨b, off, none⟩ = some (.int .i64 (l.getD 0 0 : Nat)) := hc 0 h0
  have d1 : decide ((n : Int) < 1) = false := decide_eq_false (by omega)
  have H1 := Lib.hid (show minTo l 1 = l.getD 0 0 by show min (l.getD 0 0) (l.getD 0 0) = _; omega)
  clear hl h
  generalize hx0 : l.getD 0 0 = x0 at *
  clear hx0
  go_enter Try.func116, Try.ntmps116
  go_wp2
  go_loop [3, 4] (fun m i => ∃ k : Nat, 1 ≤ k ∧ k ≤ n ∧ i = .int .i64 k ∧ m = .int .i64 (minTo l k : Nat)) (fun _ i => n - (intOf i).toNat)
  case atStart => exact ⟨1, by omega, by omega, rfl, by rw [H1.out]⟩
  case round =>
    obtain ⟨k, hk1, hk2, rfl, rfl⟩ := hrel
    by_cases hlt : k < n
    · have ck := hc k hlt
      have Hs := Lib.hid (show minTo l (k + 1) = min (minTo l k) (l.getD k 0) from rfl)
      clear hc
      generalize l.getD k 0 = x at *
      generalize minTo l k = m at *
      by_cases hmx : m ≤ x
      · have Hv := Lib.hid (show min m x = m by omega)
        by_cases hme : m = x
        · subst hme
          go_wp2
          all_goals
            go_round
            case rel => exact ⟨k + 1, by omega, by omega, by go_num, by rw [Hs.out, Hv.out]⟩
            case measure => simp [intOf]; omega
        · have hlt2 : m < x := by omega
          go_wp2
          all_goals
            go_round
            case rel => exact ⟨k + 1, by omega, by omega, by go_num, by rw [Hs.out, Hv.out]⟩
            case measure => simp [intOf]; omega
      · have Hv := Lib.hid (show min m x = x by omega)
        have hlt2 : x < m := by omega
        go_wp2
        all_goals
          go_round
          case rel => exact ⟨k + 1, by omega, by omega, by go_num, by rw [Hs.out, Hv.out]⟩
          case measure => simp [intOf]; omega
    · obtain rfl : k = n := by omega
      go_wp2
      go_ret
      exact ⟨ret_int (by rw [HL.out]), rfl⟩

theorem less_any (A B : Option Addr) (n m ca cb : Nat) (l r : List Nat) (w : World) (h : Sl .i64 w A n l) (k : Sl .i64 w B m r) (h0 : 0 < n) (k0 : 0 < m) :
    Calls Try.prog 111 #[.slice A n ca, .slice B m cb] w fun e w' => e = .returned (.bool (decide (maxL l < minL r))) ∧ w = w' := by
  have Hm := Lib.hid (max_any A n ca l w h h0)
  have Hn := Lib.hid (min_any B m cb r w k k0)
  go_enter Try.func111, Try.ntmps111
  go_wp2_with (first | (go_at_call 115; refine Hm.out.mono ?_; rintro e w' ⟨rfl, rfl⟩) | (go_at_call 116; refine Hn.out.mono ?_; rintro e w' ⟨rfl, rfl⟩))
  go_ret
  exact ⟨ret_bool (by simp), rfl⟩

theorem greater_any (A B : Option Addr) (n m ca cb : Nat) (l r : List Nat) (w : World) (h : Sl .i64 w A n l) (k : Sl .i64 w B m r) (h0 : 0 < n) (k0 : 0 < m) :
    Calls Try.prog 112 #[.slice A n ca, .slice B m cb] w fun e w' => e = .returned (.bool (decide (maxL r < minL l))) ∧ w = w' := by
  have Hm := Lib.hid (max_any B m cb r w k k0)
  have Hn := Lib.hid (min_any A n ca l w h h0)
  go_enter Try.func112, Try.ntmps112
  go_wp2_with (first | (go_at_call 115; refine Hm.out.mono ?_; rintro e w' ⟨rfl, rfl⟩) | (go_at_call 116; refine Hn.out.mono ?_; rintro e w' ⟨rfl, rfl⟩))
  go_ret
  exact ⟨ret_bool (by simp), rfl⟩

theorem minTo_le (l : List Nat) : ∀ k, minTo l k ≤ maxTo l k
  | 0 => Nat.le_refl _
  | k + 1 => by have := minTo_le l k; simp only [minTo, maxTo]; omega
theorem minL_le (l : List Nat) : minL l ≤ maxL l := minTo_le l _

theorem gap_any (A : Option Addr) (n ca : Nat) (l : List Nat) (w : World) (h : Sl .i64 w A n l) (h0 : 0 < n) (hx : maxL l ≤ 1000000) :
    Calls Try.prog 117 #[.slice A n ca] w fun e w' => e = .returned (.bool (decide (n ≤ maxL l - minL l))) ∧ w = w' := by
  have Hm := Lib.hid (max_any A n ca l w h h0)
  have Hn := Lib.hid (min_any A n ca l w h h0)
  have hle := minL_le l
  have hmax := h.max
  generalize maxL l = x at *
  generalize minL l = y at *
  have i1 : IntKind.i64.wrap ((x : Int) - (y : Int)) = ((x - y : Nat) : Int) := by rw [IntWalk.i64_in _ (by omega)]; omega
  have i2 : (x : Int) - (y : Int) = ((x - y : Nat) : Int) := by omega
  clear h hle
  go_enter Try.func117, Try.ntmps117
  go_wp2_with (first | (go_at_call 115; refine Hm.out.mono ?_; rintro e w' ⟨rfl, rfl⟩) | (go_at_call 116; refine Hn.out.mono ?_; rintro e w' ⟨rfl, rfl⟩))
  go_ret
  exact ⟨ret_bool (by simp), rfl⟩

end Go.Proofs.Ytgdaidmkcgblbaa

namespace Go.Proofs.Ytgdaidmkcgblbaa
open Go.RowKit

/-- The elements from s on, before e. -/
def seg (p : List Nat) (s e : Nat) : List Nat := (p.drop s).take (e - s)
theorem seg_length (p : List Nat) (s e : Nat) (h1 : s ≤ e) (h2 : e ≤ p.length) : (seg p s e).length = e - s := by
  unfold seg
  rw [List.length_take, List.length_drop]; omega
theorem seg_get (p : List Nat) (s e i : Nat) (hi : i < e - s) : (seg p s e).getD i 0 = p.getD (s + i) 0 := by
  unfold seg
  simp only [List.getD_eq_getElem?_getD]
  rw [List.getElem?_take_of_lt hi, List.getElem?_drop]

theorem Sl.seg {w : World} {b off n : Nat} {p : List Nat} (h : Sl .i64 w (some ⟨b, off, none⟩) n p) (s e : Nat) (h1 : s ≤ e) (h2 : e ≤ n) : Sl .i64 w (some ⟨b, off + s, none⟩) (e - s) (seg p s e) := by
  have hl := h.len
  have hm := h.max
  refine ⟨seg_length p s e h1 (by omega), by omega, fun hn => ?_⟩
  obtain ⟨b', off', e', hs, hc⟩ := h.at (by omega)
  injection e' with e'
  injection e' with e1 e2
  subst e1 e2
  refine ⟨b, off + s, rfl, hs, fun i hi => ?_⟩
  rw [seg_get p s e i hi, ← hc (s + i) (by omega), Nat.add_assoc]

/-- Where the cuts are: the parts, and where the last one begins, when k places were looked at. -/
def cutTo (T : List Nat → List Nat → Bool) (p : List Nat) : Nat → List (Nat × Nat) × Nat
  | 0 => ([], 0)
  | k + 1 => if T (seg p (cutTo T p k).2 (k + 1)) (seg p (k + 1) p.length) then ((cutTo T p k).1 ++ [((cutTo T p k).2, k + 1)], k + 1) else cutTo T p k
def cutL (T : List Nat → List Nat → Bool) (p : List Nat) : List (Nat × Nat) := (cutTo T p (p.length - 1)).1 ++ [((cutTo T p (p.length - 1)).2, p.length)]
theorem cutTo_le (T : List Nat → List Nat → Bool) (p : List Nat) : ∀ k, (cutTo T p k).2 ≤ k ∧ (cutTo T p k).1.length ≤ k
  | 0 => ⟨Nat.le_refl _, Nat.le_refl _⟩
  | k + 1 => by
    have h := cutTo_le T p k
    unfold cutTo
    split
    · simp; omega
    · omega

/-- A part as a value. -/
def partV (b off cap : Nat) (x : Nat × Nat) : Value := .slice (some ⟨b, off + x.1, none⟩) (x.2 - x.1) (cap - x.1)

/-- Parts of a row in b, in new memory. -/
def RetParts (b off cap : Nat) (rows : List (Nat × Nat)) (w : World) (e : Ending) (w' : World) : Prop :=
  ∃ g c, e = .returned (.slice (some ⟨g, 0, none⟩) rows.length c) ∧ w'.ownsRow w.heap.size 22 1 (.slice (some ⟨g, 0, none⟩) rows.length c) rows.length (rows.map (partV b off cap)) ∧ Below w.heap.size w w'

theorem info_ints : (Try.prog.info? 22).map (fun i => (i.zero, i.size, i.bytes)) = some (some (.slice none 0 0), 1, 24) := by kernel_rfl

set_option maxRecDepth 100000 in
set_option maxHeartbeats 2000000 in
theorem cut_less (b off n cap : Nat) (p : List Nat) (w : World) (hS : Sl .i64 w (some ⟨b, off, none⟩) n p) (h0 : 0 < n) (hcap : n ≤ cap) (hn : n ≤ 60) (_hc9 : cap ≤ 9223372036854775807) :
    Calls Try.prog 110 #[.slice (some ⟨b, off, none⟩) n cap, .func (.func 111) #[] #[]] w (RetParts b off cap (cutL (fun l r => decide (maxL l < minL r)) p) w) := by
  have hl := hS.len
  subst hl
  obtain ⟨i0, hi, hz0, hz1, hz2⟩ := info_parts info_ints
  go_enter Try.func110, Try.ntmps110
  go_wp2
  go_loopw [5, 6, 7] (fun o s i wr => ∃ k : Nat, k + 1 ≤ p.length ∧ i = .int .i64 (k + 1 : Nat) ∧ s = .int .i64 ((cutTo (fun l r => decide (maxL l < minL r)) p k).2 : Nat) ∧
      wr.ownsRow w.heap.size 22 1 o (cutTo (fun l r => decide (maxL l < minL r)) p k).1.length ((cutTo (fun l r => decide (maxL l < minL r)) p k).1.map (partV b off cap)) ∧ Below w.heap.size w wr) (fun _ _ i _ => p.length - (intOf i).toNat)
  case atStart => exact ⟨0, by omega, rfl, rfl, ⟨by simp [cutTo], .inl ⟨rfl, rfl⟩⟩, Below.refl _ _⟩
  case round =>
    obtain ⟨k, hk, rfl, rfl, hown, hbel⟩ := hrel
    have hle := cutTo_le (fun l r => decide (maxL l < minL r)) p k
    have Hst := Lib.hid (show cutTo (fun l r => decide (maxL l < minL r)) p (k + 1) = if (fun l r => decide (maxL l < minL r)) (seg p (cutTo (fun l r => decide (maxL l < minL r)) p k).2 (k + 1)) (seg p (k + 1) p.length) then ((cutTo (fun l r => decide (maxL l < minL r)) p k).1 ++ [((cutTo (fun l r => decide (maxL l < minL r)) p k).2, k + 1)], k + 1) else cutTo (fun l r => decide (maxL l < minL r)) p k from rfl)
    generalize hct : cutTo (fun l r => decide (maxL l < minL r)) p k = ct at *
    obtain ⟨rows, s⟩ := ct
    have Hct := Lib.hid hct
    clear hct
    dsimp only at *
    by_cases hlt : k + 1 < p.length
    · have hS' := hS.below hbel
      have Hl := Lib.hid (fun (W : World) (hW : Sl .i64 W (some ⟨b, off, none⟩) p.length p) => less_any (some ⟨b, off + s, none⟩) (some ⟨b, off + (k + 1), none⟩) (k + 1 - s) (p.length - (k + 1)) (cap - s) (cap - (k + 1)) _ _ W (hW.seg s (k + 1) (by omega) (by omega)) (hW.seg (k + 1) p.length (by omega) (by omega)) (by omega) (by omega))
      by_cases ht : maxL (seg p s (k + 1)) < minL (seg p (k + 1) p.length)
      · have hdec : decide (maxL (seg p s (k + 1)) < minL (seg p (k + 1) p.length)) = true := decide_eq_true ht
        rw [hdec] at Hl
        go_wp2
        go_quiet ((go_at_call 111; exact Calls.quiet_of_same ((Hl.out _ (hS'.drewN _)).mono fun _ _ h => ⟨h.1, h.2.symm⟩)))
        have hown2 : (wr.drewN nq).ownsRow w.heap.size 22 1 _ rows.length (rows.map (partV b off cap)) := hown
        have hbel2 : Below w.heap.size w (wr.drewN nq) := below_drewN hbel nq
        have hs2 := hbel2.size
        have Hst' := Lib.hid (show cutTo (fun l r => decide (maxL l < minL r)) p (k + 1) = (rows ++ [(s, k + 1)], k + 1) by rw [Hst.out, if_pos hdec])
        have hrl : rows.length ≤ k := hle.2
        clear hown hbel hS' Hl hdec
        generalize wr.drewN nq = X at *
        go_wp2_with (at_builtin; refine wpList_append_own _ rfl _ _ 118 rfl w.heap.size 22 i0 (.slice none 0 0) 1 24 Try.underlying118 hi hz0 hz1 hz2 rfl (by decide) _ _ _ rfl (hown2.alloc _) ⟨X.heap.size, 0, none⟩ 1 1 [.slice (some ⟨b, off + s, none⟩) (k + 1 - s) (cap - s)] rfl rfl ?c1 ?c2 ?c3 ?c4 ?c5 ?_)
        case c1 => exact cell_one_new _ _ _
        case c2 => simp [Value.oneCell']
        case c3 => unfold maxLen; omega
        case c4 => omega
        case c5 => simp; omega
        intro v' w1 hown' hgrow _
        have hb' := hbel2.trans (own_below hown2 hs2 hgrow)
        go_wp2
        go_roundw
        case rel =>
          refine ⟨k + 1, by omega, by go_num, by rw [Hst'.out]; go_num, ?_, hb'⟩
          rw [Hst'.out]
          simpa [partV] using hown'
        case measure => simp [intOf]; omega
      · have hdec : decide (maxL (seg p s (k + 1)) < minL (seg p (k + 1) p.length)) = false := decide_eq_false ht
        rw [hdec] at Hl
        have Hst' := Lib.hid (show cutTo (fun l r => decide (maxL l < minL r)) p (k + 1) = (rows, s) by rw [Hst.out, if_neg (by simpa using ht)])
        clear hdec ht
        go_wp2
        go_quiet ((go_at_call 111; exact Calls.quiet_of_same ((Hl.out _ (hS'.drewN _)).mono fun _ _ h => ⟨h.1, h.2.symm⟩)))
        have hown2 : (wr.drewN nq).ownsRow w.heap.size 22 1 _ rows.length (rows.map (partV b off cap)) := hown
        have hbel2 : Below w.heap.size w (wr.drewN nq) := below_drewN hbel nq
        clear hown hbel hS' Hl
        generalize wr.drewN nq = X at *
        go_wp2
        go_roundw
        case rel => exact ⟨k + 1, by omega, by go_num, by rw [Hst'.out], by rw [Hst'.out]; exact hown2, hbel2⟩
        case measure => simp [intOf]; omega
    · have hke : p.length = k + 1 := by omega
      have hs2 := hbel.size
      have hrl : rows.length ≤ k := hle.2
      have Hfin := Lib.hid (show cutL (fun l r => decide (maxL l < minL r)) p = rows ++ [(s, p.length)] by unfold cutL; rw [show p.length - 1 = k by omega, Hct.out])
      have hsk : s ≤ k := hle.1
      clear hS Hst
      have hno : ¬ (k + 1 < p.length) := hlt
      go_wp2_with (at_builtin; refine wpList_append_own _ rfl _ _ 118 rfl w.heap.size 22 i0 (.slice none 0 0) 1 24 Try.underlying118 hi hz0 hz1 hz2 rfl (by decide) _ _ _ rfl (hown.alloc _) ⟨wr.heap.size, 0, none⟩ 1 1 [.slice (some ⟨b, off + s, none⟩) (k + 1 - s) (cap - s)] rfl rfl ?c1 ?c2 ?c3 ?c4 ?c5 ?_)
      case c1 => exact cell_one_new _ _ _
      case c2 => simp [Value.oneCell']
      case c3 => unfold maxLen; omega
      case c4 => omega
      case c5 => simp; omega
      intro v' w1 hown' hgrow _
      have hb' := hbel.trans (own_below hown hs2 hgrow)
      obtain ⟨g', cap', rfl⟩ := ownsRow_succ hown'
      go_wp2
      go_ret
      refine ⟨g', cap', by rw [Hfin.out, List.length_append]; rfl, ?_, hb'⟩
      rw [Hfin.out]
      have e : p.length = k + 1 := by omega
      rw [e]
      simpa [partV] using hown'

set_option maxRecDepth 100000 in
set_option maxHeartbeats 2000000 in
theorem cut_greater (b off n cap : Nat) (p : List Nat) (w : World) (hS : Sl .i64 w (some ⟨b, off, none⟩) n p) (h0 : 0 < n) (hcap : n ≤ cap) (hn : n ≤ 60) (_hc9 : cap ≤ 9223372036854775807) :
    Calls Try.prog 110 #[.slice (some ⟨b, off, none⟩) n cap, .func (.func 112) #[] #[]] w (RetParts b off cap (cutL (fun l r => decide (maxL r < minL l)) p) w) := by
  have hl := hS.len
  subst hl
  obtain ⟨i0, hi, hz0, hz1, hz2⟩ := info_parts info_ints
  go_enter Try.func110, Try.ntmps110
  go_wp2
  go_loopw [5, 6, 7] (fun o s i wr => ∃ k : Nat, k + 1 ≤ p.length ∧ i = .int .i64 (k + 1 : Nat) ∧ s = .int .i64 ((cutTo (fun l r => decide (maxL r < minL l)) p k).2 : Nat) ∧
      wr.ownsRow w.heap.size 22 1 o (cutTo (fun l r => decide (maxL r < minL l)) p k).1.length ((cutTo (fun l r => decide (maxL r < minL l)) p k).1.map (partV b off cap)) ∧ Below w.heap.size w wr) (fun _ _ i _ => p.length - (intOf i).toNat)
  case atStart => exact ⟨0, by omega, rfl, rfl, ⟨by simp [cutTo], .inl ⟨rfl, rfl⟩⟩, Below.refl _ _⟩
  case round =>
    obtain ⟨k, hk, rfl, rfl, hown, hbel⟩ := hrel
    have hle := cutTo_le (fun l r => decide (maxL r < minL l)) p k
    have Hst := Lib.hid (show cutTo (fun l r => decide (maxL r < minL l)) p (k + 1) = if (fun l r => decide (maxL r < minL l)) (seg p (cutTo (fun l r => decide (maxL r < minL l)) p k).2 (k + 1)) (seg p (k + 1) p.length) then ((cutTo (fun l r => decide (maxL r < minL l)) p k).1 ++ [((cutTo (fun l r => decide (maxL r < minL l)) p k).2, k + 1)], k + 1) else cutTo (fun l r => decide (maxL r < minL l)) p k from rfl)
    generalize hct : cutTo (fun l r => decide (maxL r < minL l)) p k = ct at *
    obtain ⟨rows, s⟩ := ct
    have Hct := Lib.hid hct
    clear hct
    dsimp only at *
    by_cases hlt : k + 1 < p.length
    · have hS' := hS.below hbel
      have Hl := Lib.hid (fun (W : World) (hW : Sl .i64 W (some ⟨b, off, none⟩) p.length p) => greater_any (some ⟨b, off + s, none⟩) (some ⟨b, off + (k + 1), none⟩) (k + 1 - s) (p.length - (k + 1)) (cap - s) (cap - (k + 1)) _ _ W (hW.seg s (k + 1) (by omega) (by omega)) (hW.seg (k + 1) p.length (by omega) (by omega)) (by omega) (by omega))
      by_cases ht : maxL (seg p (k + 1) p.length) < minL (seg p s (k + 1))
      · have hdec : decide (maxL (seg p (k + 1) p.length) < minL (seg p s (k + 1))) = true := decide_eq_true ht
        rw [hdec] at Hl
        go_wp2
        go_quiet ((go_at_call 112; exact Calls.quiet_of_same ((Hl.out _ (hS'.drewN _)).mono fun _ _ h => ⟨h.1, h.2.symm⟩)))
        have hown2 : (wr.drewN nq).ownsRow w.heap.size 22 1 _ rows.length (rows.map (partV b off cap)) := hown
        have hbel2 : Below w.heap.size w (wr.drewN nq) := below_drewN hbel nq
        have hs2 := hbel2.size
        have Hst' := Lib.hid (show cutTo (fun l r => decide (maxL r < minL l)) p (k + 1) = (rows ++ [(s, k + 1)], k + 1) by rw [Hst.out, if_pos hdec])
        have hrl : rows.length ≤ k := hle.2
        clear hown hbel hS' Hl hdec
        generalize wr.drewN nq = X at *
        go_wp2_with (at_builtin; refine wpList_append_own _ rfl _ _ 118 rfl w.heap.size 22 i0 (.slice none 0 0) 1 24 Try.underlying118 hi hz0 hz1 hz2 rfl (by decide) _ _ _ rfl (hown2.alloc _) ⟨X.heap.size, 0, none⟩ 1 1 [.slice (some ⟨b, off + s, none⟩) (k + 1 - s) (cap - s)] rfl rfl ?c1 ?c2 ?c3 ?c4 ?c5 ?_)
        case c1 => exact cell_one_new _ _ _
        case c2 => simp [Value.oneCell']
        case c3 => unfold maxLen; omega
        case c4 => omega
        case c5 => simp; omega
        intro v' w1 hown' hgrow _
        have hb' := hbel2.trans (own_below hown2 hs2 hgrow)
        go_wp2
        go_roundw
        case rel =>
          refine ⟨k + 1, by omega, by go_num, by rw [Hst'.out]; go_num, ?_, hb'⟩
          rw [Hst'.out]
          simpa [partV] using hown'
        case measure => simp [intOf]; omega
      · have hdec : decide (maxL (seg p (k + 1) p.length) < minL (seg p s (k + 1))) = false := decide_eq_false ht
        rw [hdec] at Hl
        have Hst' := Lib.hid (show cutTo (fun l r => decide (maxL r < minL l)) p (k + 1) = (rows, s) by rw [Hst.out, if_neg (by simpa using ht)])
        clear hdec ht
        go_wp2
        go_quiet ((go_at_call 112; exact Calls.quiet_of_same ((Hl.out _ (hS'.drewN _)).mono fun _ _ h => ⟨h.1, h.2.symm⟩)))
        have hown2 : (wr.drewN nq).ownsRow w.heap.size 22 1 _ rows.length (rows.map (partV b off cap)) := hown
        have hbel2 : Below w.heap.size w (wr.drewN nq) := below_drewN hbel nq
        clear hown hbel hS' Hl
        generalize wr.drewN nq = X at *
        go_wp2
        go_roundw
        case rel => exact ⟨k + 1, by omega, by go_num, by rw [Hst'.out], by rw [Hst'.out]; exact hown2, hbel2⟩
        case measure => simp [intOf]; omega
    · have hke : p.length = k + 1 := by omega
      have hs2 := hbel.size
      have hrl : rows.length ≤ k := hle.2
      have Hfin := Lib.hid (show cutL (fun l r => decide (maxL r < minL l)) p = rows ++ [(s, p.length)] by unfold cutL; rw [show p.length - 1 = k by omega, Hct.out])
      have hsk : s ≤ k := hle.1
      clear hS Hst
      have hno : ¬ (k + 1 < p.length) := hlt
      go_wp2_with (at_builtin; refine wpList_append_own _ rfl _ _ 118 rfl w.heap.size 22 i0 (.slice none 0 0) 1 24 Try.underlying118 hi hz0 hz1 hz2 rfl (by decide) _ _ _ rfl (hown.alloc _) ⟨wr.heap.size, 0, none⟩ 1 1 [.slice (some ⟨b, off + s, none⟩) (k + 1 - s) (cap - s)] rfl rfl ?c1 ?c2 ?c3 ?c4 ?c5 ?_)
      case c1 => exact cell_one_new _ _ _
      case c2 => simp [Value.oneCell']
      case c3 => unfold maxLen; omega
      case c4 => omega
      case c5 => simp; omega
      intro v' w1 hown' hgrow _
      have hb' := hbel.trans (own_below hown hs2 hgrow)
      obtain ⟨g', cap', rfl⟩ := ownsRow_succ hown'
      go_wp2
      go_ret
      refine ⟨g', cap', by rw [Hfin.out, List.length_append]; rfl, ?_, hb'⟩
      rw [Hfin.out]
      have e : p.length = k + 1 := by omega
      rw [e]
      simpa [partV] using hown'

end Go.Proofs.Ytgdaidmkcgblbaa
