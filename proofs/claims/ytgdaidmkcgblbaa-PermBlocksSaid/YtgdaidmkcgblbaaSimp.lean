/-
  The walk of simple: whether a tree in memory has a node of the kind 3.
-/
import Derived.Test.YtgdaidmkcgblbaaTreeT
namespace Go.Proofs.Ytgdaidmkcgblbaa
open Go.RowKit

/-- Whether a tree has a node of the kind 3, as deep as d. -/
def simpT : Nat → PT → Bool
  | 0, _ => false
  | d + 1, t => decide (t.kind = 3) || t.parts.any fun u => simpT d u
theorem any_take_succ {α : Type} (f : α → Bool) (l : List α) (k : Nat) (h : k < l.length) : (l.take (k + 1)).any f = ((l.take k).any f || f l[k]) := by
  rw [take_snoc' l k h, List.any_append]
  simp

theorem TreeIn.slices {w : World} {lo hi : Nat} : ∀ {d : Nat} {t : PT} {pv sv : Value}, TreeIn w lo hi d t pv sv → ∃ pa pn pc A n c, pv = .slice pa pn pc ∧ sv = .slice A n c
  | 0, _, _, _, h => h.elim
  | _ + 1, _, _, _, ⟨⟨pa, pc, e1, _, _⟩, A, c, e2, _⟩ => ⟨pa, _, pc, A, _, c, e1, e2⟩

/-- No node has more than 60 parts. -/
def SmallT : Nat → PT → Prop
  | 0, _ => True
  | d + 1, t => t.parts.length ≤ 60 ∧ ∀ u ∈ t.parts, SmallT d u

set_option maxRecDepth 100000 in
set_option maxHeartbeats 1000000 in
theorem simple_any : ∀ (d : Nat) (t : PT) (pa : Option Addr) (pn pc : Nat) (A : Option Addr) (n c : Nat) (lo hi : Nat) (w : World), TreeIn w lo hi d t (.slice pa pn pc) (.slice A n c) → hi ≤ w.heap.size → SmallT d t →
    Calls Try.prog 62 #[.agg #[.int .i64 (t.kind : Nat), .slice pa pn pc, .slice A n c]] w fun e w' => e = .returned (.bool (simpT d t)) ∧ Below w.heap.size w w'
  | 0, _, _, _, _, _, _, _, _, _, _, h, _, _ => h.elim
  | d + 1, t, pa, pn, pc, A, n, c, lo, hi, w, h, hhi, hsm => by
    have ih := simple_any d
    obtain ⟨-, A', c', e1, hparts⟩ := h
    injection e1 with e1 e2 e3
    subst e1 e2 e3
    obtain ⟨hs1, hs2⟩ := hsm
    have Hs2 := Lib.hid hs2
    have Hparts := Lib.hid hparts
    have Hih := Lib.hid ih
    have hbox := Blk.new w 43 #[.int .i64 (t.kind : Nat), .slice pa pn pc, .slice A t.parts.length c]
    have hbel0 := below_new' w (.cells #[.int .i64 (t.kind : Nat), .slice pa pn pc, .slice A t.parts.length c] 43)
    obtain ⟨b0, b1, b2, -, -, -⟩ := blk_three hbox
    have Hres := Lib.hid (show simpT (d + 1) t = (decide (t.kind = 3) || t.parts.any fun u => simpT d u) from rfl)
    obtain ⟨kb, hkb⟩ : ∃ kb, decide (t.kind = 3) = kb := ⟨_, rfl⟩
    have hkb' : ((t.kind : Int) == 3) = kb := by
      rw [← hkb]
      by_cases e : t.kind = 3
      · rw [e]; rfl
      · rw [decide_eq_false e]; rw [beq_eq_false_iff_ne]; omega
    rw [hkb] at Hres
    clear hkb hs2 hparts ih
    go_enter Try.func62, Try.ntmps62
    go_wp2_with fail
    go_loopw [3, 4] (fun o i wr => ∃ k : Nat, k ≤ t.parts.length ∧ i = .int .i64 k ∧ o = .bool (kb || (t.parts.take k).any fun u => simpT d u) ∧ Blk wr w.heap.size 43 #[.int .i64 (t.kind : Nat), .slice pa pn pc, .slice A t.parts.length c] ∧ Below w.heap.size w wr) (fun _ i _ => t.parts.length - (intOf i).toNat)
    case atStart => exact ⟨0, Nat.zero_le _, rfl, by simp, hbox, hbel0⟩
    case round =>
      obtain ⟨k, hk, rfl, rfl, hblk, hbel⟩ := hrel
      obtain ⟨c0, c1, c2, -, -, -⟩ := blk_three hblk
      by_cases hlt : k < t.parts.length
      · have Hnext := Lib.hid (show (kb || (t.parts.take (k + 1)).any fun u => simpT d u) = ((kb || (t.parts.take k).any fun u => simpT d u) || simpT d t.parts[k]) by
          rw [any_take_succ _ _ k hlt, Bool.or_assoc])
        obtain ⟨g, rfl, hg1, hg2, hrow⟩ := Hparts.out (by omega)
        obtain ⟨pv', sv', k1, k2, k3, k4⟩ := hrow k hlt
        have hgw : g < w.heap.size := by omega
        have k1' := (hbel.cell (p := ⟨g, k * 3, none⟩) hgw).trans k1
        have k2' := (hbel.cell (p := ⟨g, k * 3 + 1, none⟩) hgw).trans k2
        have k3' := (hbel.cell (p := ⟨g, k * 3 + 2, none⟩) hgw).trans k3
        have k4' := TreeIn.keep (w' := wr) (fun g _ h2 => hbel.block g (by omega)) d _ _ _ k4
        have hsk := Hs2.out _ (List.getElem_mem hlt)
        generalize t.parts[k] = u at *
        obtain ⟨qa, qn, qc, B, m, cc, rfl, rfl⟩ := k4'.slices
        obtain ⟨ob, hob⟩ : ∃ ob, (kb || (t.parts.take k).any fun u => simpT d u) = ob := ⟨_, rfl⟩
        rw [hob] at Hnext
        rw [hob]
        clear hob hrow k1 k2 k3 k4
        cases ob with
        | true =>
          go_wp2_with fail
          go_roundw
          case rel => exact ⟨k + 1, by omega, by go_num, by rw [Hnext.out]; rfl, hblk, hbel⟩
          case measure => simp [intOf]; omega
        | false =>
          have Hcall := Lib.hid (Hih.out u qa qn qc B m cc lo hi wr k4' (Nat.le_trans hhi hbel.size) hsk)
          generalize simpT d u = sb at *
          clear k4'
          go_wp2_with (go_at_call 62; refine Hcall.out.mono ?_; rintro e w2 ⟨rfl, hb2⟩)
          go_roundw
          case rel => exact ⟨k + 1, by omega, by go_num, by rw [Hnext.out]; rfl, (hb2.block _ hblk.lt).trans hblk, hbel.trans (hb2.mono hbel.size)⟩
          case measure => simp [intOf]; omega
      · obtain rfl : k = t.parts.length := by omega
        rw [List.take_length, ← Hres.out]
        generalize hsb : simpT (d + 1) t = sb at *
        have Hsb := Lib.hid hsb
        clear hsb
        go_wp2_with fail
        go_ret
        exact ⟨by rw [Hsb.out]; rfl, hbel⟩

/-- A short list's tree has no node of more than 60 parts. -/
theorem small_treeF : ∀ (d f : Nat) (p : List Nat), 1 ≤ p.length → p.length ≤ 60 → SmallT d (treeF f p)
  | 0, _, _, _, _ => trivial
  | d + 1, 0, _, _, _ => ⟨Nat.zero_le _, fun u hu => absurd hu (by simp [treeF, PT.parts])⟩
  | d + 1, f + 1, p, h1, h2 => by
    rw [treeF_succ]
    by_cases e : p.length = 1
    · rw [if_pos e]
      exact ⟨Nat.zero_le _, fun u hu => absurd hu (by simp [PT.parts])⟩
    · rw [if_neg e]
      have hp := divL_parts p (by omega)
      refine ⟨by show ((divL p).2.map _).length ≤ 60; rw [List.length_map]; omega, fun u hu => ?_⟩
      obtain ⟨x, hx, rfl⟩ := List.mem_map.1 (show u ∈ (divL p).2.map _ from hu)
      have hx' := hp.1 x hx
      have hl : (seg p x.1 x.2).length = x.2 - x.1 := seg_length p x.1 x.2 (Nat.le_of_lt hx'.1) hx'.2.1
      exact small_treeF d f _ (by omega) (by omega)

end Go.Proofs.Ytgdaidmkcgblbaa
