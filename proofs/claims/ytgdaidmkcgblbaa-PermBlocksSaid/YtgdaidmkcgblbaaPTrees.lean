/-
  A plain tree of numbers is a tree of integers.
  The walk of PermTrees, but for what Fill returns of a tree of Blocks in plain words.
-/
import Derived.Test.YtgdaidmkcgblbaaFillW
import Derived.Test.YtgdaidmkcgblbaaAwake
import Derived.Test.YtgdaidmkcgblbaaTame
import Derived.Test.YtgdaidmkcgblbaaSame
namespace Go.Proofs.Ytgdaidmkcgblbaa
open Go.RowKit

/-- A tree of numbers as one of integers, to so many levels. -/
def toIT : Nat → PT → IT
  | 0, _ => .node 0 [] []
  | d + 1, t => .node (t.kind : Nat) (t.perm.map fun (x : Nat) => (x : Int)) (t.parts.map (toIT d))
theorem toIT_kind (d : Nat) (t : PT) : (toIT (d + 1) t).kind = (t.kind : Nat) := rfl
theorem toIT_perm (d : Nat) (t : PT) : (toIT (d + 1) t).perm = t.perm.map fun (x : Nat) => (x : Int) := rfl
theorem toIT_parts (d : Nat) (t : PT) : (toIT (d + 1) t).parts = t.parts.map (toIT d) := rfl

/-- No great number in a tree's permutations. -/
def LowT : Nat → PT → Prop
  | 0, _ => True
  | d + 1, t => (∀ x ∈ t.perm, x ≤ 1000) ∧ ∀ u ∈ t.parts, LowT d u

theorem low_treeF : ∀ (d f : Nat) (p : List Nat), 1 ≤ p.length → p.length ≤ 60 → LowT d (treeF f p)
  | 0, _, _, _, _ => trivial
  | d + 1, 0, _, _, _ => ⟨fun x hx => absurd hx (by simp [treeF, PT.perm]), fun u hu => absurd hu (by simp [treeF, PT.parts])⟩
  | d + 1, f + 1, p, h1, h2 => by
    rw [treeF_succ]
    by_cases e : p.length = 1
    · rw [if_pos e]
      exact ⟨fun x hx => absurd hx (by simp [PT.perm]), fun u hu => absurd hu (by simp [PT.parts])⟩
    · rw [if_neg e]
      have hp := divL_parts p (by omega)
      refine ⟨fun x hx => ?_, fun u hu => ?_⟩
      · have hx : x ∈ (if (divL p).1 = 3 then patL p (divL p).2 else []) := hx
        split at hx
        · obtain ⟨y, -, rfl⟩ := List.mem_map.1 (show x ∈ (divL p).2.map (patAt p (divL p).2) from hx)
          have := patAt_le p (divL p).2 y
          omega
        · simp at hx
      · obtain ⟨x, hx, rfl⟩ := List.mem_map.1 (show u ∈ (divL p).2.map _ from hu)
        have hx' := hp.1 x hx
        have hl : (seg p x.1 x.2).length = x.2 - x.1 := seg_length p x.1 x.2 (Nat.le_of_lt hx'.1) hx'.2.1
        exact low_treeF d f _ (by omega) (by omega)

theorem PermIn.permZ {w : World} {lo hi : Nat} {l : List Nat} {v : Value} (h : PermIn w lo hi l v) (hl : ∀ x ∈ l, x ≤ 1000) : PermZ w lo hi (l.map fun (x : Nat) => (x : Int)) v := by
  obtain ⟨A, c, rfl, hc, h⟩ := h
  refine ⟨A, c, by rw [List.length_map], by rw [List.length_map]; exact ⟨hc.1, by omega, by omega⟩, fun z hz => ?_, fun h0 => ?_⟩
  · obtain ⟨x, hx, rfl⟩ := List.mem_map.1 hz
    have := hl x hx
    omega
  · rw [List.length_map] at h0
    obtain ⟨g, rfl, h1, h2, h3⟩ := h h0
    refine ⟨g, 0, rfl, h1, h2, fun i hi => ?_⟩
    rw [List.length_map] at hi
    rw [Nat.zero_add, h3 i hi]
    simp [List.getD_eq_getElem?_getD, hi]

theorem TreeIn.it {w : World} {lo hi : Nat} : ∀ (d : Nat) (t : PT) (pv sv : Value), TreeIn w lo hi d t pv sv → LowT d t → ITIn w lo hi d (toIT d t) pv sv
  | 0, _, _, _, h, _ => h.elim
  | d + 1, t, pv, sv, h, hl => by
    obtain ⟨h1, A, c, rfl, h2⟩ := h
    refine ⟨h1.permZ hl.1, A, c, ?_, fun h0 => ?_⟩
    · show Value.slice A t.parts.length c = .slice A (t.parts.map (toIT d)).length c
      rw [List.length_map]
    · have h0 : 0 < (t.parts.map (toIT d)).length := h0
      rw [List.length_map] at h0
      obtain ⟨g, rfl, k1, k2, h3⟩ := h2 h0
      refine ⟨g, 0, rfl, k1, k2, fun i hi' => ?_⟩
      have hi : i < (t.parts.map (toIT d)).length := hi'
      rw [List.length_map] at hi
      obtain ⟨pv', sv', m1, m2, m3, m4⟩ := h3 i hi
      have e : (toIT (d + 1) t).parts[i] = toIT d t.parts[i] := List.getElem_map (toIT d) (l := t.parts) (h := hi')
      have hd : ∃ d', d = d' + 1 := by
        cases d with
        | zero => exact m4.elim
        | succ d' => exact ⟨d', rfl⟩
      obtain ⟨d', rfl⟩ := hd
      refine ⟨pv', sv', ?_, ?_, ?_, ?_⟩
      · rw [e, Nat.zero_add, m1]; rfl
      · rw [Nat.zero_add]; exact m2
      · rw [Nat.zero_add]; exact m3
      · rw [e]
        exact TreeIn.it _ _ _ _ m4 (hl.2 _ (List.getElem_mem hi))

end Go.Proofs.Ytgdaidmkcgblbaa

namespace Go.Proofs.Ytgdaidmkcgblbaa
open Go.RowKit

theorem same_yes (A B : Option Addr) (n m : Nat) (a b : List Nat) (w : World) (ha : Sl .i64 w A n a) (hb : Sl .i64 w B m b) (hab : a = b) (ca cb : Nat) :
    Calls Try.prog 33 #[.slice A n ca, .slice B m cb] w fun e w' => e = .returned (.bool true) ∧ Drew w w' :=
  (same_any A B n m ca cb a b w ha hb).mono fun _ _ ⟨h1, h2⟩ => ⟨by rw [h1, decide_eq_true hab], h2⟩

/-- What is to be known of Blocks' trees: filled, they are the permutation. -/
def FillsBack : Prop := ∀ p : List Nat, IsPerm p → 1 ≤ p.length → p.length ≤ 60 → (fillN p.length (toIT p.length (treeF p.length p)) 0).2 = some p

theorem toIT_kind' (d : Nat) (t : PT) (h : 1 ≤ d) : (toIT d t).kind = (t.kind : Nat) := by
  cases d with
  | zero => omega
  | succ d => rfl

set_option maxRecDepth 100000 in
set_option maxHeartbeats 2000000 in
theorem permTrees_walk (hfb : FillsBack) (A : Option Addr) (n cap : Nat) (w : World) (h : Ints w A n) :
    Calls Try.prog 13 #[.slice A n cap] w fun e w' => e = .returned (.bool true) ∧ Below w.heap.size w w' := by
  have hN1 : 1 ≤ tameLen n 60 := by unfold tameLen; omega
  have hN2 : tameLen n 60 ≤ 60 := by unfold tameLen; omega
  have Htame := Lib.hid (tame_cap A n cap 60 w h (by omega))
  generalize tameLen n 60 = N at *
  go_enter Try.func13, Try.ntmps13
  go_wp2_with fail
  refine Htame.out.mono ?_
  rintro e w1 ⟨gp, cp, p, rfl, hS, hp, hgp, hcp, hb1⟩
  have hlen := hS.len
  subst hlen
  go_wp2_with fail
  refine (blocksT_any gp 0 p.length cp p w1 hS hp hN2 hN1 hcp.1 hcp.2).mono ?_
  rintro e w2 ⟨pa, pn, pc, A2, n2, c2, rfl, hT, hb2⟩
  have hfill := hfb p hp hN1 hN2
  have hlow := low_treeF p.length p.length p hN1 hN2
  have hIT := hT.it _ _ _ _ hlow
  have ekind := toIT_kind' p.length (treeF p.length p) hN1
  have hS2 := hS.below hb2
  have hbw2 := hb1.trans (hb2.mono hb1.size)
  clear hlow hT hp hb2 hcp hS Htame
  generalize toIT p.length (treeF p.length p) = it at *
  generalize (treeF p.length p).kind = kd at *
  have hnew := Blk.new w2 43 #[.int .i64 (kd : Nat), .slice pa pn pc, .slice A2 n2 c2]
  obtain ⟨r0, r1, r2, -, -, -⟩ := blk_three hnew
  have hb3 := below_new' w2 (.cells #[.int .i64 (kd : Nat), .slice pa pn pc, .slice A2 n2 c2] 43)
  have hIT3 := ITIn.keep (fun g _ k2 => hb3.block g k2) _ _ _ _ hIT
  have Hfill := fillAll_any p.length it pa pn pc A2 n2 c2 _ _ _ hIT3 hb3.size
  rw [hfill, ekind] at Hfill
  have Hfill := Lib.hid Hfill
  have Hfo := Lib.hid (show fillOut (some p) = some p from if_pos hN2)
  have hS3 := hS2.below hb3
  have Hbw3 := Lib.hid (hbw2.trans (hb3.mono hbw2.size))
  clear hIT hIT3 hfill ekind hS2 hbw2 hb3 hnew hb1
  go_wp2_with fail
  refine Hfill.out.mono ?_
  rintro e w4 ⟨hb4, ⟨e1, -⟩ | ⟨l, g4, c4, e1, rfl, hg4, hs4⟩⟩
  · rw [Hfo.out] at e1; cases e1
  · rw [Hfo.out] at e1
    injection e1 with e1
    subst e1
    have Hsame := Lib.hid (same_yes (some ⟨gp, 0, none⟩) (some ⟨g4, 0, none⟩) p.length p.length p p w4 (hS3.below hb4) hs4 rfl cp c4)
    have Hb4 := Lib.hid (Hbw3.out.trans (hb4.mono Hbw3.out.size))
    clear hb4 hs4 hS3 Hfill
    go_wp2_with (first
      | (go_at_call 33; refine Hsame.out.mono ?_; rintro e w5 ⟨rfl, q, rfl⟩)
      | (go_at_call 23; refine (awake_any _).mono ?_; rintro e w6 ⟨rfl, hb6⟩))
    go_ret
    have hq := below_drewN Hb4.out q
    exact ⟨rfl, hq.trans (hb6.mono hq.size)⟩

end Go.Proofs.Ytgdaidmkcgblbaa
