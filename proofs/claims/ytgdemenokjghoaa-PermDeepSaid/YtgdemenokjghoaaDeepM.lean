/-
  The trees of PermDeep: leaves next to trees, again and again; how the lists that they stand for are parted.
  The trees of PermDeep: they are the block trees of what they stand for.
-/
import Derived.Test.YtgdemenokjghoaaShf
import Derived.Test.YtgdemenokjghoaaFilA
import Derived.Test.YtgdemenokjghoaaEqu
import Derived.Test.YtgdemenokjghoaaAwake
namespace Go.Proofs.Ytgdemenokjghoaa
open Go.RowKit

def leafI : IT := .node 0 [] []
/-- A leaf next to a tree, again and again. -/
def chainI : Nat → IT
  | 0 => leafI
  | k + 1 => .node (1 + ((k + 1) % 2 : Nat)) [] [leafI, chainI k]
def simI (k : Nat) : IT := .node 3 [1, 3, 0, 2] [leafI, chainI k, leafI, leafI]
/-- What such a tree stands for. -/
def lst : Nat → List Nat
  | 0 => [0]
  | k + 1 => if (k + 1) % 2 = 0 then 0 :: up 1 (lst k) else (k + 1) :: lst k
def lstS (k : Nat) : List Nat := 1 :: (up 3 (lst k) ++ [0, 2])
theorem lst_length : ∀ k, (lst k).length = k + 1
  | 0 => rfl
  | k + 1 => by
    unfold lst
    split
    · rw [List.length_cons, up_length, lst_length k]
    · rw [List.length_cons, lst_length k]

theorem chain_div : ((List.range 59).all fun k => decide (divL (lst (k + 1)) = (1 + (k + 1) % 2, [(0, 1), (1, k + 2)]))) = true := by kernel_rfl
theorem sim_div55 : divL (lstS 55) = (3, [(0, 1), (1, 57), (57, 58), (58, 59)]) := by kernel_rfl
theorem sim_div56 : divL (lstS 56) = (3, [(0, 1), (1, 58), (58, 59), (59, 60)]) := by kernel_rfl
theorem sim_pat55 : patL (lstS 55) [(0, 1), (1, 57), (57, 58), (58, 59)] = [1, 3, 0, 2] := by kernel_rfl
theorem sim_pat56 : patL (lstS 56) [(0, 1), (1, 58), (58, 59), (59, 60)] = [1, 3, 0, 2] := by kernel_rfl

end Go.Proofs.Ytgdemenokjghoaa

namespace Go.Proofs.Ytgdemenokjghoaa
open Go.RowKit

theorem lst_succ (k : Nat) : lst (k + 1) = if (k + 1) % 2 = 0 then 0 :: up 1 (lst k) else (k + 1) :: lst k := rfl
theorem treeF_one (f x : Nat) : treeF (f + 1) [x] = .node 0 [] [] := by rw [treeF_succ]; rfl
theorem lst_tail (k : Nat) : treeF (k + 1) (seg (lst (k + 1)) 1 (k + 2)) = treeF (k + 1) (lst k) := by
  have hl := lst_length k
  have e : seg (lst (k + 1)) 1 (k + 2) = if (k + 1) % 2 = 0 then up 1 (lst k) else lst k := by
    rw [lst_succ]
    unfold seg
    split
    · rw [List.drop_succ_cons, List.drop_zero, List.take_of_length_le (by rw [up_length, hl]; omega)]
    · rw [List.drop_succ_cons, List.drop_zero, List.take_of_length_le (by rw [hl]; omega)]
  rw [e]
  split
  · exact up_treeF 1 _ _ (by rw [hl]; omega)
  · rfl
theorem lst_head (k : Nat) : ∃ x, seg (lst (k + 1)) 0 1 = [x] := by
  rw [lst_succ]
  split
  · exact ⟨0, rfl⟩
  · exact ⟨k + 1, rfl⟩
theorem chain_tree : ∀ k d, k < 60 → toIT (k + 1 + d) (treeF (k + 1) (lst k)) = chainI k
  | 0, d, _ => by
    rw [show 0 + 1 + d = d + 1 by omega]
    rfl
  | k + 1, d, h => by
    have ih := chain_tree k d (by omega)
    have hd := of_decide_eq_true (List.all_eq_true.1 chain_div k (List.mem_range.2 (by omega)))
    obtain ⟨x, hx⟩ := lst_head k
    rw [treeF_succ, if_neg (by rw [lst_length]; omega), hd]
    have h3 : ¬ (1 + (k + 1) % 2 = 3) := by omega
    simp only [List.map_cons, List.map_nil, h3, if_false]
    rw [hx, treeF_one, lst_tail, show k + 1 + 1 + d = k + 1 + d + 1 by omega]
    show IT.node ((1 + (k + 1) % 2 : Nat) : Int) [] [toIT (k + 1 + d) (.node 0 [] []), toIT (k + 1 + d) (treeF (k + 1) (lst k))] = .node (1 + ((k + 1) % 2 : Nat)) [] [leafI, chainI k]
    rw [ih, show k + 1 + d = k + d + 1 by omega]
    rfl
theorem lst_up (k d : Nat) : treeF (k + 1 + d) (lst k) = treeF (k + 1) (lst k) := by
  rw [treeF_len (k + 1) (k + 1 + d) (lst k) (by rw [lst_length]; omega) (by rw [lst_length]; omega) (by rw [lst_length]; omega), lst_length]
theorem lstS_length (k : Nat) : (lstS k).length = k + 4 := by
  unfold lstS
  rw [List.length_cons, List.length_append, up_length, lst_length]
  rfl
theorem sim_segs (k : Nat) : seg (lstS k) 0 1 = [1] ∧ seg (lstS k) 1 (k + 2) = up 3 (lst k) ∧ seg (lstS k) (k + 2) (k + 3) = [0] ∧ seg (lstS k) (k + 3) (k + 4) = [2] := by
  have hl : (up 3 (lst k)).length = k + 1 := by rw [up_length, lst_length]
  have e : lstS k = 1 :: (up 3 (lst k) ++ [0, 2]) := rfl
  refine ⟨rfl, ?_, ?_, ?_⟩
  · rw [e]
    unfold seg
    rw [List.drop_succ_cons, List.drop_zero, List.take_append_of_le_length (by omega), List.take_of_length_le (by omega)]
  · rw [e]
    unfold seg
    rw [show k + 2 = (k + 1) + 1 by omega, List.drop_succ_cons, List.drop_append_of_le_length (by omega), List.drop_of_length_le (by omega)]
    rw [show k + 3 - (k + 1 + 1) = 1 by omega]
    rfl
  · rw [e]
    unfold seg
    rw [show k + 3 = (k + 1 + 1) + 1 by omega, List.drop_succ_cons, List.drop_append, List.drop_of_length_le (by omega), hl]
    rw [show k + 1 + 1 - (k + 1) = 1 by omega, show k + 4 - (k + 1 + 1 + 1) = 1 by omega]
    rfl
theorem sim_tree (k : Nat) (hk : k < 60) (hd : divL (lstS k) = (3, [(0, 1), (1, k + 2), (k + 2, k + 3), (k + 3, k + 4)])) (hp : patL (lstS k) [(0, 1), (1, k + 2), (k + 2, k + 3), (k + 3, k + 4)] = [1, 3, 0, 2]) :
    toIT (k + 4) (treeF (k + 4) (lstS k)) = simI k := by
  obtain ⟨s0, s1, s2, s3⟩ := sim_segs k
  rw [show treeF (k + 4) (lstS k) = treeF (k + 3 + 1) (lstS k) from rfl, treeF_succ, if_neg (by rw [lstS_length]; omega), hd]
  simp only [List.map_cons, List.map_nil, if_true]
  rw [hp, s0, s1, s2, s3, up_treeF 3 _ _ (by rw [lst_length]; omega), show k + 3 = k + 1 + 2 by omega, lst_up, show k + 1 + 2 = k + 2 + 1 by omega, treeF_one, treeF_one, treeF_one]
  show IT.node 3 [1, 3, 0, 2] [toIT (k + 2 + 1) (.node 0 [] []), toIT (k + 1 + 2) (treeF (k + 1) (lst k)), toIT (k + 2 + 1) (.node 0 [] []), toIT (k + 2 + 1) (.node 0 [] [])] = simI k
  rw [chain_tree k 2 hk]
  rfl

/-- The tree of r and simple, and what it stands for. -/
def deepT (r : Nat) (b : Bool) : IT := if b then simI (55 + r) else chainI (55 + r)
def deepP (r : Nat) (b : Bool) : List Nat := if b then lstS (55 + r) else lst (55 + r)
def deepN (r : Nat) (b : Bool) : Nat := 56 + r + if b then 3 else 0
theorem deepP_length (r : Nat) (b : Bool) : (deepP r b).length = deepN r b := by
  cases b
  · show (lst (55 + r)).length = 56 + r + 0
    rw [lst_length]; omega
  · show (lstS (55 + r)).length = 56 + r + 3
    rw [lstS_length]; omega
theorem deep_tree (r : Nat) (b : Bool) (h : deepN r b ≤ 60) : toIT (deepP r b).length (treeF (deepP r b).length (deepP r b)) = deepT r b := by
  rw [deepP_length]
  cases b with
  | false =>
    have hr : r < 5 := by unfold deepN at h; simp at h; omega
    show toIT (56 + r + 0) (treeF (56 + r + 0) (lst (55 + r))) = chainI (55 + r)
    rw [show 56 + r + 0 = 55 + r + 1 + 0 by omega, show 55 + r + 1 + 0 = 55 + r + 1 from rfl]
    exact chain_tree (55 + r) 0 (by omega)
  | true =>
    have hr : r < 2 := by unfold deepN at h; simp at h; omega
    show toIT (56 + r + 3) (treeF (56 + r + 3) (lstS (55 + r))) = simI (55 + r)
    rw [show 56 + r + 3 = 55 + r + 4 by omega]
    match r, hr with
    | 0, _ => exact sim_tree 55 (by omega) sim_div55 sim_pat55
    | 1, _ => exact sim_tree 56 (by omega) sim_div56 sim_pat56

def okB (r : Nat) (b : Bool) : Bool := canonB 70 (deepT r b) && (decide (fillR 70 (deepT r b) = deepP r b) && (decide ((fillN 70 (deepT r b) 0).2 = some (deepP r b)) && permB (deepP r b)))
theorem ok_all : (((List.range 5).all fun r => okB r false) && ((List.range 2).all fun r => okB r true)) = true := by kernel_rfl
theorem no_all : ((List.range 8).all fun r => (decide (r < 5) || decide (fillOut (fillN 70 (deepT r false) 0).2 = none)) && (decide (r < 2) || decide (fillOut (fillN 70 (deepT r true) 0).2 = none))) = true := by kernel_rfl
def sizeB (r : Nat) (b : Bool) : Bool := decide (leafN 70 (deepT r b) = deepN r b) && (decide (nodeN 70 (deepT r b) ≤ 1000) && decide (levN 70 (deepT r b) ≤ 100))
theorem size_all : ((List.range 8).all fun r => sizeB r false && sizeB r true) = true := by kernel_rfl

theorem deep_size (r : Nat) (b : Bool) (h : r < 8) : leafN 70 (deepT r b) = deepN r b ∧ nodeN 70 (deepT r b) ≤ 1000 ∧ levN 70 (deepT r b) ≤ 100 := by
  have h1 := List.all_eq_true.1 size_all r (List.mem_range.2 h)
  rw [Bool.and_eq_true] at h1
  have h2 : sizeB r b = true := by cases b; exact h1.1; exact h1.2
  unfold sizeB at h2
  rw [Bool.and_eq_true, Bool.and_eq_true, decide_eq_true_eq, decide_eq_true_eq, decide_eq_true_eq] at h2
  exact h2
theorem deep_ok (r : Nat) (b : Bool) (h : deepN r b ≤ 60) : canonB 70 (deepT r b) = true ∧ fillR 70 (deepT r b) = deepP r b ∧ (fillN 70 (deepT r b) 0).2 = some (deepP r b) ∧ IsPerm (deepP r b) := by
  have h1 := ok_all
  rw [Bool.and_eq_true, List.all_eq_true, List.all_eq_true] at h1
  have h2 : okB r b = true := by
    cases b with
    | false => exact h1.1 r (List.mem_range.2 (by unfold deepN at h; simp at h; omega))
    | true => exact h1.2 r (List.mem_range.2 (by unfold deepN at h; simp at h; omega))
  unfold okB at h2
  rw [Bool.and_eq_true, Bool.and_eq_true, Bool.and_eq_true, decide_eq_true_eq, decide_eq_true_eq] at h2
  exact ⟨h2.1, h2.2.1, h2.2.2.1, isPerm_of h2.2.2.2⟩
theorem deep_no (r : Nat) (b : Bool) (hr : r < 8) (h : 60 < deepN r b) : fillOut (fillN 70 (deepT r b) 0).2 = none := by
  have h1 := List.all_eq_true.1 no_all r (List.mem_range.2 hr)
  rw [Bool.and_eq_true, Bool.or_eq_true, Bool.or_eq_true, decide_eq_true_eq, decide_eq_true_eq, decide_eq_true_eq, decide_eq_true_eq] at h1
  cases b with
  | false => exact h1.1.resolve_left (by unfold deepN at h; simp at h; omega)
  | true => exact h1.2.resolve_left (by unfold deepN at h; simp at h; omega)

theorem chain_non : ∀ k d, NonT d (chainI k)
  | _, 0 => trivial
  | 0, d + 1 => ⟨(fun z hz => by cases hz), (fun u hu => by cases hu)⟩
  | k + 1, d + 1 => ⟨(fun z hz => by cases hz), fun u hu => by
      have hu : u ∈ [leafI, chainI k] := hu
      rw [List.mem_cons, List.mem_singleton] at hu
      rcases hu with rfl | rfl
      · exact chain_non 0 d
      · exact chain_non k d⟩
theorem deep_non (r : Nat) (b : Bool) : NonT 70 (deepT r b) := by
  cases b with
  | false => exact chain_non _ _
  | true =>
    refine ⟨fun z hz => ?_, fun u hu => ?_⟩
    · have hz : z ∈ [(1 : Int), 3, 0, 2] := hz
      simp at hz
      omega
    · have hu : u ∈ [leafI, chainI (55 + r), leafI, leafI] := hu
      simp only [List.mem_cons, List.not_mem_nil, or_false] at hu
      rcases hu with rfl | rfl | rfl | rfl
      · exact chain_non 0 _
      · exact chain_non _ _
      · exact chain_non 0 _
      · exact chain_non 0 _

end Go.Proofs.Ytgdemenokjghoaa
