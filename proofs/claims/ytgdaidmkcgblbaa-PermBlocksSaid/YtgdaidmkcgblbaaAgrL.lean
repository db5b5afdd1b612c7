/-
  The program's fill and the reference's agree: a permutation is simple for the one just if it is for the other, and a tree is filled just if it is canonical.
  The walk of the law's raw again: what it returns lies in new memory. The statement's input as a tree, down to some level, and what cut leaves of it.
  The walk of the law's cut: a tree of the statement's input, to few nodes and few levels.
  How the tree of a statement's input is opened, down to a level.
  What the walk of PermBlocks wants of its two trees: few nodes and levels, and that both sides' Fill say the same.
-/
import Derived.Test.YtgdaidmkcgblbaaBloN
import Derived.Test.YtgdaidmkcgblbaaFilA
import Derived.Test.YtgdaidmkcgblbaaParR
import Derived.Deep.DeepCutAuto
import Derived.Test.YtgdaidmkcgblbaaOpen
import Derived.Deep.Strs
import Derived.Test.YtgdaidmkcgblbaaBackN
set_option linter.unusedVariables false
namespace Go.Proofs.Ytgdaidmkcgblbaa
open Go.RowKit

/-- A strictly rising row of as many steps as it rises. -/
theorem steps_one {a : Nat → Nat} {m : Nat} (h0 : a 0 = 0) (hs : ∀ k, k < m → a k < a (k + 1)) (hm : a m = m) : ∀ k, k ≤ m → a k = k := by
  have lo : ∀ k, k ≤ m → k ≤ a k := fun k hk => by
    induction k with
    | zero => omega
    | succ k ih => have := ih (by omega); have := hs k (by omega); omega
  have up : ∀ d, d ≤ m → a (m - d) ≤ m - d := fun d hd => by
    induction d with
    | zero => rw [Nat.sub_zero, hm]; omega
    | succ d ih =>
      have h1 := ih (by omega)
      have h2 := hs (m - (d + 1)) (by omega)
      rw [show m - (d + 1) + 1 = m - d by omega] at h2
      omega
  intro k hk
  have h1 := lo k hk
  have h2 := up (m - k) (by omega)
  rw [show m - (m - k) = k by omega] at h2
  omega

theorem win_gap {p : List Nat} (hd : p.Nodup) {a b : Nat} (h1 : a < b) (h2 : b ≤ p.length) (h3 : b - a < p.length) : winB p a b = !gapB p a b := by
  unfold winB
  rw [decide_eq_true h3, Bool.true_and, gapR_gapB hd h1 h2]
theorem simpR_iff {p : List Nat} : simpR p = true ↔ ∀ a b, a < p.length → a + 2 ≤ b → b ≤ p.length → winB p a b = false := by
  constructor
  · intro h a b h1 h2 h3
    apply Bool.eq_false_iff.2
    intro hw
    rw [simpR_false h1 h2 h3 hw] at h
    cases h
  · exact fun h => simpR_true fun a h1 b h2 h3 => h a b h1 h2 h3

theorem simple_of_div {p : List Nat} (hd : p.Nodup) (h2 : 2 ≤ p.length) (hl : (longL p).length = p.length) : simpR p = true := by
  obtain ⟨a, h1, h3, h4⟩ := longL_ends p h2
  rw [hl] at h1 h4
  have ha := steps_one h1.first h1.step h1.last
  rw [simpR_iff]
  intro s e q1 q2 q3
  by_cases hse : e - s < p.length
  · rw [win_gap hd (by omega) q3 hse]
    have h5 := h4 s q1
    rw [ha (s + 1) (by omega), ha s (by omega)] at h5
    have h6 := (longE_spec p s q1 h2).2 e (by omega) (by split <;> omega)
    rw [h6]; rfl
  · unfold winB
    rw [decide_eq_false hse, Bool.false_and]

theorem all_gapless {p : List Nat} (hg : Gapless p) {a : Nat} (h1 : 1 ≤ a) (h2 : a < p.length) (h : ∀ i j, i < a → a ≤ j → j < p.length → p.getD i 0 < p.getD j 0) : Gapless (seg p 0 a) ∧ Gapless (seg p a p.length) := by
  have l1 : 0 < (seg p 0 a).length := by rw [seg_length _ _ _ (by omega) (by omega)]; omega
  have l2 : 0 < (seg p a p.length).length := by rw [seg_length _ _ _ (by omega) (by omega)]; omega
  have hmem : ∀ v, v ∈ p → v ∈ seg p 0 a ∨ v ∈ seg p a p.length := fun v hv => by
    obtain ⟨i, hi, rfl⟩ := mem_getD hv
    by_cases hia : i < a
    · exact .inl (mem_seg (by omega) hia (by omega))
    · exact .inr (mem_seg (by omega) hi (Nat.le_refl _))
  have hlt : ∀ u v, u ∈ seg p 0 a → v ∈ seg p a p.length → u < v := fun u v hu hv => by
    obtain ⟨i, i1, i2, rfl⟩ := seg_mem (by omega) (by omega) hu
    obtain ⟨j, j1, j2, rfl⟩ := seg_mem (by omega) (by omega) hv
    exact h i j i2 j1 j2
  constructor
  · refine gapless_of_all (seg_nodup hg.1 _ _) l1 fun v h3 h4 => ?_
    have q1 := minL_low (l := p) (seg_sub (minL_mem l1))
    have q2 := maxL_high (l := p) (seg_sub (maxL_mem l1))
    rcases hmem v (hg.mem (by omega) (by omega)) with g | g
    · exact g
    · have := hlt _ _ (maxL_mem l1) g
      omega
  · refine gapless_of_all (seg_nodup hg.1 _ _) l2 fun v h3 h4 => ?_
    have q1 := minL_low (l := p) (seg_sub (minL_mem l2))
    have q2 := maxL_high (l := p) (seg_sub (maxL_mem l2))
    rcases hmem v (hg.mem (by omega) (by omega)) with g | g
    · have := hlt _ _ g (minL_mem l2)
      omega
    · exact g
theorem all_gapless' {p : List Nat} (hg : Gapless p) {a : Nat} (h1 : 1 ≤ a) (h2 : a < p.length) (h : ∀ i j, i < a → a ≤ j → j < p.length → p.getD j 0 < p.getD i 0) : Gapless (seg p 0 a) ∧ Gapless (seg p a p.length) := by
  have l1 : 0 < (seg p 0 a).length := by rw [seg_length _ _ _ (by omega) (by omega)]; omega
  have l2 : 0 < (seg p a p.length).length := by rw [seg_length _ _ _ (by omega) (by omega)]; omega
  have hmem : ∀ v, v ∈ p → v ∈ seg p 0 a ∨ v ∈ seg p a p.length := fun v hv => by
    obtain ⟨i, hi, rfl⟩ := mem_getD hv
    by_cases hia : i < a
    · exact .inl (mem_seg (by omega) hia (by omega))
    · exact .inr (mem_seg (by omega) hi (Nat.le_refl _))
  have hlt : ∀ u v, u ∈ seg p 0 a → v ∈ seg p a p.length → v < u := fun u v hu hv => by
    obtain ⟨i, i1, i2, rfl⟩ := seg_mem (by omega) (by omega) hu
    obtain ⟨j, j1, j2, rfl⟩ := seg_mem (by omega) (by omega) hv
    exact h i j i2 j1 j2
  constructor
  · refine gapless_of_all (seg_nodup hg.1 _ _) l1 fun v h3 h4 => ?_
    have q1 := minL_low (l := p) (seg_sub (minL_mem l1))
    have q2 := maxL_high (l := p) (seg_sub (maxL_mem l1))
    rcases hmem v (hg.mem (by omega) (by omega)) with g | g
    · exact g
    · have := hlt _ _ (minL_mem l1) g
      omega
  · refine gapless_of_all (seg_nodup hg.1 _ _) l2 fun v h3 h4 => ?_
    have q1 := minL_low (l := p) (seg_sub (minL_mem l2))
    have q2 := maxL_high (l := p) (seg_sub (maxL_mem l2))
    rcases hmem v (hg.mem (by omega) (by omega)) with g | g
    · have := hlt _ _ g (maxL_mem l2)
      omega
    · exact g

/-- A cut is a window. -/
theorem cut_window {p : List Nat} (hg : Gapless p) (h4 : 4 ≤ p.length) (hs : simpR p = true) {a : Nat} (h1 : 1 ≤ a) (h2 : a < p.length) (h : Gapless (seg p 0 a) ∧ Gapless (seg p a p.length)) : False := by
  rw [simpR_iff] at hs
  by_cases ha : 2 ≤ a
  · have hw := hs 0 a (by omega) (by omega) (by omega)
    rw [win_gap hg.1 (by omega) (by omega) (by omega), gapB_of_gapless (by omega) (by omega) h.1] at hw
    cases hw
  · have hw := hs a p.length h2 (by omega) (Nat.le_refl _)
    rw [win_gap hg.1 h2 (Nat.le_refl _) (by omega), gapB_of_gapless h2 (Nat.le_refl _) h.2] at hw
    cases hw
theorem cutsR_more {f : Nat → Bool} : ∀ k, 1 < (cutsR f k).length → ∃ a, 1 ≤ a ∧ a ≤ k ∧ f a = true
  | 0, h => absurd h (by show ¬ 1 < 1; omega)
  | k + 1, h => by
    cases hf : f (k + 1) with
    | true => exact ⟨k + 1, by omega, Nat.le_refl _, hf⟩
    | false =>
      unfold cutsR at h
      rw [hf, if_neg (by simp)] at h
      obtain ⟨a, h1, h2, h3⟩ := cutsR_more k h
      exact ⟨a, h1, by omega, h3⟩
theorem pairs_more {l : List Nat} {x : Nat} (h : 1 < (pairsOf (l ++ [x])).length) : 1 < l.length := by
  rw [pairsOf_length, List.length_append, List.length_singleton] at h
  omega
theorem div_of_simple {p : List Nat} (hp : IsPerm p) (h4 : 4 ≤ p.length) (hs : simpR p = true) : divL p = (3, longL p) ∧ (longL p).length = p.length := by
  have hg := gapless_perm hp (by omega)
  have c1 : ¬ 1 < (lessL p).length := fun h => by
    rw [lessL_R (by omega)] at h
    obtain ⟨a, a1, a2, a3⟩ := cutsR_more _ (pairs_more h)
    exact cut_window hg h4 hs a1 (by omega) (all_gapless hg a1 (by omega) fun i j q1 q2 q3 => (allB_iff.1 a3 i j q1 q2 q3).2 rfl)
  have c2 : ¬ 1 < (greatL p).length := fun h => by
    rw [greatL_R (by omega) hp.2] at h
    obtain ⟨a, a1, a2, a3⟩ := cutsR_more _ (pairs_more h)
    refine cut_window hg h4 hs a1 (by omega) (all_gapless' hg a1 (by omega) fun i j q1 q2 q3 => ?_)
    have b1 : ¬ p.getD i 0 < p.getD j 0 := fun hlt => by have := (allB_iff.1 a3 i j q1 q2 q3).1 hlt; omega
    have b2 : p.getD i 0 ≠ p.getD j 0 := fun e => by have := hp.2 i j (by omega) q3 e; omega
    omega
  refine ⟨divL_three c1 c2, single_count (by omega) fun s hs' => ?_⟩
  obtain ⟨t1, t2⟩ := longE_top (p := p) (s := s) hs' (by omega)
  obtain ⟨l1, l2⟩ := longE_spec p s hs' (by omega)
  have hle : longE p s ≤ (if s = 0 then p.length - 1 else p.length) := longEnd_le p s _
  apply Classical.byContradiction
  intro hne
  have hw := simpR_iff.1 hs s (longE p s) hs' (by omega) t2
  rw [win_gap hg.1 t1 t2 (by split at hle <;> omega), l1] at hw
  cases hw

/-- The program finds a permutation simple just if the reference does. -/
theorem simpleI_R (l : List Int) : simpleI l = (decide (4 ≤ l.length) && (chkB l && simpR (natsOf l))) := by
  unfold simpleI
  by_cases h4 : 4 ≤ l.length
  · rw [decide_eq_true h4, Bool.true_and, Bool.true_and]
    by_cases hc : ChkP l
    · rw [(chkB_iff l).2 hc, Bool.true_and, Bool.true_and]
      have hp := hc.perm
      have hl := natsOf_length l
      have hg := gapless_perm hp (by omega)
      rw [Bool.eq_iff_iff, Bool.and_eq_true, decide_eq_true_eq, decide_eq_true_eq]
      constructor
      · rintro ⟨q1, q2⟩
        have e3 : (divL (natsOf l)).2 = longL (natsOf l) := by
          unfold divL at q1 ⊢
          split
          · next h => rw [if_pos h] at q1; cases q1
          · next h =>
            rw [if_neg h] at q1
            split
            · next h' => rw [if_pos h'] at q1; cases q1
            · rfl
        rw [e3, ← hl] at q2
        exact simple_of_div hg.1 (by omega) q2
      · intro hs
        obtain ⟨q1, q2⟩ := div_of_simple hp (by omega) hs
        rw [q1]
        exact ⟨rfl, by rw [q2, hl]⟩
    · have : chkB l = false := Bool.eq_false_iff.2 fun h => hc ((chkB_iff l).1 h)
      rw [this]; rfl
  · rw [decide_eq_false h4]; rfl

/-- A node alone is right for the one just if it is for the other. -/
theorem wellF_R (t : IT) : wellF t = if t.kind = 0 then (decide (t.perm.length = 0) && decide (t.parts.length = 0)) else nodeR t := by
  by_cases k0 : t.kind = 0
  · rw [wellF_zero k0, if_pos k0]
  · rw [if_neg k0]
    by_cases k12 : t.kind = 1 ∨ t.kind = 2
    · rw [wellF_cut k12, nodeR_cut k12]
    · by_cases k3 : t.kind = 3
      · rw [wellF_three k3, nodeR_three k3, simpleI_R]
        by_cases h : t.perm.length = t.parts.length
        · rw [h]
          cases decide (4 ≤ t.parts.length) <;> cases decide (t.parts.length = t.parts.length) <;> rfl
        · rw [decide_eq_false h, Bool.false_and, Bool.false_and, Bool.and_false]
      · rw [wellF_no ⟨k0, by omega, by omega, k3⟩, nodeR_no ⟨by omega, by omega, k3⟩]

theorem fillP_agree {d : Nat} {kind : Int} (ih : ∀ (t : IT) (c : Nat), c + nodeN d t ≤ 1000 → (canonB d t = true → fillN d t c = (c + nodeN d t, some (fillR d t))) ∧ (canonB d t = false → (fillN d t c).2 = none)) :
    ∀ (ts : List IT) (c : Nat) (acc : List (List Nat)), c + sumF (nodeN d) ts ≤ 1000 →
      (ts.all (partR (canonB d) kind) = true → fillP (fillN d) kind ts c acc = (c + sumF (nodeN d) ts, some (acc ++ ts.map (fillR d)))) ∧ (ts.all (partR (canonB d) kind) = false → (fillP (fillN d) kind ts c acc).2 = none)
  | [], c, acc, _ => ⟨fun _ => by rw [fillP_nil]; simp [sumF], fun h => by cases h⟩
  | t :: ts, c, acc, hc => by
    have hsum : sumF (nodeN d) (t :: ts) = nodeN d t + sumF (nodeN d) ts := rfl
    rw [hsum] at hc ⊢
    obtain ⟨i1, i2⟩ := ih t c (by omega)
    rw [List.all_cons]
    cases hcan : canonB d t with
    | false =>
      have hp : partR (canonB d) kind t = false := by unfold partR; rw [hcan, Bool.and_false]
      rw [hp, Bool.false_and]
      refine ⟨(fun h => by cases h), fun _ => ?_⟩
      have h := i2 hcan
      rcases hf : fillN d t c with ⟨c1, _ | l⟩
      · rw [fillP_none hf]
      · rw [hf] at h; cases h
    | true =>
      have hf := i1 hcan
      by_cases hk : t.kind = kind ∧ kind ≠ 3
      · have hp : partR (canonB d) kind t = false := by unfold partR; rw [decide_eq_true hk.2, decide_eq_true hk.1]; rfl
        rw [hp, Bool.false_and]
        refine ⟨(fun h => by cases h), fun _ => ?_⟩
        rw [fillP_same hf hk]
      · have hp : partR (canonB d) kind t = true := by
          unfold partR
          rw [hcan, Bool.and_true]
          by_cases h3 : kind = 3
          · rw [decide_eq_false (fun h => h h3)]; rfl
          · rw [decide_eq_false (fun h => hk ⟨h, h3⟩), Bool.and_false]; rfl
        rw [hp, Bool.true_and, fillP_some hf hk]
        obtain ⟨q1, q2⟩ := fillP_agree ih ts (c + nodeN d t) (acc ++ [fillR d t]) (by omega)
        refine ⟨fun h => ?_, q2⟩
        rw [q1 h, List.append_assoc, Nat.add_assoc]
        rfl

/-- What the program fills is what the reference fills. -/
theorem fill_agree : ∀ (d : Nat) (t : IT) (c : Nat), c + nodeN d t ≤ 1000 → (canonB d t = true → fillN d t c = (c + nodeN d t, some (fillR d t))) ∧ (canonB d t = false → (fillN d t c).2 = none)
  | 0, t, c, _ => ⟨(fun h => by cases h), fun _ => rfl⟩
  | d + 1, t, c, hc => by
    have hn : nodeN (d + 1) t = 1 + sumF (nodeN d) t.parts := rfl
    have hlt : ¬ 1000 < c + 1 := by omega
    have hw := wellF_R t
    by_cases k0 : t.kind = 0
    · rw [if_pos k0] at hw
      rw [canon_leaf k0, ← hw]
      refine ⟨fun h => ?_, fun h => by rw [fillN_bad hlt h]⟩
      have hq : t.parts.length = 0 := by
        rw [hw, Bool.and_eq_true, decide_eq_true_eq, decide_eq_true_eq] at h
        exact h.2
      have e : t.parts = [] := List.length_eq_zero_iff.1 hq
      rw [fillN_leaf hlt h k0, fillR_leaf hq, hn, e]
      rfl
    · rw [if_neg k0] at hw
      rw [canon_node k0, ← hw]
      cases hwf : wellF t with
      | false => exact ⟨(fun h => by cases h), fun _ => by rw [fillN_bad hlt hwf]⟩
      | true =>
        rw [Bool.true_and]
        obtain ⟨q1, q2⟩ := fillP_agree (kind := t.kind) (fill_agree d) t.parts (c + 1) [] (by omega)
        have h2 := (wellF_cases hwf k0).2
        refine ⟨fun h => ?_, fun h => ?_⟩
        · have hp := q1 h
          rw [List.nil_append] at hp
          rw [fillN_parts_some hlt hwf k0 hp, fillR_node (by omega), hn, List.length_map]
          congr 1
          omega
        · have hp := q2 h
          rcases hf : fillP (fillN d) t.kind t.parts (c + 1) [] with ⟨c2, _ | ls⟩
          · rw [fillN_parts_none hlt hwf k0 hf]
          · rw [hf] at hp; cases hp

end Go.Proofs.Ytgdaidmkcgblbaa

set_option linter.unusedVariables false
namespace Go.Proofs.Ytgdaidmkcgblbaa
open Go.RowKit

theorem own_ints {w : World} {B g cap m : Nat} {zs : List Int} (h : w.ownsRow B 3 1 (.slice (some ⟨g, 0, none⟩) m cap) m (zs.map (Value.int .i64))) (i : Nat) (hi : i < m) : w.cell? ⟨g, i, none⟩ = some (.int .i64 (zs.getD i 0)) := by
  rw [own_cell h i hi]
  have hl := h.1
  rw [List.length_map, Nat.mul_one] at hl
  simp [List.getD_eq_getElem?_getD, show i < zs.length by omega]

theorem own_capZ {w : World} {B cap n : Nat} {A : Option Addr} {e : TypeId} {xs : List Value} (h : w.ownsRow B e 1 (.slice A n cap) n xs) : cap ≤ 9223372036854775807 := by
  obtain ⟨hl, ⟨e1, _⟩ | ⟨g', cap', cur, e1, hb, hg, hc, hm, hs, ht⟩⟩ := h
  · injection e1 with e1 e2 e3
    omega
  · injection e1 with e1 e2 e3
    subst e3
    unfold maxLen at hm
    omega

set_option maxRecDepth 100000 in
theorem raw_new (A : Option Addr) (n cap most : Nat) (zs : List Int) (w : World) (hR : Rl w A n zs) (hcap : n ≤ cap) (hm : most ≤ 100) :
    Calls Try.prog 14 #[.slice A n cap, .int .i64 most] w fun e w' => ∃ A' c', e = .returned (.slice A' (zs.take most).length c') ∧ PermZ w' w.heap.size w'.heap.size (zs.take most) (.slice A' (zs.take most).length c') ∧ Below w.heap.size w w' := by
  obtain ⟨i0, hi, hz0, hz1, hz2⟩ := info_parts info_int'
  have hl := hR.1
  have hmax := hR.2.1
  have hbd : ∀ z ∈ zs.take most, -9223372036854775808 ≤ z ∧ z ≤ 9223372036854775807 := fun z hz => hR.2.2.1 z (List.mem_of_mem_take hz)
  have Hbd := Lib.hid hbd
  clear hbd
  rcases Nat.eq_zero_or_pos n with h0 | h0
  · subst h0
    have hmin : min (0 : Int) (most : Int) = 0 := by omega
    have hrun := fun W => run_append_none (P := Try.prog) (t := 22) (ty := 22) (e := 3) i0 (.int .i64 0) Try.underlying22 hi hz0 A cap W
    have Hz := Lib.hid (List.eq_nil_of_length_eq_zero hl)
    clear hl hR
    go_enter Try.func14, Try.ntmps14
    go_wp2_with (at_builtin; refine wpList_append_run rfl rfl rfl rfl (hrun _) ?_)
    all_goals
      go_ret
      exact ⟨none, 0, by rw [Hz.out]; simp, by rw [Hz.out]; simp only [List.take_nil]; exact ⟨none, 0, rfl, ⟨Nat.le_refl _, by omega, by show 0 ≤ _; omega⟩, (fun z h => by cases h), fun h => absurd h (by simp)⟩, Below.refl _ _⟩
  · obtain ⟨b, off, rfl, hs, hc⟩ := hR.2.2.2 h0
    obtain ⟨m, hm'⟩ : ∃ m, m = min n most := ⟨_, rfl⟩
    have hnews := hR.cellsAt m (by omega)
    have htk : zs.take most = zs.take m := by
      rw [hm']
      by_cases h : n ≤ most
      · rw [List.take_of_length_le (by omega), List.take_of_length_le (by omega)]
      · rw [Nat.min_eq_right (by omega)]
    have htl : (zs.take m).length = m := by rw [List.length_take]; omega
    have hq1 : ((zs.take m).map (Value.int .i64)).length = m * 1 := by rw [List.length_map, List.length_take]; omega
    have hq2 : 0 + m ≤ maxLen := by unfold maxLen; omega
    have hq3 : (0 + m) * 8 ≤ 140737488355328 := by omega
    have hmn : min (n : Int) (most : Int) = (m : Int) := by omega
    have hmle : m ≤ n := by omega
    have hm100 : m ≤ 100 := by omega
    rw [htk] at Hbd ⊢
    have Hn := Lib.hid hnews
    have Htl := Lib.hid htl
    clear hm' hnews hc hR hl htk htl
    go_enter Try.func14, Try.ntmps14
    go_wp2_with (at_builtin; refine wpList_append_own _ rfl _ _ 22 rfl w.heap.size 3 i0 (.int .i64 0) 1 8 Try.underlying22 hi hz0 hz1 hz2 rfl (by decide) (.slice none 0 0) 0 [] rfl (World.ownsRow_nil _ _ _ _) ⟨b, off, none⟩ m cap ((zs.take m).map (Value.int .i64)) rfl hq1 Hn.out (one_of_ints _) hq2 hq3 (Nat.le_refl _) ?_)
    intro v' w' hown hgrow _
    have hb : Below w.heap.size w w' := (Below.refl _ _).grown hgrow (Nat.le_refl _) (fun k e => by cases e)
    rw [← List.map_take] at hown
    have HZ : Hid (∃ A' c', v' = .slice A' (zs.take m).length c' ∧ PermZ w' w.heap.size w'.heap.size (zs.take m) (.slice A' (zs.take m).length c')) := by
      show ∃ _ _, _
      rcases Nat.eq_zero_or_pos m with h | h
      · subst h
        obtain ⟨A', c', rfl⟩ := own_slice hown
        have hc := own_capZ hown
        exact ⟨A', c', rfl, A', c', rfl, ⟨by rw [Htl.out]; exact Nat.zero_le _, hc, by rw [Htl.out]; omega⟩, Hbd.out, fun h => absurd h (by rw [Htl.out]; omega)⟩
      · obtain ⟨g, c', rfl⟩ := own_pos hown h
        have hcc := own_cap hown
        have hlt := own_lt hown
        exact ⟨some ⟨g, 0, none⟩, c', by rw [Htl.out], some ⟨g, 0, none⟩, c', rfl, ⟨by rw [Htl.out]; exact hcc.1, hcc.2, by rw [Htl.out]; omega⟩, Hbd.out, fun _ => ⟨g, 0, rfl, hlt.2, hlt.1, fun i hi => by
          rw [Htl.out] at hi
          rw [Nat.zero_add]
          exact own_ints hown i hi⟩⟩
    obtain ⟨A', c', rfl, hZ⟩ := HZ.out
    have HZ' := Lib.hid hZ
    clear hown hgrow HZ hZ
    go_wp2
    go_ret
    exact ⟨A', c', rfl, HZ'.out, hb⟩

/-- A tree of the statement's input, down to a level. -/
def InT (w : World) : Nat → IT → Value → Value → Prop
  | 0, t, pv, sv => ∃ pa pn pc A n c, pv = .slice pa pn pc ∧ sv = .slice A n c ∧ Rl w pa pn t.perm ∧ pn ≤ pc ∧ t.parts = []
  | d + 1, t, pv, sv => ∃ pa pn pc A c, pv = .slice pa pn pc ∧ sv = .slice A t.parts.length c ∧ Rl w pa pn t.perm ∧ pn ≤ pc ∧
      (0 < t.parts.length → ∃ g off, A = some ⟨g, off, none⟩ ∧ g < w.heap.size ∧ ∀ i (h : i < t.parts.length), ∃ pv' sv', w.cell? ⟨g, off + i * 3, none⟩ = some (.int .i64 (t.parts[i]).kind) ∧ w.cell? ⟨g, off + i * 3 + 1, none⟩ = some pv' ∧ w.cell? ⟨g, off + i * 3 + 2, none⟩ = some sv' ∧ InT w d t.parts[i] pv' sv')
/-- What cut leaves. -/
def cutI : Nat → IT → IT
  | 0, t => .node t.kind (t.perm.take 8) []
  | d + 1, t => .node t.kind (t.perm.take 8) ((t.parts.take 5).map (cutI d))

end Go.Proofs.Ytgdaidmkcgblbaa

namespace Go.Proofs.Ytgdaidmkcgblbaa
open Go.RowKit

theorem InT.below {w w' : World} (hb : Below w.heap.size w w') : ∀ (d : Nat) (t : IT) (pv sv : Value), InT w d t pv sv → InT w' d t pv sv
  | 0, _, _, _, ⟨pa, pn, pc, A, n, c, e1, e2, hR, h⟩ => ⟨pa, pn, pc, A, n, c, e1, e2, hR.below hb, h⟩
  | d + 1, t, _, _, ⟨pa, pn, pc, A, c, e1, e2, hR, hpc, h⟩ => ⟨pa, pn, pc, A, c, e1, e2, hR.below hb, hpc, fun h0 => by
      obtain ⟨g, off, e, hg, hr⟩ := h h0
      refine ⟨g, off, e, Nat.lt_of_lt_of_le hg hb.size, fun i hi => ?_⟩
      obtain ⟨pv', sv', k1, k2, k3, k4⟩ := hr i hi
      exact ⟨pv', sv', (hb.cell (p := ⟨g, off + i * 3, none⟩) hg).trans k1, (hb.cell (p := ⟨g, off + i * 3 + 1, none⟩) hg).trans k2, (hb.cell (p := ⟨g, off + i * 3 + 2, none⟩) hg).trans k3, InT.below hb d _ _ _ k4⟩⟩
theorem InT.slices {w : World} : ∀ {d : Nat} {t : IT} {pv sv : Value}, InT w d t pv sv → ∃ pa pn pc A n c, pv = .slice pa pn pc ∧ sv = .slice A n c
  | 0, _, _, _, ⟨pa, pn, pc, A, n, c, e1, e2, _⟩ => ⟨pa, pn, pc, A, n, c, e1, e2⟩
  | _ + 1, _, _, _, ⟨pa, pn, pc, A, c, e1, e2, _⟩ => ⟨pa, pn, pc, A, _, c, e1, e2⟩

set_option maxRecDepth 100000 in
set_option maxHeartbeats 8000000 in
theorem cut_step (d : Nat) (hd3 : d ≤ 3) (K : Int) (L : List Int) (TS : List IT) (m : Nat) (pa : Option Addr) (pn pc : Nat) (A : Option Addr) (n c : Nat) (w : World) (hR : Rl w pa pn L) (hpc : pn ≤ pc) (hTl : TS.length = m) (hm5 : m ≤ 5)
    (hin : ∀ k, k < m → k < n ∧ 0 < d) (hout : ¬ m < n ∨ ¬ m < 5 ∨ d = 0)
    (hround : ∀ k, k < m → ∃ (u : IT) (U : Int) (g off : Nat) (qa : Option Addr) (qn qc : Nat) (B : Option Addr) (mm cc : Nat), TS.take (k + 1) = TS.take k ++ [u] ∧ A = some ⟨g, off, none⟩ ∧ g < w.heap.size ∧ w.cell? ⟨g, off + k * 3, none⟩ = some (.int .i64 U) ∧ w.cell? ⟨g, off + k * 3 + 1, none⟩ = some (.slice qa qn qc) ∧ w.cell? ⟨g, off + k * 3 + 2, none⟩ = some (.slice B mm cc) ∧
      ∀ W, Below w.heap.size w W → Calls Try.prog 53 #[.agg #[.int .i64 U, .slice qa qn qc, .slice B mm cc], .int .i64 ((d : Int) - 1)] W (RetNew d u W)) :
    Calls Try.prog 53 #[.agg #[.int .i64 K, .slice pa pn pc, .slice A n c], .int .i64 d] w (RetNew (d + 1) (.node K (L.take 8) TS) w) := by
  obtain ⟨i0, hi, hz0, hz1, hz2⟩ := info_parts info_rtree
  obtain ⟨P, hP⟩ : ∃ P, P = L.take 8 := ⟨_, rfl⟩
  obtain ⟨W1, hW1⟩ : ∃ W1, W1 = w.alloc (.cells #[.int .i64 K, .slice pa pn pc, .slice A n c] 64) := ⟨_, rfl⟩
  have hb1 : Below w.heap.size w W1 := by rw [hW1]; exact below_new' w _
  have hbx1 : Blk W1 w.heap.size 64 #[.int .i64 K, .slice pa pn pc, .slice A n c] := by rw [hW1]; exact Blk.new w _ _
  have hs1 : W1.heap.size = w.heap.size + 1 := by rw [hW1]; exact size_new' w _
  obtain ⟨W2, hW2⟩ : ∃ W2, W2 = W1.alloc (.cells #[.int .i64 0, .slice none 0 0, .slice none 0 0] 64) := ⟨_, rfl⟩
  have hb2 : Below w.heap.size w W2 := by rw [hW2]; exact hb1.alloc hb1.size _
  have hbx2 : Blk W2 w.heap.size 64 #[.int .i64 K, .slice pa pn pc, .slice A n c] := by rw [hW2]; exact Blk.more' hbx1 _
  have hre2 : Blk W2 (w.heap.size + 1) 64 #[.int .i64 0, .slice none 0 0, .slice none 0 0] := by rw [hW2, ← hs1]; exact Blk.new W1 _ _
  have hs2 : W2.heap.size = w.heap.size + 1 + 1 := by rw [hW2, size_new', hs1]
  have Hraw := Lib.hid (fun W (hW : Below W2.heap.size W2 W) => raw_new pa pn pc 8 L W (hR.below (hb2.trans (hW.mono hb2.size))) hpc (by omega))
  rw [← hP] at Hraw ⊢
  have Hbx2 := Lib.hid hbx2
  have Hre2 := Lib.hid hre2
  have Hb2 := Lib.hid hb2
  have Hround := Lib.hid hround
  have Hin := Lib.hid hin
  have Hout := Lib.hid hout
  have hwW : w.heap.size < W2.heap.size := by omega
  have hwW1 : w.heap.size + 1 < W2.heap.size := by omega
  clear hround hR hb1 hbx1 hbx2 hre2 hb2 hP hin hout
  go_enter Try.func53, Try.ntmps53
  go_upto_region 1 with fail
  rw [← hW1, ← hW2]
  clear hW1 hW2 hs1 hs2
  go_cut [5] (fun gv wx => ∃ (g5 : Nat) (A' : Option Addr) (c' : Nat), gv = .pointer (some ⟨g5, 0, none⟩) ∧ W2.heap.size ≤ g5 ∧ Blk wx g5 64 #[.int .i64 K, .slice A' P.length c', .slice none 0 0] ∧ PermS wx (fun g => W2.heap.size ≤ g ∧ g < wx.heap.size ∧ g ≠ g5) P (.slice A' P.length c') ∧ Below W2.heap.size W2 wx)
  case first =>
    as_aux_lemma =>
      obtain ⟨S5, HS1, HS2⟩ : ∃ S5 : World → Prop, Hid (∀ W, S5 W → W.cell? ⟨w.heap.size, 0, none⟩ = some (.int .i64 K) ∧ W.cell? ⟨w.heap.size, 1, none⟩ = some (.slice pa pn pc) ∧ W.cell? ⟨w.heap.size, 2, none⟩ = some (.slice A n c)) ∧ Hid (∀ W, Below W2.heap.size W2 W → S5 W) :=
        ⟨fun W => _, Lib.hid (fun _ h => h), Lib.hid (fun W hW => by obtain ⟨d0, d1, d2, -, -, -⟩ := blk_three (Hbx2.out.below hW Hbx2.out.lt); exact ⟨d0, d1, d2⟩)⟩
      have Hbd : Hid (Below W2.heap.size W2 W2.drew) := (Below.refl _ _).drew
      refine wp_region_held_drew (S := S5) (by kernel_rfl) (HS2.out _ Hbd.out) (fun hHeld => ?_)
      refine wpAnyH_take (i := 0) (v := .pointer (some ⟨w.heap.size, 0, none⟩)) rfl (by kernel_rfl) (by kernel_rfl) (by kernel_rfl) (fun _ _ _ h => h) (Or.inl ⟨by kernel_rfl, fun W hW => by go_simp⟩) hHeld ?_
      go_simp
      refine wpAnyH_take (i := 1) (v := .int .i64 K) rfl (by kernel_rfl) (by kernel_rfl) (by kernel_rfl) (fun _ _ _ h => h) (Or.inl ⟨by kernel_rfl, fun W hW => by obtain ⟨d0, d1, d2⟩ := HS1.out W hW; go_simp⟩) hHeld ?_
      go_simp
      refine wpAnyH_take (i := 2) (v := .pointer (some ⟨w.heap.size, 1, none⟩)) rfl (by kernel_rfl) (by kernel_rfl) (by kernel_rfl) (fun _ _ _ h => h) (Or.inl ⟨by kernel_rfl, fun W hW => by go_simp⟩) hHeld ?_
      go_simp
      refine wpAnyH_take (i := 3) (v := .slice pa pn pc) rfl (by kernel_rfl) (by kernel_rfl) (by kernel_rfl) (fun _ _ _ h => h) (Or.inl ⟨by kernel_rfl, fun W hW => by obtain ⟨d0, d1, d2⟩ := HS1.out W hW; go_simp⟩) hHeld ?_
      go_simp
      refine wpAnyH_ready (rs := [4, 6]) (by kernel_rfl) (by simp) (AllReadyH.cons rfl (fun K' hK => ?_) (AllReadyH.cons rfl (fun K' hK => ?_) AllReadyH.nil))
      · rw [if_pos (by kernel_rfl)]
        go_simp
        refine (Hraw.out _ Hbd.out).mono ?_
        rintro ee w3 ⟨A', c', rfl, hZ, hb3⟩
        dsimp only
        have Hb3 := Lib.hid (Hbd.out.trans (hb3.mono Hbd.out.size))
        have HZ := Lib.hid hZ
        have hzp : W2.heap.size ≤ w3.heap.size := Hb3.out.size
        refine hK.out _ _ (HS2.out _ Hb3.out) (fun hHeld => ?_)
        clear hb3 hZ hK
        go_simp
        refine wpAnyH_take (i := 5) (v := .agg #[.int .i64 K, .slice A' P.length c', .slice none 0 0]) rfl (by kernel_rfl) (by kernel_rfl) (by kernel_rfl) (fun _ _ _ h => h) (Or.inl ⟨by kernel_rfl, fun W hW => by go_simp⟩) hHeld ?_
        go_simp
        refine wpAnyH_ready (rs := [6]) (by kernel_rfl) (by simp) (AllReadyH.cons rfl (fun K' hK => ?_) AllReadyH.nil)
        rw [if_pos (by kernel_rfl)]
        go_simp
        have hWA := Blk.new w3 64 #[.int .i64 0, .slice none 0 0, .slice none 0 0]
        have hWk := fun g (hg : g < w3.heap.size) => Below.heap_alloc w3 (.cells #[.int .i64 0, .slice none 0 0, .slice none 0 0] 64) g hg
        have hWs := size_new' w3 (.cells #[.int .i64 0, .slice none 0 0, .slice none 0 0] 64)
        have HbA := Lib.hid (Hb3.out.alloc Hb3.out.size (.cells #[.int .i64 0, .slice none 0 0, .slice none 0 0] 64))
        refine hK.out _ _ (HS2.out _ HbA.out) (fun hHeld => ?_)
        generalize w3.alloc (.cells #[.int .i64 0, .slice none 0 0, .slice none 0 0] 64) = WA at *
        have HPS : Hid (PermS (((WA.setCell ⟨w3.heap.size, 0, none⟩ (.int .i64 K)).setCell ⟨w3.heap.size, 1, none⟩ (.slice A' P.length c')).setCell ⟨w3.heap.size, 2, none⟩ (.slice none 0 0)) (fun g => W2.heap.size ≤ g ∧ g < (((WA.setCell ⟨w3.heap.size, 0, none⟩ (.int .i64 K)).setCell ⟨w3.heap.size, 1, none⟩ (.slice A' P.length c')).setCell ⟨w3.heap.size, 2, none⟩ (.slice none 0 0)).heap.size ∧ g ≠ w3.heap.size) P (.slice A' P.length c')) :=
          HZ.out.toS.keep (fun g hg => ⟨⟨Nat.le_trans Hbd.out.size hg.1, by simp [World.setCell]; have := hg.2; omega, by have := hg.2; omega⟩, ((Below.heap_setCell _ _ _ _ (by show g ≠ w3.heap.size; have := hg.2; omega)).trans ((Below.heap_setCell _ _ _ _ (by show g ≠ w3.heap.size; have := hg.2; omega)).trans (Below.heap_setCell _ _ _ _ (by show g ≠ w3.heap.size; have := hg.2; omega)))).trans (hWk g hg.2)⟩)
        clear hWk hWs hK
        have hset := ((hWA.store 0 (.int .i64 K)).store 1 (.slice A' P.length c')).store 2 (.slice none 0 0)
        have hset' : Blk (((WA.setCell ⟨w3.heap.size, 0, none⟩ (.int .i64 K)).setCell ⟨w3.heap.size, 1, none⟩ (.slice A' P.length c')).setCell ⟨w3.heap.size, 2, none⟩ (.slice none 0 0)) w3.heap.size 64 #[.int .i64 K, .slice A' P.length c', .slice none 0 0] := by simpa using hset
        have hbF := ((HbA.out.setCell (p := ⟨w3.heap.size, 0, none⟩) hzp (.int .i64 K)).setCell (p := ⟨w3.heap.size, 1, none⟩) hzp (.slice A' P.length c')).setCell (p := ⟨w3.heap.size, 2, none⟩) hzp (.slice none 0 0)
        have hkf : ∀ g, g ≠ w3.heap.size → (((WA.setCell ⟨w3.heap.size, 0, none⟩ (.int .i64 K)).setCell ⟨w3.heap.size, 1, none⟩ (.slice A' P.length c')).setCell ⟨w3.heap.size, 2, none⟩ (.slice none 0 0)).heap[g]? = WA.heap[g]? := fun g hg =>
          (Below.heap_setCell _ _ _ _ hg).trans ((Below.heap_setCell _ _ _ _ hg).trans (Below.heap_setCell _ _ _ _ hg))
        have hzf : (((WA.setCell ⟨w3.heap.size, 0, none⟩ (.int .i64 K)).setCell ⟨w3.heap.size, 1, none⟩ (.slice A' P.length c')).setCell ⟨w3.heap.size, 2, none⟩ (.slice none 0 0)).heap.size = WA.heap.size := by simp [World.setCell]
        have Hset := Lib.hid hset'
        have HbF := Lib.hid hbF
        have Hkf := Lib.hid hkf
        have Hzf := Lib.hid hzf
        obtain ⟨x0, x1, x2, y0, y1, y2⟩ := blk_three hWA
        clear hset hset' hbF hkf hzf
        refine wpAnyH_ready (rs := [7]) (by kernel_rfl) (by simp) (AllReadyH.cons rfl (fun K' hK => ?_) AllReadyH.nil)
        rw [if_pos (by kernel_rfl)]
        go_simp
        refine hK.out _ _ (HS2.out _ HbF.out) (fun hHeld => ?_)
        go_simp
        refine wpAnyH_done (by kernel_rfl) ?_ _
        clear hHeld hK
        go_simp
        go_wp2_with fail
        go_meet
        exact ⟨w3.heap.size, A', c', rfl, hzp, Hset.out, HPS.out, HbF.out⟩
      · rw [if_pos (by kernel_rfl)]
        go_simp
        have hWB : Blk (W2.alloc (.cells #[.int .i64 0, .slice none 0 0, .slice none 0 0] 64)).drew W2.heap.size 64 #[.int .i64 0, .slice none 0 0, .slice none 0 0] := Blk.new W2 _ _
        have HbB : Hid (Below W2.heap.size W2 (W2.alloc (.cells #[.int .i64 0, .slice none 0 0, .slice none 0 0] 64)).drew) := Lib.hid (((Below.refl W2.heap.size W2).alloc (Nat.le_refl _) (.cells #[.int .i64 0, .slice none 0 0, .slice none 0 0] 64)).drew)
        have hBs : (W2.alloc (.cells #[.int .i64 0, .slice none 0 0, .slice none 0 0] 64)).drew.heap.size = W2.heap.size + 1 := size_new' W2 (.cells #[.int .i64 0, .slice none 0 0, .slice none 0 0] 64)
        refine hK.out _ _ (HS2.out _ HbB.out) (fun hHeld => ?_)
        go_simp
        generalize (W2.alloc (.cells #[.int .i64 0, .slice none 0 0, .slice none 0 0] 64)).drew = WB at *
        clear hK
        refine wpAnyH_ready (rs := [4]) (by kernel_rfl) (by simp) (AllReadyH.cons rfl (fun K' hK => ?_) AllReadyH.nil)
        rw [if_pos (by kernel_rfl)]
        go_simp
        refine (Hraw.out _ HbB.out).mono ?_
        rintro ee WA ⟨A', c', rfl, hZ, hb3⟩
        dsimp only
        have HbA := Lib.hid (HbB.out.trans (hb3.mono HbB.out.size))
        have hWA : Blk WA W2.heap.size 64 #[.int .i64 0, .slice none 0 0, .slice none 0 0] := hWB.below hb3 hWB.lt
        have hzp : W2.heap.size ≤ W2.heap.size := Nat.le_refl _
        have HPS : Hid (PermS (((WA.setCell ⟨W2.heap.size, 0, none⟩ (.int .i64 K)).setCell ⟨W2.heap.size, 1, none⟩ (.slice A' P.length c')).setCell ⟨W2.heap.size, 2, none⟩ (.slice none 0 0)) (fun g => W2.heap.size ≤ g ∧ g < (((WA.setCell ⟨W2.heap.size, 0, none⟩ (.int .i64 K)).setCell ⟨W2.heap.size, 1, none⟩ (.slice A' P.length c')).setCell ⟨W2.heap.size, 2, none⟩ (.slice none 0 0)).heap.size ∧ g ≠ W2.heap.size) P (.slice A' P.length c')) :=
          hZ.toS.keep (fun g hg => ⟨⟨by have := hg.1; omega, by simp [World.setCell]; exact hg.2, by have := hg.1; omega⟩, (Below.heap_setCell _ _ _ _ (by show g ≠ W2.heap.size; have := hg.1; omega)).trans ((Below.heap_setCell _ _ _ _ (by show g ≠ W2.heap.size; have := hg.1; omega)).trans (Below.heap_setCell _ _ _ _ (by show g ≠ W2.heap.size; have := hg.1; omega)))⟩)
        refine hK.out _ _ (HS2.out _ HbA.out) (fun hHeld => ?_)
        clear hb3 hZ hK hWB
        go_simp
        refine wpAnyH_take (i := 5) (v := .agg #[.int .i64 K, .slice A' P.length c', .slice none 0 0]) rfl (by kernel_rfl) (by kernel_rfl) (by kernel_rfl) (fun _ _ _ h => h) (Or.inl ⟨by kernel_rfl, fun W hW => by go_simp⟩) hHeld ?_
        go_simp
        have hset := ((hWA.store 0 (.int .i64 K)).store 1 (.slice A' P.length c')).store 2 (.slice none 0 0)
        have hset' : Blk (((WA.setCell ⟨W2.heap.size, 0, none⟩ (.int .i64 K)).setCell ⟨W2.heap.size, 1, none⟩ (.slice A' P.length c')).setCell ⟨W2.heap.size, 2, none⟩ (.slice none 0 0)) W2.heap.size 64 #[.int .i64 K, .slice A' P.length c', .slice none 0 0] := by simpa using hset
        have hbF := ((HbA.out.setCell (p := ⟨W2.heap.size, 0, none⟩) hzp (.int .i64 K)).setCell (p := ⟨W2.heap.size, 1, none⟩) hzp (.slice A' P.length c')).setCell (p := ⟨W2.heap.size, 2, none⟩) hzp (.slice none 0 0)
        have hkf : ∀ g, g ≠ W2.heap.size → (((WA.setCell ⟨W2.heap.size, 0, none⟩ (.int .i64 K)).setCell ⟨W2.heap.size, 1, none⟩ (.slice A' P.length c')).setCell ⟨W2.heap.size, 2, none⟩ (.slice none 0 0)).heap[g]? = WA.heap[g]? := fun g hg =>
          (Below.heap_setCell _ _ _ _ hg).trans ((Below.heap_setCell _ _ _ _ hg).trans (Below.heap_setCell _ _ _ _ hg))
        have hzf : (((WA.setCell ⟨W2.heap.size, 0, none⟩ (.int .i64 K)).setCell ⟨W2.heap.size, 1, none⟩ (.slice A' P.length c')).setCell ⟨W2.heap.size, 2, none⟩ (.slice none 0 0)).heap.size = WA.heap.size := by simp [World.setCell]
        have Hset := Lib.hid hset'
        have HbF := Lib.hid hbF
        have Hkf := Lib.hid hkf
        have Hzf := Lib.hid hzf
        obtain ⟨x0, x1, x2, y0, y1, y2⟩ := blk_three hWA
        clear hset hset' hbF hkf hzf
        refine wpAnyH_ready (rs := [7]) (by kernel_rfl) (by simp) (AllReadyH.cons rfl (fun K' hK => ?_) AllReadyH.nil)
        rw [if_pos (by kernel_rfl)]
        go_simp
        refine hK.out _ _ (HS2.out _ HbF.out) (fun hHeld => ?_)
        go_simp
        refine wpAnyH_done (by kernel_rfl) ?_ _
        clear hHeld hK
        go_simp
        go_wp2_with fail
        go_meet
        exact ⟨W2.heap.size, A', c', rfl, hzp, Hset.out, HPS.out, HbF.out⟩
  case rest =>
    obtain ⟨g5, A', c', rfl, hg5, hou, hZ, hbX⟩ := hcut
    obtain ⟨X0, rfl⟩ : ∃ X0 : World, X0 = wc := ⟨_, rfl⟩
    have hg5l := hou.lt
    have Hou := Lib.hid hou
    have HZ := Lib.hid hZ
    have HbxX := Lib.hid (Hbx2.out.below hbX hwW)
    have HreX := Lib.hid (Hre2.out.below hbX hwW1)
    have HbwX := Lib.hid (Hb2.out.trans (hbX.mono Hb2.out.size))
    have hwX : w.heap.size ≤ X0.heap.size := HbwX.out.size
    have hsX2 : W2.heap.size ≤ X0.heap.size := hbX.size
    have hg5r : g5 ≠ w.heap.size + 1 := by omega
    have hg5b : g5 ≠ w.heap.size := by omega
    have hw5 : w.heap.size ≤ g5 := by omega
    have hrX : w.heap.size + 1 < X0.heap.size := by omega
    have hbX0 : w.heap.size < X0.heap.size := by omega
    have HSw : Hid (∀ g, (fun _ : Nat => False) g → g < w.heap.size) := Lib.hid (fun g hg => hg.elim)
    clear hou hZ hbX Hraw Hbx2 Hre2
    go_wp2_with fail
    go_loopw [6] (fun iv wr => ∃ (k : Nat) (v : Value), k ≤ m ∧ iv = .int .i64 k ∧ GrowRel 64 (fun _ => False) X0 g5 K d A' P.length c' (TS.take k) k v w wr) (fun iv _ => m - (intOf iv).toNat)
    case atStart => exact ⟨0, _, Nat.zero_le _, rfl, Hou.out, ⟨[], ⟨rfl, .inl ⟨rfl, rfl⟩⟩, PartsS.nil _ _ _ _ _⟩, Nat.le_refl _, fun _ _ _ => rfl, HbwX.out⟩
    case round =>
      obtain ⟨k, v, hk, rfl, hT⟩ := hrel
      obtain ⟨xs, hown2, hpar⟩ := hT.own
      have hresr : Blk wr (w.heap.size + 1) 64 #[.int .i64 0, .slice none 0 0, .slice none 0 0] := (hT.old _ hrX (Ne.symm hg5r)).trans HreX.out
      have hboxr : Blk wr w.heap.size 64 #[.int .i64 K, .slice pa pn pc, .slice A n c] := (hT.old _ hbX0 (Ne.symm hg5b)).trans HbxX.out
      obtain ⟨r0, r1, r2, q0, q1, q2⟩ := blk_three hresr
      obtain ⟨b0, b1, b2, -, -, -⟩ := blk_three hboxr
      obtain ⟨t0, t1, t2, s0, s1, s2⟩ := blk_three hT.tree
      have HT := Lib.hid hT
      have Hown2 := Lib.hid hown2
      have Hpar := Lib.hid hpar
      have Hresr := Lib.hid hresr
      by_cases hlt : k < m
      · have hki : (k : Int) < (n : Int) := by have := Hin.out k hlt; omega
        have hk5 : (k : Int) < 5 := by omega
        have hd0 : (0 : Int) < (d : Int) := by have := Hin.out k hlt; omega
        have hwd : IntKind.i64.wrap ((d : Int) - 1) = (d : Int) - 1 := IntWalk.i64_in _ (by omega)
        obtain ⟨u, U0, g, off, qa, qn, qc, B, mm, cc, eT, rfl, hgw, k1, k2, k3, hcall⟩ := Hround.out k hlt
        have hbel := hT.bel
        have k1' := (hbel.cell (p := ⟨g, off + k * 3, none⟩) hgw).trans k1
        have k2' := (hbel.cell (p := ⟨g, off + k * 3 + 1, none⟩) hgw).trans k2
        have k3' := (hbel.cell (p := ⟨g, off + k * 3 + 2, none⟩) hgw).trans k3
        have Hcall := Lib.hid (hcall wr hbel)
        have HeT := Lib.hid eT
        have HtrD := Lib.hid hT.tree
        have hsXr : X0.heap.size ≤ wr.heap.size := hT.size
        clear k1 k2 k3 hcall eT hbel hT hown2 hpar hresr hboxr Hround
        unfold RetNew at Hcall
        generalize hU : u.kind = U at *
        have HU := Lib.hid hU
        clear hU
        go_wp2_with (first
          | (go_at_call 53; refine Hcall.out.mono ?_; rintro e w2 ⟨pa', pn', pc', A2, n', c2, rfl, hTk, hb2⟩; have hk2 := own_keep Hown2.out hb2; have hs2 := hb2.size; have hB2 := HtrD.out.below hb2 HtrD.out.lt; obtain ⟨z0, z1, z2, y0, y1, y2⟩ := blk_three hB2)
          | (at_builtin; refine wpList_append_lies _ rfl _ _ 62 rfl X0.heap.size 64 i0 _ 3 56 Try.underlying62 hi hz0 hz1 hz2 rfl (by decide) v k xs rfl (hk2.alloc _) ⟨w2.heap.size, 0, none⟩ 1 1 [.int .i64 U, .slice pa' pn' pc', .slice A2 n' c2] rfl rfl ?c1 ?c2 ?c3 ?c4 ?c5 ?c6 (w2.heap.size + 1) (size_new'' _ _) ?_))
        case c1 => exact World.news_of_block (cs := #[.int .i64 U, .slice pa' pn' pc', .slice A2 n' c2]) (t := 64) (fr := (0, 0)) (heap_alloc_new w2 _)
        case c2 => exact three_cells _ _ _ rfl rfl rfl
        case c3 => exact Nat.one_pos
        case c4 => unfold maxLen; omega
        case c5 => omega
        case c6 => exact alloc_size_le _ _ (Nat.le_trans hsXr hs2)
        intro gg cg w3 hown4 hgrow hat hlt3
        have hB3 : Blk w3 g5 64 #[.int .i64 K, .slice A' P.length c', v] := (hgrow.block g5 (hB2.more' _).lt (own_not hk2 hg5l)).trans (hB2.more' _)
        have kc3 := hB3.cell 2
        have kf3 := hB3.free 2
        have hTk' : ITS w2 (Old (fun _ => False) wr.heap.size w2.heap.size) d u (.slice pa' pn' pc') (.slice A2 n' c2) := ITS.keep (fun g hg => ⟨.inr hg, rfl⟩) _ _ _ _ (ITIn.toS _ _ _ _ hTk)
        have hfin := HT.out.next hg5l hw5 hwX HSw.out Hown2.out Hpar.out hb2 hk2 hgrow hB3 hTk' hat (by rw [HU.out]; exact hown4)
        rw [← HeT.out] at hfin
        have Hfin := Lib.hid hfin
        clear hfin hown4 hgrow hat hk2 hTk hTk' hb2 hB2 z0 z1 z2 y0 y1 y2
        go_wp2_with fail
        go_roundw
        case rel => exact ⟨k + 1, _, by omega, by go_num, Hfin.out⟩
        case measure => simp [intOf]; omega
      · obtain hkq : k = m := by omega
        rw [hkq, List.take_of_length_le (by rw [hTl]; exact Nat.le_refl _)] at hT hpar
        obtain ⟨A2, c2, rfl⟩ := own_slice hown2
        have hbelr := hT.bel
        have hset := ((hresr.store 0 (.int .i64 K)).store 1 (.slice A' P.length c')).store 2 (.slice A2 k c2)
        have hset' : Blk (((wr.setCell ⟨w.heap.size + 1, 0, none⟩ (.int .i64 K)).setCell ⟨w.heap.size + 1, 1, none⟩ (.slice A' P.length c')).setCell ⟨w.heap.size + 1, 2, none⟩ (.slice A2 k c2)) (w.heap.size + 1) 64 #[.int .i64 K, .slice A' P.length c', .slice A2 k c2] := by simpa using hset
        have hbelf := ((hbelr.setCell (p := ⟨w.heap.size + 1, 0, none⟩) (Nat.le_succ _) (.int .i64 K)).setCell (p := ⟨w.heap.size + 1, 1, none⟩) (Nat.le_succ _) (.slice A' P.length c')).setCell (p := ⟨w.heap.size + 1, 2, none⟩) (Nat.le_succ _) (.slice A2 k c2)
        obtain ⟨z0, z1, z2, -, -, -⟩ := blk_three hset'
        have hkf : ∀ g, g ≠ w.heap.size + 1 → (((wr.setCell ⟨w.heap.size + 1, 0, none⟩ (.int .i64 K)).setCell ⟨w.heap.size + 1, 1, none⟩ (.slice A' P.length c')).setCell ⟨w.heap.size + 1, 2, none⟩ (.slice A2 k c2)).heap[g]? = wr.heap[g]? := fun g hg =>
          (Below.heap_setCell _ _ _ _ hg).trans ((Below.heap_setCell _ _ _ _ hg).trans (Below.heap_setCell _ _ _ _ hg))
        have hzf : (((wr.setCell ⟨w.heap.size + 1, 0, none⟩ (.int .i64 K)).setCell ⟨w.heap.size + 1, 1, none⟩ (.slice A' P.length c')).setCell ⟨w.heap.size + 1, 2, none⟩ (.slice A2 k c2)).heap.size = wr.heap.size := by simp [World.setCell]
        have hsXr : X0.heap.size ≤ wr.heap.size := hT.size
        have hpf : PermS (((wr.setCell ⟨w.heap.size + 1, 0, none⟩ (.int .i64 K)).setCell ⟨w.heap.size + 1, 1, none⟩ (.slice A' P.length c')).setCell ⟨w.heap.size + 1, 2, none⟩ (.slice A2 k c2)) (Old (fun _ => False) w.heap.size (((wr.setCell ⟨w.heap.size + 1, 0, none⟩ (.int .i64 K)).setCell ⟨w.heap.size + 1, 1, none⟩ (.slice A' P.length c')).setCell ⟨w.heap.size + 1, 2, none⟩ (.slice A2 k c2)).heap.size) P (.slice A' P.length c') :=
          HZ.out.keep (fun g hg => ⟨.inr ⟨by have := hg.1; omega, by rw [hzf]; have := hg.2.1; omega⟩, (hkf g (by have := hg.1; omega)).trans (hT.old g hg.2.1 hg.2.2)⟩)
        have hwhole := hpar.tree (kind := K) (S' := Old (fun _ => False) w.heap.size (((wr.setCell ⟨w.heap.size + 1, 0, none⟩ (.int .i64 K)).setCell ⟨w.heap.size + 1, 1, none⟩ (.slice A' P.length c')).setCell ⟨w.heap.size + 1, 2, none⟩ (.slice A2 k c2)).heap.size) (by rw [hTl, ← hkq]; exact hown2) hrX (fun g hg => hg.elim) hkf (fun g h1 h2 => .inr ⟨by omega, by rw [hzf]; exact h2⟩) hpf
        have Hwhole := Lib.hid (ITS.toIn _ _ _ _ (ITS.keep (S' := fun g => w.heap.size ≤ g ∧ g < (((wr.setCell ⟨w.heap.size + 1, 0, none⟩ (.int .i64 K)).setCell ⟨w.heap.size + 1, 1, none⟩ (.slice A' P.length c')).setCell ⟨w.heap.size + 1, 2, none⟩ (.slice A2 k c2)).heap.size) (fun g hg => ⟨hg.resolve_left (fun h => h), rfl⟩) _ _ _ _ hwhole))
        have Hbelf := Lib.hid hbelf
        have ho := Hout.out
        rw [← hkq] at ho
        clear hown2 hT hpar hresr hset hset' hbelr hkf hzf hpf hwhole hbelf hkq Hround Hin Hout hboxr
        by_cases hn1 : (k : Int) < (n : Int)
        · by_cases hn5 : (k : Int) < 5
          · have hn0 : ¬ (0 : Int) < (d : Int) := by omega
            go_wp2_with fail
            exact bodyPost_ret (v := .agg #[.int .i64 K, .slice A' P.length c', .slice A2 k c2]) (by simp [results, Try.results53, go_sem, z0, z1, z2]) rfl ⟨A', P.length, c', A2, k, c2, rfl, Hwhole.out, Hbelf.out⟩
          · go_wp2_with fail
            exact bodyPost_ret (v := .agg #[.int .i64 K, .slice A' P.length c', .slice A2 k c2]) (by simp [results, Try.results53, go_sem, z0, z1, z2]) rfl ⟨A', P.length, c', A2, k, c2, rfl, Hwhole.out, Hbelf.out⟩
        · go_wp2_with fail
          exact bodyPost_ret (v := .agg #[.int .i64 K, .slice A' P.length c', .slice A2 k c2]) (by simp [results, Try.results53, go_sem, z0, z1, z2]) rfl ⟨A', P.length, c', A2, k, c2, rfl, Hwhole.out, Hbelf.out⟩

theorem cut_any : ∀ (d : Nat) (t : IT) (pa : Option Addr) (pn pc : Nat) (A : Option Addr) (n c : Nat) (w : World), InT w d t (.slice pa pn pc) (.slice A n c) → d ≤ 3 →
    Calls Try.prog 53 #[.agg #[.int .i64 t.kind, .slice pa pn pc, .slice A n c], .int .i64 (d : Nat)] w (RetNew (d + 1) (cutI d t) w)
  | 0, t, pa, pn, pc, A, n, c, w, h, hd => by
    obtain ⟨pa', pn', pc', A', n', c', e1, e2, hR, hpc, hz⟩ := h
    injection e1 with e1 e3 e4
    injection e2 with e2 e5 e6
    subst e1 e2 e3 e4 e5 e6
    exact cut_step 0 hd t.kind t.perm [] 0 pa pn pc A n c w hR hpc rfl (by omega) (fun k hk => by omega) (.inr (.inr rfl)) (fun k hk => by omega)
  | d + 1, t, pa, pn, pc, A, n, c, w, h, hd => by
    have ih := cut_any d
    obtain ⟨pa', pn', pc', A', c', e1, e2, hR, hpc, hrow⟩ := h
    injection e1 with e1 e3 e4
    injection e2 with e2 e5 e6
    subst e1 e2 e3 e4 e5 e6
    refine cut_step (d + 1) hd t.kind t.perm ((t.parts.take 5).map (cutI d)) (min 5 t.parts.length) pa pn pc A t.parts.length c w hR hpc (by rw [List.length_map, List.length_take]) (Nat.min_le_left _ _) (fun k hk => ⟨by omega, by omega⟩) (by omega) (fun k hk => ?_)
    obtain ⟨g, off, eA, hg, hr⟩ := hrow (by omega)
    obtain ⟨pv', sv', k1, k2, k3, k4⟩ := hr k (by omega)
    obtain ⟨qa, qn, qc, B, mm, cc, rfl, rfl⟩ := k4.slices
    have hkl : k < ((t.parts.take 5).map (cutI d)).length := by rw [List.length_map, List.length_take]; exact hk
    refine ⟨cutI d (t.parts[k]'(by omega)), (t.parts[k]'(by omega)).kind, g, off, qa, qn, qc, B, mm, cc, ?_, eA, hg, k1, k2, k3, fun W hW => ?_⟩
    · rw [take_part hkl]
      simp
    · have he : ((d + 1 : Nat) : Int) - 1 = (d : Nat) := by omega
      rw [he]
      exact ih _ _ _ _ _ _ _ W (k4.below hW) (by omega)

end Go.Proofs.Ytgdaidmkcgblbaa

namespace Go.Proofs.Ytgdaidmkcgblbaa
open Go.Deep Go.ChangeShapes Go.WideShapes Go.ChangeAt Go.RowKit Go.Joins

theorem row_trod {H : Type} {enc : TypeId × Value → H} {W : World} {held : Bool} {fuel : Nat} {v : Value} {x : DataW H × List MemPlace}
    (hf : DataW.trod enc Try.prog W 0 (fun _ => true) held fuel 22 [v] = some x) : ∃ pa pn pc L, v = .slice pa pn pc ∧ Rl W pa pn L ∧ pn ≤ pc := by
  rcases open_ints Try.underlying22 Try.underlying3 (by kernel_rfl) hf with ⟨hcs, _⟩ | ⟨x, l, c, zs, hcs, _, hl, hm, hz, _, hcell, hwz⟩
  · simp at hcs
    have hr : IsRow .i64 W none 0 0 [] := .inl ⟨rfl, rfl, rfl, rfl⟩
    obtain ⟨L, hL⟩ := rl_of_row hr
    exact ⟨none, 0, 0, _, hcs, hL, Nat.le_refl _⟩
  · simp at hcs
    have hr : IsRow .i64 W (some x) l c zs := .inr ⟨_, rfl, hl, hm, by simpa using hz, hcell, hwz⟩
    obtain ⟨L, hL⟩ := rl_of_row hr
    exact ⟨_, _, _, _, hcs, hL, hl⟩

theorem three_of {cs : List Value} (h : cs.length = 3) : ∃ a b c, cs = [a, b, c] := by
  match cs, h with
  | [a, b, c], _ => exact ⟨a, b, c, rfl⟩

theorem list_choice {α : Type} {P : Nat → α → Prop} : ∀ (n : Nat), (∀ i, i < n → ∃ t, P i t) → ∃ ts : List α, ts.length = n ∧ ∀ i (h : i < ts.length), P i ts[i]
  | 0, _ => ⟨[], rfl, fun i h => absurd h (by simp)⟩
  | n + 1, h => by
    obtain ⟨ts, hl, hp⟩ := list_choice n fun i hi => h i (by omega)
    obtain ⟨t, ht⟩ := h n (by omega)
    refine ⟨ts ++ [t], by simp [hl], fun i hi => ?_⟩
    by_cases hin : i < ts.length
    · rw [List.getElem_append_left hin]
      exact hp i hin
    · have : i = ts.length := by simp at hi; omega
      subst this
      rw [List.getElem_append_right (Nat.le_refl _)]
      simpa [hl] using ht

theorem tree_trod {H : Type} {enc : TypeId × Value → H} {W : World} {held : Bool} : ∀ (d fuel : Nat) (cs : List Value) (x : DataW H × List MemPlace),
    DataW.trod enc Try.prog W 0 (fun _ => true) held fuel 64 cs = some x → ∃ (t : IT) (pv sv : Value), cs = [.int .i64 t.kind, pv, sv] ∧ InT W d t pv sv := by
  intro d
  have hC : Try.prog.cellsOf 64 = 3 := by kernel_rfl
  have hC0 : Try.prog.cellsOf 3 = 1 := by kernel_rfl
  have hC1 : Try.prog.cellsOf 22 = 1 := by kernel_rfl
  have hC2 : Try.prog.cellsOf 62 = 1 := by kernel_rfl
  induction d with
  | zero =>
    intro fuel cs x h
    obtain ⟨y0, y1, y2, n, _, hl, h0, h1, h2⟩ := trod_struct3 Try.underlying64 h
    obtain ⟨a, b, c, rfl⟩ := three_of (hl.trans hC)
    change DataW.trod _ _ _ _ _ _ _ 3 (([a, b, c].drop 0).take (Try.prog.cellsOf 3)) = _ at h0
    rw [hC0] at h0
    change DataW.trod _ _ _ _ _ _ _ 22 (([a, b, c].drop 1).take (Try.prog.cellsOf 22)) = _ at h1
    rw [hC1] at h1
    change DataW.trod _ _ _ _ _ _ _ 62 (([a, b, c].drop 2).take (Try.prog.cellsOf 62)) = _ at h2
    rw [hC2] at h2
    obtain ⟨K, eK, _, _⟩ := DataW.trod_int Try.underlying3 h0
    simp at eK
    subst eK
    obtain ⟨pa, pn, pc, L, rfl, hR, hpc⟩ := row_trod h1
    rcases DataW.trod_slice Try.underlying62 h2 with ⟨e, _⟩ | ⟨a, len, cap, elems, rest, m, _, e, _⟩
    · simp at e
      exact ⟨.node K L [], _, _, rfl, pa, pn, pc, none, 0, 0, rfl, e, hR, hpc, rfl⟩
    · simp at e
      exact ⟨.node K L [], _, _, rfl, pa, pn, pc, some a, len, cap, rfl, e, hR, hpc, rfl⟩
  | succ d ih =>
    intro fuel cs x h
    obtain ⟨y0, y1, y2, n, _, hl, h0, h1, h2⟩ := trod_struct3 Try.underlying64 h
    obtain ⟨a, b, c, rfl⟩ := three_of (hl.trans hC)
    change DataW.trod _ _ _ _ _ _ _ 3 (([a, b, c].drop 0).take (Try.prog.cellsOf 3)) = _ at h0
    rw [hC0] at h0
    change DataW.trod _ _ _ _ _ _ _ 22 (([a, b, c].drop 1).take (Try.prog.cellsOf 22)) = _ at h1
    rw [hC1] at h1
    change DataW.trod _ _ _ _ _ _ _ 62 (([a, b, c].drop 2).take (Try.prog.cellsOf 62)) = _ at h2
    rw [hC2] at h2
    obtain ⟨K, eK, _, _⟩ := DataW.trod_int Try.underlying3 h0
    simp at eK
    subst eK
    obtain ⟨pa, pn, pc, L, rfl, hR, hpc⟩ := row_trod h1
    rcases DataW.trod_slice Try.underlying62 h2 with ⟨e, _⟩ | ⟨a, len, cap, elems, rest, m, _, e, _, _, hlc, hm, hel, hrow, _⟩
    · simp at e
      exact ⟨.node K L [], _, _, rfl, pa, pn, pc, none, 0, rfl, e, hR, hpc, fun h => absurd h (by simp [IT.parts])⟩
    · simp at e
      have hpart : ∀ i, i < len → ∃ (t : IT), ∃ pv sv, W.cell? ((a.add (i * 3)).add 0) = some (.int .i64 t.kind) ∧ W.cell? ((a.add (i * 3)).add 1) = some pv ∧ W.cell? ((a.add (i * 3)).add 2) = some sv ∧ InT W d t pv sv := by
        intro i hi
        have hi' := hrow i hi
        rw [List.getElem?_eq_getElem (by omega), Option.bind_eq_some_iff] at hi'
        obtain ⟨cs', hcs, hy⟩ := hi'
        obtain ⟨t, pv, sv, rfl, ht⟩ := ih _ _ _ hy
        rw [hC] at hcs
        obtain ⟨_, _, hc⟩ := World.cells?_some hcs
        exact ⟨t, pv, sv, hc 0 (by omega), hc 1 (by omega), hc 2 (by omega), ht⟩
      obtain ⟨ts, hts, hp⟩ := list_choice len hpart
      subst hts
      refine ⟨.node K L ts, _, _, rfl, pa, pn, pc, some a, cap, rfl, e, hR, hpc, fun h => ?_⟩
      have h : 0 < ts.length := h
      obtain ⟨b, off, spot⟩ := a
      obtain ⟨_, _, k0, _⟩ := hp 0 h
      have hspot : spot = none := by simpa [Addr.add] using World.cell?_spot k0
      subst hspot
      rw [add_plain, add_plain] at k0
      refine ⟨b, off, rfl, World.block_lt_of_cell? W _ k0, fun i hi => ?_⟩
      obtain ⟨pv, sv, k0, k1, k2, k3⟩ := hp i hi
      rw [add_plain, add_plain] at k0 k1 k2
      exact ⟨pv, sv, k0, k1, k2, k3⟩

end Go.Proofs.Ytgdaidmkcgblbaa

namespace Go.Proofs.Ytgdaidmkcgblbaa
open Go.RowKit

theorem sumF_le {f : IT → Nat} {b : Nat} : ∀ ts : List IT, (∀ t ∈ ts, f t ≤ b) → sumF f ts ≤ ts.length * b
  | [], _ => Nat.zero_le _
  | t :: ts, h => by
    have h1 := h t (by simp)
    have h2 := sumF_le ts fun u hu => h u (by simp [hu])
    show f t + sumF f ts ≤ (ts.length + 1) * b
    rw [Nat.succ_mul]
    omega
theorem maxF_le {f : IT → Nat} {b : Nat} : ∀ ts : List IT, (∀ t ∈ ts, f t ≤ b) → maxF f ts ≤ b
  | [], _ => Nat.zero_le _
  | t :: ts, h => by
    have h1 := h t (by simp)
    have h2 := maxF_le ts fun u hu => h u (by simp [hu])
    show max (f t) (maxF f ts) ≤ b
    omega
theorem lev_le : ∀ (d : Nat) (t : IT), levN d t ≤ d
  | 0, _ => Nat.le_refl _
  | d + 1, t => Nat.succ_le_succ (maxF_le t.parts fun u _ => lev_le d u)

def nodeB : Nat → Nat
  | 0 => 1
  | d + 1 => 1 + 5 * nodeB d
theorem cut_nodes : ∀ (d : Nat) (t : IT), nodeN (d + 1) (cutI d t) ≤ nodeB d
  | 0, _ => Nat.le_refl _
  | d + 1, t => by
    have h := sumF_le (f := nodeN (d + 1)) (b := nodeB d) ((t.parts.take 5).map (cutI d)) fun u hu => by
      obtain ⟨v, _, rfl⟩ := List.mem_map.1 hu
      exact cut_nodes d v
    have hl : ((t.parts.take 5).map (cutI d)).length ≤ 5 := by rw [List.length_map, List.length_take]; exact Nat.min_le_left _ _
    have := Nat.mul_le_mul_right (nodeB d) hl
    show 1 + sumF (nodeN (d + 1)) ((t.parts.take 5).map (cutI d)) ≤ 1 + 5 * nodeB d
    omega
theorem cut_few (t : IT) : nodeN 4 (cutI 3 t) ≤ 1000 := Nat.le_trans (cut_nodes 3 t) (by decide)

theorem nonT_toIT : ∀ (d e : Nat) (t : PT), NonT d (toIT e t)
  | 0, _, _ => trivial
  | d + 1, 0, _ => ⟨fun z hz => (by cases hz), fun u hu => (by cases hu)⟩
  | d + 1, e + 1, t => ⟨fun z hz => by
      obtain ⟨x, _, rfl⟩ := List.mem_map.1 (show z ∈ t.perm.map (fun (x : Nat) => (x : Int)) from hz)
      omega, fun u hu => by
      obtain ⟨v, _, rfl⟩ := List.mem_map.1 (show u ∈ t.parts.map (toIT e) from hu)
      exact nonT_toIT d e v⟩

/-- Both sides' Fill say the same. -/
theorem fill_same {d : Nat} {t : IT} (h : nodeN d t ≤ 1000) : (fillOut (fillN d t 0).2 = if leafN d t ≤ 60 ∧ canonB d t = true then some (fillR d t) else none) := by
  obtain ⟨h1, h2⟩ := fill_agree d t 0 (by omega)
  cases hc : canonB d t with
  | false =>
    rw [h2 hc]
    simp [fillOut]
  | true =>
    rw [h1 hc]
    have hl := (fillR_ok d t hc).1
    by_cases h60 : leafN d t ≤ 60
    · simp [fillOut, hl, h60]
    · simp [fillOut, hl, h60]

theorem fillP_count {d : Nat} {kind : Int} (ih : ∀ (t : IT) (c c' : Nat) (l : List Nat), fillN d t c = (c', some l) → c + nodeN d t ≤ c') : ∀ (ts : List IT) (c c2 : Nat) (acc ls : List (List Nat)), fillP (fillN d) kind ts c acc = (c2, some ls) → c + sumF (nodeN d) ts ≤ c2
  | [], c, c2, acc, ls, e => by
    rw [fillP_nil] at e
    injection e with e
    show c + 0 ≤ c2
    omega
  | t :: ts, c, c2, acc, ls, e => by
    rcases hf : fillN d t c with ⟨c1, _ | l⟩
    · rw [fillP_none hf] at e; injection e with _ e; cases e
    · by_cases hk : t.kind = kind ∧ kind ≠ 3
      · rw [fillP_same hf hk] at e; injection e with _ e; cases e
      · rw [fillP_some hf hk] at e
        have h1 := fillP_count ih ts c1 c2 _ ls e
        have h2 := ih t c c1 l hf
        show c + (nodeN d t + sumF (nodeN d) ts) ≤ c2
        omega
theorem fillN_count : ∀ (d : Nat) (t : IT) (c c' : Nat) (l : List Nat), fillN d t c = (c', some l) → c + nodeN d t ≤ c'
  | 0, t, c, c', l, e => by unfold fillN at e; injection e with _ e; cases e
  | d + 1, t, c, c', l, e => by
    show c + (1 + sumF (nodeN d) t.parts) ≤ c'
    by_cases h1 : 1000 < c + 1
    · rw [fillN_many h1] at e; injection e with _ e; cases e
    · by_cases hw : wellF t = false
      · rw [fillN_bad h1 hw] at e; injection e with _ e; cases e
      · have hw : wellF t = true := by cases h : wellF t <;> simp_all
        by_cases hk : t.kind = 0
        · rw [fillN_leaf h1 hw hk] at e
          injection e with e1 e2
          rw [wellF_zero hk, Bool.and_eq_true, decide_eq_true_eq, decide_eq_true_eq] at hw
          rw [List.length_eq_zero_iff.1 hw.2]
          show c + (1 + 0) ≤ c'
          omega
        · rcases hp : fillP (fillN d) t.kind t.parts (c + 1) [] with ⟨c2, _ | ls⟩
          · rw [fillN_parts_none h1 hw hk hp] at e; injection e with _ e; cases e
          · rw [fillN_parts_some h1 hw hk hp] at e
            injection e with e1 e2
            have := fillP_count (fillN_count d) t.parts (c + 1) c2 [] ls hp
            omega

/-- The block tree of a permutation has few nodes. -/
theorem tree_few {p : List Nat} (hp : IsPerm p) (h1 : 1 ≤ p.length) (h60 : p.length ≤ 60) : nodeN p.length (toIT p.length (treeF p.length p)) ≤ 1000 := by
  obtain ⟨c', e, h⟩ := back p.length p (Nat.le_refl _) (gapless_perm hp h1) h60 p.length p.length 0 (Nat.le_refl _) (Nat.le_refl _) (by omega)
  have := fillN_count _ _ _ _ _ e
  omega

end Go.Proofs.Ytgdaidmkcgblbaa
