/-
  Blocks without a gap, raised and put one after the other, are the list that they were cut from.
  The pattern of a list that cannot be cut is a simple permutation, as the program finds it.
  Blocks' tree, filled, is the permutation.
-/
import Derived.Test.YtgdaidmkcgblbaaInfl
import Derived.Test.YtgdaidmkcgblbaaPTrees
import Derived.Test.YtgdaidmkcgblbaaPartN
namespace Go.Proofs.Ytgdaidmkcgblbaa

theorem belN_less {p : List Nat} {m : Nat} {a : Nat → Nat} {ord : List Nat} {ls : List (List Nat)} (h : Ends p m a) (hs : Apart p m a ord) (hl : ∀ k, k < m → (ls.getD k []).length = (part p a k).length) (i : Nat) (hi : i < m) :
    ∀ k, k ≤ m → belN ord ls i k = lessN (seg p 0 (a k)) (minL (part p a i))
  | 0, _ => by rw [h.first, seg_none]; rfl
  | k + 1, hk => by
    have ih := belN_less h hs hl i hi k (by omega)
    have hst := h.step k (by omega)
    have hsp := hs i k hi (by omega)
    rw [← seg_append p (Nat.zero_le (a k)) (Nat.le_of_lt hst), lessN_append, ← ih]
    show belN ord ls i k + (if ord.getD k 0 < ord.getD i 0 then (ls.getD k []).length else 0) = belN ord ls i k + lessN (part p a k) (minL (part p a i))
    congr 1
    split
    · next e => rw [hl k (by omega), lessN_high (hsp.1 e)]
    · next e => rw [lessN_low (hsp.2 e)]

theorem infl_norm {p : List Nat} {m : Nat} {a : Nat → Nat} {ord : List Nat} {ls : List (List Nat)} (hg : Gapless p) (h : Ends p m a) (hs : Apart p m a ord) (hls : ls.length = m) (hl : ∀ k, k < m → ls.getD k [] = norm (part p a k)) :
    ∀ k, k ≤ m → infl ord ls k = (seg p 0 (a k)).map fun x => x - minL p
  | 0, _ => by rw [h.first, seg_none]; rfl
  | k + 1, hk => by
    have ih := infl_norm hg h hs hls hl k (by omega)
    have hst := h.step k (by omega)
    have hpk := (h.length (k := k) (by omega)).2
    have hb := belN_less h hs (fun j hj => by rw [hl j hj, norm_length]) k (by omega) m (Nat.le_refl _)
    rw [h.last, seg_all] at hb
    have hmin := minL_mem hpk
    have hlo := minL_low (seg_sub hmin)
    have hhi := maxL_high (seg_sub hmin)
    have hmax := hg.max
    rw [hg.less hlo (by omega)] at hb
    rw [← seg_append p (Nat.zero_le (a k)) (Nat.le_of_lt hst), List.map_append, ← ih]
    show infl ord ls k ++ (ls.getD k []).map (fun x => belN ord ls k ls.length + x) = infl ord ls k ++ (part p a k).map (fun x => x - minL p)
    rw [hls, hb, hl k (by omega)]
    congr 1
    unfold norm
    rw [List.map_map]
    refine List.map_congr_left fun x hx => ?_
    have := minL_low (show x ∈ part p a k from hx)
    show minL (part p a k) - minL p + (x - minL (part p a k)) = x - minL p
    omega
theorem infl_whole {p : List Nat} {m : Nat} {a : Nat → Nat} {ord : List Nat} {ls : List (List Nat)} (hg : Gapless p) (h : Ends p m a) (hs : Apart p m a ord) (hls : ls.length = m) (hl : ∀ k, k < m → ls.getD k [] = norm (part p a k)) : infl ord ls ls.length = norm p := by
  rw [hls, infl_norm hg h hs hls hl m (Nat.le_refl _), h.last, seg_all]; rfl

theorem natsOf_cast (l : List Nat) : natsOf (l.map fun (x : Nat) => (x : Int)) = l := by
  unfold natsOf
  rw [List.map_map]
  conv => rhs; rw [← List.map_id l]
  exact List.map_congr_left fun x _ => by simp

theorem Blocky.simple {p : List Nat} {rows : List (Nat × Nat)} {a : Nat → Nat} (h : Blocky p rows a) (h60 : p.length ≤ 60) (hr : rows.length ≤ p.length) (h1 : ¬ 1 < (lessL p).length) (h2 : ¬ 1 < (greatL p).length) : simpleI ((patL p rows).map fun (x : Nat) => (x : Int)) = true := by
  have hql := patL_length p rows
  have hm := h.more
  have hd := divL_three (h.no_less h1) (h.no_great h2)
  have h4 := perm_four h.perm (by omega) (by rw [hd])
  have hs := single_count (q := patL p rows) (by omega) (fun s hs => h.single (by omega))
  have hc := (chkB_iff _).2 (chk_of_perm h.perm (by omega) (by omega))
  unfold simpleI
  rw [natsOf_cast, hd, hc, List.length_map, hs]
  simp
  omega

/-- The parts, filled one after the other. -/
theorem fillP_back {F : IT → Nat → Nat × Option (List Nat)} {K : Int} {its : List IT} {p : List Nat} {a : Nat → Nat} {m c : Nat} (h : Ends p m a) (hits : its.length = m)
    (hF : ∀ i (hi : i < its.length), ∀ ck, ck + 2 * (part p a i).length ≤ 1001 → ∃ c', F its[i] ck = (c', some (norm (part p a i))) ∧ c' + 1 ≤ ck + 2 * (part p a i).length)
    (hk : ∀ i (hi : i < its.length), ¬ (its[i].kind = K ∧ K ≠ 3)) (h2 : 2 ≤ m) (hc : c + 2 * p.length ≤ 1001) :
    ∀ r i ck acc, i + r = m → ck + 2 * (p.length - a i) + i ≤ c + 1 + 2 * p.length → ∃ c', fillP F K (its.drop i) ck acc = (c', some (acc ++ ((List.range' i r).map fun j => norm (part p a j)))) ∧ c' + m ≤ c + 1 + 2 * p.length
  | 0, i, ck, acc, hi, hb => by
    rw [List.drop_of_length_le (by omega)]
    have e : i = m := by omega
    subst e
    rw [h.last] at hb
    exact ⟨ck, by simp [fillP_nil], by omega⟩
  | r + 1, i, ck, acc, hi, hb => by
    have him : i < its.length := by omega
    have hl := h.length (k := i) (by omega)
    have ht := h.top (k := i + 1) (by omega)
    have hst := h.step i (by omega)
    have h01 : i = 0 → a 1 < p.length := fun _ => by
      have := h.lt (Nat.le_refl m) (show 1 < m by omega)
      rwa [h.last] at this
    have hfit : ck + 2 * (part p a i).length ≤ 1001 := by
      by_cases e : i = 0
      · subst e
        have := h01 rfl
        have h0 := h.first
        have e1 : a (0 + 1) = a 1 := rfl
        omega
      · omega
    obtain ⟨c1, e1, e2⟩ := hF i him ck hfit
    obtain ⟨c', e3, e4⟩ := fillP_back h hits hF hk h2 hc r (i + 1) c1 (acc ++ [norm (part p a i)]) (by omega) (by omega)
    refine ⟨c', ?_, e4⟩
    rw [List.drop_eq_getElem_cons him, fillP_some e1 (hk i him), e3, List.range'_succ, List.map_cons, List.append_assoc]
    rfl

end Go.Proofs.Ytgdaidmkcgblbaa

namespace Go.Proofs.Ytgdaidmkcgblbaa

theorem norm_getD {p : List Nat} {a : Nat → Nat} {m k : Nat} (h : k < m) : ((List.range' 0 m).map fun j => norm (part p a j)).getD k [] = norm (part p a k) := by
  simp [List.getD_eq_getElem?_getD, h]

theorem node_back {p l : List Nat} {rows : List (Nat × Nat)} {a : Nat → Nat} {K d f c : Nat} (hg : Gapless p) (h : Ends p rows.length a) (hr : ∀ i, i < rows.length → rows.getD i (0, 0) = (a i, a (i + 1)))
    (hgp : ∀ i, i < rows.length → Gapless (part p a i)) (hap : Apart p rows.length a (orderOf (toIT (d + 1) (.node K l (rows.map fun x => treeF f (seg p x.1 x.2))))))
    (hwf : wellF (toIT (d + 1) (.node K l (rows.map fun x => treeF f (seg p x.1 x.2)))) = true) (hK : K ≠ 0) (hm : 2 ≤ rows.length) (hsame : ∀ i, i < rows.length → K ≠ 3 → (treeF f (part p a i)).kind ≠ K)
    (hd : 1 ≤ d) (hc : c + 2 * p.length ≤ 1001) (hn : 2 ≤ p.length)
    (ih : ∀ q : List Nat, Gapless q → q.length < p.length → ∀ ck, ck + 2 * q.length ≤ 1001 → ∃ c', fillN d (toIT d (treeF f q)) ck = (c', some (norm q)) ∧ c' + 1 ≤ ck + 2 * q.length) :
    ∃ c', fillN (d + 1) (toIT (d + 1) (.node K l (rows.map fun x => treeF f (seg p x.1 x.2)))) c = (c', some (norm p)) ∧ c' + 1 ≤ c + 2 * p.length := by
  have hlen : ((rows.map fun x => treeF f (seg p x.1 x.2)).map (toIT d)).length = rows.length := by simp
  have hget : ∀ i (hi : i < ((rows.map fun x => treeF f (seg p x.1 x.2)).map (toIT d)).length), ((rows.map fun x => treeF f (seg p x.1 x.2)).map (toIT d))[i] = toIT d (treeF f (part p a i)) := by
    intro i hi
    have hi' : i < rows.length := by rw [hlen] at hi; exact hi
    have e := hr i hi'
    rw [List.getD_eq_getElem?_getD, List.getElem?_eq_getElem hi'] at e
    have e : rows[i] = (a i, a (i + 1)) := e
    rw [List.getElem_map, List.getElem_map, e]
    rfl
  obtain ⟨c2, hp, hc2⟩ := fillP_back (F := fillN d) (K := (K : Nat)) (its := (rows.map fun x => treeF f (seg p x.1 x.2)).map (toIT d)) (c := c) h hlen (fun i hi ck hck => by
      rw [hget i hi]
      have hi' : i < rows.length := by rw [hlen] at hi; exact hi
      have hl := h.length hi'
      have ht := h.top (k := i + 1) (by omega)
      refine ih _ (hgp i hi') ?_ ck hck
      by_cases e : i = 0
      · subst e
        have := h.lt (Nat.le_refl rows.length) (show 1 < rows.length by omega)
        rw [h.last] at this
        have e1 : a (0 + 1) = a 1 := rfl
        omega
      · have := h.lt (show i ≤ rows.length by omega) (show 0 < i by omega)
        omega) (fun i hi => by
      rw [hget i hi, toIT_kind' d _ hd]
      have hi' : i < rows.length := by rw [hlen] at hi; exact hi
      intro ⟨e1, e2⟩
      exact hsame i hi' (by omega) (by omega)) hm hc rows.length 0 (c + 1) [] (by omega) (by rw [h.first]; omega)
  rw [List.drop_zero, List.nil_append] at hp
  have hk0 : (toIT (d + 1) (.node K l (rows.map fun x => treeF f (seg p x.1 x.2)))).kind ≠ 0 := by
    show ((K : Nat) : Int) ≠ 0
    omega
  have hs := fillN_parts_some (d := d) (c := c) (by omega) hwf hk0 hp
  refine ⟨c2, ?_, by omega⟩
  rw [hs]
  have hw := infl_whole (ls := (List.range' 0 rows.length).map fun j => norm (part p a j)) hg h hap (by simp) (fun k hk => norm_getD hk)
  rw [hw]

def IHyp (p : List Nat) (d f : Nat) : Prop := ∀ q : List Nat, Gapless q → q.length < p.length → ∀ ck, ck + 2 * q.length ≤ 1001 → ∃ c', fillN d (toIT d (treeF f q)) ck = (c', some (norm q)) ∧ c' + 1 ≤ ck + 2 * q.length
def Goal (p : List Nat) (t : IT) (d c : Nat) : Prop := ∃ c', fillN (d + 1) t c = (c', some (norm p)) ∧ c' + 1 ≤ c + 2 * p.length

theorem order_one (d : Nat) (ts : List PT) : orderOf (toIT (d + 1) (.node 1 [] ts)) = List.range ts.length := by
  unfold orderOf
  rw [if_neg (by rw [toIT_kind]; show ((1 : Nat) : Int) ≠ 3; omega), if_neg (by rw [toIT_kind]; show ((1 : Nat) : Int) ≠ 2; omega), toIT_parts, List.length_map]
  rfl
theorem order_two (d : Nat) (ts : List PT) : orderOf (toIT (d + 1) (.node 2 [] ts)) = (List.range ts.length).reverse := by
  unfold orderOf
  rw [if_neg (by rw [toIT_kind]; show ((2 : Nat) : Int) ≠ 3; omega), if_pos (by rw [toIT_kind]; rfl), toIT_parts, List.length_map]
  rfl
theorem order_three (d : Nat) (l : List Nat) (ts : List PT) : orderOf (toIT (d + 1) (.node 3 l ts)) = l := by
  unfold orderOf
  rw [if_pos (by rw [toIT_kind]; rfl), toIT_perm]
  exact natsOf_cast _
theorem well_cut (d : Nat) (k : Nat) (hk : k = 1 ∨ k = 2) (ts : List PT) (h : 2 ≤ ts.length) : wellF (toIT (d + 1) (.node k [] ts)) = true := by
  rw [wellF_cut (by rw [toIT_kind]; show ((k : Nat) : Int) = 1 ∨ ((k : Nat) : Int) = 2; omega), toIT_perm, toIT_parts, List.length_map, List.length_map]
  show (decide (0 = 0) && decide (2 ≤ ts.length)) = true
  rw [decide_eq_true h]; rfl
theorem well_three (d : Nat) (l : List Nat) (ts : List PT) (h : l.length = ts.length) (hs : simpleI (l.map fun (x : Nat) => (x : Int)) = true) : wellF (toIT (d + 1) (.node 3 l ts)) = true := by
  rw [wellF_three rfl, toIT_perm, toIT_parts, List.length_map, List.length_map]
  show (decide (l.length = ts.length) && simpleI (l.map fun (x : Nat) => (x : Int))) = true
  rw [hs, decide_eq_true h]; rfl

theorem back_less {p : List Nat} {rows : List (Nat × Nat)} {a : Nat → Nat} {d f c : Nat} (hg : Gapless p) (h : Ends p rows.length a) (hr : ∀ i, i < rows.length → rows.getD i (0, 0) = (a i, a (i + 1)))
    (hT : ∀ i, i + 1 < rows.length → maxL (part p a i) < minL (seg p (a (i + 1)) p.length)) (hnn : ∀ i, i < rows.length → ∀ e, a i < e → e < a (i + 1) → ¬ maxL (seg p (a i) e) < minL (seg p e p.length))
    (hm : 2 ≤ rows.length) (hd : 1 ≤ d) (hc : c + 2 * p.length ≤ 1001) (hn : 2 ≤ p.length) (ih : IHyp p d f) : Goal p (toIT (d + 1) (.node 1 [] (rows.map fun x => treeF f (seg p x.1 x.2)))) d c :=
  node_back (K := 1) (l := []) (rows := rows) (f := f) hg h hr (fun _ hi => split_gapless hg h (less_split h hT) hi) (by rw [order_one, List.length_map]; exact less_apart h hT)
    (well_cut d 1 (.inl rfl) _ (by rw [List.length_map]; exact hm)) (by omega) hm (fun _ hi _ hk => less_not h hT hnn hi (divL_one (treeF_kind hk (by omega)))) hd hc hn ih
theorem back_great {p : List Nat} {rows : List (Nat × Nat)} {a : Nat → Nat} {d f c : Nat} (hg : Gapless p) (h : Ends p rows.length a) (hr : ∀ i, i < rows.length → rows.getD i (0, 0) = (a i, a (i + 1)))
    (hT : ∀ i, i + 1 < rows.length → maxL (seg p (a (i + 1)) p.length) < minL (part p a i)) (hnn : ∀ i, i < rows.length → ∀ e, a i < e → e < a (i + 1) → ¬ maxL (seg p e p.length) < minL (seg p (a i) e))
    (hm : 2 ≤ rows.length) (hd : 1 ≤ d) (hc : c + 2 * p.length ≤ 1001) (hn : 2 ≤ p.length) (ih : IHyp p d f) : Goal p (toIT (d + 1) (.node 2 [] (rows.map fun x => treeF f (seg p x.1 x.2)))) d c :=
  node_back (K := 2) (l := []) (rows := rows) (f := f) hg h hr (fun _ hi => split_gapless hg h (great_split h hT) hi) (by rw [order_two, List.length_map]; exact great_apart h hT)
    (well_cut d 2 (.inr rfl) _ (by rw [List.length_map]; exact hm)) (by omega) hm (fun _ hi _ hk => great_not h hT hnn hi (divL_two (treeF_kind hk (by omega)))) hd hc hn ih
theorem back_simple {p : List Nat} {rows : List (Nat × Nat)} {a : Nat → Nat} {d f c : Nat} (hb : Blocky p rows a) (hs : simpleI ((patL p rows).map fun (x : Nat) => (x : Int)) = true)
    (hd : 1 ≤ d) (hc : c + 2 * p.length ≤ 1001) (ih : IHyp p d f) : Goal p (toIT (d + 1) (.node 3 (patL p rows) (rows.map fun x => treeF f (seg p x.1 x.2)))) d c :=
  node_back (K := 3) (l := patL p rows) (rows := rows) (f := f) hb.gap hb.ends hb.row (fun i hi => hb.part i hi) (by rw [order_three]; exact block_apart hb.gap.1 hb.ends hb.row (fun i hi => hb.part i hi))
    (well_three d _ _ (by rw [patL_length, List.length_map]) hs) (by omega) hb.more (fun _ _ h3 => absurd rfl h3) hd hc hb.two ih

theorem back (N : Nat) : ∀ (p : List Nat), p.length ≤ N → Gapless p → p.length ≤ 60 → ∀ d f c, p.length ≤ d → p.length ≤ f → c + 2 * p.length ≤ 1001 →
    ∃ c', fillN d (toIT d (treeF f p)) c = (c', some (norm p)) ∧ c' + 1 ≤ c + 2 * p.length := by
  induction N with
  | zero => intro p h hg; have := hg.2.1; omega
  | succ N ihN =>
    intro p hN hg h60 d f c hd hf hc
    have h0 := hg.2.1
    obtain ⟨d, rfl⟩ : ∃ d', d = d' + 1 := ⟨d - 1, by omega⟩
    obtain ⟨f, rfl⟩ : ∃ f', f = f' + 1 := ⟨f - 1, by omega⟩
    by_cases h1 : p.length = 1
    · rw [treeF_succ, if_pos h1]
      refine ⟨c + 1, ?_, by omega⟩
      rw [fillN_leaf (by omega) (by rfl) (by rfl)]
      match p, h1 with
      | [x], _ =>
        have : minL [x] = x := by simp [minL, minTo]
        simp [norm, this]
    · have ih : IHyp p d f := fun q hq hl ck hck => ihN q (by omega) hq (by omega) d f ck (by omega) (by omega) hck
      by_cases c1 : 1 < (lessL p).length
      · rw [tree_less h1 c1]
        obtain ⟨a, h, hr, hy, hn⟩ := cutL_ends (fun l r => decide (maxL l < minL r)) p h0
        exact back_less hg h hr (fun i hi => of_decide_eq_true (hy i hi)) (fun i hi e e1 e2 => of_decide_eq_false (hn i hi e e1 e2)) c1 (by omega) hc (by omega) ih
      · by_cases c2 : 1 < (greatL p).length
        · rw [tree_great h1 c1 c2]
          obtain ⟨a, h, hr, hy, hn⟩ := cutL_ends (fun l r => decide (maxL r < minL l)) p h0
          exact back_great hg h hr (fun i hi => of_decide_eq_true (hy i hi)) (fun i hi e e1 e2 => of_decide_eq_false (hn i hi e e1 e2)) c2 (by omega) hc (by omega) ih
        · rw [tree_simple h1 c1 c2]
          obtain ⟨a, h, hr, hl⟩ := longL_ends p (by omega)
          have hb : Blocky p (longL p) a := ⟨hg, h, hr, hl, by omega⟩
          have hrl := (divL_parts p (by omega)).2
          rw [divL_three c1 c2] at hrl
          exact back_simple hb (hb.simple h60 hrl c1 c2) (by omega) hc ih

theorem fillsBack : FillsBack := by
  intro p hp h1 h60
  obtain ⟨c', e, -⟩ := back p.length p (Nat.le_refl _) (gapless_perm hp h1) h60 p.length p.length 0 (Nat.le_refl _) (Nat.le_refl _) (by omega)
  rw [e, norm_perm hp h1]

end Go.Proofs.Ytgdaidmkcgblbaa
