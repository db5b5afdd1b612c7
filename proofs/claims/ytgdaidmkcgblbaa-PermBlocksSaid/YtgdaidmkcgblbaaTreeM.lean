/-
  Plain trees, and that a tree in memory reads as one.
-/
import Derived.Test.YtgdaidmkcgblbaaTreeW
namespace Go.Proofs.Ytgdaidmkcgblbaa
open Go.RowKit

/-- A plain tree: its kind, its permutation, its parts. -/
inductive PT where
  | node : Nat → List Nat → List PT → PT
def PT.kind : PT → Nat
  | .node k _ _ => k
def PT.perm : PT → List Nat
  | .node _ l _ => l
def PT.parts : PT → List PT
  | .node _ _ ts => ts

/-- A row of numbers in the blocks from lo on, below hi. -/
def PermIn (w : World) (lo hi : Nat) (l : List Nat) (v : Value) : Prop :=
  ∃ A c, v = .slice A l.length c ∧ (l.length ≤ c ∧ c ≤ 4611686018427387904) ∧ (0 < l.length → ∃ g, A = some ⟨g, 0, none⟩ ∧ lo ≤ g ∧ g < hi ∧ ∀ i, i < l.length → w.cell? ⟨g, i, none⟩ = some (.int .i64 (l.getD i 0 : Nat)))
theorem PermIn.keep {w w' : World} {lo hi : Nat} {l : List Nat} {v : Value} (h : PermIn w lo hi l v) (hk : ∀ g, lo ≤ g → g < hi → w'.heap[g]? = w.heap[g]?) : PermIn w' lo hi l v := by
  obtain ⟨A, c, e, hc, h⟩ := h
  refine ⟨A, c, e, hc, fun h0 => ?_⟩
  obtain ⟨g, e, h1, h2, h3⟩ := h h0
  exact ⟨g, e, h1, h2, fun i hi' => (World.cell?_of_block (w := w) (a := ⟨g, i, none⟩) (hk g h1 h2)).trans (h3 i hi')⟩
theorem PermIn.mono {w : World} {lo hi lo' hi' : Nat} {l : List Nat} {v : Value} (h : PermIn w lo hi l v) (h1 : lo' ≤ lo) (h2 : hi ≤ hi') : PermIn w lo' hi' l v := by
  obtain ⟨A, c, e, hc, h⟩ := h
  refine ⟨A, c, e, hc, fun h0 => ?_⟩
  obtain ⟨g, e, q1, q2, h3⟩ := h h0
  exact ⟨g, e, Nat.le_trans h1 q1, Nat.lt_of_lt_of_le q2 h2, h3⟩
theorem PermIn.nil (w : World) (lo hi : Nat) : PermIn w lo hi [] (.slice none 0 0) := ⟨none, 0, rfl, ⟨Nat.le_refl _, by omega⟩, fun h => absurd h (by simp)⟩

/-- A tree in the blocks from lo on, below hi: its permutation and its parts. -/
def TreeIn (w : World) (lo hi : Nat) : Nat → PT → Value → Value → Prop
  | 0, _, _, _ => False
  | d + 1, t, pv, sv => PermIn w lo hi t.perm pv ∧ ∃ A c, sv = .slice A t.parts.length c ∧ (0 < t.parts.length → ∃ g, A = some ⟨g, 0, none⟩ ∧ lo ≤ g ∧ g < hi ∧
      ∀ i (h : i < t.parts.length), ∃ pv' sv', w.cell? ⟨g, i * 3, none⟩ = some (.int .i64 ((t.parts[i]).kind : Nat)) ∧ w.cell? ⟨g, i * 3 + 1, none⟩ = some pv' ∧ w.cell? ⟨g, i * 3 + 2, none⟩ = some sv' ∧ TreeIn w lo hi d t.parts[i] pv' sv')

theorem TreeIn.keep {w w' : World} {lo hi : Nat} (hk : ∀ g, lo ≤ g → g < hi → w'.heap[g]? = w.heap[g]?) : ∀ (d : Nat) (t : PT) (pv sv : Value), TreeIn w lo hi d t pv sv → TreeIn w' lo hi d t pv sv
  | 0, _, _, _, h => h.elim
  | d + 1, t, pv, sv, h => by
    obtain ⟨h1, A, c, e, h2⟩ := h
    refine ⟨h1.keep hk, A, c, e, fun h0 => ?_⟩
    obtain ⟨g, e, q1, q2, h3⟩ := h2 h0
    refine ⟨g, e, q1, q2, fun i hi' => ?_⟩
    obtain ⟨pv', sv', k1, k2, k3, k4⟩ := h3 i hi'
    have hb := hk g q1 q2
    exact ⟨pv', sv', (World.cell?_of_block (w := w) (a := ⟨g, i * 3, none⟩) hb).trans k1, (World.cell?_of_block (w := w) (a := ⟨g, i * 3 + 1, none⟩) hb).trans k2, (World.cell?_of_block (w := w) (a := ⟨g, i * 3 + 2, none⟩) hb).trans k3, TreeIn.keep hk d _ _ _ k4⟩
theorem TreeIn.mono {w : World} {lo hi lo' hi' : Nat} (h1 : lo' ≤ lo) (h2 : hi ≤ hi') : ∀ (d : Nat) (t : PT) (pv sv : Value), TreeIn w lo hi d t pv sv → TreeIn w lo' hi' d t pv sv
  | 0, _, _, _, h => h.elim
  | d + 1, t, pv, sv, h => by
    obtain ⟨q1, A, c, e, q2⟩ := h
    refine ⟨q1.mono h1 h2, A, c, e, fun h0 => ?_⟩
    obtain ⟨g, e, k1, k2, h3⟩ := q2 h0
    refine ⟨g, e, Nat.le_trans h1 k1, Nat.lt_of_lt_of_le k2 h2, fun i hi'' => ?_⟩
    obtain ⟨pv', sv', m1, m2, m3, m4⟩ := h3 i hi''
    exact ⟨pv', sv', m1, m2, m3, TreeIn.mono h1 h2 d _ _ _ m4⟩
theorem TreeIn.fuel {w : World} {lo hi : Nat} : ∀ (d e : Nat) (t : PT) (pv sv : Value), d ≤ e → TreeIn w lo hi d t pv sv → TreeIn w lo hi e t pv sv
  | 0, _, _, _, _, _, h => h.elim
  | d + 1, 0, _, _, _, hde, _ => absurd hde (by omega)
  | d + 1, e + 1, t, pv, sv, hde, h => by
    obtain ⟨q1, A, c, e', q2⟩ := h
    refine ⟨q1, A, c, e', fun h0 => ?_⟩
    obtain ⟨g, e'', k1, k2, h3⟩ := q2 h0
    refine ⟨g, e'', k1, k2, fun i hi' => ?_⟩
    obtain ⟨pv', sv', m1, m2, m3, m4⟩ := h3 i hi'
    exact ⟨pv', sv', m1, m2, m3, TreeIn.fuel d e _ _ _ (by omega) m4⟩

/-- The block tree of a list. -/
def treeF : Nat → List Nat → PT
  | 0, _ => .node 0 [] []
  | f + 1, p => if p.length = 1 then .node 0 [] [] else .node (divL p).1 (if (divL p).1 = 3 then patL p (divL p).2 else []) ((divL p).2.map fun x => treeF f (seg p x.1 x.2))

/-- The parts so far, in a row that is owned by v. -/
def PartsIn (B d : Nat) (v : Value) (ts : List PT) (xs : List Value) (w : World) : Prop :=
  xs.length = ts.length * 3 ∧ ∀ i (h : i < ts.length), ∃ pv sv lo hi, xs[i * 3]? = some (.int .i64 ((ts[i]).kind : Nat)) ∧ xs[i * 3 + 1]? = some pv ∧ xs[i * 3 + 2]? = some sv ∧ B ≤ lo ∧ hi ≤ w.heap.size ∧
    (∀ g, v.ownBlock = some g → g < lo ∨ hi ≤ g) ∧ TreeIn w lo hi d ts[i] pv sv
theorem PartsIn.nil (B d : Nat) (v : Value) (w : World) : PartsIn B d v [] [] w := ⟨rfl, fun _ h => absurd h (by simp)⟩

theorem PartsIn.next {B d g5 k gg cg : Nat} {v u pv sv : Value} {ts : List PT} {t : PT} {xs : List Value} {ob : Obj} {wr w2 w3 : World} (h : PartsIn B d v ts xs wr) (hg5 : g5 < B) (hBr : B ≤ wr.heap.size)
    (hv : ∀ g, v.ownBlock = some g → g < wr.heap.size) (hb2 : Below wr.heap.size wr w2) (ht : TreeIn w2 wr.heap.size w2.heap.size d t pv sv) (hgrow : (w2.alloc ob).grownBy w3 v.ownBlock) (hat : v.ownBlock = some gg ∨ gg = w2.heap.size + 1) :
    PartsIn B d (.slice (some ⟨gg, 0, none⟩) (k + 1) cg) (ts ++ [t]) (xs ++ [.int .i64 (t.kind : Nat), pv, sv]) (w3.setCell ⟨g5, 2, none⟩ u) := by
  obtain ⟨hl, hp⟩ := h
  have hs2 := hb2.size
  have hs3 := hgrow.size
  rw [size_new'] at hs3
  have hkeep : ∀ g, g < w2.heap.size → v.ownBlock ≠ some g → g ≠ g5 → (w3.setCell ⟨g5, 2, none⟩ u).heap[g]? = w2.heap[g]? := fun g h1 h2 h3 =>
    (Below.heap_setCell _ _ _ _ h3).trans ((hgrow.block g (by rw [size_new']; omega) (fun e => h2 e.symm)).trans (Below.heap_alloc _ _ _ h1))
  have hsz : (w3.setCell ⟨g5, 2, none⟩ u).heap.size = w3.heap.size := by simp [World.setCell]
  refine ⟨by rw [List.length_append, List.length_append, hl]; simp; omega, fun i hi => ?_⟩
  by_cases hit : i < ts.length
  · obtain ⟨pv', sv', lo, hi', h1, h2, h3, h4, h5, h6, h7⟩ := hp i hit
    rw [List.getElem_append_left hit]
    refine ⟨pv', sv', lo, hi', ?_, ?_, ?_, h4, by omega, fun g hg => ?_, ?_⟩
    · rw [List.getElem?_append_left (by omega)]; exact h1
    · rw [List.getElem?_append_left (by omega)]; exact h2
    · rw [List.getElem?_append_left (by omega)]; exact h3
    · obtain rfl : gg = g := by simpa [Value.ownBlock] using hg
      rcases hat with e | e
      · exact h6 gg e
      · right; omega
    · refine TreeIn.keep (w := wr) (fun g k1 k2 => ?_) d _ _ _ h7
      refine (hkeep g (by omega) (fun e => ?_) (by omega)).trans (hb2.block g (by omega))
      have := h6 g e
      omega
  · have e : i = ts.length := by rw [List.length_append, List.length_singleton] at hi; omega
    subst e
    rw [List.getElem_append_right (Nat.le_refl _)]
    simp only [Nat.sub_self, List.getElem_cons_zero]
    refine ⟨pv, sv, wr.heap.size, w2.heap.size, ?_, ?_, ?_, hBr, by omega, fun g hg => ?_, ?_⟩
    · rw [List.getElem?_append_right (by omega), hl]; simp
    · rw [List.getElem?_append_right (by omega), hl]; simp
    · rw [List.getElem?_append_right (by omega), hl]; simp
    · obtain rfl : gg = g := by simpa [Value.ownBlock] using hg
      rcases hat with e | e
      · exact .inl (hv _ e)
      · right; omega
    · refine TreeIn.keep (w := w2) (fun g k1 k2 => hkeep g k2 (fun e => ?_) (by omega)) d _ _ _ ht
      have := hv g e
      omega

theorem own_cell3 {w : World} {B g cap n : Nat} {e : TypeId} {xs : List Value} (h : w.ownsRow B e 3 (.slice (some ⟨g, 0, none⟩) n cap) n xs) (i : Nat) (hi : i < n * 3) : w.cell? ⟨g, i, none⟩ = xs[i]? := by
  obtain ⟨hl, ⟨e1, _⟩ | ⟨g', cap', cur, e1, hb, hg, hc, _, hs, ht⟩⟩ := h
  · cases e1
  · injection e1 with e1 e2 e3
    injection e1 with e1
    injection e1 with e1
    subst e1
    rw [cell_of_row w g i cur e (0, 0) hg, ← ht, List.getElem?_take_of_lt hi]
    simp

/-- The whole tree, when all parts are there. -/
theorem PartsIn.tree {B d r kind : Nat} {v pv : Value} {ts : List PT} {xs : List Value} {w wr wf : World} {l : List Nat} (h : PartsIn B d v ts xs wr) (ho : wr.ownsRow B 43 3 v ts.length xs) (hr : r < B) (hB : w.heap.size ≤ B)
    (hk : ∀ g, g ≠ r → wf.heap[g]? = wr.heap[g]?) (hsz : wf.heap.size = wr.heap.size) (hp : PermIn wf w.heap.size wf.heap.size l pv) : TreeIn wf w.heap.size wf.heap.size (d + 1) (.node kind l ts) pv v := by
  refine ⟨hp, ?_⟩
  show ∃ A c, v = .slice A ts.length c ∧ _
  obtain ⟨A, c, rfl⟩ := own_slice ho
  refine ⟨A, c, rfl, fun h0 => ?_⟩
  have h0' : 0 < ts.length := h0
  obtain ⟨hl, ⟨e1, e2⟩ | ⟨g, cap, cur, e1, hb, hg, hrest⟩⟩ := ho
  · omega
  · injection e1 with e1 e2 e3
    subst e1 e3
    have hgl : g < wr.heap.size := (Array.getElem?_eq_some_iff.1 hg).1
    have hown : wr.ownsRow B 43 3 (.slice (some ⟨g, 0, none⟩) ts.length c) ts.length xs := ⟨hl, .inr ⟨g, c, cur, rfl, hb, hg, hrest⟩⟩
    refine ⟨g, rfl, by omega, by omega, fun i hi => ?_⟩
    have hi' : i < ts.length := hi
    obtain ⟨pv', sv', lo, hi2, h1, h2, h3, h4, h5, _, h7⟩ := h.2 i hi'
    have hcell : ∀ j, j < ts.length * 3 → wf.cell? ⟨g, j, none⟩ = xs[j]? := fun j hj => (World.cell?_of_block (w := wr) (a := ⟨g, j, none⟩) (hk g (by omega))).trans (own_cell3 hown j hj)
    refine ⟨pv', sv', (hcell _ (by omega)).trans h1, (hcell _ (by omega)).trans h2, (hcell _ (by omega)).trans h3, ?_⟩
    exact TreeIn.mono (by omega) (by omega) d _ _ _ (TreeIn.keep (w := wr) (fun g' k1 _ => hk g' (by omega)) d _ _ _ h7)

end Go.Proofs.Ytgdaidmkcgblbaa
