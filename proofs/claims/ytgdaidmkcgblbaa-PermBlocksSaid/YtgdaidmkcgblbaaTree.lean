/-
  The walk of blockTree: of which kind the tree of a list is, and how many parts it has.
-/
import Derived.Test.YtgdaidmkcgblbaaDivd
import Derived.Deep.RegionHeld3
import Derived.Deep.AppendLies
namespace Go.Proofs.Ytgdaidmkcgblbaa
open Go.RowKit

theorem cutTo_parts (T : List Nat → List Nat → Bool) (p : List Nat) : ∀ k, (∀ x ∈ (cutTo T p k).1, x.1 < x.2 ∧ x.2 ≤ k) ∧ ((cutTo T p k).1 = [] ∧ (cutTo T p k).2 = 0 ∨ 0 < (cutTo T p k).2)
  | 0 => ⟨fun x hx => absurd hx (by simp [cutTo]), .inl ⟨rfl, rfl⟩⟩
  | k + 1 => by
    have ih := cutTo_parts T p k
    have hle := cutTo_le T p k
    unfold cutTo
    split
    · refine ⟨fun x hx => ?_, .inr (Nat.succ_pos k)⟩
      rcases List.mem_append.1 hx with h | h
      · have := ih.1 x h; omega
      · rw [List.mem_singleton.1 h]; dsimp only; omega
    · exact ⟨fun x hx => by have := ih.1 x hx; omega, ih.2⟩
theorem cutL_parts (T : List Nat → List Nat → Bool) (p : List Nat) (h0 : 1 ≤ p.length) (h : 1 < (cutL T p).length) : ∀ x ∈ cutL T p, x.1 < x.2 ∧ x.2 ≤ p.length ∧ x.2 - x.1 < p.length := by
  have hp := cutTo_parts T p (p.length - 1)
  have hle := cutTo_le T p (p.length - 1)
  unfold cutL at *
  have hs : 0 < (cutTo T p (p.length - 1)).2 := by
    rcases hp.2 with ⟨e, _⟩ | e
    · rw [e] at h; simp at h
    · exact e
  intro x hx
  rcases List.mem_append.1 hx with h | h
  · have := hp.1 x h; omega
  · rw [List.mem_singleton.1 h]; dsimp only; omega
theorem longFrom_parts (p : List Nat) (h2 : 2 ≤ p.length) : ∀ f s, ∀ x ∈ longFrom p f s, x.1 < x.2 ∧ x.2 ≤ p.length ∧ x.2 - x.1 < p.length
  | 0, _ => fun x hx => absurd hx (by simp [longFrom])
  | f + 1, s => by
    unfold longFrom
    by_cases hs : s < p.length
    · rw [if_pos hs]
      intro x hx
      rcases List.mem_cons.1 hx with rfl | h
      · have h1 := longE_in p s hs h2
        dsimp only
        by_cases e : s = 0
        · subst e
          have h3 := longEnd_in p 0 (p.length - 1) (by omega) (by omega)
          have h4 : longE p 0 = longEnd p 0 (p.length - 1) := by unfold longE; rw [if_pos rfl]
          omega
        · omega
      · exact longFrom_parts p h2 f _ x h
    · rw [if_neg hs]; exact fun x hx => absurd hx (by simp)
theorem cutL_length (T : List Nat → List Nat → Bool) (p : List Nat) (h0 : 1 ≤ p.length) : (cutL T p).length ≤ p.length := by
  have hle := cutTo_le T p (p.length - 1)
  unfold cutL
  rw [List.length_append, List.length_singleton]
  omega
theorem longFrom_length (p : List Nat) (h2 : 2 ≤ p.length) : ∀ f s, (longFrom p f s).length ≤ p.length - s
  | 0, _ => Nat.zero_le _
  | f + 1, s => by
    unfold longFrom
    by_cases hs : s < p.length
    · rw [if_pos hs, List.length_cons]
      have h1 := longE_in p s hs h2
      have := longFrom_length p h2 f (longE p s)
      omega
    · rw [if_neg hs]; exact Nat.zero_le _
theorem divL_parts (p : List Nat) (h2 : 2 ≤ p.length) : (∀ x ∈ (divL p).2, x.1 < x.2 ∧ x.2 ≤ p.length ∧ x.2 - x.1 < p.length) ∧ (divL p).2.length ≤ p.length := by
  unfold divL
  split
  · next h => exact ⟨cutL_parts _ p (by omega) h, cutL_length _ p (by omega)⟩
  · split
    · next h => exact ⟨cutL_parts _ p (by omega) h, cutL_length _ p (by omega)⟩
    · exact ⟨longFrom_parts p h2 _ _, by have := longFrom_length p h2 p.length 0; unfold longL; omega⟩

def kindOf (p : List Nat) : Nat := if p.length = 1 then 0 else (divL p).1
def partsOf (p : List Nat) : Nat := if p.length = 1 then 0 else (divL p).2.length

/-- A tree of a kind with so many parts. -/
def RetTree (p : List Nat) (w : World) (e : Ending) (w' : World) : Prop :=
  ∃ pa pn pc A c, e = .returned (.agg #[.int .i64 (kindOf p), .slice pa pn pc, .slice A (partsOf p) c]) ∧ Below w.heap.size w w'

theorem info_tree : (Try.prog.info? 43).map (fun i => (i.zero, i.size, i.bytes)) = some (some (.agg #[.int .i64 0, .slice none 0 0, .slice none 0 0]), 3, 56) := by kernel_rfl

theorem below_new' (w : World) (o : Obj) : Below w.heap.size w (w.alloc o) := (Below.refl _ _).alloc (Nat.le_refl _) o

theorem Blk.more' {w : World} {g : Nat} {t : TypeId} {cs : Array Value} (h : Blk w g t cs) (o : Obj) : Blk (w.alloc o) g t cs := (Below.heap_alloc w o g h.lt).trans h

theorem alloc_size_le {n : Nat} (w : World) (o : Obj) (h : n ≤ w.heap.size) : n ≤ (w.alloc o).heap.size := by simp; omega
theorem three_cells (a b c : Value) (ha : a.oneCell' = true) (hb : b.oneCell' = true) (hc : c.oneCell' = true) : ∀ u ∈ [a, b, c], u.oneCell' = true := by
  intro u hu
  simp only [List.mem_cons, List.not_mem_nil, or_false] at hu
  rcases hu with rfl | rfl | rfl <;> assumption

theorem one_cell (a : Value) (ha : a.oneCell' = true) : ∀ u ∈ [a], u.oneCell' = true := by
  intro u hu
  rw [List.mem_singleton.1 hu]; exact ha
theorem size_new'' (w : World) (o : Obj) : (w.alloc o).heap.size = w.heap.size + 1 := by simp

theorem own_not {w : World} {B size n g : Nat} {e : TypeId} {v : Value} {xs : List Value} (h : w.ownsRow B e size v n xs) (hg : g < B) : some g ≠ v.ownBlock := by
  obtain ⟨hl, ⟨rfl, _⟩ | ⟨g', cap, cur, rfl, hb, _⟩⟩ := h
  · simp [Value.ownBlock]
  · simp [Value.ownBlock]; omega

theorem own_keep {w w' : World} {B size n : Nat} {e : TypeId} {v : Value} {xs : List Value} (h : w.ownsRow B e size v n xs) (hk : Below w.heap.size w w') : w'.ownsRow B e size v n xs := by
  obtain ⟨hl, h1 | ⟨g, cap, cur, e1, hb, hg, rest⟩⟩ := h
  · exact ⟨hl, .inl h1⟩
  · exact ⟨hl, .inr ⟨g, cap, cur, e1, hb, (hk.block g (Array.getElem?_eq_some_iff.1 hg).1).trans hg, rest⟩⟩

end Go.Proofs.Ytgdaidmkcgblbaa
