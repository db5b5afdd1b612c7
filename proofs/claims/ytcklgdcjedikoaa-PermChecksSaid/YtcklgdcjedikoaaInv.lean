/-
  The iterator over the inversions of a permutation.
-/
import Derived.Test.YtcklgdcjedikoaaLaw
namespace Go.Proofs.Ytcklgdcjedikoaa
open Go.RowKit Go.Shelf

attribute [local go_sem] Oper.semAt_some

/-- The inversions of position i with those positions of a list. -/
def rowOf (p : List Nat) (i : Nat) (ks : List Nat) : List (Nat × Nat) := (ks.filter fun k => decide (p.getD k 0 < p.getD i 0)).map fun k => (i, k)
/-- The inversions whose first position is below i. -/
def invTo (p : List Nat) (i : Nat) : List (Nat × Nat) := (List.range i).flatMap fun i => rowOf p i (List.range' (i + 1) (p.length - (i + 1)))

theorem invTo_succ (p : List Nat) (i : Nat) : invTo p (i + 1) = invTo p i ++ rowOf p i (List.range' (i + 1) (p.length - (i + 1))) := by
  unfold invTo
  rw [List.range_succ, List.flatMap_append]
  simp
theorem rowOf_snoc_yes (p : List Nat) (i : Nat) (ks : List Nat) (k : Nat) (h : p.getD k 0 < p.getD i 0) : rowOf p i (ks ++ [k]) = rowOf p i ks ++ [(i, k)] := by
  unfold rowOf
  rw [List.filter_append, List.map_append, List.filter_cons_of_pos (by simpa using h)]
  rfl
theorem rowOf_snoc_no (p : List Nat) (i : Nat) (ks : List Nat) (k : Nat) (h : ¬ p.getD k 0 < p.getD i 0) : rowOf p i (ks ++ [k]) = rowOf p i ks := by
  unfold rowOf
  rw [List.filter_append, List.map_append, List.filter_cons_of_neg (by simpa using h)]
  simp
theorem rowOf_length (p : List Nat) (i : Nat) (ks : List Nat) : (rowOf p i ks).length ≤ ks.length := by
  unfold rowOf
  rw [List.length_map]
  exact List.length_filter_le _ _
theorem invTo_length (p : List Nat) : ∀ i, (invTo p i).length ≤ i * p.length
  | 0 => by simp [invTo]
  | i + 1 => by
    rw [invTo_succ, List.length_append, Nat.succ_mul]
    have h1 := invTo_length p i
    have h2 := rowOf_length p i (List.range' (i + 1) (p.length - (i + 1)))
    rw [List.length_range'] at h2
    omega

/-- A pair of positions. -/
abbrev Two (p : List Nat) := Fin p.length × Fin p.length
def posOf {p : List Nat} (x : Two p) : Nat × Nat := (x.1.1, x.2.1)
def encI (p : List Nat) (x : Two p) : Array Value := #[.int .i64 ((p.getD x.1.1 0 : Nat) : Int), .int .i64 ((p.getD x.2.1 0 : Nat) : Int)]

/-- A block with these cells holds a row of numbers from off on. -/
def RowAt (o : Obj) (b off : Nat) (p : List Nat) : Prop := ∀ W : World, W.heap[b]? = some o → ∀ j, j < p.length → W.cell? ⟨b, off + j, none⟩ = some (.int .i64 (p.getD j 0 : Nat))

theorem rowAt_of {w : World} {b off n : Nat} {p : List Nat} (h : Sl .i64 w (some ⟨b, off, none⟩) n p) (h0 : 0 < n) : ∃ o, w.heap[b]? = some o ∧ RowAt o b off p := by
  obtain ⟨b', off', e, hs, hc⟩ := h.at h0
  injection e with e
  injection e with e1 e2
  subst e1 e2
  refine ⟨w.heap[b], Array.getElem?_eq_getElem hs, fun W hW j hj => ?_⟩
  have e : W.heap[b]? = w.heap[b]? := hW.trans (Array.getElem?_eq_getElem hs).symm
  exact (World.cell?_of_block (w := w) (a := ⟨b, off + j, none⟩) e).trans (hc j (by have := h.len; omega))

/-- The two blocks stay. -/
def KeepTwo (b c : Nat) (W W' : World) : Prop := W'.heap[b]? = W.heap[b]? ∧ W'.heap[c]? = W.heap[c]?
theorem KeepTwo.refl (b c : Nat) (W : World) : KeepTwo b c W W := ⟨rfl, rfl⟩
theorem KeepTwo.trans {b c : Nat} {A B C : World} (h : KeepTwo b c A B) (k : KeepTwo b c B C) : KeepTwo b c A C := ⟨k.1.trans h.1, k.2.trans h.2⟩
theorem KeepTwo.put {b c B : Nat} (hb : b < B) (hc : c < B) (W : World) (l : Nat) (o : Obj) (h : B ≤ l) : KeepTwo b c W (W.putObj l o) :=
  ⟨World.putObj_heap_other (by omega), World.putObj_heap_other (by omega)⟩

theorem valsAt_keep {Bp b off cap : Nat} {p : List Nat} {W W' : World} (h : KeepTwo b Bp W W') (hv : ValsAt Bp b off cap p W) : ValsAt Bp b off cap p W' :=
  ⟨(World.cell?_of_block (w := W) (a := ⟨Bp, 0, none⟩) h.2).trans hv.1, fun j hj => (World.cell?_of_block (w := W) (a := ⟨b, off + j, none⟩) h.1).trans (hv.2 j hj)⟩

end Go.Proofs.Ytcklgdcjedikoaa
