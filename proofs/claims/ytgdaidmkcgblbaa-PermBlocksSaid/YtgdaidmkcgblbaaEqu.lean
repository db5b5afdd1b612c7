/-
  Trees of any integers, in memory, of which all blocks are in a set; parts under way in a row that grows.
  The walk of the law's give: a tree of the reference's as one of the program's.
  The walk of the law's equal, of two trees that are the same.
-/
import Derived.Test.YtgdaidmkcgblbaaSimR
import Derived.Test.YtgdaidmkcgblbaaTreeM
import Derived.Test.YtgdaidmkcgblbaaTreeT
import Derived.Test.YtgdaidmkcgblbaaCanR
import Derived.Test.YtgdaidmkcgblbaaSame
namespace Go.Proofs.Ytgdaidmkcgblbaa
open Go.RowKit

/-- A row of integers in a block of S. -/
def PermS (w : World) (S : Nat → Prop) (l : List Int) (v : Value) : Prop :=
  ∃ A c, v = .slice A l.length c ∧ (l.length ≤ c ∧ c ≤ 9223372036854775807 ∧ l.length ≤ 4611686018427387904) ∧ (∀ z ∈ l, -9223372036854775808 ≤ z ∧ z ≤ 9223372036854775807) ∧
    (0 < l.length → ∃ g off, A = some ⟨g, off, none⟩ ∧ S g ∧ ∀ i, i < l.length → w.cell? ⟨g, off + i, none⟩ = some (.int .i64 (l.getD i 0)))
theorem PermS.keep {w w' : World} {S S' : Nat → Prop} {l : List Int} {v : Value} (h : PermS w S l v) (hk : ∀ g, S g → S' g ∧ w'.heap[g]? = w.heap[g]?) : PermS w' S' l v := by
  obtain ⟨A, c, e, hc, hb, h⟩ := h
  refine ⟨A, c, e, hc, hb, fun h0 => ?_⟩
  obtain ⟨g, off, e, h1, h3⟩ := h h0
  exact ⟨g, off, e, (hk g h1).1, fun i hi' => (World.cell?_of_block (w := w) (a := ⟨g, off + i, none⟩) (hk g h1).2).trans (h3 i hi')⟩
theorem PermZ.toS {w : World} {lo hi : Nat} {l : List Int} {v : Value} (h : PermZ w lo hi l v) : PermS w (fun g => lo ≤ g ∧ g < hi) l v := by
  obtain ⟨A, c, e, hc, hb, h⟩ := h
  refine ⟨A, c, e, hc, hb, fun h0 => ?_⟩
  obtain ⟨g, off, e, h1, h2, h3⟩ := h h0
  exact ⟨g, off, e, ⟨h1, h2⟩, h3⟩
theorem PermS.toZ {w : World} {lo hi : Nat} {l : List Int} {v : Value} (h : PermS w (fun g => lo ≤ g ∧ g < hi) l v) : PermZ w lo hi l v := by
  obtain ⟨A, c, e, hc, hb, h⟩ := h
  refine ⟨A, c, e, hc, hb, fun h0 => ?_⟩
  obtain ⟨g, off, e, ⟨h1, h2⟩, h3⟩ := h h0
  exact ⟨g, off, e, h1, h2, h3⟩
theorem PermS.nil (w : World) (S : Nat → Prop) : PermS w S [] (.slice none 0 0) := ⟨none, 0, rfl, ⟨Nat.le_refl _, by omega, by show 0 ≤ _; omega⟩, (fun z h => by cases h), fun h => absurd h (by simp)⟩

/-- A tree in the blocks of S. -/
def ITS (w : World) (S : Nat → Prop) : Nat → IT → Value → Value → Prop
  | 0, _, _, _ => False
  | d + 1, t, pv, sv => PermS w S t.perm pv ∧ ∃ A c, sv = .slice A t.parts.length c ∧ (0 < t.parts.length → ∃ g off, A = some ⟨g, off, none⟩ ∧ S g ∧
      ∀ i (h : i < t.parts.length), ∃ pv' sv', w.cell? ⟨g, off + i * 3, none⟩ = some (.int .i64 (t.parts[i]).kind) ∧ w.cell? ⟨g, off + i * 3 + 1, none⟩ = some pv' ∧ w.cell? ⟨g, off + i * 3 + 2, none⟩ = some sv' ∧ ITS w S d t.parts[i] pv' sv')
theorem ITS.keep {w w' : World} {S S' : Nat → Prop} (hk : ∀ g, S g → S' g ∧ w'.heap[g]? = w.heap[g]?) : ∀ (d : Nat) (t : IT) (pv sv : Value), ITS w S d t pv sv → ITS w' S' d t pv sv
  | 0, _, _, _, h => h.elim
  | d + 1, t, pv, sv, h => by
    obtain ⟨h1, A, c, e, h2⟩ := h
    refine ⟨h1.keep hk, A, c, e, fun h0 => ?_⟩
    obtain ⟨g, off, e, q1, h3⟩ := h2 h0
    refine ⟨g, off, e, (hk g q1).1, fun i hi' => ?_⟩
    obtain ⟨pv', sv', k1, k2, k3, k4⟩ := h3 i hi'
    have hb := (hk g q1).2
    exact ⟨pv', sv', (World.cell?_of_block (w := w) (a := ⟨g, off + i * 3, none⟩) hb).trans k1, (World.cell?_of_block (w := w) (a := ⟨g, off + i * 3 + 1, none⟩) hb).trans k2, (World.cell?_of_block (w := w) (a := ⟨g, off + i * 3 + 2, none⟩) hb).trans k3, ITS.keep hk d _ _ _ k4⟩
theorem ITIn.toS {w : World} {lo hi : Nat} : ∀ (d : Nat) (t : IT) (pv sv : Value), ITIn w lo hi d t pv sv → ITS w (fun g => lo ≤ g ∧ g < hi) d t pv sv
  | 0, _, _, _, h => h.elim
  | d + 1, t, pv, sv, h => by
    obtain ⟨h1, A, c, e, h2⟩ := h
    refine ⟨h1.toS, A, c, e, fun h0 => ?_⟩
    obtain ⟨g, off, e, q1, q2, h3⟩ := h2 h0
    refine ⟨g, off, e, ⟨q1, q2⟩, fun i hi' => ?_⟩
    obtain ⟨pv', sv', k1, k2, k3, k4⟩ := h3 i hi'
    exact ⟨pv', sv', k1, k2, k3, ITIn.toS d _ _ _ k4⟩
theorem ITS.toIn {w : World} {lo hi : Nat} : ∀ (d : Nat) (t : IT) (pv sv : Value), ITS w (fun g => lo ≤ g ∧ g < hi) d t pv sv → ITIn w lo hi d t pv sv
  | 0, _, _, _, h => h.elim
  | d + 1, t, pv, sv, h => by
    obtain ⟨h1, A, c, e, h2⟩ := h
    refine ⟨h1.toZ, A, c, e, fun h0 => ?_⟩
    obtain ⟨g, off, e, ⟨q1, q2⟩, h3⟩ := h2 h0
    refine ⟨g, off, e, q1, q2, fun i hi' => ?_⟩
    obtain ⟨pv', sv', k1, k2, k3, k4⟩ := h3 i hi'
    exact ⟨pv', sv', k1, k2, k3, ITS.toIn d _ _ _ k4⟩
theorem ITS.fuel {w : World} {S : Nat → Prop} : ∀ (d e : Nat) (t : IT) (pv sv : Value), d ≤ e → ITS w S d t pv sv → ITS w S e t pv sv
  | 0, _, _, _, _, _, h => h.elim
  | d + 1, 0, _, _, _, hde, _ => absurd hde (by omega)
  | d + 1, e + 1, t, pv, sv, hde, h => by
    obtain ⟨q1, A, c, e', q2⟩ := h
    refine ⟨q1, A, c, e', fun h0 => ?_⟩
    obtain ⟨g, off, e'', k1, h3⟩ := q2 h0
    refine ⟨g, off, e'', k1, fun i hi' => ?_⟩
    obtain ⟨pv', sv', m1, m2, m3, m4⟩ := h3 i hi'
    exact ⟨pv', sv', m1, m2, m3, ITS.fuel d e _ _ _ (by omega) m4⟩
theorem ITS.slices {w : World} {S : Nat → Prop} : ∀ {d : Nat} {t : IT} {pv sv : Value}, ITS w S d t pv sv → ∃ pa pn pc A n c, pv = .slice pa pn pc ∧ sv = .slice A n c
  | 0, _, _, _, h => h.elim
  | _ + 1, _, _, _, ⟨⟨pa, pc, e1, _⟩, A, c, e2, _⟩ => ⟨pa, _, pc, A, _, c, e1, e2⟩

/-- The blocks below lo', or from lo on. -/
abbrev Old (S : Nat → Prop) (lo hi : Nat) (g : Nat) : Prop := S g ∨ (lo ≤ g ∧ g < hi)

/-- The parts so far, in a row that is owned by v: each lies in S, or in new blocks of its own. -/
def PartsS (S : Nat → Prop) (B d : Nat) (v : Value) (ts : List IT) (xs : List Value) (w : World) : Prop :=
  xs.length = ts.length * 3 ∧ ∀ i (h : i < ts.length), ∃ pv sv lo hi, xs[i * 3]? = some (.int .i64 (ts[i]).kind) ∧ xs[i * 3 + 1]? = some pv ∧ xs[i * 3 + 2]? = some sv ∧ B ≤ lo ∧ hi ≤ w.heap.size ∧
    (∀ g, v.ownBlock = some g → g < lo ∨ hi ≤ g) ∧ ITS w (Old S lo hi) d ts[i] pv sv
theorem PartsS.nil (S : Nat → Prop) (B d : Nat) (v : Value) (w : World) : PartsS S B d v [] [] w := ⟨rfl, fun _ h => absurd h (by simp)⟩

theorem PartsS.next {S : Nat → Prop} {B d g5 i5 k gg cg : Nat} {v u pv sv : Value} {ts : List IT} {t : IT} {xs : List Value} {ob : Obj} {wr w2 w3 : World} (h : PartsS S B d v ts xs wr) (hS : ∀ g, S g → g < B ∧ g ≠ g5) (hg5 : g5 < B) (hBr : B ≤ wr.heap.size) (hvB : ∀ g, v.ownBlock = some g → B ≤ g)
    (hv : ∀ g, v.ownBlock = some g → g < wr.heap.size) (hb2 : Below wr.heap.size wr w2) (ht : ITS w2 (Old S wr.heap.size w2.heap.size) d t pv sv) (hgrow : (w2.alloc ob).grownBy w3 v.ownBlock) (hat : v.ownBlock = some gg ∨ gg = w2.heap.size + 1) :
    PartsS S B d (.slice (some ⟨gg, 0, none⟩) (k + 1) cg) (ts ++ [t]) (xs ++ [.int .i64 t.kind, pv, sv]) (w3.setCell ⟨g5, i5, none⟩ u) := by
  obtain ⟨hl, hp⟩ := h
  have hs2 := hb2.size
  have hs3 := hgrow.size
  rw [size_new'] at hs3
  have hkeep : ∀ g, g < w2.heap.size → v.ownBlock ≠ some g → g ≠ g5 → (w3.setCell ⟨g5, i5, none⟩ u).heap[g]? = w2.heap[g]? := fun g h1 h2 h3 =>
    (Below.heap_setCell _ _ _ _ h3).trans ((hgrow.block g (by rw [size_new']; omega) (fun e => h2 e.symm)).trans (Below.heap_alloc _ _ _ h1))
  have hsz : (w3.setCell ⟨g5, i5, none⟩ u).heap.size = w3.heap.size := by simp [World.setCell]
  refine ⟨by rw [List.length_append, List.length_append, hl]; simp; omega, fun i hi => ?_⟩
  by_cases hit : i < ts.length
  · obtain ⟨pv', sv', lo, hi', h1, h2, h3, h4, h5, h6, h7⟩ := hp i hit
    rw [List.getElem_append_left hit]
    refine ⟨pv', sv', lo, hi', ?_, ?_, ?_, h4, by omega, fun g hg => ?_, ?_⟩
    · rw [List.getElem?_append_left (by omega)]; exact h1
    · rw [List.getElem?_append_left (by omega)]; exact h2
    · rw [List.getElem?_append_left (by omega)]; exact h3
    · obtain rfl : gg = g := by simpa [Value.ownBlock] using hg
      rcases hat with e | e
      · exact h6 gg e
      · right; omega
    · refine ITS.keep (w := wr) (fun g hg => ⟨hg, ?_⟩) d _ _ _ h7
      have hgs : g < wr.heap.size ∧ g ≠ g5 ∧ v.ownBlock ≠ some g := by
        rcases hg with hg | ⟨k1, k2⟩
        · have := hS g hg
          refine ⟨by omega, this.2, fun e => ?_⟩
          have := hvB g e
          omega
        · refine ⟨by omega, by omega, fun e => ?_⟩
          have := h6 g e
          omega
      exact (hkeep g (by omega) hgs.2.2 hgs.2.1).trans (hb2.block g hgs.1)
  · have e : i = ts.length := by rw [List.length_append, List.length_singleton] at hi; omega
    subst e
    rw [List.getElem_append_right (Nat.le_refl _)]
    simp only [Nat.sub_self, List.getElem_cons_zero]
    refine ⟨pv, sv, wr.heap.size, w2.heap.size, ?_, ?_, ?_, hBr, by omega, fun g hg => ?_, ?_⟩
    · rw [List.getElem?_append_right (by omega), hl]; simp
    · rw [List.getElem?_append_right (by omega), hl]; simp
    · rw [List.getElem?_append_right (by omega), hl]; simp
    · obtain rfl : gg = g := by simpa [Value.ownBlock] using hg
      rcases hat with e | e
      · exact .inl (hv _ e)
      · right; omega
    · refine ITS.keep (w := w2) (fun g hg => ⟨hg, ?_⟩) d _ _ _ ht
      have hgs : g < w2.heap.size ∧ g ≠ g5 ∧ v.ownBlock ≠ some g := by
        rcases hg with hg | ⟨k1, k2⟩
        · have := hS g hg
          refine ⟨by omega, this.2, fun e => ?_⟩
          have := hvB g e
          omega
        · refine ⟨by omega, by omega, fun e => ?_⟩
          have := hv g e
          omega
      exact hkeep g hgs.1 hgs.2.2 hgs.2.1

/-- The whole tree, when all parts are there. -/
theorem PartsS.tree {S S' : Nat → Prop} {B d r : Nat} {kind : Int} {v pv : Value} {ts : List IT} {xs : List Value} {wr wf : World} {l : List Int} {e : TypeId} (h : PartsS S B d v ts xs wr) (ho : wr.ownsRow B e 3 v ts.length xs) (hr : r < B) (hSr : ∀ g, S g → g ≠ r ∧ S' g)
    (hk : ∀ g, g ≠ r → wf.heap[g]? = wr.heap[g]?) (hS' : ∀ g, B ≤ g → g < wr.heap.size → S' g) (hp : PermS wf S' l pv) : ITS wf S' (d + 1) (.node kind l ts) pv v := by
  refine ⟨hp, ?_⟩
  show ∃ A c, v = .slice A ts.length c ∧ _
  obtain ⟨A, c, rfl⟩ := own_slice ho
  refine ⟨A, c, rfl, fun h0 => ?_⟩
  have h0' : 0 < ts.length := h0
  obtain ⟨hl, ⟨e1, e2⟩ | ⟨g, cap, cur, e1, hb, hg, hrest⟩⟩ := ho
  · omega
  · injection e1 with e1 e2 e3
    subst e1 e3
    have hgl : g < wr.heap.size := (Array.getElem?_eq_some_iff.1 hg).1
    have hown : wr.ownsRow B e 3 (.slice (some ⟨g, 0, none⟩) ts.length c) ts.length xs := ⟨hl, .inr ⟨g, c, cur, rfl, hb, hg, hrest⟩⟩
    refine ⟨g, 0, rfl, hS' g hb hgl, fun i hi => ?_⟩
    have hi' : i < ts.length := hi
    obtain ⟨pv', sv', lo, hi2, h1, h2, h3, h4, h5, _, h7⟩ := h.2 i hi'
    have hcell : ∀ j, j < ts.length * 3 → wf.cell? ⟨g, j, none⟩ = xs[j]? := fun j hj => (World.cell?_of_block (w := wr) (a := ⟨g, j, none⟩) (hk g (by omega))).trans (own_cell3 hown j hj)
    rw [Nat.zero_add]
    refine ⟨pv', sv', (hcell _ (by omega)).trans h1, (hcell _ (by omega)).trans h2, (hcell _ (by omega)).trans h3, ?_⟩
    refine ITS.keep (w := wr) (fun g' hg' => ?_) d _ _ _ h7
    rcases hg' with hg' | ⟨k1, k2⟩
    · exact ⟨(hSr g' hg').2, hk g' (hSr g' hg').1⟩
    · exact ⟨hS' g' (by omega) (by omega), hk g' (by omega)⟩

end Go.Proofs.Ytgdaidmkcgblbaa

namespace Go.Proofs.Ytgdaidmkcgblbaa
open Go.RowKit

/-- A tree is returned: its blocks are those of S, and new ones. -/
def RetGive (S : Nat → Prop) (d : Nat) (t : IT) (w : World) (e : Ending) (w' : World) : Prop :=
  ∃ pa pn pc A n c, e = .returned (.agg #[.int .i64 t.kind, .slice pa pn pc, .slice A n c]) ∧ ITS w' (Old S w.heap.size w'.heap.size) d t (.slice pa pn pc) (.slice A n c) ∧ Below w.heap.size w w'

/-- What give's loop keeps. -/
structure GiveRel (S : Nat → Prop) (X0 : World) (g5 : Nat) (kind : Int) (d : Nat) (pa : Option Addr) (pn pc : Nat) (ts : List IT) (k : Nat) (v : Value) (w wr : World) : Prop where
  tree : Blk wr g5 43 #[.int .i64 kind, .slice pa pn pc, v]
  own : ∃ xs, wr.ownsRow X0.heap.size 43 3 v k xs ∧ PartsS S X0.heap.size d v ts xs wr
  size : X0.heap.size ≤ wr.heap.size
  old : ∀ i, i < X0.heap.size → i ≠ g5 → wr.heap[i]? = X0.heap[i]?
  bel : Below w.heap.size w wr

theorem GiveRel.next {S : Nat → Prop} {X0 w wr w2 w3 : World} {g5 d k gg cg : Nat} {kind : Int} {pa : Option Addr} {pn pc : Nat} {v pv sv : Value} {ts : List IT} {t : IT} {xs : List Value} {o : Obj} (hT : GiveRel S X0 g5 kind d pa pn pc ts k v w wr) (hX5 : g5 < X0.heap.size) (hw5 : w.heap.size ≤ g5) (hwX : w.heap.size ≤ X0.heap.size)
    (hS : ∀ g, S g → g < w.heap.size)
    (hown2 : wr.ownsRow X0.heap.size 43 3 v k xs) (hparts : PartsS S X0.heap.size d v ts xs wr)
    (hb2 : Below wr.heap.size wr w2) (hown3 : w2.ownsRow X0.heap.size 43 3 v k xs) (hgrow : (w2.alloc o).grownBy w3 v.ownBlock) (hB3 : Blk w3 g5 43 #[.int .i64 kind, .slice pa pn pc, v])
    (ht : ITS w2 (Old S wr.heap.size w2.heap.size) d t pv sv) (hat : v.ownBlock = some gg ∨ gg = w2.heap.size + 1)
    (hown4 : w3.ownsRow X0.heap.size 43 3 (.slice (some ⟨gg, 0, none⟩) (k + 1) cg) (k + 1) (xs ++ [.int .i64 t.kind, pv, sv])) :
    GiveRel S X0 g5 kind d pa pn pc (ts ++ [t]) (k + 1) (.slice (some ⟨gg, 0, none⟩) (k + 1) cg) w (w3.setCell ⟨g5, 2, none⟩ (.slice (some ⟨gg, 0, none⟩) (k + 1) cg)) := by
  have hs2 : wr.heap.size ≤ w2.heap.size := hb2.size
  have hb3 := own_below hown3 (Nat.le_trans hT.size hs2) hgrow
  have hb3w := own_below (own_base hown3 hwX) (Nat.le_trans hwX (Nat.le_trans hT.size hs2)) hgrow
  have hgg : X0.heap.size ≤ gg := by
    obtain ⟨hl, ⟨e1, h0⟩ | ⟨g, cap, cur, e1, hb, _⟩⟩ := hown4
    · omega
    · injection e1 with e1 e2 e3
      injection e1 with e1
      injection e1 with e1
      omega
  have hpn := hparts.next (k := k) (cg := cg) (g5 := g5) (i5 := 2) (u := .slice (some ⟨gg, 0, none⟩) (k + 1) cg) (fun g hg => by have := hS g hg; omega) hX5 hT.size (fun g hg => (hown2.lt g hg).1) (fun g hg => (hown2.lt g hg).2) hb2 ht hgrow hat
  refine ⟨?_, ⟨_, own_same hown4 fun g hg => ?_, hpn⟩, ?_, fun i hi hne => ?_, ?_⟩
  · have := hB3.store 2 (.slice (some ⟨gg, 0, none⟩) (k + 1) cg)
    simpa using this
  · obtain rfl : gg = g := by simpa [Value.ownBlock] using hg
    exact Below.heap_setCell _ _ _ _ (by simp; omega)
  · have := hb3.size
    have := hT.size
    simp [World.setCell]; omega
  · have e1 : w3.heap[i]? = w2.heap[i]? := hb3.block i hi
    have e2 : w2.heap[i]? = wr.heap[i]? := hb2.block i (Nat.lt_of_lt_of_le hi hT.size)
    exact (Below.heap_setCell _ _ _ _ hne).trans (e1.trans (e2.trans (hT.old i hi hne)))
  · exact ((hT.bel.trans (hb2.mono hT.bel.size)).trans hb3w).setCell hw5 _

theorem parts_leS {w : World} {S : Nat → Prop} {d : Nat} {t : IT} {pv sv : Value} (h : ITS w S (d + 1) t pv sv) : t.parts.length ≤ nodeN (d + 1) t := by
  obtain ⟨-, A, c, -, hp⟩ := h
  cases d with
  | zero =>
    by_cases h0 : 0 < t.parts.length
    · obtain ⟨g, off, -, -, hr⟩ := hp h0
      obtain ⟨_, _, _, _, _, k4⟩ := hr 0 h0
      exact k4.elim
    · omega
  | succ e =>
    have hs : ∀ ts : List IT, ts.length ≤ sumF (nodeN (e + 1)) ts := fun ts => by
      induction ts with
      | nil => exact Nat.le_refl _
      | cons u us ih =>
        show us.length + 1 ≤ (1 + _) + sumF (nodeN (e + 1)) us
        omega
    have := hs t.parts
    show _ ≤ 1 + sumF (nodeN (e + 1)) t.parts
    omega

set_option maxRecDepth 100000 in
set_option maxHeartbeats 8000000 in
theorem give_any (S : Nat → Prop) : ∀ (d : Nat) (t : IT) (pa : Option Addr) (pn pc : Nat) (A : Option Addr) (n c : Nat) (w : World), ITS w S d t (.slice pa pn pc) (.slice A n c) → (∀ g, S g → g < w.heap.size) → nodeN d t ≤ 1000 →
    Calls Try.prog 55 #[.agg #[.int .i64 t.kind, .slice pa pn pc, .slice A n c]] w (RetGive S d t w)
  | 0, _, _, _, _, _, _, _, _, h, _, _ => h.elim
  | d + 1, t, pa, pn, pc, A, n, c, w, h, hS, hnodes => by
    have ih := give_any S d
    have hple : t.parts.length ≤ nodeN (d + 1) t := parts_leS h
    obtain ⟨hp, A', c', e1, hparts⟩ := h
    injection e1 with e1 e2 e3
    subst e1 e2 e3
    obtain ⟨i0, hi, hz0, hz1, hz2⟩ := info_parts info_tree
    obtain ⟨W1, hW1⟩ : ∃ W1, W1 = w.alloc (.cells #[.int .i64 t.kind, .slice pa pn pc, .slice A t.parts.length c] 64) := ⟨_, rfl⟩
    have hb1 : Below w.heap.size w W1 := by rw [hW1]; exact below_new' w _
    have hbx1 : Blk W1 w.heap.size 64 #[.int .i64 t.kind, .slice pa pn pc, .slice A t.parts.length c] := by rw [hW1]; exact Blk.new w _ _
    have hs1 : W1.heap.size = w.heap.size + 1 := by rw [hW1]; exact size_new' w _
    have Hround : Hid (∀ k, k < t.parts.length → ∃ (u : IT) (g off : Nat) (pv' sv' : Value), t.parts.take (k + 1) = t.parts.take k ++ [u] ∧ nodeN d u ≤ 1000 ∧ A = some ⟨g, off, none⟩ ∧ S g ∧
        w.cell? ⟨g, off + k * 3, none⟩ = some (.int .i64 u.kind) ∧ w.cell? ⟨g, off + k * 3 + 1, none⟩ = some pv' ∧ w.cell? ⟨g, off + k * 3 + 2, none⟩ = some sv' ∧ ITS w S d u pv' sv') := fun k hk => by
      have hn := node_part (d := d) (t := t) hk
      obtain ⟨g, off, eA, hg1, hrow⟩ := hparts (by omega)
      obtain ⟨pv', sv', k1, k2, k3, k4⟩ := hrow k hk
      exact ⟨t.parts[k], g, off, pv', sv', take_part hk, by omega, eA, hg1, k1, k2, k3, k4⟩
    have Hih := Lib.hid ih
    have HS := Lib.hid hS
    have Hp := Lib.hid hp
    have htE : t = .node t.kind t.perm t.parts := by cases t; rfl
    have hql9 : t.parts.length ≤ 1000 := by omega
    clear ih hparts hp hS hnodes hple
    obtain ⟨K, hK⟩ : ∃ K, t.kind = K := ⟨_, rfl⟩
    rw [hK] at htE hbx1 hW1 ⊢
    have HtE := Lib.hid htE.symm
    have HKE := Lib.hid hK
    clear hK htE
    go_enter Try.func55, Try.ntmps55
    go_upto_region 2 with fail
    rw [← hW1]
    clear hW1
    have hb2 : Below w.heap.size w (W1.alloc (.cells #[.int .i64 0, .slice none 0 0, .slice none 0 0] 43)) := hb1.alloc hb1.size _
    have hbx2 := Blk.more' hbx1 (.cells #[.int .i64 0, .slice none 0 0, .slice none 0 0] 43)
    have hre2 := Blk.new W1 43 #[.int .i64 0, .slice none 0 0, .slice none 0 0]
    have hs2 := size_new' W1 (.cells #[.int .i64 0, .slice none 0 0, .slice none 0 0] 43)
    generalize W1.alloc (.cells #[.int .i64 0, .slice none 0 0, .slice none 0 0] 43) = W2 at *
    have hb3 : Below w.heap.size w (W2.alloc (.cells #[.int .i64 K, .slice pa pn pc, .slice none 0 0] 43)) := hb2.alloc hb2.size _
    have hbx3 := Blk.more' hbx2 (.cells #[.int .i64 K, .slice pa pn pc, .slice none 0 0] 43)
    have hre3 := Blk.more' hre2 (.cells #[.int .i64 K, .slice pa pn pc, .slice none 0 0] 43)
    have hou3 := Blk.new W2 43 #[.int .i64 K, .slice pa pn pc, .slice none 0 0]
    rw [hs1] at hre3
    rw [hs2, hs1] at hou3
    obtain ⟨X0, hX0⟩ : ∃ X0, X0 = W2.alloc (.cells #[.int .i64 K, .slice pa pn pc, .slice none 0 0] 43) := ⟨_, rfl⟩
    rw [← hX0] at hb3 hbx3 hre3 hou3
    have hsX : X0.heap.size = w.heap.size + 1 + 1 + 1 := by rw [hX0, size_new', hs2, hs1]
    rw [← hX0]
    clear hX0 hs1 hs2 hb1 hb2 hbx1 hbx2 hre2
    generalize hg5 : w.heap.size + 1 + 1 = g5 at *
    have hg5l : g5 < X0.heap.size := by omega
    have hg5r : g5 ≠ w.heap.size + 1 := by omega
    have hg5b : g5 ≠ w.heap.size := by omega
    have hw5 : w.heap.size ≤ g5 := by omega
    have hwX : w.heap.size ≤ X0.heap.size := by omega
    have hrX : w.heap.size + 1 < X0.heap.size := by omega
    have hbX : w.heap.size < X0.heap.size := by omega
    clear hsX hg5
    have Hb3 := Lib.hid hb3
    have Hou3 := Lib.hid hou3
    have Hbx3 := Lib.hid hbx3
    have Hre3 := Lib.hid hre3
    clear hb3 hou3 hbx3 hre3
    go_wp2_with fail
    go_loopw [4] (fun iv wr => ∃ (k : Nat) (v : Value), k ≤ t.parts.length ∧ iv = .int .i64 k ∧ GiveRel S X0 g5 K d pa pn pc (t.parts.take k) k v w wr) (fun iv _ => t.parts.length - (intOf iv).toNat)
    case atStart => exact ⟨0, _, Nat.zero_le _, rfl, Hou3.out, ⟨[], ⟨rfl, .inl ⟨rfl, rfl⟩⟩, PartsS.nil _ _ _ _ _⟩, Nat.le_refl _, fun _ _ _ => rfl, Hb3.out⟩
    case round =>
      obtain ⟨k, v, hk, rfl, hT⟩ := hrel
      obtain ⟨xs, hown2, hpar⟩ := hT.own
      have hresr : Blk wr (w.heap.size + 1) 43 #[.int .i64 0, .slice none 0 0, .slice none 0 0] := (hT.old _ hrX (Ne.symm hg5r)).trans Hre3.out
      have hboxr : Blk wr w.heap.size 64 #[.int .i64 K, .slice pa pn pc, .slice A t.parts.length c] := (hT.old _ hbX (Ne.symm hg5b)).trans Hbx3.out
      obtain ⟨r0, r1, r2, q0, q1, q2⟩ := blk_three hresr
      obtain ⟨b0, b1, b2, -, -, -⟩ := blk_three hboxr
      obtain ⟨t0, t1, t2, s0, s1, s2⟩ := blk_three hT.tree
      have HT := Lib.hid hT
      have Hown2 := Lib.hid hown2
      have Hpar := Lib.hid hpar
      have Hresr := Lib.hid hresr
      by_cases hlt : k < t.parts.length
      · have hki : (k : Int) < (t.parts.length : Int) := by omega
        obtain ⟨u, g, off, pv', sv', eT, hnd, rfl, hg1, k1, k2, k3, k4⟩ := Hround.out k hlt
        have hgw : g < w.heap.size := HS.out g hg1
        have hbel := hT.bel
        have k1' := (hbel.cell (p := ⟨g, off + k * 3, none⟩) hgw).trans k1
        have k2' := (hbel.cell (p := ⟨g, off + k * 3 + 1, none⟩) hgw).trans k2
        have k3' := (hbel.cell (p := ⟨g, off + k * 3 + 2, none⟩) hgw).trans k3
        obtain ⟨qa, qn, qc, B, m, cc, rfl, rfl⟩ := k4.slices
        have Hcall := Lib.hid (Hih.out u qa qn qc B m cc wr (ITS.keep (fun g hg => ⟨hg, hbel.block g (HS.out g hg)⟩) d _ _ _ k4) (fun g hg => by have := HS.out g hg; have := hbel.size; omega) hnd)
        have HeT := Lib.hid eT
        have HtrD := Lib.hid hT.tree
        have hsXr : X0.heap.size ≤ wr.heap.size := hT.size
        clear k1 k2 k3 k4 eT hnd hbel hT hown2 hpar hresr hboxr Hih Hround
        unfold RetGive at Hcall
        generalize hU : u.kind = U at *
        have HU := Lib.hid hU
        clear hU
        go_wp2_with (first
          | (go_at_call 55; refine Hcall.out.mono ?_; rintro e w2 ⟨pa', pn', pc', A', n', c', rfl, hTk, hb2⟩; have hk2 := own_keep Hown2.out hb2; have hs2 := hb2.size; have hB2 := HtrD.out.below hb2 HtrD.out.lt; obtain ⟨z0, z1, z2, y0, y1, y2⟩ := blk_three hB2)
          | (at_builtin; refine wpList_append_lies _ rfl _ _ 41 rfl X0.heap.size 43 i0 _ 3 56 Try.underlying41 hi hz0 hz1 hz2 rfl (by decide) v k xs rfl (hk2.alloc _) ⟨w2.heap.size, 0, none⟩ 1 1 [.int .i64 U, .slice pa' pn' pc', .slice A' n' c'] rfl rfl ?c1 ?c2 ?c3 ?c4 ?c5 ?c6 (w2.heap.size + 1) (size_new'' _ _) ?_))
        case c1 => exact World.news_of_block (cs := #[.int .i64 U, .slice pa' pn' pc', .slice A' n' c']) (t := 43) (fr := (0, 0)) (heap_alloc_new w2 _)
        case c2 => exact three_cells _ _ _ rfl rfl rfl
        case c3 => exact Nat.one_pos
        case c4 => unfold maxLen; omega
        case c5 => omega
        case c6 => exact alloc_size_le _ _ (Nat.le_trans hsXr hs2)
        intro gg cg w3 hown4 hgrow hat hlt3
        have hB3 : Blk w3 g5 43 #[.int .i64 K, .slice pa pn pc, v] := (hgrow.block g5 (hB2.more' _).lt (own_not hk2 hg5l)).trans (hB2.more' _)
        have kc3 := hB3.cell 2
        have kf3 := hB3.free 2
        have hfin := HT.out.next hg5l hw5 hwX HS.out Hown2.out Hpar.out hb2 hk2 hgrow hB3 hTk hat (by rw [HU.out]; exact hown4)
        rw [← HeT.out] at hfin
        have Hfin := Lib.hid hfin
        clear hfin hown4 hgrow hat hk2 hTk hb2 hB2 z0 z1 z2 y0 y1 y2
        go_wp2_with fail
        go_roundw
        case rel => exact ⟨k + 1, _, by omega, by go_num, Hfin.out⟩
        case measure => simp [intOf]; omega
      · obtain hkq : k = t.parts.length := by omega
        have hki : ¬ (k : Int) < (t.parts.length : Int) := by omega
        rw [hkq, List.take_length] at hT hpar
        obtain ⟨A2, c2, rfl⟩ := own_slice hown2
        have hbelr := hT.bel
        have hset := ((hresr.store 0 (.int .i64 K)).store 1 (.slice pa pn pc)).store 2 (.slice A2 k c2)
        have hset' : Blk (((wr.setCell ⟨w.heap.size + 1, 0, none⟩ (.int .i64 K)).setCell ⟨w.heap.size + 1, 1, none⟩ (.slice pa pn pc)).setCell ⟨w.heap.size + 1, 2, none⟩ (.slice A2 k c2)) (w.heap.size + 1) 43 #[.int .i64 K, .slice pa pn pc, .slice A2 k c2] := by simpa using hset
        have hbelf := ((hbelr.setCell (p := ⟨w.heap.size + 1, 0, none⟩) (Nat.le_succ _) (.int .i64 K)).setCell (p := ⟨w.heap.size + 1, 1, none⟩) (Nat.le_succ _) (.slice pa pn pc)).setCell (p := ⟨w.heap.size + 1, 2, none⟩) (Nat.le_succ _) (.slice A2 k c2)
        obtain ⟨z0, z1, z2, -, -, -⟩ := blk_three hset'
        have hkf : ∀ g, g ≠ w.heap.size + 1 → (((wr.setCell ⟨w.heap.size + 1, 0, none⟩ (.int .i64 K)).setCell ⟨w.heap.size + 1, 1, none⟩ (.slice pa pn pc)).setCell ⟨w.heap.size + 1, 2, none⟩ (.slice A2 k c2)).heap[g]? = wr.heap[g]? := fun g hg =>
          (Below.heap_setCell _ _ _ _ hg).trans ((Below.heap_setCell _ _ _ _ hg).trans (Below.heap_setCell _ _ _ _ hg))
        have hzf : (((wr.setCell ⟨w.heap.size + 1, 0, none⟩ (.int .i64 K)).setCell ⟨w.heap.size + 1, 1, none⟩ (.slice pa pn pc)).setCell ⟨w.heap.size + 1, 2, none⟩ (.slice A2 k c2)).heap.size = wr.heap.size := by simp [World.setCell]
        have hsXr : X0.heap.size ≤ wr.heap.size := hT.size
        have hpf : PermS (((wr.setCell ⟨w.heap.size + 1, 0, none⟩ (.int .i64 K)).setCell ⟨w.heap.size + 1, 1, none⟩ (.slice pa pn pc)).setCell ⟨w.heap.size + 1, 2, none⟩ (.slice A2 k c2)) (Old S w.heap.size (((wr.setCell ⟨w.heap.size + 1, 0, none⟩ (.int .i64 K)).setCell ⟨w.heap.size + 1, 1, none⟩ (.slice pa pn pc)).setCell ⟨w.heap.size + 1, 2, none⟩ (.slice A2 k c2)).heap.size) t.perm (.slice pa pn pc) :=
          Hp.out.keep (fun g hg => ⟨.inl hg, (hkf g (by have := HS.out g hg; omega)).trans (hbelr.block g (HS.out g hg))⟩)
        have hwhole := hpar.tree (kind := K) (S' := Old S w.heap.size (((wr.setCell ⟨w.heap.size + 1, 0, none⟩ (.int .i64 K)).setCell ⟨w.heap.size + 1, 1, none⟩ (.slice pa pn pc)).setCell ⟨w.heap.size + 1, 2, none⟩ (.slice A2 k c2)).heap.size) (by rw [← hkq]; exact hown2) hrX (fun g hg => ⟨by have := HS.out g hg; omega, .inl hg⟩) hkf (fun g h1 h2 => .inr ⟨by omega, by rw [hzf]; exact h2⟩) hpf
        rw [HtE.out] at hwhole
        have Hwhole := Lib.hid hwhole
        have Hbelf := Lib.hid hbelf
        clear hown2 hT hpar hresr hset hset' hbelr hkf hzf hpf hwhole hbelf hboxr hkq
        go_wp2_with fail
        exact bodyPost_ret (v := .agg #[.int .i64 K, .slice pa pn pc, .slice A2 k c2]) (by simp [results, Try.results55, go_sem, z0, z1, z2]) rfl ⟨pa, pn, pc, A2, k, c2, by rw [HKE.out], Hwhole.out, Hbelf.out⟩

end Go.Proofs.Ytgdaidmkcgblbaa

namespace Go.Proofs.Ytgdaidmkcgblbaa
open Go.RowKit

/-- No number below 0 in a tree's permutations. -/
def NonT : Nat → IT → Prop
  | 0, _ => True
  | d + 1, t => (∀ z ∈ t.perm, 0 ≤ z) ∧ ∀ u ∈ t.parts, NonT d u

theorem PermS.sl {w : World} {S : Nat → Prop} {l : List Int} {A : Option Addr} {n c : Nat} (h : PermS w S l (.slice A n c)) (hS : ∀ g, S g → g < w.heap.size) (h0 : ∀ z ∈ l, 0 ≤ z) : n = l.length ∧ Sl .i64 w A n (natsOf l) := by
  obtain ⟨A', c', e, hc, hb, h⟩ := h
  injection e with e1 e2 e3
  subst e1 e2 e3
  refine ⟨rfl, natsOf_length l, by omega, fun hp => ?_⟩
  obtain ⟨g, off, e, hg, h3⟩ := h hp
  refine ⟨g, off, e, hS g hg, fun i hi => ?_⟩
  rw [h3 i hi, natsOf_get l i hi]
  have := h0 (l.getD i 0) (by rw [List.getD_eq_getElem?_getD, List.getElem?_eq_getElem hi]; exact List.getElem_mem hi)
  congr 2
  omega

set_option maxRecDepth 100000 in
set_option maxHeartbeats 8000000 in
theorem equal_any (S1 S2 : Nat → Prop) : ∀ (d : Nat) (t : IT) (pa : Option Addr) (pn pc : Nat) (A : Option Addr) (n c : Nat) (pa' : Option Addr) (pn' pc' : Nat) (A' : Option Addr) (n' c' : Nat) (w : World), ITS w S1 d t (.slice pa pn pc) (.slice A n c) → ITS w S2 d t (.slice pa' pn' pc') (.slice A' n' c') →
    (∀ g, S1 g → g < w.heap.size) → (∀ g, S2 g → g < w.heap.size) → NonT d t → nodeN d t ≤ 1000 →
    Calls Try.prog 52 #[.agg #[.int .i64 t.kind, .slice pa pn pc, .slice A n c], .agg #[.int .i64 t.kind, .slice pa' pn' pc', .slice A' n' c']] w fun e w' => e = .returned (.bool true) ∧ Below w.heap.size w w'
  | 0, _, _, _, _, _, _, _, _, _, _, _, _, _, _, h, _, _, _, _, _ => h.elim
  | d + 1, t, pa, pn, pc, A, n, c, pa', pn', pc', A', n', c', w, h, h', hS1, hS2, hnt, hnodes => by
    have ih := equal_any S1 S2 d
    have hple : t.parts.length ≤ nodeN (d + 1) t := parts_leS h
    obtain ⟨hp, A1, c1, e1, hparts⟩ := h
    injection e1 with e1 e2 e3
    subst e1 e2 e3
    obtain ⟨hp', A2, c2, e1, hparts'⟩ := h'
    injection e1 with e1 e2 e3
    subst e1 e2 e3
    obtain ⟨e1, hsl⟩ := hp.sl hS1 hnt.1
    obtain ⟨e2, hsl'⟩ := hp'.sl hS2 hnt.1
    subst e1 e2
    obtain ⟨W1, hW1⟩ : ∃ W1, W1 = w.alloc (.cells #[.int .i64 t.kind, .slice pa t.perm.length pc, .slice A t.parts.length c] 43) := ⟨_, rfl⟩
    have hb1 : Below w.heap.size w W1 := by rw [hW1]; exact below_new' w _
    have hbx1 : Blk W1 w.heap.size 43 #[.int .i64 t.kind, .slice pa t.perm.length pc, .slice A t.parts.length c] := by rw [hW1]; exact Blk.new w _ _
    have hs1 : W1.heap.size = w.heap.size + 1 := by rw [hW1]; exact size_new' w _
    obtain ⟨W2, hW2⟩ : ∃ W2, W2 = W1.alloc (.cells #[.int .i64 t.kind, .slice pa' t.perm.length pc', .slice A' t.parts.length c'] 64) := ⟨_, rfl⟩
    have hb2 : Below w.heap.size w W2 := by rw [hW2]; exact hb1.alloc hb1.size _
    have hbx2 : Blk W2 w.heap.size 43 #[.int .i64 t.kind, .slice pa t.perm.length pc, .slice A t.parts.length c] := by rw [hW2]; exact Blk.more' hbx1 _
    have hby2 : Blk W2 (w.heap.size + 1) 64 #[.int .i64 t.kind, .slice pa' t.perm.length pc', .slice A' t.parts.length c'] := by rw [hW2, ← hs1]; exact Blk.new W1 _ _
    have Hround : Hid (∀ k, k < t.parts.length → ∃ (u : IT) (g off g' off' : Nat) (pv1 sv1 pv2 sv2 : Value), (nodeN d u ≤ 1000 ∧ NonT d u) ∧ A = some ⟨g, off, none⟩ ∧ A' = some ⟨g', off', none⟩ ∧ S1 g ∧ S2 g' ∧
        (w.cell? ⟨g, off + k * 3, none⟩ = some (.int .i64 u.kind) ∧ w.cell? ⟨g, off + k * 3 + 1, none⟩ = some pv1 ∧ w.cell? ⟨g, off + k * 3 + 2, none⟩ = some sv1 ∧ ITS w S1 d u pv1 sv1) ∧
        (w.cell? ⟨g', off' + k * 3, none⟩ = some (.int .i64 u.kind) ∧ w.cell? ⟨g', off' + k * 3 + 1, none⟩ = some pv2 ∧ w.cell? ⟨g', off' + k * 3 + 2, none⟩ = some sv2 ∧ ITS w S2 d u pv2 sv2)) := fun k hk => by
      have hn := node_part (d := d) (t := t) hk
      obtain ⟨g, off, eA, hg1, hrow⟩ := hparts (by omega)
      obtain ⟨pv1, sv1, k1⟩ := hrow k hk
      obtain ⟨g', off', eA', hg1', hrow'⟩ := hparts' (by omega)
      obtain ⟨pv2, sv2, k2⟩ := hrow' k hk
      exact ⟨t.parts[k], g, off, g', off', pv1, sv1, pv2, sv2, ⟨by omega, hnt.2 _ (List.getElem_mem hk)⟩, eA, eA', hg1, hg1', k1, k2⟩
    have Hih := Lib.hid ih
    have HS1' := Lib.hid hS1
    have HS2' := Lib.hid hS2
    have Hsame := Lib.hid (same_any pa pa' t.perm.length t.perm.length pc pc' (natsOf t.perm) (natsOf t.perm) W2 (hsl.below hb2) (hsl'.below hb2))
    rw [decide_eq_true rfl] at Hsame
    have hql9 : t.parts.length ≤ 1000 := by omega
    clear ih hparts hp hparts' hp' hS1 hS2 hnodes hple hnt hsl hsl'
    generalize t.kind = K at *
    generalize t.perm.length = pl at *
    generalize t.parts.length = ql at *
    go_enter Try.func52, Try.ntmps52
    go_upto_region 1 with fail
    rw [← hW1, ← hW2]
    have hb2s := hb2.size
    clear hW1 hW2 hs1 hb1 hbx1
    obtain ⟨r0, r1, r2, -, -, -⟩ := blk_three hbx2
    obtain ⟨q0, q1, q2, -, -, -⟩ := blk_three hby2
    go_wp2_with (go_at_call 33; refine Hsame.out.mono ?_; rintro e w3 ⟨rfl, qq, rfl⟩)
    have Hb3 := Lib.hid (below_drewN hb2 qq)
    have Hbx3 := Lib.hid (hbx2.drewN qq)
    have Hby3 := Lib.hid (hby2.drewN qq)
    clear r0 r1 r2 q0 q1 q2 hbx2 hby2 hb2 Hsame
    generalize W2.drewN qq = X0 at *
    go_loopw [5] (fun kv wr => ∃ k : Nat, k ≤ ql ∧ kv = .int .i64 k ∧ Below X0.heap.size X0 wr) (fun kv _ => ql - (intOf kv).toNat)
    case atStart => exact ⟨0, Nat.zero_le _, rfl, Below.refl _ _⟩
    case round =>
      obtain ⟨k, hk, rfl, hbel⟩ := hrel
      have Hbel := Lib.hid hbel
      obtain ⟨r0, r1, r2, -, -, -⟩ := blk_three (Hbx3.out.below hbel Hbx3.out.lt)
      obtain ⟨q0, q1, q2, -, -, -⟩ := blk_three (Hby3.out.below hbel Hby3.out.lt)
      have Hbx4 := Lib.hid (Hbx3.out.below hbel Hbx3.out.lt)
      have Hby4 := Lib.hid (Hby3.out.below hbel Hby3.out.lt)
      have Hbw := Lib.hid (Hb3.out.trans (hbel.mono Hb3.out.size))
      clear hbel
      by_cases hlt : k < ql
      · have hki : (k : Int) < (ql : Int) := by omega
        obtain ⟨u, g, off, g', off', pv1, sv1, pv2, sv2, ⟨hnd, hnn⟩, rfl, rfl, hg1, hg1', ⟨k1, k2, k3, k4⟩, ⟨m1, m2, m3, m4⟩⟩ := Hround.out k hlt
        have hgw : g < w.heap.size := HS1'.out g hg1
        have hgw' : g' < w.heap.size := HS2'.out g' hg1'
        obtain ⟨qa, qn, qc, B, m, cc, rfl, rfl⟩ := k4.slices
        obtain ⟨qa', qn', qc', B', m', cc', rfl, rfl⟩ := m4.slices
        have Hcall := Lib.hid (fun W (hW : Below wr.heap.size wr W) => Hih.out u qa qn qc B m cc qa' qn' qc' B' m' cc' W (ITS.keep (fun g hg => ⟨hg, (Hbw.out.trans (hW.mono Hbw.out.size)).block g (HS1'.out g hg)⟩) d _ _ _ k4) (ITS.keep (fun g hg => ⟨hg, (Hbw.out.trans (hW.mono Hbw.out.size)).block g (HS2'.out g hg)⟩) d _ _ _ m4)
          (fun g hg => by have := HS1'.out g hg; have := Hbw.out.size; have := hW.size; omega) (fun g hg => by have := HS2'.out g hg; have := Hbw.out.size; have := hW.size; omega) hnn hnd)
        generalize u.kind = U at *
        obtain ⟨S, HS1, HS2⟩ : ∃ S : World → Prop, Hid (∀ W, S W → W.cell? ⟨w.heap.size, 0, none⟩ = some (.int .i64 K) ∧ W.cell? ⟨w.heap.size, 1, none⟩ = some (.slice pa pl pc) ∧ W.cell? ⟨w.heap.size, 2, none⟩ = some (.slice (some ⟨g, off, none⟩) ql c) ∧
            W.cell? ⟨w.heap.size + 1, 0, none⟩ = some (.int .i64 K) ∧ W.cell? ⟨w.heap.size + 1, 1, none⟩ = some (.slice pa' pl pc') ∧ W.cell? ⟨w.heap.size + 1, 2, none⟩ = some (.slice (some ⟨g', off', none⟩) ql c') ∧
            W.cell? ⟨g, off + k * 3, none⟩ = some (.int .i64 U) ∧ W.cell? ⟨g, off + k * 3 + 1, none⟩ = some (.slice qa qn qc) ∧ W.cell? ⟨g, off + k * 3 + 2, none⟩ = some (.slice B m cc) ∧
            W.cell? ⟨g', off' + k * 3, none⟩ = some (.int .i64 U) ∧ W.cell? ⟨g', off' + k * 3 + 1, none⟩ = some (.slice qa' qn' qc') ∧ W.cell? ⟨g', off' + k * 3 + 2, none⟩ = some (.slice B' m' cc')) ∧ Hid (∀ W, Below wr.heap.size wr W → S W) := by
          refine ⟨fun W => _, Lib.hid (fun _ h => h), Lib.hid (fun W hW => ?_)⟩
          have hbW := Hbw.out.trans (hW.mono Hbw.out.size)
          exact ⟨(hW.cell (p := ⟨w.heap.size, 0, none⟩) Hbx4.out.lt).trans r0, (hW.cell (p := ⟨w.heap.size, 1, none⟩) Hbx4.out.lt).trans r1, (hW.cell (p := ⟨w.heap.size, 2, none⟩) Hbx4.out.lt).trans r2,
            (hW.cell (p := ⟨w.heap.size + 1, 0, none⟩) Hby4.out.lt).trans q0, (hW.cell (p := ⟨w.heap.size + 1, 1, none⟩) Hby4.out.lt).trans q1, (hW.cell (p := ⟨w.heap.size + 1, 2, none⟩) Hby4.out.lt).trans q2,
            (hbW.cell (p := ⟨g, off + k * 3, none⟩) hgw).trans k1, (hbW.cell (p := ⟨g, off + k * 3 + 1, none⟩) hgw).trans k2, (hbW.cell (p := ⟨g, off + k * 3 + 2, none⟩) hgw).trans k3,
            (hbW.cell (p := ⟨g', off' + k * 3, none⟩) hgw').trans m1, (hbW.cell (p := ⟨g', off' + k * 3 + 1, none⟩) hgw').trans m2, (hbW.cell (p := ⟨g', off' + k * 3 + 2, none⟩) hgw').trans m3⟩
        have Hb5 : Hid (Below wr.heap.size wr wr.drew) := (Below.refl _ _).drew
        clear k1 k2 k3 k4 m1 m2 m3 m4 hnd hnn Hih Hround hgw hgw'
        go_upto_region 6 with fail
        clear r0 r1 q0 q1
        go_cut [46] (fun xv wx => xv = .bool false ∧ Below wr.heap.size wr wx)
        case first =>
          as_aux_lemma =>
            refine wp_region_held_drew (S := S) (by kernel_rfl) (HS2.out _ Hb5.out) (fun hHeld => ?_)
            refine wpAnyH_take (i := 0) (v := .pointer (some ⟨w.heap.size, 2, none⟩)) rfl (by kernel_rfl) (by kernel_rfl) (by kernel_rfl) (fun _ _ _ h => h) (Or.inl ⟨by kernel_rfl, fun W hW => by go_simp⟩) hHeld ?_
            go_simp
            refine wpAnyH_take (i := 1) (v := .slice (some ⟨g, off, none⟩) ql c) rfl (by kernel_rfl) (by kernel_rfl) (by kernel_rfl) (fun _ _ _ h => h) (Or.inl ⟨by kernel_rfl, fun W hW => by obtain ⟨c0, c1, c2, x0, x1, x2, p0, p1, p2, y0, y1, y2⟩ := HS1.out W hW; go_simp⟩) hHeld ?_
            go_simp
            refine wpAnyH_take (i := 2) (v := .int .i64 k) rfl (by kernel_rfl) (by kernel_rfl) (by kernel_rfl) (fun _ _ _ h => h) (Or.inl ⟨by kernel_rfl, fun W hW => by go_simp⟩) hHeld ?_
            go_simp
            refine wpAnyH_take (i := 3) (v := .pointer (some ⟨g, off + k * 3, none⟩)) rfl (by kernel_rfl) (by kernel_rfl) (by kernel_rfl) (fun _ _ _ h => h) (Or.inl ⟨by kernel_rfl, fun W hW => by go_simp⟩) hHeld ?_
            go_simp
            refine wpAnyH_take (i := 4) (v := .agg #[.int .i64 U, .slice qa qn qc, .slice B m cc]) rfl (by kernel_rfl) (by kernel_rfl) (by kernel_rfl) (fun _ _ _ h => h) (Or.inl ⟨by kernel_rfl, fun W hW => by obtain ⟨c0, c1, c2, x0, x1, x2, p0, p1, p2, y0, y1, y2⟩ := HS1.out W hW; go_simp⟩) hHeld ?_
            go_simp
            refine wpAnyH_take (i := 5) (v := .pointer (some ⟨w.heap.size + 1, 2, none⟩)) rfl (by kernel_rfl) (by kernel_rfl) (by kernel_rfl) (fun _ _ _ h => h) (Or.inl ⟨by kernel_rfl, fun W hW => by go_simp⟩) hHeld ?_
            go_simp
            refine wpAnyH_take (i := 6) (v := .slice (some ⟨g', off', none⟩) ql c') rfl (by kernel_rfl) (by kernel_rfl) (by kernel_rfl) (fun _ _ _ h => h) (Or.inl ⟨by kernel_rfl, fun W hW => by obtain ⟨c0, c1, c2, x0, x1, x2, p0, p1, p2, y0, y1, y2⟩ := HS1.out W hW; go_simp⟩) hHeld ?_
            go_simp
            refine wpAnyH_take (i := 7) (v := .int .i64 k) rfl (by kernel_rfl) (by kernel_rfl) (by kernel_rfl) (fun _ _ _ h => h) (Or.inl ⟨by kernel_rfl, fun W hW => by go_simp⟩) hHeld ?_
            go_simp
            refine wpAnyH_take (i := 8) (v := .pointer (some ⟨g', off' + k * 3, none⟩)) rfl (by kernel_rfl) (by kernel_rfl) (by kernel_rfl) (fun _ _ _ h => h) (Or.inl ⟨by kernel_rfl, fun W hW => by go_simp⟩) hHeld ?_
            go_simp
            refine wpAnyH_take (i := 9) (v := .agg #[.int .i64 U, .slice qa' qn' qc', .slice B' m' cc']) rfl (by kernel_rfl) (by kernel_rfl) (by kernel_rfl) (fun _ _ _ h => h) (Or.inl ⟨by kernel_rfl, fun W hW => by obtain ⟨c0, c1, c2, x0, x1, x2, p0, p1, p2, y0, y1, y2⟩ := HS1.out W hW; go_simp⟩) hHeld ?_
            go_simp
            refine wpAnyH_ready (rs := [10]) (by kernel_rfl) (by simp) (AllReadyH.cons rfl (fun K' hK => ?_) AllReadyH.nil)
            rw [if_pos (by kernel_rfl)]
            go_simp
            refine (Hcall.out _ Hb5.out).mono ?_
            rintro e w7 ⟨rfl, hb7⟩
            dsimp only
            have hb57 := Hb5.out.trans (hb7.mono Hb5.out.size)
            have Hb57 := Lib.hid hb57
            clear hb7
            refine hK.out _ _ (HS2.out _ hb57) (fun hHeld => ?_)
            clear hb57
            refine wpAnyH_take (i := 11) (v := .bool false) rfl (by kernel_rfl) (by kernel_rfl) (by kernel_rfl) (fun _ _ _ h => h) (Or.inl ⟨by kernel_rfl, fun W hW => by go_simp⟩) hHeld ?_
            go_simp
            refine wpAnyH_done (by kernel_rfl) ?_ _
            clear hHeld Hcall Hb5
            go_simp
            go_wp2_with fail
            go_meet
            exact ⟨rfl, Hb57.out⟩
        case rest =>
          obtain ⟨rfl, hbc⟩ := hcut
          have Hb6 := Lib.hid (Hbel.out.trans (hbc.mono Hbel.out.size))
          clear hbc Hcall Hb5 r2 q2
          go_wp2_with fail
          go_roundw
          case rel => exact ⟨k + 1, by omega, by go_num, Hb6.out⟩
          case measure => simp [intOf]; omega
      · have hki : ¬ (k : Int) < (ql : Int) := by omega
        go_wp2_with fail
        go_ret
        exact ⟨rfl, Hbw.out⟩

end Go.Proofs.Ytgdaidmkcgblbaa
