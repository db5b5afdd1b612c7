/-
  The walk of the exchange of a sheet of one row of three ones, modulo one prime.
-/
import Derived.Test.YtemcdnppgnobmaaGreatDoorTex
set_option linter.unusedVariables false
namespace Go.Proofs.YtemcdnppgnobmaaGreatDoor
open Go.RowKit

/-- A sheet's block. -/
def shC (a : Sa) (S F D : Value) (sense : Int) (nx : Nat) : Array Value :=
  #[.int .i64 2, S, F, .int .i64 1, .slice (some ⟨a.ga, 0, none⟩) 2 a.ca, .slice (some ⟨a.gb, 0, none⟩) 1 a.cb, D, .int .i64 sense, .slice (some ⟨a.gt, 0, none⟩) 1 a.ct,
    .slice (some ⟨a.gp, 0, none⟩) 1 a.cp, .slice (some ⟨a.gi, 0, none⟩) 1 a.ci, .int .u64 nx]

/-- The sheet: its table's row, what stands above and beside, its exchanges, its sign; L are further cells. -/
structure Sh (w0 : World) (a : Sa) (v0 v1 v2 p : Nat) (a0 b0 : Int) (S F D : Value) (sense : Int) (nx : Nat) (L : List (Nat × Nat × Value)) (X : World) : Prop where
  bs : Blk X a.s 136 (shC a S F D sense nx)
  bt : Blk X a.t 156 (tabC a p)
  br : Blk X a.gr 153 (rowC v0 v1 v2 p)
  has : Has ((a.gc, 0, .slice (some ⟨a.gr, 0, none⟩) 3 a.cr) :: (a.gt, 0, .pointer (some ⟨a.t, 0, none⟩)) :: (a.gp, 0, .int .u64 p) :: (a.gi, 0, .int .u64 1) :: L) X
  c0 : X.cell? ⟨a.ga, 0, none⟩ = some (.int .i64 a0)
  c1 : X.cell? ⟨a.ga, 1, none⟩ = some (.int .i64 1)
  fa : X.frozen? ⟨a.ga, 0, none⟩ = false
  la : a.ga < X.heap.size
  cb : X.cell? ⟨a.gb, 0, none⟩ = some (.int .i64 b0)
  fb : X.frozen? ⟨a.gb, 0, none⟩ = false
  lb : a.gb < X.heap.size
  bel : Below w0.heap.size w0 X
  out : ∀ c ∈ ((a.gc, 0, Value.slice (some ⟨a.gr, 0, none⟩) 3 a.cr) :: (a.gt, 0, .pointer (some ⟨a.t, 0, none⟩)) :: (a.gp, 0, .int .u64 p) :: (a.gi, 0, .int .u64 1) :: L), c.1 ≠ a.s ∧ c.1 ≠ a.t ∧ c.1 ≠ a.gr ∧ c.1 ≠ a.ga ∧ c.1 ≠ a.gb
  d1 : a.s ≠ a.t ∧ a.s ≠ a.gr ∧ a.s ≠ a.ga ∧ a.s ≠ a.gb ∧ a.t ≠ a.gr ∧ a.t ≠ a.ga ∧ a.t ≠ a.gb ∧ a.gr ≠ a.ga ∧ a.gr ≠ a.gb ∧ a.ga ≠ a.gb
  lo : w0.heap.size ≤ a.s ∧ w0.heap.size ≤ a.t ∧ w0.heap.size ≤ a.gr ∧ w0.heap.size ≤ a.ga ∧ w0.heap.size ≤ a.gb

section
variable {w0 X Y : World} {a : Sa} {v0 v1 v2 p : Nat} {a0 b0 : Int} {S F D : Value} {sense : Int} {nx : Nat} {L : List (Nat × Nat × Value)}
theorem Sh.keep (h : Sh w0 a v0 v1 v2 p a0 b0 S F D sense nx L X) (hb : Below X.heap.size X Y) : Sh w0 a v0 v1 v2 p a0 b0 S F D sense nx L Y :=
  ⟨h.bs.keep hb, h.bt.keep hb, h.br.keep hb, h.has.keep hb, (hb.cell (p := ⟨a.ga, 0, none⟩) h.la).trans h.c0, (hb.cell (p := ⟨a.ga, 1, none⟩) h.la).trans h.c1,
    (World.frozen?_of_block (a := ⟨a.ga, 0, none⟩) (hb.block a.ga h.la)).trans h.fa, Nat.lt_of_lt_of_le h.la hb.size, (hb.cell (p := ⟨a.gb, 0, none⟩) h.lb).trans h.cb,
    (World.frozen?_of_block (a := ⟨a.gb, 0, none⟩) (hb.block a.gb h.lb)).trans h.fb, Nat.lt_of_lt_of_le h.lb hb.size, h.bel.and hb, h.out, h.d1, h.lo⟩
theorem Sh.fix (h : Sh w0 a v0 v1 v2 p a0 b0 S F D sense nx L X) : Has (fixL a p) X :=
  ⟨⟨h.bs.cell 0, h.bs.lt⟩, ⟨h.bs.cell 4, h.bs.lt⟩, ⟨h.bs.cell 5, h.bs.lt⟩, ⟨h.bs.cell 8, h.bs.lt⟩, ⟨h.bs.cell 9, h.bs.lt⟩, ⟨h.bs.cell 10, h.bs.lt⟩, h.has.2.1, h.has.2.2.1, h.has.2.2.2.1, trivial⟩
theorem Sh.tab (h : Sh w0 a v0 v1 v2 p a0 b0 S F D sense nx L X) : Has (tabL a v0 v1 v2 p) X :=
  ⟨⟨h.bt.cell 0, h.bt.lt⟩, ⟨h.bt.cell 1, h.bt.lt⟩, ⟨h.bt.cell 2, h.bt.lt⟩, h.has.1, ⟨h.br.cell 0, h.br.lt⟩, ⟨h.br.cell 1, h.br.lt⟩, ⟨h.br.cell 2, h.br.lt⟩, ⟨h.br.cell 3, h.br.lt⟩, ⟨h.br.cell 4, h.br.lt⟩, ⟨h.br.cell 5, h.br.lt⟩, trivial⟩
theorem Sh.sen (h : Sh w0 a v0 v1 v2 p a0 b0 S F D sense nx L X) : Has [(a.s, 7, .int .i64 sense)] X := ⟨⟨h.bs.cell 7, h.bs.lt⟩, trivial⟩
theorem Sh.ex (h : Sh w0 a v0 v1 v2 p a0 b0 S F D sense nx L X) : Ex X a v0 v1 v2 p [] X :=
  ⟨h.bt, h.br, ⟨h.has.1, trivial⟩, But.refl _ _ _, fun c hc => absurd hc (List.not_mem_nil), h.bt.lt, h.br.lt, Ne.symm h.d1.2.2.2.2.1, (h.out _ (List.mem_cons_self ..)).2.1, (h.out _ (List.mem_cons_self ..)).2.2.1⟩
theorem Has.but : ∀ {L : List (Nat × Nat × Value)} {X Y : World} {g h : Nat}, Has L X → But g h X Y → (∀ c ∈ L, c.1 ≠ g ∧ c.1 ≠ h) → Has L Y
  | [], _, _, _, _, _, _, _ => trivial
  | (b, o, v) :: L, _, _, g, k, h, ho, hg =>
    ⟨⟨(World.cell?_of_block (a := ⟨b, o, none⟩) (ho.block b h.1.2 (hg _ (List.mem_cons_self ..)).1 (hg _ (List.mem_cons_self ..)).2)).trans h.1.1, Nat.lt_of_lt_of_le h.1.2 ho.size⟩, Has.but h.2 ho fun c hc => hg c (List.mem_cons_of_mem _ hc)⟩
/-- The table has been exchanged. -/
theorem Sh.exchanged {u0 u1 u2 : Nat} (h : Sh w0 a v0 v1 v2 p a0 b0 S F D sense nx L X) (k : Ex X a u0 u1 u2 p [] Y) : Sh w0 a u0 u1 u2 p a0 b0 S F D sense nx L Y :=
  ⟨(k.but.block a.s h.bs.lt h.d1.1 h.d1.2.1).trans h.bs, k.bt, k.br, h.has.but k.but fun c hc => ⟨(h.out c hc).2.1, (h.out c hc).2.2.1⟩,
    (World.cell?_of_block (a := ⟨a.ga, 0, none⟩) (k.but.block a.ga h.la (Ne.symm h.d1.2.2.2.2.2.1) (Ne.symm h.d1.2.2.2.2.2.2.2.1))).trans h.c0,
    (World.cell?_of_block (a := ⟨a.ga, 1, none⟩) (k.but.block a.ga h.la (Ne.symm h.d1.2.2.2.2.2.1) (Ne.symm h.d1.2.2.2.2.2.2.2.1))).trans h.c1,
    (World.frozen?_of_block (a := ⟨a.ga, 0, none⟩) (k.but.block a.ga h.la (Ne.symm h.d1.2.2.2.2.2.1) (Ne.symm h.d1.2.2.2.2.2.2.2.1))).trans h.fa, Nat.lt_of_lt_of_le h.la k.but.size,
    (World.cell?_of_block (a := ⟨a.gb, 0, none⟩) (k.but.block a.gb h.lb (Ne.symm h.d1.2.2.2.2.2.2.1) (Ne.symm h.d1.2.2.2.2.2.2.2.2.1))).trans h.cb,
    (World.frozen?_of_block (a := ⟨a.gb, 0, none⟩) (k.but.block a.gb h.lb (Ne.symm h.d1.2.2.2.2.2.2.1) (Ne.symm h.d1.2.2.2.2.2.2.2.2.1))).trans h.fb, Nat.lt_of_lt_of_le h.lb k.but.size,
    h.bel.trans ⟨k.but.os, k.but.tape, k.but.output, Nat.le_trans h.bel.size k.but.size |> fun e => by have := k.but.size; have := h.bel.size; exact k.but.size, fun j hj => k.but.block j (Nat.lt_of_lt_of_le hj h.bel.size) (by have := h.lo; omega) (by have := h.lo; omega)⟩, h.out, h.d1, h.lo⟩
/-- What is newer than the sheet has turned. -/
theorem Sh.late {u0 u1 u2 : Nat} {x0 y0 : Int} {D' : Value} {sense' : Int} {w : World} (h0 : Sh w0 a u0 u1 u2 p x0 y0 S F D' sense' nx L w) (h : Sh w0 a v0 v1 v2 p a0 b0 S F D sense nx L X) (hb : Below w.heap.size X Y) : Sh w0 a v0 v1 v2 p a0 b0 S F D sense nx L Y := by
  have hcell : ∀ c ∈ ((a.gc, 0, Value.slice (some ⟨a.gr, 0, none⟩) 3 a.cr) :: (a.gt, 0, .pointer (some ⟨a.t, 0, none⟩)) :: (a.gp, 0, .int .u64 p) :: (a.gi, 0, .int .u64 1) :: L), c.1 < w.heap.size := h0.has.lt
  have hall : ∀ {M : List (Nat × Nat × Value)}, (∀ c ∈ M, c.1 < w.heap.size) → Has M X → Has M Y := by
    intro M
    induction M with
    | nil => exact fun _ _ => trivial
    | cons c M ih => exact fun h1 h2 => ⟨⟨(hb.cell (p := ⟨c.1, c.2.1, none⟩) (h1 _ (List.mem_cons_self ..))).trans h2.1.1, Nat.lt_of_lt_of_le h2.1.2 hb.size⟩, ih (fun c hc => h1 c (List.mem_cons_of_mem _ hc)) h2.2⟩
  exact ⟨h.bs.below hb h0.bs.lt, h.bt.below hb h0.bt.lt, h.br.below hb h0.br.lt, hall hcell h.has, (hb.cell (p := ⟨a.ga, 0, none⟩) h0.la).trans h.c0, (hb.cell (p := ⟨a.ga, 1, none⟩) h0.la).trans h.c1,
    (World.frozen?_of_block (a := ⟨a.ga, 0, none⟩) (hb.block a.ga h0.la)).trans h.fa, Nat.lt_of_lt_of_le h.la hb.size, (hb.cell (p := ⟨a.gb, 0, none⟩) h0.lb).trans h.cb,
    (World.frozen?_of_block (a := ⟨a.gb, 0, none⟩) (hb.block a.gb h0.lb)).trans h.fb, Nat.lt_of_lt_of_le h.lb hb.size, h.bel.trans (hb.mono h0.bel.size), h.out, h.d1, h.lo⟩
theorem own_but {w w' : World} {B size n g k : Nat} {e : TypeId} {v : Value} {xs : List Value} (h : w.ownsRow B e size v n xs) (ho : But g k w w') (hg : g < B) (hk : k < B) : w'.ownsRow B e size v n xs := by
  have h1 := own_not h hg
  have h2 := own_not h hk
  obtain ⟨hl, h3 | ⟨j, cap, cur, e1, hb, hj, rest⟩⟩ := h
  · exact ⟨hl, .inl h3⟩
  · refine ⟨hl, .inr ⟨j, cap, cur, e1, hb, (ho.block j (Array.getElem?_eq_some_iff.1 hj).1 ?_ ?_).trans hj, rest⟩⟩
    · rintro rfl; omega
    · rintro rfl; omega
theorem frozen_set {w : World} {g i : Nat} (v : Value) (p : Addr) : (w.setCell ⟨g, i, none⟩ v).frozen? p = w.frozen? p := by
  unfold World.frozen?
  simp only [World.setCell, Array.getElem?_modify]
  by_cases hg : g = p.block
  · cases e : w.heap[p.block]? with
    | none => simp [hg]
    | some o => cases o <;> simp [hg]
  · simp [hg]
/-- What stands above the first column and beside the row has changed places. -/
theorem Sh.swap (h : Sh w0 a v0 v1 v2 p a0 b0 S F D sense nx L X) (x y : Int) : Sh w0 a v0 v1 v2 p y x S F D sense nx L ((X.setCell ⟨a.gb, 0, none⟩ (.int .i64 x)).setCell ⟨a.ga, 0, none⟩ (.int .i64 y)) := by
  have h1 := h.d1
  have o1 := (Only.refl a.gb X).setCell 0 (.int .i64 x)
  have o2 := (Only.refl a.ga (X.setCell ⟨a.gb, 0, none⟩ (.int .i64 x))).setCell 0 (.int .i64 y)
  have e0 : (X.setCell ⟨a.gb, 0, none⟩ (.int .i64 x)).cell? ⟨a.ga, 0, none⟩ = some (.int .i64 a0) := (o1.cell (p := ⟨a.ga, 0, none⟩) (by simp; omega)).trans h.c0
  have e1 : (X.setCell ⟨a.gb, 0, none⟩ (.int .i64 x)).cell? ⟨a.ga, 1, none⟩ = some (.int .i64 1) := (o1.cell (p := ⟨a.ga, 1, none⟩) (by simp; omega)).trans h.c1
  exact ⟨o2.blk (by omega) (o1.blk (by omega) h.bs), o2.blk (by omega) (o1.blk (by omega) h.bt), o2.blk (by omega) (o1.blk (by omega) h.br),
    (h.has.only o1 fun c hc => (h.out c hc).2.2.2.2).only o2 fun c hc => (h.out c hc).2.2.2.1,
    World.cell?_setCell_same _ _ _ e0, (World.cell?_setCell_other _ _ _ _ (by simp)).trans e1, by rw [frozen_set, frozen_set]; exact h.fa, by rw [o2.size, o1.size]; exact h.la,
    (o2.cell (p := ⟨a.gb, 0, none⟩) (by simp; omega)).trans (World.cell?_setCell_same _ _ _ h.cb), by rw [frozen_set, frozen_set]; exact h.fb, by rw [o2.size, o1.size]; exact h.lb,
    h.bel.trans ((o1.below h.lo.2.2.2.2).trans (o2.below h.lo.2.2.2.1)), h.out, h.d1, h.lo⟩
theorem Sh.swap1 (h : Sh w0 a v0 v1 v2 p a0 b0 S F D sense nx L X) (x : Int) : Sh w0 a v0 v1 v2 p a0 x S F D sense nx L (X.setCell ⟨a.gb, 0, none⟩ (.int .i64 x)) := by
  have h1 := h.d1
  have o1 := (Only.refl a.gb X).setCell 0 (.int .i64 x)
  exact ⟨o1.blk (by omega) h.bs, o1.blk (by omega) h.bt, o1.blk (by omega) h.br, h.has.only o1 fun c hc => (h.out c hc).2.2.2.2,
    (o1.cell (p := ⟨a.ga, 0, none⟩) (by simp; omega)).trans h.c0, (o1.cell (p := ⟨a.ga, 1, none⟩) (by simp; omega)).trans h.c1, by rw [frozen_set]; exact h.fa, by rw [o1.size]; exact h.la,
    World.cell?_setCell_same _ _ _ h.cb, by rw [frozen_set]; exact h.fb, by rw [o1.size]; exact h.lb, h.bel.trans (o1.below h.lo.2.2.2.2), h.out, h.d1, h.lo⟩
theorem Sh.swap2 (h : Sh w0 a v0 v1 v2 p a0 b0 S F D sense nx L X) (y : Int) : Sh w0 a v0 v1 v2 p y b0 S F D sense nx L (X.setCell ⟨a.ga, 0, none⟩ (.int .i64 y)) := by
  have h1 := h.d1
  have o1 := (Only.refl a.ga X).setCell 0 (.int .i64 y)
  exact ⟨o1.blk (by omega) h.bs, o1.blk (by omega) h.bt, o1.blk (by omega) h.br, h.has.only o1 fun c hc => (h.out c hc).2.2.2.1,
    World.cell?_setCell_same _ _ _ h.c0, (World.cell?_setCell_other _ _ _ _ (by simp)).trans h.c1, by rw [frozen_set]; exact h.fa, by rw [o1.size]; exact h.la,
    (o1.cell (p := ⟨a.gb, 0, none⟩) (by simp; omega)).trans h.cb, by rw [frozen_set]; exact h.fb, by rw [o1.size]; exact h.lb, h.bel.trans (o1.below h.lo.2.2.2.1), h.out, h.d1, h.lo⟩
/-- A cell of the sheet's own block has turned. -/
theorem Sh.own {D' : Value} {sense' : Int} {i : Nat} {u : Value} (h : Sh w0 a v0 v1 v2 p a0 b0 S F D sense nx L X) (hj : (shC a S F D sense nx).setIfInBounds i u = shC a S F D' sense' nx) :
    Sh w0 a v0 v1 v2 p a0 b0 S F D' sense' nx L (X.setCell ⟨a.s, i, none⟩ u) := by
  have ho := (Only.refl a.s X).setCell i u
  have hb := h.bs.store i u
  rw [hj] at hb
  exact ⟨hb, ho.blk (Ne.symm h.d1.1) h.bt, ho.blk (Ne.symm h.d1.2.1) h.br, h.has.only ho fun c hc => (h.out c hc).1,
    (ho.cell (p := ⟨a.ga, 0, none⟩) (Ne.symm h.d1.2.2.1)).trans h.c0, (ho.cell (p := ⟨a.ga, 1, none⟩) (Ne.symm h.d1.2.2.1)).trans h.c1,
    (World.frozen?_of_block (a := ⟨a.ga, 0, none⟩) (ho.block a.ga (Ne.symm h.d1.2.2.1))).trans h.fa, by rw [ho.size]; exact h.la,
    (ho.cell (p := ⟨a.gb, 0, none⟩) (Ne.symm h.d1.2.2.2.1)).trans h.cb, (World.frozen?_of_block (a := ⟨a.gb, 0, none⟩) (ho.block a.gb (Ne.symm h.d1.2.2.2.1))).trans h.fb, by rw [ho.size]; exact h.lb,
    h.bel.trans (ho.below h.lo.1), h.out, h.d1, h.lo⟩
end
end Go.Proofs.YtemcdnppgnobmaaGreatDoor
