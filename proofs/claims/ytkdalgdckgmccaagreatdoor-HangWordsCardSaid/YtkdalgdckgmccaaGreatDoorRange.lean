/-
  A range over a function whose iterator writes cells of its own and whose body appends to a row that lies in a box.
-/
import Derived.Test.YtkdalgdckgmccaaGreatDoorCont
import Derived.RangeFuncNested
import Derived.RangeFuncBound
import Derived.RangeFuncCalls
import Derived.RangeFuncLeaves
import Derived.RangeFuncBox
import Derived.Shelf.Abstract
import Derived.Shelf.RegionOpen
import Derived.OwnWalkIn
import Derived.TacticsInMore
import Derived.LoopNIn
import Derived.LoopIn
namespace Go.Proofs.YtkdalgdckgmccaaGreatDoor
open Go.RowKit Go.Shelf

attribute [local go_sem] Oper.semAt_some

theorem room_of_none {F : Fence} (hd : F.depth = none) (k : Nat) : F.room k := fun d h => by rw [hd] at h; cases h
theorem roundIn_anyDepth {F : Fence} (hd : F.depth = none) {m m' : Nat} {P : Program} {l : Nat} {f : FuncId} {tmps : Array Value} {assign body : Code} {w : World} {R : Ending → World → Prop}
    (h : RoundIn F m P l f tmps assign body w R) : RoundIn F m' P l f tmps assign body w R := ⟨h.1, fun c cs _ => h.2 c cs (room_of_none hd _)⟩

/-- The sets of some nails, from one on. -/
def subsF (S : Nat → Bool) : Nat → (Nat → Bool) → List (Nat → Bool)
  | 0, _ => []
  | f + 1, T => T :: (if eqN (nextN S T) (fun _ => false) = true then [] else subsF S f (nextN S T))
/-- Whether the counting ends within so many steps. -/
def doneF (S : Nat → Bool) : Nat → (Nat → Bool) → Bool
  | 0, _ => false
  | f + 1, T => eqN (nextN S T) (fun _ => false) || doneF S f (nextN S T)

/-- The block of the row that lies in box ob. -/
def rowAt (ob : Nat) (W : World) : Option Nat := (W.cell? ⟨ob, 0, none⟩).bind Value.ownBlock
/-- Block k is neither the box ob nor the row that lies in it. -/
def Far (ob : Nat) (W : World) (k : Nat) : Prop := k < W.heap.size ∧ k ≠ ob ∧ rowAt ob W ≠ some k
def Good (ob : Nat) (W : World) : Prop := ∀ r, rowAt ob W = some r → r < W.heap.size
/-- What a round keeps: the cells that are neither the box ob nor the row in it. -/
def KeepFar (ob : Nat) (A B : World) : Prop :=
  A.heap.size ≤ B.heap.size ∧ (Good ob A → Good ob B) ∧ ∀ k o, Far ob A k → A.heap[k]? = some o → o.isCells = true → B.heap[k]? = some o ∧ Far ob B k
theorem KeepFar.refl (ob : Nat) (A : World) : KeepFar ob A A := ⟨Nat.le_refl _, id, fun _ _ h ho _ => ⟨ho, h⟩⟩
theorem KeepFar.trans {ob : Nat} {A B C : World} (h : KeepFar ob A B) (k : KeepFar ob B C) : KeepFar ob A C :=
  ⟨Nat.le_trans h.1 k.1, fun g => k.2.1 (h.2.1 g), fun j o hf ho hc => by
    obtain ⟨h1, h2⟩ := h.2.2 j o hf ho hc
    exact k.2.2 j o h2 h1 hc⟩
theorem rowAt_congr {ob : Nat} {A B : World} (h : B.heap[ob]? = A.heap[ob]?) : rowAt ob B = rowAt ob A := by
  unfold rowAt
  rw [World.cell?_of_block (w := A) (w' := B) (a := ⟨ob, 0, none⟩) h]
theorem KeepFar.put {ob : Nat} (W : World) (l : Nat) (o o' : Obj) (hl : ob ≠ l) (h : W.heap[l]? = some o) (hc : o.isCells = false) : KeepFar ob W (W.putObj l o') := by
  have hr : rowAt ob (W.putObj l o') = rowAt ob W := rowAt_congr (World.putObj_heap_other hl)
  refine ⟨by simp, fun g r e => ?_, fun k ok hf hk hck => ?_⟩
  · rw [hr] at e
    simpa using g r e
  · have hkl : k ≠ l := by
      rintro rfl
      rw [h] at hk
      injection hk with hk
      subst hk
      rw [hc] at hck
      cases hck
    refine ⟨(World.putObj_heap_other hkl).trans hk, by simpa using hf.1, hf.2.1, ?_⟩
    rw [hr]; exact hf.2.2
theorem Far.blk {ob k : Nat} {A B : World} {t : TypeId} {cs : Array Value} (hf : Far ob A k) (hb : Blk A k t cs) (h : KeepFar ob A B) : Blk B k t cs ∧ Far ob B k := h.2.2 k _ hf hb rfl
theorem Far.alloc {ob k : Nat} {A : World} (hf : Far ob A k) (ho : ob < A.heap.size) (o : Obj) : Far ob (A.alloc o) k :=
  ⟨by rw [World.size_alloc]; have := hf.1; omega, hf.2.1, by rw [rowAt_congr (Below.heap_alloc A o ob ho)]; exact hf.2.2⟩
theorem Good.alloc {ob : Nat} {A : World} (hg : Good ob A) (ho : ob < A.heap.size) (o : Obj) : Good ob (A.alloc o) := fun r e => by
  rw [rowAt_congr (Below.heap_alloc A o ob ho)] at e
  rw [World.size_alloc]
  have := hg r e
  omega
theorem Far.new {ob : Nat} {A : World} (hg : Good ob A) (ho : ob < A.heap.size) (o : Obj) : Far ob (A.alloc o) A.heap.size :=
  ⟨by rw [World.size_alloc]; omega, by omega, fun e => by
    rw [rowAt_congr (Below.heap_alloc A o ob ho)] at e
    have := hg _ e
    omega⟩

/-- A step of an iterator that writes cells of its own: what lay before it began, the box ob with its row, and what is no cells stay. -/
structure StepIt (B ob : Nat) (A C : World) : Prop where
  os : C.os = A.os
  tape : C.tape = A.tape
  output : C.output = A.output
  size : A.heap.size ≤ C.heap.size
  block : ∀ k, k < A.heap.size → (k < B ∨ k = ob ∨ rowAt ob A = some k ∨ ∃ o, A.heap[k]? = some o ∧ o.isCells = false) → C.heap[k]? = A.heap[k]?
theorem StepIt.of_below {B ob : Nat} {A C : World} (h : Below A.heap.size A C) : StepIt B ob A C := ⟨h.os, h.tape, h.output, h.size, fun k hk _ => h.block k hk⟩
theorem StepIt.setRow {B ob g : Nat} {A : World} {t : TypeId} {cs : Array Value} (hb : Blk A g t cs) (hB : B ≤ g) (hf : Far ob A g) (ds : Array Value) : StepIt B ob A (A.setRow g ds) := by
  have h := only_setRow A g ds
  refine ⟨h.os, h.tape, h.output, Nat.le_of_eq h.size.symm, fun k hk hc => h.block k ?_⟩
  rintro rfl
  rcases hc with hc | hc | hc | ⟨o, ho, hc⟩
  · omega
  · exact hf.2.1 hc
  · exact hf.2.2 hc
  · rw [show A.heap[k]? = some (.cells cs t (0, 0)) from hb] at ho
    injection ho with ho
    subst ho
    cases hc

/-- What an iterator does for a loop whose body never leaves it. -/
def Gives {α : Type} (F : Fence) (n : Nat) (P : Program) (g : Nat) (lb : Array Value) (encs : α → Array Value) (ob : Nat) (S : List α → Prop) (N : Nat) (w : World) : Prop :=
  ∀ (l : Nat) (J : List α → World → Prop) (W : World), Below w.heap.size w W → (∀ s A C, J s A → StepIt W.heap.size ob A C → J s C) →
    (∀ pre x W1, J pre W1 → pre.length < N → YieldAt F (n - 1) P l (encs x) W1 fun e W' => e = .returned (.bool true) ∧ J (pre ++ [x]) W' ∧ KeepFar ob W1 W') →
    J [] W → CallsIn F n P g (#[.func (.yield l) #[] #[]] ++ lb) W fun e W' => (∃ v, e = .returned v) ∧ ∃ xs, S xs ∧ J xs W'

/-- A body that goes on. -/
def onPost {α : Type} (B ob : Nat) (I : List α → World → Prop) (xs : List α) (W : World) : Exit → Act → World → Prop
  | .normal, _, W' => KeepsFrom B W W' ∧ KeepFar ob W W' ∧ I xs W'
  | _, _, _ => False

theorem range_box {α : Type} {F : Fence} {n : Nat} {P : Program} {g : Operand} {ps : Array Tmp} {assign body : Code} {Q : Exit → Act → World → Prop} {a : Act} {w : World}
    (hro : F.round = none) (h1 : 1 ≤ n) {gf : Nat} {lb : Array Value} (hg : a.eval g = .func (.func gf) #[] lb) (hFg : F.fn gf) (eg : ∀ args w, (callFunc gf args).run P w = .ok (.enter gf args) w)
    {encs : α → Array Value} {ob : Nat} {S : List α → Prop} {N : Nat} {w0 : World} (hseq : Gives F (n - 1) P gf lb encs ob S N w0) (hob : ob < w.heap.size)
    (hb0 : Below w0.heap.size w0 w) (hps : ∀ x, (encs x).size = ps.size)
    (I : List α → World → Prop) (hI : OwnFrom w.heap.size I) (hI2 : ∀ s A C, I s A → StepIt w.heap.size ob A C → I s C) (h0 : I [] w) (hgood : ∀ s A, I s A → Good ob A) (a₁ : α → Nat → Act) (o₁ : α → Obj)
    (hassign : ∀ (l : Nat) (x : α) (W : World) (K : Act → World → Prop), K (a₁ x W.heap.size) (W.alloc (o₁ x)) →
      assign.wpIn (F.inRound l) (n - 1 - 1) P (Exit.then K (fun _ _ _ => False)) { tmps := (ps.zip (encs x)).foldl (fun t (p, v) => t.setIfInBounds p v) a.tmps, defers := [] } W)
    (hbody : ∀ (l : Nat) (pre : List α) (x : α) (V : World) (g : Nat), I pre V → V.heap.size = g + 1 → V.heap[g]? = some (o₁ x) → w.heap.size ≤ g → pre.length < N → body.wpIn (F.inRound l) (n - 1 - 1) P (onPost w.heap.size ob I (pre ++ [x]) V) (a₁ x g) V)
    (hdone : ∀ (D : Nat) (xs : List α) (W : World), w.heap.size ≤ D → S xs → I xs W → W.heap[D]? = some (.deferred (some [])) → Q .normal { a with defers := { target := .collected D, args := #[] } :: a.defers } W) :
    (Code.rangeFunc g ps assign body).wpIn F n P Q a w := by
  refine wpIn_rangeFunc fun fn hfn => ?_
  rw [hro]
  let rec_ : LoopState → Option Code → Loop := fun st pe => { state := st, pending := pe, fn, tmps := a.tmps, params := ps, assign, body, defers := w.heap.size }
  let D := w.heap.size
  let L := w.heap.size + 1
  let W1 := (w.alloc (.deferred (some []))).alloc (.loop (rec_ .ready none))
  have sL : W1.heap[L]? = some (.loop (rec_ .ready none)) := by
    have := World.alloc_heap_new (w.alloc (.deferred (some []))) (.loop (rec_ .ready none))
    rwa [World.size_alloc] at this
  have sD : W1.heap[D]? = some (.deferred (some [])) := (Below.heap_alloc _ _ _ (by simp [D])).trans (World.alloc_heap_new w _)
  have s1 : W1.heap.size = w.heap.size + 2 := by simp [W1]
  let J : List α → World → Prop := fun pre W => I pre W ∧ W.heap[L]? = some (.loop (rec_ .ready none)) ∧ W.heap[D]? = some (.deferred (some []))
  have hJ : ∀ s A C, J s A → StepIt W1.heap.size ob A C → J s C := fun s A C hs hst => by
    refine ⟨hI2 s A C hs.1 ⟨hst.os, hst.tape, hst.output, hst.size, fun k hk hc => hst.block k hk (hc.imp (fun h => by omega) id)⟩, (hst.block L (Array.getElem?_eq_some_iff.1 hs.2.1).1 (.inr (.inr (.inr ⟨_, hs.2.1, rfl⟩)))).trans hs.2.1, (hst.block D (Array.getElem?_eq_some_iff.1 hs.2.2).1 (.inr (.inr (.inr ⟨_, hs.2.2, rfl⟩)))).trans hs.2.2⟩
  have hb1 : Below w0.heap.size w0 W1 := hb0.trans ((((Below.refl _ w).alloc (Nat.le_refl _) _).alloc (by simp) _).mono hb0.size)
  refine ⟨L, [{ target := .collected D, args := #[] }], W1, { target := .fn (.func gf) lb, args := #[.func (.yield L) #[] #[]] }, W1, gf,
    #[.func (.yield L) #[] #[]] ++ lb, W1, run_enterLoop_outer _ _ _ _ _, ?_, ?_, ?_, fun _ => h1, ?_⟩
  · simp only [resolve, hg]
    simp [go_sem]
  · intro f' hf'
    simp [Target.leads] at hf'
    subst hf'
    exact hFg
  · simp [invoke, go_sem, eg]
  refine (hseq L J W1 hb1 hJ ?_ ⟨hI.alloc _ (hI.alloc _ h0), sL, sD⟩).mono ?_
  · rintro pre x W ⟨hi, hl, hk⟩ hlen
    have hlt : L < W.heap.size := (Array.getElem?_eq_some_iff.1 hl).1
    have hltD : D < W.heap.size := (Array.getElem?_eq_some_iff.1 hk).1
    have hlA : (W.alloc (o₁ x)).heap[L]? = some (.loop (rec_ .ready none)) := (Below.heap_alloc W _ L hlt).trans hl
    have hkA : (W.alloc (o₁ x)).heap[D]? = some (.deferred (some [])) := (Below.heap_alloc W _ D hltD).trans hk
    refine ⟨fn, _, assign, body, run_yield (P := P) (args := encs x) hl (hps x), roundIn_of_wpIn hfn (hassign L x W _ ⟨_, run_beginRound hlA rfl, ?_⟩)⟩
    let W2 := (W.alloc (o₁ x)).putObj L (.loop { rec_ .ready none with state := .busy })
    have hltA : L < (W.alloc (o₁ x)).heap.size := (Array.getElem?_eq_some_iff.1 hlA).1
    have hl2 : W2.heap[L]? = some (.loop { rec_ .ready none with state := .busy }) := World.putObj_heap_same hltA
    have hk2 : W2.heap[D]? = some (.deferred (some [])) := (World.putObj_heap_other (by simp [D, L])).trans hkA
    have hiA : I pre (W.alloc (o₁ x)) := hI.alloc _ hi
    have hi2 : I pre W2 := hI.putObj _ hiA (by simp [L]) hlA rfl
    have hgW : W2.heap[W.heap.size]? = some (o₁ x) := (World.putObj_heap_other (by omega)).trans (World.alloc_heap_new W _)
    have hsz2 : W2.heap.size = W.heap.size + 1 := by simp [W2]
    refine wpIn_mono (hbody L pre x W2 W.heap.size hi2 hsz2 hgW (by omega) hlen) ?_
    rintro e a3 W3 hp
    cases e with
    | normal =>
      obtain ⟨hk3, hkp3, hi3⟩ := hp
      have hl3 := hk3.same _ _ (by simp [L]) hl2 rfl
      have hd3 := hk3.same _ _ (Nat.le_refl _) hk2 rfl
      have h3 : L < W3.heap.size := (Array.getElem?_eq_some_iff.1 hl3).1
      refine ⟨_, _, run_endRound (P := P) none hl3, rfl, ⟨hI.putObj _ hi3 (by simp [L]) hl3 rfl, World.putObj_heap_same h3, (World.putObj_heap_other (by simp [D, L])).trans hd3⟩, ?_⟩
      have hoW : ob < W.heap.size := by omega
      have k0 : KeepFar ob W (W.alloc (o₁ x)) := ⟨by simp, fun hg => hg.alloc hoW _, fun k o hf ho hc => ⟨(Below.heap_alloc W _ k hf.1).trans ho, hf.alloc hoW _⟩⟩
      exact ((k0.trans (KeepFar.put _ L _ _ (by omega) hlA rfl)).trans hkp3).trans (KeepFar.put W3 L _ _ (by omega) hl3 rfl)
    | ret => exact hp.elim
    | exit id => exact hp.elim
    | goto t => exact hp.elim
    | panic ch => exact hp.elim
    | outgrown => exact hp.elim
  · rintro e W2 ⟨⟨v, rfl⟩, xs, hS, hi, hl, hk⟩
    exact ⟨none, _, run_endLoop (P := P) hl (by simp [rec_]), hdone D xs _ (Nat.le_refl _) hS (hI.putObj _ hi (by simp [L]) hl rfl) ((World.putObj_heap_other (by simp [D, L])).trans hk)⟩

end Go.Proofs.YtkdalgdckgmccaaGreatDoor
