/-
  A range over a function whose iterator ranges over a function itself: its body goes on after each round, and what lies apart from cells since the iterator began stays as it is.
-/
import Derived.Test.YtcklgdcjedikoaaVals
namespace Go.Proofs.Ytcklgdcjedikoaa
open Go.RowKit Go.Shelf

/-- The blocks from B on that there are stay as they are. -/
def Rest (B : Nat) (W W' : World) : Prop := W.heap.size ≤ W'.heap.size ∧ ∀ k, B ≤ k → k < W.heap.size → W'.heap[k]? = W.heap[k]?
theorem Rest.refl (B : Nat) (W : World) : Rest B W W := ⟨Nat.le_refl _, fun _ _ _ => rfl⟩
theorem Rest.trans {B : Nat} {a b c : World} (h : Rest B a b) (k : Rest B b c) : Rest B a c :=
  ⟨Nat.le_trans h.1 k.1, fun i hi hl => (k.2 i hi (Nat.lt_of_lt_of_le hl h.1)).trans (h.2 i hi hl)⟩
theorem Rest.mono {B B' : Nat} {a b : World} (h : Rest B a b) (hB : B ≤ B') : Rest B' a b := ⟨h.1, fun i hi hl => h.2 i (Nat.le_trans hB hi) hl⟩
theorem Rest.alloc {B : Nat} {a b : World} (h : Rest B a b) (o : Obj) : Rest B a (b.alloc o) :=
  ⟨by simp; have := h.1; omega, fun i hi hl => (Below.heap_alloc _ _ _ (Nat.lt_of_lt_of_le hl h.1)).trans (h.2 i hi hl)⟩
theorem Rest.setCell {B g : Nat} {a b : World} (h : Rest B a b) (hg : g < B) (i : Nat) (v : Value) : Rest B a (b.setCell ⟨g, i, none⟩ v) :=
  ⟨by simpa [World.setCell] using h.1, fun k hk hl => (Below.heap_setCell _ _ _ _ (by simp; omega)).trans (h.2 k hk hl)⟩
theorem Rest.put (W : World) (l B : Nat) (o : Obj) (h : l < B) : Rest B W (W.putObj l o) :=
  ⟨by simp, fun k hk _ => World.putObj_heap_other (by omega)⟩
theorem Rest.keeps {B : Nat} {a b : World} (h : Rest B a b) : KeepsFrom B a b := ⟨h.1, fun k _ hB ho _ => (h.2 k hB (Array.getElem?_eq_some_iff.1 ho).1).trans ho⟩

/-- A block that was there stays when nothing but blocks apart from cells, from B on, turns. -/
theorem ownFrom_block {β : Type} (B k : Nat) (o : Obj) (h : k < B) : OwnFrom B (fun (_ : β) W => W.heap[k]? = some o) := fun _ _ _ _ hs hg hr =>
  (hg.block k (Array.getElem?_eq_some_iff.1 hs).1 (fun e => by have := (hr k e.symm).1; omega)).trans hs
theorem ownFrom_mono {β : Type} {B B' : Nat} {I : β → World → Prop} (h : OwnFrom B I) (hB : B ≤ B') : OwnFrom B' I := fun s W W' row hs hg hr =>
  h s W W' row hs hg (fun r e => ⟨Nat.le_trans hB (hr r e).1, (hr r e).2⟩)

/-- What an iterator does for every loop that never leaves it: it gives a list as S says. What the loop keeps may hang on cells alone; each round pays Kp. -/
def Gives {α : Type} (F : Fence) (n : Nat) (P : Program) (g : Nat) (lb : Array Value) (encs : α → Array Value) (Kp : World → World → Prop) (S : List α → Prop) (N : Nat) (w : World) : Prop :=
  ∀ (l : Nat) (J : List α → World → Prop) (W : World), Below w.heap.size w W → OwnFrom W.heap.size J →
    (∀ pre x W1, J pre W1 → pre.length < N → YieldAt F (n - 1) P l (encs x) W1 fun e W' => e = .returned (.bool true) ∧ J (pre ++ [x]) W' ∧ Kp W1 W' ∧ Rest W.heap.size W1 W') →
    J [] W → CallsIn F n P g (#[.func (.yield l) #[] #[]] ++ lb) W fun e W' => (∃ v, e = .returned v) ∧ ∃ xs, S xs ∧ J xs W'

/-- A body that goes on. -/
def onPost {α : Type} (B : Nat) (Kp : World → World → Prop) (I : List α → World → Prop) (xs : List α) (W : World) : Exit → Act → World → Prop
  | .normal, _, W' => Rest B W W' ∧ Kp W W' ∧ I xs W'
  | _, _, _ => False

theorem range_on {α : Type} {F : Fence} {n : Nat} {P : Program} {g : Operand} {ps : Array Tmp} {assign body : Code} {Q : Exit → Act → World → Prop} {a : Act} {w : World}
    (hro : F.round = none) (h1 : 1 ≤ n) {gf : Nat} {lb : Array Value} (hg : a.eval g = .func (.func gf) #[] lb) (hFg : F.fn gf) (eg : ∀ args w, (callFunc gf args).run P w = .ok (.enter gf args) w)
    {encs : α → Array Value} {Kp : World → World → Prop} {S : List α → Prop} {N : Nat} {w0 : World} (hseq : Gives F (n - 1) P gf lb encs Kp S N w0)
    (hKt : ∀ {A B C : World}, Kp A B → Kp B C → Kp A C) (hKb : ∀ (W : World) (l : Nat) (o o' : Obj), w.heap.size ≤ l → W.heap[l]? = some o → o.isCells = false → Kp W (W.putObj l o'))
    (hb0 : Below w0.heap.size w0 w) (hps : ∀ x, (encs x).size = ps.size)
    (I : List α → World → Prop) (hI : OwnFrom w.heap.size I) (h0 : I [] w) (a₁ : α → Act)
    (hassign : ∀ (l : Nat) (x : α) (W : World) (K : Act → World → Prop), K (a₁ x) W →
      assign.wpIn (F.inRound l) (n - 1 - 1) P (Exit.then K (fun _ _ _ => False)) { tmps := (ps.zip (encs x)).foldl (fun t (p, v) => t.setIfInBounds p v) a.tmps, defers := [] } W)
    (hbody : ∀ (l : Nat) (pre : List α) (x : α) (W : World), I pre W → pre.length < N → body.wpIn (F.inRound l) (n - 1 - 1) P (onPost w.heap.size Kp I (pre ++ [x]) W) (a₁ x) W)
    (hdone : ∀ (D : Nat) (xs : List α) (W : World), w.heap.size ≤ D → S xs → I xs W → W.heap[D]? = some (.deferred (some [])) → Q .normal { a with defers := { target := .collected D, args := #[] } :: a.defers } W) :
    (Code.rangeFunc g ps assign body).wpIn F n P Q a w := by
  refine wpIn_rangeFunc fun fn hfn => ?_
  rw [hro]
  -- the loop's record in a state, and the two blocks that the loop lays: D for what is deferred, L for the record
  let rec_ : LoopState → Option Code → Loop := fun st pe => { state := st, pending := pe, fn, tmps := a.tmps, params := ps, assign, body, defers := w.heap.size }
  let D := w.heap.size
  let L := w.heap.size + 1
  let W1 := (w.alloc (.deferred (some []))).alloc (.loop (rec_ .ready none))
  have sL : W1.heap[L]? = some (.loop (rec_ .ready none)) := by
    have := World.alloc_heap_new (w.alloc (.deferred (some []))) (.loop (rec_ .ready none))
    rwa [World.size_alloc] at this
  have sD : W1.heap[D]? = some (.deferred (some [])) := (Below.heap_alloc _ _ _ (by simp [D])).trans (World.alloc_heap_new w _)
  have s1 : W1.heap.size = w.heap.size + 2 := by simp [W1]
  -- what is kept between two rounds
  let J : List α → World → Prop := fun pre W => I pre W ∧ W.heap[L]? = some (.loop (rec_ .ready none)) ∧ W.heap[D]? = some (.deferred (some []))
  have stay : ∀ {A B : World} {row : Option Nat} {k : Nat} {o : Obj}, A.grownBy B row → (∀ r, row = some r → W1.heap.size ≤ r ∧ ∃ o : Obj, A.heap[r]? = some o ∧ o.isCells = false) → k < W1.heap.size → A.heap[k]? = some o → B.heap[k]? = some o :=
    fun hg' hr hk ho => (hg'.block _ (Array.getElem?_eq_some_iff.1 ho).1 (fun e => by have := (hr _ e.symm).1; omega)).trans ho
  have hJ : OwnFrom W1.heap.size J := fun s A B row hs hg' hr =>
    ⟨hI s A B row hs.1 hg' (fun r e => ⟨by have := (hr r e).1; omega, (hr r e).2⟩), stay hg' hr (by simp [L, s1]) hs.2.1, stay hg' hr (by simp [D, s1]) hs.2.2⟩
  have hb1 : Below w0.heap.size w0 W1 := hb0.trans ((((Below.refl _ w).alloc (Nat.le_refl _) _).alloc (by simp) _).mono hb0.size)
  refine ⟨L, [{ target := .collected D, args := #[] }], W1, { target := .fn (.func gf) lb, args := #[.func (.yield L) #[] #[]] }, W1, gf,
    #[.func (.yield L) #[] #[]] ++ lb, W1, run_enterLoop_outer _ _ _ _ _, ?_, ?_, ?_, fun _ => h1, ?_⟩
  · simp only [resolve, hg]
    simp [go_sem]
  · intro f' hf'
    simp [Target.leads] at hf'
    subst hf'
    exact hFg
  · simp [invoke, go_sem, eg]
  refine (hseq L J W1 hb1 hJ ?_ ⟨hI.alloc _ (hI.alloc _ h0), sL, sD⟩).mono ?_
  · rintro pre x W ⟨hi, hl, hk⟩ hlen
    have hlt : L < W.heap.size := (Array.getElem?_eq_some_iff.1 hl).1
    refine ⟨fn, _, assign, body, run_yield (P := P) (args := encs x) hl (hps x), roundIn_of_wpIn hfn (hassign L x W _ ⟨_, run_beginRound hl rfl, ?_⟩)⟩
    let W2 := W.putObj L (.loop { rec_ .ready none with state := .busy })
    have hl2 : W2.heap[L]? = some (.loop { rec_ .ready none with state := .busy }) := World.putObj_heap_same hlt
    have hk2 : W2.heap[D]? = some (.deferred (some [])) := (World.putObj_heap_other (by simp [D, L])).trans hk
    have hi2 : I pre W2 := hI.putObj _ hi (by simp [L]) hl rfl
    refine wpIn_mono (hbody L pre x W2 hi2 hlen) ?_
    rintro e a3 W3 hp
    cases e with
    | normal =>
      obtain ⟨hk3, hkp3, hi3⟩ := hp
      have hl3 := hk3.keeps.same _ _ (by simp [L]) hl2 rfl
      have hd3 := hk3.keeps.same _ _ (Nat.le_refl _) hk2 rfl
      have h3 : L < W3.heap.size := (Array.getElem?_eq_some_iff.1 hl3).1
      refine ⟨_, _, run_endRound (P := P) none hl3, rfl, ⟨hI.putObj _ hi3 (by simp [L]) hl3 rfl, World.putObj_heap_same h3, (World.putObj_heap_other (by simp [D, L])).trans hd3⟩, ?_, ?_⟩
      · exact hKt (hKt (hKb _ _ _ _ (by simp [L]) hl rfl) hkp3) (hKb _ _ _ _ (by simp [L]) hl3 rfl)
      · exact ((Rest.put W L _ _ (by simp [L, s1])).trans (hk3.mono (by rw [s1]; omega))).trans (Rest.put W3 L _ _ (by simp [L, s1]))
    | ret => exact hp.elim
    | exit id => exact hp.elim
    | goto t => exact hp.elim
    | panic ch => exact hp.elim
    | outgrown => exact hp.elim
  · rintro e W2 ⟨⟨v, rfl⟩, xs, hS, hi, hl, hk⟩
    exact ⟨none, _, run_endLoop (P := P) hl (by simp [rec_]), hdone D xs _ (Nat.le_refl _) hS (hI.putObj _ hi (by simp [L]) hl rfl) ((World.putObj_heap_other (by simp [D, L])).trans hk)⟩

/-- The marks of the loops that were gone through. -/
def marks (ds : List Nat) : List Deferred := ds.map fun D => { target := .collected D, args := #[] }

/-- The blocks of the marks are as the loops laid them. -/
def Marked (B : Nat) (ds : List Nat) (W : World) : Prop := ds.Nodup ∧ ∀ D, D ∈ ds → B ≤ D ∧ W.heap[D]? = some (.deferred (some []))

theorem Marked.nil (B : Nat) (W : World) : Marked B [] W := ⟨List.nodup_nil, fun _ h => absurd h (by simp)⟩
theorem Marked.lt {B : Nat} {ds : List Nat} {W : World} (h : Marked B ds W) {D : Nat} (hD : D ∈ ds) : D < W.heap.size := (Array.getElem?_eq_some_iff.1 (h.2 D hD).2).1
theorem Marked.rest {B : Nat} {ds : List Nat} {W W' : World} (h : Marked B ds W) (hr : Rest B W W') : Marked B ds W' :=
  ⟨h.1, fun D hD => ⟨(h.2 D hD).1, (hr.2 D (h.2 D hD).1 (h.lt hD)).trans (h.2 D hD).2⟩⟩
theorem Marked.cons {B : Nat} {ds : List Nat} {W : World} {D : Nat} (h : Marked B ds W) (hB : B ≤ D) (hD : W.heap[D]? = some (.deferred (some []))) (hn : D ∉ ds) : Marked B (D :: ds) W :=
  ⟨List.nodup_cons.2 ⟨hn, h.1⟩, fun D' h' => by
    rcases List.mem_cons.1 h' with rfl | h'
    · exact ⟨hB, hD⟩
    · exact h.2 D' h'⟩

theorem leaves_marks {F : Fence} {n : Nat} {P : Program} {fn : Func} {tmps : Array Value} {R : Ending → World → Prop} {B : Nat} {T : World → Prop}
    (hT : ∀ W D, B ≤ D → W.heap[D]? = some (.deferred (some [])) → T W → T (W.putObj D (.deferred none)))
    (hend : ∀ W, T W → LeavesInM F n P fn tmps R [] .returning W) : ∀ (ds : List Nat) (W : World), Marked B ds W → T W → LeavesInM F n P fn tmps R (marks ds) .returning W
  | [], W, _, h => hend W h
  | D :: ds, W, hm, h => by
    have hD := hm.2 D (by simp)
    refine ⟨by simp, .inl ⟨D, _, rfl, run_takeDeferred hD.2, ?_⟩⟩
    refine leaves_marks hT hend ds _ ⟨(List.nodup_cons.1 hm.1).2, fun D' h' => ?_⟩ (hT W D hD.1 hD.2 h)
    have hne : D' ≠ D := fun e => (List.nodup_cons.1 hm.1).1 (e ▸ h')
    exact ⟨(hm.2 D' (by simp [h'])).1, (World.putObj_heap_other hne).trans (hm.2 D' (by simp [h'])).2⟩

end Go.Proofs.Ytcklgdcjedikoaa
