/-
  The walks of values and of the iterator that it returns: the positions from one on, each with its value.
  A range over a function whose iterator ranges over a function itself: its body goes on after each round, and what lies apart from cells since the iterator began stays as it is.
-/
import Derived.RangeFuncNested
import Derived.RangeFuncBound
import Derived.RangeFuncCalls
import Derived.RangeFuncLeaves
import Derived.RangeFuncBox
import Derived.Shelf.Abstract
import Derived.Shelf.RegionOpen
import Derived.WalkKit
import Derived.OwnWalkIn
import Derived.TacticsInMore
import Derived.LoopNIn
import Derived.LoopIn
import Derived.Test.YtgdaidmkcgblbaaSame
namespace Go.Proofs.Ytgdaidmkcgblbaa
open Go.RowKit Go.Shelf

attribute [local go_sem] Oper.semAt_some

theorem room_of_none {F : Fence} (hd : F.depth = none) (k : Nat) : F.room k := fun d h => by rw [hd] at h; cases h
theorem roundIn_anyDepth {F : Fence} (hd : F.depth = none) {m m' : Nat} {P : Program} {l : Nat} {f : FuncId} {tmps : Array Value} {assign body : Code} {w : World} {R : Ending → World → Prop}
    (h : RoundIn F m P l f tmps assign body w R) : RoundIn F m' P l f tmps assign body w R := ⟨h.1, fun c cs _ => h.2 c cs (room_of_none hd _)⟩
theorem yieldAt_anyDepth {F : Fence} (hd : F.depth = none) {m : Nat} (m' : Nat) {P : Program} {l : Nat} {args : Array Value} {W : World} {R : Ending → World → Prop} (h : YieldAt F m P l args W R) : YieldAt F m' P l args W R := by
  obtain ⟨fn, tmps, assign, body, hy, hR⟩ := h
  exact ⟨fn, tmps, assign, body, hy, roundIn_anyDepth hd hR⟩

/-- The box Bp holds a slice that reads as p. -/
def ValsAt (Bp b off cap : Nat) (p : List Nat) (W : World) : Prop :=
  W.cell? ⟨Bp, 0, none⟩ = some (.slice (some ⟨b, off, none⟩) p.length cap) ∧ ∀ j, j < p.length → W.cell? ⟨b, off + j, none⟩ = some (.int .i64 (p.getD j 0 : Nat))

/-- A position and its value. -/
def encV (p : List Nat) (x : Fin p.length) : Array Value := #[.int .i64 ((x.1 : Nat) : Int), .int .i64 ((p.getD x.1 0 : Nat) : Int)]

/-- The positions from a on, n of them. -/
def Upto (p : List Nat) (a n : Nat) (ys : List (Fin p.length)) : Prop := ys.map (·.1) = List.range' a n

theorem Upto.snoc {p : List Nat} {a n : Nat} {ys : List (Fin p.length)} (h : Upto p a n ys) (x : Fin p.length) (hx : x.1 = a + n) : Upto p a (n + 1) (ys ++ [x]) := by
  unfold Upto at *
  rw [List.map_append, h, List.range'_1_concat]
  simp [hx]
theorem Upto.length {p : List Nat} {a n : Nat} {ys : List (Fin p.length)} (h : Upto p a n ys) : ys.length = n := by
  have := congrArg List.length h
  simpa using this

set_option maxRecDepth 100000 in
set_option maxHeartbeats 2000000 in
theorem values1_in (F : Fence) (n : Nat) (h1 : F.fn 102) (hro : F.round = none) (hn : 1 ≤ n) (l Bi Bp b off cap a : Nat) (p : List Nat) (hmax : p.length ≤ 4611686018427387904) (_ha : a ≤ 4611686018427387904)
    (Kp : World → World → Prop) (hKp : ∀ W W', Kp W W' → ValsAt Bp b off cap p W → ValsAt Bp b off cap p W') (J Jx : List (Fin p.length) → World → Prop)
    (hY : ∀ pre x W, J pre W → pre.length < p.length - a → YieldAt F (n - 1) Try.prog l (encV p x) W fun e W' =>
      (e = .returned (.bool true) ∧ J (pre ++ [x]) W' ∧ Kp W W') ∨ (e = .returned (.bool false) ∧ Jx (pre ++ [x]) W'))
    (W : World) (hBi : W.cell? ⟨Bi, 0, none⟩ = some (.int .i64 (a : Nat))) (hV : ValsAt Bp b off cap p W) (h0 : J [] W) :
    CallsIn F n Try.prog 102 #[.func (.yield l) #[] #[], .pointer (some ⟨Bi, 0, none⟩), .pointer (some ⟨Bp, 0, none⟩)] W fun e W' => (∃ v, e = .returned v) ∧
      ((∃ ys, Upto p a (p.length - a) ys ∧ J ys W') ∨ (∃ pre, (∃ k, a + k ≤ p.length ∧ Upto p a k pre) ∧ Jx pre W')) := by
  refine callsIn_of_wp Try.func102 rfl h1 ?_ hro
  simp only [Try.ntmps102, List.size_toArray, List.length_cons, List.length_nil, Nat.reduceAdd, Nat.reduceSub, Array.replicate_succ, Array.replicate_zero, List.push_toArray, List.append_toArray, List.nil_append, List.cons_append]
  gi_wp2
  gi_loopw [4] (fun i wr => ∃ (k : Nat) (pre : List (Fin p.length)), a ≤ k ∧ (k ≤ p.length ∨ k = a) ∧ i = .int .i64 (k : Nat) ∧ Upto p a (k - a) pre ∧ J pre wr ∧ ValsAt Bp b off cap p wr)
    (fun i _ => p.length - (intOf i).toNat)
  case atStart => exact ⟨a, [], Nat.le_refl _, Or.inr rfl, rfl, by unfold Upto; rw [Nat.sub_self]; rfl, h0, hV⟩
  case round =>
    obtain ⟨k, pre, hak, hk, rfl, hU, hJs, hVs⟩ := hrel
    have hcp := hVs.1
    by_cases hlt : k < p.length
    · have hcx := hVs.2 k hlt
      obtain ⟨fn, tmps, assign, body, hy, hR⟩ := hY pre ⟨k, hlt⟩ wr hJs (by rw [hU.length]; omega)
      have HU := Lib.hid hU
      have HK := Lib.hid hKp
      have HV := Lib.hid hVs
      clear hY hU hVs hV hKp
      unfold encV at hy
      dsimp only at hy
      generalize hv : p.getD k 0 = v at hy hcx
      clear hv
      gi_wp2
      refine hR.mono ?_
      rintro e W3 (⟨rfl, hJ3, hk3⟩ | ⟨rfl, hJx3⟩)
      · gi_wp2
        go_roundw
        case rel => exact ⟨k + 1, _, by omega, Or.inl (by omega), by go_num, by rw [show k + 1 - a = (k - a) + 1 by omega]; exact HU.out.snoc _ (show k = a + (k - a) by omega), hJ3, HK.out _ _ hk3 HV.out⟩
        case measure => simp [intOf]; omega
      · gi_wp2
        refine bodyPost_ret (results_none rfl _ _ _) rfl ?_
        exact ⟨⟨_, rfl⟩, .inr ⟨_, ⟨k - a + 1, by omega, HU.out.snoc _ (show k = a + (k - a) by omega)⟩, hJx3⟩⟩
    · have hle : p.length ≤ k := by omega
      have e : p.length - a = k - a := by omega
      have HU := Lib.hid hU
      clear hU hY hKp hV hVs
      gi_wp2
      go_end0
      exact ⟨⟨_, rfl⟩, .inl ⟨pre, by rw [e]; exact HU.out, hJs⟩⟩

set_option maxHeartbeats 1000000 in
theorem values_in (F : Fence) (n : Nat) (h1 : F.fn 76) (hro : F.round = none) (A : Option Addr) (len cap : Nat) (a : Int) (w : World) :
    CallsIn F n Try.prog 76 #[.slice A len cap, .int .i64 a] w fun e w' => e = .returned (.func (.func 102) #[] #[.pointer (some ⟨w.heap.size + 1, 0, none⟩), .pointer (some ⟨w.heap.size, 0, none⟩)]) ∧
      w' = (w.alloc (.cells #[.slice A len cap] 22)).alloc (.cells #[.int .i64 a] 3) := by
  refine callsIn_of_wp Try.func76 rfl h1 ?_ hro
  simp only [Try.ntmps76, List.size_toArray, List.length_cons, List.length_nil, Nat.reduceAdd, Nat.reduceSub, Array.replicate_succ, Array.replicate_zero, List.push_toArray, List.append_toArray, List.nil_append, List.cons_append]
  gi_wp2
  go_ret
  exact ⟨rfl, rfl⟩

theorem values_stops (F : Fence) (n : Nat) (h1 : F.fn 102) (hro : F.round = none) (hn : 1 ≤ n) (Bi Bp b off cap a : Nat) (p : List Nat) (hmax : p.length ≤ 4611686018427387904) (ha : a ≤ 4611686018427387904)
    (Kp : World → World → Prop) (hKp : ∀ W W', Kp W W' → ValsAt Bp b off cap p W → ValsAt Bp b off cap p W') (w : World)
    (hBp : Bp < w.heap.size) (hBi : Bi < w.heap.size) (hb : b < w.heap.size) (hc : w.cell? ⟨Bi, 0, none⟩ = some (.int .i64 (a : Nat))) (hV : ValsAt Bp b off cap p w) :
    SeqStopsK F n Try.prog 102 #[.pointer (some ⟨Bi, 0, none⟩), .pointer (some ⟨Bp, 0, none⟩)] (encV p) Kp (fun ys => Upto p a (p.length - a) ys) (fun pre => ∃ k, a + k ≤ p.length ∧ Upto p a k pre) (p.length - a) w :=
  fun l J Jx W hW _ _ hY h0 => values1_in F n h1 hro hn l Bi Bp b off cap a p hmax ha Kp hKp J Jx hY W ((hW.cell (p := ⟨Bi, 0, none⟩) hBi).trans hc)
    ⟨(hW.cell (p := ⟨Bp, 0, none⟩) hBp).trans hV.1, fun j hj => (hW.cell (p := ⟨b, off + j, none⟩) hb).trans (hV.2 j hj)⟩ h0

end Go.Proofs.Ytgdaidmkcgblbaa

namespace Go.Proofs.Ytgdaidmkcgblbaa
open Go.RowKit Go.Shelf

/-- The blocks from B on that there are stay as they are. -/
def Rest (B : Nat) (W W' : World) : Prop := W.heap.size ≤ W'.heap.size ∧ ∀ k, B ≤ k → k < W.heap.size → W'.heap[k]? = W.heap[k]?
theorem Rest.refl (B : Nat) (W : World) : Rest B W W := ⟨Nat.le_refl _, fun _ _ _ => rfl⟩
theorem Rest.trans {B : Nat} {a b c : World} (h : Rest B a b) (k : Rest B b c) : Rest B a c :=
  ⟨Nat.le_trans h.1 k.1, fun i hi hl => (k.2 i hi (Nat.lt_of_lt_of_le hl h.1)).trans (h.2 i hi hl)⟩
theorem Rest.mono {B B' : Nat} {a b : World} (h : Rest B a b) (hB : B ≤ B') : Rest B' a b := ⟨h.1, fun i hi hl => h.2 i (Nat.le_trans hB hi) hl⟩
theorem Rest.alloc {B : Nat} {a b : World} (h : Rest B a b) (o : Obj) : Rest B a (b.alloc o) :=
  ⟨by simp; have := h.1; omega, fun i hi hl => (Below.heap_alloc _ _ _ (Nat.lt_of_lt_of_le hl h.1)).trans (h.2 i hi hl)⟩
theorem Rest.setCell {B g : Nat} {a b : World} (h : Rest B a b) (hg : g < B) (i : Nat) (v : Value) : Rest B a (b.setCell ⟨g, i, none⟩ v) :=
  ⟨by simpa [World.setCell] using h.1, fun k hk hl => (Below.heap_setCell _ _ _ _ (by simp; omega)).trans (h.2 k hk hl)⟩
theorem Rest.put (W : World) (l B : Nat) (o : Obj) (h : l < B) : Rest B W (W.putObj l o) :=
  ⟨by simp, fun k hk _ => World.putObj_heap_other (by omega)⟩
theorem Rest.keeps {B : Nat} {a b : World} (h : Rest B a b) : KeepsFrom B a b := ⟨h.1, fun k _ hB ho _ => (h.2 k hB (Array.getElem?_eq_some_iff.1 ho).1).trans ho⟩

/-- A block that was there stays when nothing but blocks apart from cells, from B on, turns. -/
theorem ownFrom_block {β : Type} (B k : Nat) (o : Obj) (h : k < B) : OwnFrom B (fun (_ : β) W => W.heap[k]? = some o) := fun _ _ _ _ hs hg hr =>
  (hg.block k (Array.getElem?_eq_some_iff.1 hs).1 (fun e => by have := (hr k e.symm).1; omega)).trans hs
theorem ownFrom_mono {β : Type} {B B' : Nat} {I : β → World → Prop} (h : OwnFrom B I) (hB : B ≤ B') : OwnFrom B' I := fun s W W' row hs hg hr =>
  h s W W' row hs hg (fun r e => ⟨Nat.le_trans hB (hr r e).1, (hr r e).2⟩)

/-- What an iterator does for every loop that never leaves it: it gives a list as S says. What the loop keeps may hang on cells alone; each round pays Kp. -/
def Gives {α : Type} (F : Fence) (n : Nat) (P : Program) (g : Nat) (lb : Array Value) (encs : α → Array Value) (Kp : World → World → Prop) (S : List α → Prop) (N : Nat) (w : World) : Prop :=
  ∀ (l : Nat) (J : List α → World → Prop) (W : World), Below w.heap.size w W → OwnFrom W.heap.size J →
    (∀ pre x W1, J pre W1 → pre.length < N → YieldAt F (n - 1) P l (encs x) W1 fun e W' => e = .returned (.bool true) ∧ J (pre ++ [x]) W' ∧ Kp W1 W' ∧ Rest W.heap.size W1 W') →
    J [] W → CallsIn F n P g (#[.func (.yield l) #[] #[]] ++ lb) W fun e W' => (∃ v, e = .returned v) ∧ ∃ xs, S xs ∧ J xs W'

/-- A body that goes on. -/
def onPost {α : Type} (B : Nat) (Kp : World → World → Prop) (I : List α → World → Prop) (xs : List α) (W : World) : Exit → Act → World → Prop
  | .normal, _, W' => Rest B W W' ∧ Kp W W' ∧ I xs W'
  | _, _, _ => False

theorem range_on {α : Type} {F : Fence} {n : Nat} {P : Program} {g : Operand} {ps : Array Tmp} {assign body : Code} {Q : Exit → Act → World → Prop} {a : Act} {w : World}
    (hro : F.round = none) (h1 : 1 ≤ n) {gf : Nat} {lb : Array Value} (hg : a.eval g = .func (.func gf) #[] lb) (hFg : F.fn gf) (eg : ∀ args w, (callFunc gf args).run P w = .ok (.enter gf args) w)
    {encs : α → Array Value} {Kp : World → World → Prop} {S : List α → Prop} {N : Nat} {w0 : World} (hseq : Gives F (n - 1) P gf lb encs Kp S N w0)
    (hKt : ∀ {A B C : World}, Kp A B → Kp B C → Kp A C) (hKb : ∀ (W : World) (l : Nat) (o o' : Obj), w.heap.size ≤ l → W.heap[l]? = some o → o.isCells = false → Kp W (W.putObj l o'))
    (hb0 : Below w0.heap.size w0 w) (hps : ∀ x, (encs x).size = ps.size)
    (I : List α → World → Prop) (hI : OwnFrom w.heap.size I) (h0 : I [] w) (a₁ : α → Act)
    (hassign : ∀ (l : Nat) (x : α) (W : World) (K : Act → World → Prop), K (a₁ x) W →
      assign.wpIn (F.inRound l) (n - 1 - 1) P (Exit.then K (fun _ _ _ => False)) { tmps := (ps.zip (encs x)).foldl (fun t (p, v) => t.setIfInBounds p v) a.tmps, defers := [] } W)
    (hbody : ∀ (l : Nat) (pre : List α) (x : α) (W : World), I pre W → pre.length < N → body.wpIn (F.inRound l) (n - 1 - 1) P (onPost w.heap.size Kp I (pre ++ [x]) W) (a₁ x) W)
    (hdone : ∀ (D : Nat) (xs : List α) (W : World), w.heap.size ≤ D → S xs → I xs W → W.heap[D]? = some (.deferred (some [])) → Q .normal { a with defers := { target := .collected D, args := #[] } :: a.defers } W) :
    (Code.rangeFunc g ps assign body).wpIn F n P Q a w := by
  refine wpIn_rangeFunc fun fn hfn => ?_
  rw [hro]
  -- the loop's record in a state, and the two blocks that the loop lays: D for what is deferred, L for the record
  let rec_ : LoopState → Option Code → Loop := fun st pe => { state := st, pending := pe, fn, tmps := a.tmps, params := ps, assign, body, defers := w.heap.size }
  let D := w.heap.size
  let L := w.heap.size + 1
  let W1 := (w.alloc (.deferred (some []))).alloc (.loop (rec_ .ready none))
  have sL : W1.heap[L]? = some (.loop (rec_ .ready none)) := by
    have := World.alloc_heap_new (w.alloc (.deferred (some []))) (.loop (rec_ .ready none))
    rwa [World.size_alloc] at this
  have sD : W1.heap[D]? = some (.deferred (some [])) := (Below.heap_alloc _ _ _ (by simp [D])).trans (World.alloc_heap_new w _)
  have s1 : W1.heap.size = w.heap.size + 2 := by simp [W1]
  -- what is kept between two rounds
  let J : List α → World → Prop := fun pre W => I pre W ∧ W.heap[L]? = some (.loop (rec_ .ready none)) ∧ W.heap[D]? = some (.deferred (some []))
  have stay : ∀ {A B : World} {row : Option Nat} {k : Nat} {o : Obj}, A.grownBy B row → (∀ r, row = some r → W1.heap.size ≤ r ∧ ∃ o : Obj, A.heap[r]? = some o ∧ o.isCells = false) → k < W1.heap.size → A.heap[k]? = some o → B.heap[k]? = some o :=
    fun hg' hr hk ho => (hg'.block _ (Array.getElem?_eq_some_iff.1 ho).1 (fun e => by have := (hr _ e.symm).1; omega)).trans ho
  have hJ : OwnFrom W1.heap.size J := fun s A B row hs hg' hr =>
    ⟨hI s A B row hs.1 hg' (fun r e => ⟨by have := (hr r e).1; omega, (hr r e).2⟩), stay hg' hr (by simp [L, s1]) hs.2.1, stay hg' hr (by simp [D, s1]) hs.2.2⟩
  have hb1 : Below w0.heap.size w0 W1 := hb0.trans ((((Below.refl _ w).alloc (Nat.le_refl _) _).alloc (by simp) _).mono hb0.size)
  refine ⟨L, [{ target := .collected D, args := #[] }], W1, { target := .fn (.func gf) lb, args := #[.func (.yield L) #[] #[]] }, W1, gf,
    #[.func (.yield L) #[] #[]] ++ lb, W1, run_enterLoop_outer _ _ _ _ _, ?_, ?_, ?_, fun _ => h1, ?_⟩
  · simp only [resolve, hg]
    simp [go_sem]
  · intro f' hf'
    simp [Target.leads] at hf'
    subst hf'
    exact hFg
  · simp [invoke, go_sem, eg]
  refine (hseq L J W1 hb1 hJ ?_ ⟨hI.alloc _ (hI.alloc _ h0), sL, sD⟩).mono ?_
  · rintro pre x W ⟨hi, hl, hk⟩ hlen
    have hlt : L < W.heap.size := (Array.getElem?_eq_some_iff.1 hl).1
    refine ⟨fn, _, assign, body, run_yield (P := P) (args := encs x) hl (hps x), roundIn_of_wpIn hfn (hassign L x W _ ⟨_, run_beginRound hl rfl, ?_⟩)⟩
    let W2 := W.putObj L (.loop { rec_ .ready none with state := .busy })
    have hl2 : W2.heap[L]? = some (.loop { rec_ .ready none with state := .busy }) := World.putObj_heap_same hlt
    have hk2 : W2.heap[D]? = some (.deferred (some [])) := (World.putObj_heap_other (by simp [D, L])).trans hk
    have hi2 : I pre W2 := hI.putObj _ hi (by simp [L]) hl rfl
    refine wpIn_mono (hbody L pre x W2 hi2 hlen) ?_
    rintro e a3 W3 hp
    cases e with
    | normal =>
      obtain ⟨hk3, hkp3, hi3⟩ := hp
      have hl3 := hk3.keeps.same _ _ (by simp [L]) hl2 rfl
      have hd3 := hk3.keeps.same _ _ (Nat.le_refl _) hk2 rfl
      have h3 : L < W3.heap.size := (Array.getElem?_eq_some_iff.1 hl3).1
      refine ⟨_, _, run_endRound (P := P) none hl3, rfl, ⟨hI.putObj _ hi3 (by simp [L]) hl3 rfl, World.putObj_heap_same h3, (World.putObj_heap_other (by simp [D, L])).trans hd3⟩, ?_, ?_⟩
      · exact hKt (hKt (hKb _ _ _ _ (by simp [L]) hl rfl) hkp3) (hKb _ _ _ _ (by simp [L]) hl3 rfl)
      · exact ((Rest.put W L _ _ (by simp [L, s1])).trans (hk3.mono (by rw [s1]; omega))).trans (Rest.put W3 L _ _ (by simp [L, s1]))
    | ret => exact hp.elim
    | exit id => exact hp.elim
    | goto t => exact hp.elim
    | panic ch => exact hp.elim
    | outgrown => exact hp.elim
  · rintro e W2 ⟨⟨v, rfl⟩, xs, hS, hi, hl, hk⟩
    exact ⟨none, _, run_endLoop (P := P) hl (by simp [rec_]), hdone D xs _ (Nat.le_refl _) hS (hI.putObj _ hi (by simp [L]) hl rfl) ((World.putObj_heap_other (by simp [D, L])).trans hk)⟩

/-- The marks of the loops that were gone through. -/
def marks (ds : List Nat) : List Deferred := ds.map fun D => { target := .collected D, args := #[] }

/-- The blocks of the marks are as the loops laid them. -/
def Marked (B : Nat) (ds : List Nat) (W : World) : Prop := ds.Nodup ∧ ∀ D, D ∈ ds → B ≤ D ∧ W.heap[D]? = some (.deferred (some []))

theorem Marked.nil (B : Nat) (W : World) : Marked B [] W := ⟨List.nodup_nil, fun _ h => absurd h (by simp)⟩
theorem Marked.lt {B : Nat} {ds : List Nat} {W : World} (h : Marked B ds W) {D : Nat} (hD : D ∈ ds) : D < W.heap.size := (Array.getElem?_eq_some_iff.1 (h.2 D hD).2).1
theorem Marked.rest {B : Nat} {ds : List Nat} {W W' : World} (h : Marked B ds W) (hr : Rest B W W') : Marked B ds W' :=
  ⟨h.1, fun D hD => ⟨(h.2 D hD).1, (hr.2 D (h.2 D hD).1 (h.lt hD)).trans (h.2 D hD).2⟩⟩
theorem Marked.cons {B : Nat} {ds : List Nat} {W : World} {D : Nat} (h : Marked B ds W) (hB : B ≤ D) (hD : W.heap[D]? = some (.deferred (some []))) (hn : D ∉ ds) : Marked B (D :: ds) W :=
  ⟨List.nodup_cons.2 ⟨hn, h.1⟩, fun D' h' => by
    rcases List.mem_cons.1 h' with rfl | h'
    · exact ⟨hB, hD⟩
    · exact h.2 D' h'⟩

theorem leaves_marks {F : Fence} {n : Nat} {P : Program} {fn : Func} {tmps : Array Value} {R : Ending → World → Prop} {B : Nat} {T : World → Prop}
    (hT : ∀ W D, B ≤ D → W.heap[D]? = some (.deferred (some [])) → T W → T (W.putObj D (.deferred none)))
    (hend : ∀ W, T W → LeavesInM F n P fn tmps R [] .returning W) : ∀ (ds : List Nat) (W : World), Marked B ds W → T W → LeavesInM F n P fn tmps R (marks ds) .returning W
  | [], W, _, h => hend W h
  | D :: ds, W, hm, h => by
    have hD := hm.2 D (by simp)
    refine ⟨by simp, .inl ⟨D, _, rfl, run_takeDeferred hD.2, ?_⟩⟩
    refine leaves_marks hT hend ds _ ⟨(List.nodup_cons.1 hm.1).2, fun D' h' => ?_⟩ (hT W D hD.1 hD.2 h)
    have hne : D' ≠ D := fun e => (List.nodup_cons.1 hm.1).1 (e ▸ h')
    exact ⟨(hm.2 D' (by simp [h'])).1, (World.putObj_heap_other hne).trans (hm.2 D' (by simp [h'])).2⟩

end Go.Proofs.Ytgdaidmkcgblbaa
