/-
  The walk of Baxter.
-/
import Derived.Test.YtgdaidmkcgblbaaCode
import Derived.Test.YtgdaidmkcgblbaaChk
import Derived.Test.YtgdaidmkcgblbaaQuiet
namespace Go.Proofs.Ytgdaidmkcgblbaa
open Go.RowKit Go.Shelf

attribute [local go_sem] Oper.semAt_some

/-- What the loops of Baxter leave alone: the boxes of the slice and of the results, and the permutation. -/
def BaxAt (n0 b off cap : Nat) (p : List Nat) (pb : Obj) (X : World) : Prop :=
  (X.heap[n0]? = some (.cells #[.slice (some ⟨b, off, none⟩) p.length cap] 22 (0, 0)) ∧ X.heap[n0 + 1]? = some (.cells #[.slice none 0 0] 22 (0, 0)) ∧
    X.heap[n0 + 2]? = some (.cells #[.bool false] 4 (0, 0)) ∧ X.heap[n0 + 3]? = some (.cells #[.int .i64 0] 25 (0, 0))) ∧ X.heap[b]? = some pb

theorem BaxAt.own {β : Type} (B n0 b off cap : Nat) (p : List Nat) (pb : Obj) (h : n0 + 3 < B) (hb : b < B) : OwnFrom B (fun (_ : β) X => BaxAt n0 b off cap p pb X) :=
  OwnFrom.and (OwnFrom.and (ownFrom_block _ _ _ (by omega)) (OwnFrom.and (ownFrom_block _ _ _ (by omega)) (OwnFrom.and (ownFrom_block _ _ _ (by omega)) (ownFrom_block _ _ _ (by omega))))) (ownFrom_block _ _ _ hb)
theorem BaxAt.alloc {n0 b off cap : Nat} {p : List Nat} {pb : Obj} {X : World} (h : BaxAt n0 b off cap p pb X) (o : Obj) : BaxAt n0 b off cap p pb (X.alloc o) := by
  have k : ∀ {i : Nat} {q : Obj}, X.heap[i]? = some q → (X.alloc o).heap[i]? = some q := fun hi => (Below.heap_alloc X o _ (Array.getElem?_eq_some_iff.1 hi).1).trans hi
  exact ⟨⟨k h.1.1, k h.1.2.1, k h.1.2.2.1, k h.1.2.2.2⟩, k h.2⟩
theorem BaxAt.lt {n0 b off cap : Nat} {p : List Nat} {pb : Obj} {X : World} (h : BaxAt n0 b off cap p pb X) : n0 + 3 < X.heap.size ∧ b < X.heap.size :=
  ⟨(Array.getElem?_eq_some_iff.1 h.1.2.2.2).1, (Array.getElem?_eq_some_iff.1 h.2).1⟩

/-- A frame of Baxter at the head of its loop. -/
def BaxAct (n0 b off cap n a : Nat) (ds : List Nat) (act : Act) : Prop :=
  ∃ u6 u7 u8 u9 u10 u11 u12 u13 u14 u18 u19 u20 u21 u22 u23 u24 u25 u26 u27 u28 u29 u30 u31 u32 u33 u34 u35 u36 u37 u38 u39 u40 u41 u42 u43 u44 u45 u46 u47 u48 u49 u50 u51 u52 u53 : Value, act = { tmps := #[.slice (some ⟨b, off, none⟩) n cap, .pointer (some ⟨n0, 0, none⟩), .pointer (some ⟨n0 + 1, 0, none⟩), .pointer (some ⟨n0 + 1 + 1, 0, none⟩), .pointer (some ⟨n0 + 1 + 1 + 1, 0, none⟩), .int .i64 0, u6, u7, u8, u9, u10, u11, u12, u13, u14, .slice (some ⟨b, off, none⟩) n cap, .int .i64 n, .int .i64 a, u18, u19, u20, u21, u22, u23, u24, u25, u26, u27, u28, u29, u30, u31, u32, u33, u34, u35, u36, u37, u38, u39, u40, u41, u42, u43, u44, u45, u46, u47, u48, u49, u50, u51, u52, u53], defers := marks ds }

theorem own_block_cells {β : Type} (k : Nat) (cs : Array Value) (t : TypeId) : Own (fun (_ : β) X => X.heap[k]? = some (.cells cs t (0, 0))) := fun _ _ _ _ hs hg hrow =>
  (hg.block k (Array.getElem?_eq_some_iff.1 hs).1 (fun e => by obtain ⟨o, ho, hc⟩ := hrow k e.symm; rw [hs] at ho; cases ho; cases hc)).trans hs

/-- The results say that a, j, j + 1, b rule the permutation out. -/
def BaxRes (n0 a j b g : Nat) (X : World) : Prop :=
  (X.heap[n0 + 1]? = some (.cells #[.slice (some ⟨g, 0, none⟩) 4 4] 22 (0, 0)) ∧ X.heap[n0 + 2]? = some (.cells #[.bool false] 4 (0, 0)) ∧ X.heap[n0 + 3]? = some (.cells #[.int .i64 0] 25 (0, 0))) ∧
    X.heap[g]? = some (.cells #[.int .i64 (a : Nat), .int .i64 (j : Nat), .int .i64 ((j : Int) + 1), .int .i64 (b : Nat)] 3 (0, 0))
theorem BaxRes.own {β : Type} (B n0 a j b g : Nat) : OwnFrom B (fun (_ : β) X => BaxRes n0 a j b g X) :=
  OwnFrom.and (OwnFrom.and (Own.from (own_block_cells _ _ _) _) (OwnFrom.and (Own.from (own_block_cells _ _ _) _) (Own.from (own_block_cells _ _ _) _))) (Own.from (own_block_cells _ _ _) _)

theorem BaxAt.found {n0 b off cap : Nat} {p : List Nat} {pb : Obj} {V : World} (h : BaxAt n0 b off cap p pb V) (a j z : Nat) :
    BaxRes n0 a j z V.heap.size ((((V.alloc (.cells #[.int .i64 (a : Nat), .int .i64 (j : Nat), .int .i64 ((j : Int) + 1), .int .i64 (z : Nat)] 3)).setCell ⟨n0 + 1, 0, none⟩ (.slice (some ⟨V.heap.size, 0, none⟩) 4 4)).setCell ⟨n0 + 1 + 1, 0, none⟩ (.bool false)).setCell ⟨n0 + 1 + 1 + 1, 0, none⟩ (.int .i64 0)) := by
  have hl := h.lt.1
  have hO := h.alloc (.cells #[.int .i64 (a : Nat), .int .i64 (j : Nat), .int .i64 ((j : Int) + 1), .int .i64 (z : Nat)] 3)
  have q1 := Boxed.set (.slice (some ⟨V.heap.size, 0, none⟩) 4 4) hO.1.2.1
  have q2 : Boxed _ (n0 + 1 + 1) _ _ := (Below.heap_setCell (V.alloc (.cells #[.int .i64 (a : Nat), .int .i64 (j : Nat), .int .i64 ((j : Int) + 1), .int .i64 (z : Nat)] 3)) ⟨n0 + 1, 0, none⟩ (.slice (some ⟨V.heap.size, 0, none⟩) 4 4) (n0 + 1 + 1) (by simp)).trans hO.1.2.2.1
  have q3 : Boxed _ (n0 + 1 + 1 + 1) _ _ := (Below.heap_setCell (V.alloc (.cells #[.int .i64 (a : Nat), .int .i64 (j : Nat), .int .i64 ((j : Int) + 1), .int .i64 (z : Nat)] 3)) ⟨n0 + 1, 0, none⟩ (.slice (some ⟨V.heap.size, 0, none⟩) 4 4) (n0 + 1 + 1 + 1) (by simp <;> omega)).trans hO.1.2.2.2
  refine ⟨⟨?_, ?_, ?_⟩, ?_⟩
  · exact (Below.heap_setCell _ _ _ _ (by simp <;> omega)).trans ((Below.heap_setCell _ _ _ _ (by simp)).trans q1)
  · exact (Below.heap_setCell _ _ _ _ (by simp)).trans (Boxed.set (.bool false) q2)
  · exact Boxed.set (.int .i64 0) (show Boxed _ (n0 + 1 + 1 + 1) _ _ from (Below.heap_setCell _ _ _ _ (by simp)).trans q3)
  · exact (Below.heap_setCell _ _ _ _ (by simp <;> omega)).trans ((Below.heap_setCell _ _ _ _ (by simp <;> omega)).trans ((Below.heap_setCell _ _ _ _ (by simp <;> omega)).trans (World.alloc_heap_new V _)))

theorem Marked.keeps {B : Nat} {ds : List Nat} {W W' : World} (h : Marked B ds W) (hk : KeepsFrom B W W') : Marked B ds W' :=
  ⟨h.1, fun D hD => ⟨(h.2 D hD).1, hk.same D _ (h.2 D hD).1 (h.2 D hD).2 rfl⟩⟩

/-- No position behind j + 1 rules p out with a and j. -/
def NoB (p : List Nat) (a j : Nat) : Prop := ∀ b, j + 2 ≤ b → b < p.length → bad p a j b = false

theorem upto_mem {p : List Nat} {a n : Nat} {ys : List (Fin p.length)} (h : Upto p a n ys) (j : Nat) (h1 : a ≤ j) (h2 : j < a + n) : ∃ y ∈ ys, y.1 = j := by
  have hm : j ∈ ys.map (·.1) := by
    rw [h]
    simp only [List.mem_range'_1]
    omega
  obtain ⟨y, hy, e⟩ := List.mem_map.1 hm
  exact ⟨y, hy, e⟩
theorem upto_last {p : List Nat} {a k : Nat} {ini : List (Fin p.length)} {x : Fin p.length} (h : Upto p a k (ini ++ [x])) : Upto p a (k - 1) ini ∧ x.1 = a + (k - 1) ∧ 0 < k := by
  have hl := h.length
  rw [List.length_append, List.length_singleton] at hl
  obtain ⟨m, rfl⟩ : ∃ m, k = m + 1 := ⟨k - 1, by omega⟩
  unfold Upto at *
  rw [List.range'_1_concat, List.map_append] at h
  obtain ⟨h1, h2⟩ := List.append_inj' h rfl
  exact ⟨h1, by simpa using h2, by omega⟩

/-- The results say that nothing rules the permutation out. -/
def BaxYes (n0 : Nat) (X : World) : Prop :=
  X.heap[n0 + 1]? = some (.cells #[.slice none 0 0] 22 (0, 0)) ∧ X.heap[n0 + 2]? = some (.cells #[.bool true] 4 (0, 0)) ∧ X.heap[n0 + 3]? = some (.cells #[.int .i64 0] 25 (0, 0))
theorem BaxYes.own {β : Type} (B n0 : Nat) : OwnFrom B (fun (_ : β) X => BaxYes n0 X) :=
  OwnFrom.and (Own.from (own_block_cells _ _ _) _) (OwnFrom.and (Own.from (own_block_cells _ _ _) _) (Own.from (own_block_cells _ _ _) _))
theorem BaxAt.yes {n0 b off cap : Nat} {p : List Nat} {pb : Obj} {V : World} (h : BaxAt n0 b off cap p pb V) :
    BaxYes n0 (((V.setCell ⟨n0 + 1, 0, none⟩ (.slice none 0 0)).setCell ⟨n0 + 1 + 1, 0, none⟩ (.bool true)).setCell ⟨n0 + 1 + 1 + 1, 0, none⟩ (.int .i64 0)) := by
  have q1 := Boxed.set (.slice none 0 0) h.1.2.1
  have q2 : Boxed _ (n0 + 1 + 1) _ _ := (Below.heap_setCell V ⟨n0 + 1, 0, none⟩ (.slice none 0 0) (n0 + 1 + 1) (by simp)).trans h.1.2.2.1
  have q3 : Boxed _ (n0 + 1 + 1 + 1) _ _ := (Below.heap_setCell V ⟨n0 + 1, 0, none⟩ (.slice none 0 0) (n0 + 1 + 1 + 1) (by simp <;> omega)).trans h.1.2.2.2
  refine ⟨?_, ?_, ?_⟩
  · exact (Below.heap_setCell _ _ _ _ (by simp <;> omega)).trans ((Below.heap_setCell _ _ _ _ (by simp)).trans q1)
  · exact (Below.heap_setCell _ _ _ _ (by simp)).trans (Boxed.set (.bool true) q2)
  · exact Boxed.set (.int .i64 0) (show Boxed _ (n0 + 1 + 1 + 1) _ _ from (Below.heap_setCell _ _ _ _ (by simp)).trans q3)

/-- What Baxter returns. -/
def RetBax (p : List Nat) (w : World) (e : Ending) (w' : World) : Prop :=
  ((∃ a j b g, First p a j b ∧ e = .returned (.tuple #[.slice (some ⟨g, 0, none⟩) 4 4, .bool false, .int .i64 0]) ∧ Sl .i64 w' (some ⟨g, 0, none⟩) 4 [a, j, j + 1, b]) ∨
    (None' p ∧ e = .returned (.tuple #[.slice none 0 0, .bool true, .int .i64 0]))) ∧ Below w.heap.size w w'

set_option maxRecDepth 100000 in
set_option maxHeartbeats 8000000 in
theorem baxter_in (b off n cap : Nat) (p : List Nat) (w : World) (hS : Sl .i64 w (some ⟨b, off, none⟩) n p) (hp : IsPerm p) (hn : n ≤ 60) (h0 : 0 < n) :
    CallsIn Fence.wide 100 Try.prog 30 #[.slice (some ⟨b, off, none⟩) n cap] w (RetBax p w) := by
  obtain ⟨pb, hpb, hrow⟩ := rowAt_of hS h0
  have hl := hS.len
  subst hl
  have hbl : b < w.heap.size := (Array.getElem?_eq_some_iff.1 hpb).1
  refine callsIn_of_wp_marks Try.func30 rfl trivial ?_ rfl
  simp only [Try.ntmps30, List.size_toArray, List.length_cons, List.length_nil, Nat.reduceAdd, Nat.reduceSub, Array.replicate_succ, Array.replicate_zero, List.push_toArray, List.append_toArray, List.nil_append, List.cons_append]
  have hchk : ∀ X, Below w.heap.size w X → Calls Try.prog 16 #[.slice (some ⟨b, off, none⟩) p.length cap] X fun e w' => e = .returned (.int .i64 0) ∧ Below X.heap.size X w' := fun X hX => check_perm b off p.length cap p X (hS.below hX) hp hn h0
  have Hchk := Lib.hid hchk
  have Hrow := Lib.hid hrow
  clear hchk hrow
  have hb4 : Below w.heap.size w ((((w.alloc (.cells #[.slice (some ⟨b, off, none⟩) p.length cap] 22)).alloc (.cells #[.slice none 0 0] 22)).alloc (.cells #[.bool false] 4)).alloc (.cells #[.int .i64 0] 25)) :=
    ((((Below.refl _ w).alloc (Nat.le_refl _) _).alloc (by simp) _).alloc (by simp; omega) _).alloc (by simp; omega) _
  have hat4 : BaxAt w.heap.size b off cap p pb ((((w.alloc (.cells #[.slice (some ⟨b, off, none⟩) p.length cap] 22)).alloc (.cells #[.slice none 0 0] 22)).alloc (.cells #[.bool false] 4)).alloc (.cells #[.int .i64 0] 25)) := by
    have e1 := Boxed.new w 22 (.slice (some ⟨b, off, none⟩) p.length cap)
    have e2 := Boxed.new (w.alloc (.cells #[.slice (some ⟨b, off, none⟩) p.length cap] 22)) 22 (.slice none 0 0)
    have e3 := Boxed.new ((w.alloc (.cells #[.slice (some ⟨b, off, none⟩) p.length cap] 22)).alloc (.cells #[.slice none 0 0] 22)) 4 (.bool false)
    have e4 := Boxed.new (((w.alloc (.cells #[.slice (some ⟨b, off, none⟩) p.length cap] 22)).alloc (.cells #[.slice none 0 0] 22)).alloc (.cells #[.bool false] 4)) 25 (.int .i64 0)
    simp only [World.size_alloc] at e2 e3 e4
    exact ⟨⟨((e1.alloc _).alloc _).alloc _, (e2.alloc _).alloc _, e3.alloc _, e4⟩, (hb4.block b hbl).trans hpb⟩
  have cslice := Boxed.cell hat4.1.1
  have hsz4 : ((((w.alloc (.cells #[.slice (some ⟨b, off, none⟩) p.length cap] 22)).alloc (.cells #[.slice none 0 0] 22)).alloc (.cells #[.bool false] 4)).alloc (.cells #[.int .i64 0] 25)).heap.size = w.heap.size + 4 := by simp
  have Hb4 := Lib.hid hb4
  have Hat4 := Lib.hid hat4
  have Hsz4 := Lib.hid hsz4
  clear hb4 hat4 hsz4
  gi_wp2_with (refine ⟨trivial, ?_⟩; gi_at_call 16; refine (callsIn_wide.2 (Hchk.out _ Hb4.out)).mono ?_; rintro e w1 ⟨rfl, hb1⟩; have hs1 := hb1.size; rw [Hsz4.out] at hs1; have hat1 : BaxAt w.heap.size b off cap p pb w1 := ⟨⟨(hb1.block _ (by rw [Hsz4.out]; omega)).trans Hat4.out.1.1, (hb1.block _ (by rw [Hsz4.out]; omega)).trans Hat4.out.1.2.1, (hb1.block _ (by rw [Hsz4.out]; omega)).trans Hat4.out.1.2.2.1, (hb1.block _ (by rw [Hsz4.out]; omega)).trans Hat4.out.1.2.2.2⟩, (hb1.block _ (by rw [Hsz4.out]; omega)).trans Hat4.out.2⟩; have hbel1 : Below w.heap.size w w1 := Hb4.out.trans (hb1.mono (by rw [Hsz4.out]; omega)); have c1 := Boxed.cell hat1.1.1; clear hb1)
  refine wpIn_loop (fun act wr => ∃ (a : Nat) (ds : List Nat), BaxAct w.heap.size b off cap p.length a ds act ∧ a ≤ p.length ∧ Clear p a 0 0 ∧ BaxAt w.heap.size b off cap p pb wr ∧ Marked w.heap.size ds wr ∧ Below w.heap.size w wr)
    (fun act _ => p.length - (intOf (act.tmps.getD 17 undef)).toNat) ?_ ?_
  · exact ⟨0, [], ⟨_, _, _, _, _, _, _, _, _, _, _, _, _, _, _, _, _, _, _, _, _, _, _, _, _, _, _, _, _, _, _, _, _, _, _, _, _, _, _, _, _, _, _, _, _, rfl⟩, Nat.zero_le _, Clear.zero p, hat1, Marked.nil _ _, hbel1⟩
  · rintro act wr ⟨a, ds, ⟨u6, u7, u8, u9, u10, u11, u12, u13, u14, u18, u19, u20, u21, u22, u23, u24, u25, u26, u27, u28, u29, u30, u31, u32, u33, u34, u35, u36, u37, u38, u39, u40, u41, u42, u43, u44, u45, u46, u47, u48, u49, u50, u51, u52, u53, rfl⟩, ha, hcl, hat, hm, hbel⟩
    dsimp only
    clear c1 hat1 hbel1 hs1 cslice
    have Hcl := Lib.hid hcl
    clear hcl
    have hlt := hat.lt
    by_cases hap : a < p.length
    · have hatA := hat.alloc (.cells #[.int .i64 (a : Nat)] 3)
      have bA := Boxed.new wr 3 (.int .i64 (a : Nat))
      have cS := Boxed.cell hatA.1.1
      have cA := bA.cell
      gi_wp2_with (refine ⟨trivial, ?_⟩; gi_at_call 76; refine (values_in Fence.wide 99 trivial rfl _ _ _ _ _).mono ?_; rintro e w' ⟨rfl, rfl⟩)
      have bS := (Boxed.new (wr.alloc (.cells #[.int .i64 (a : Nat)] 3)) 22 (.slice (some ⟨b, off, none⟩) p.length cap)).alloc (.cells #[.int .i64 ((a : Int) + 1)] 3)
      have bI := Boxed.new ((wr.alloc (.cells #[.int .i64 (a : Nat)] 3)).alloc (.cells #[.slice (some ⟨b, off, none⟩) p.length cap] 22)) 3 (.int .i64 ((a : Int) + 1))
      simp only [World.size_alloc] at bS bI
      have bA1 := (bA.alloc (.cells #[.slice (some ⟨b, off, none⟩) p.length cap] 22)).alloc (.cells #[.int .i64 ((a : Int) + 1)] 3)
      have hat2 := (hatA.alloc (.cells #[.slice (some ⟨b, off, none⟩) p.length cap] 22)).alloc (.cells #[.int .i64 ((a : Int) + 1)] 3)
      have hm2 := hm.rest ((((Rest.refl w.heap.size wr).alloc (.cells #[.int .i64 (a : Nat)] 3)).alloc (.cells #[.slice (some ⟨b, off, none⟩) p.length cap] 22)).alloc (.cells #[.int .i64 ((a : Int) + 1)] 3))
      have hbel2 : Below w.heap.size w (((wr.alloc (.cells #[.int .i64 (a : Nat)] 3)).alloc (.cells #[.slice (some ⟨b, off, none⟩) p.length cap] 22)).alloc (.cells #[.int .i64 ((a : Int) + 1)] 3)) := ((hbel.alloc (by omega) _).alloc (by simp; omega) _).alloc (by simp; omega) _
      have hsz : (((wr.alloc (.cells #[.int .i64 (a : Nat)] 3)).alloc (.cells #[.slice (some ⟨b, off, none⟩) p.length cap] 22)).alloc (.cells #[.int .i64 ((a : Int) + 1)] 3)).heap.size = wr.heap.size + 3 := by simp
      generalize ((wr.alloc (.cells #[.int .i64 (a : Nat)] 3)).alloc (.cells #[.slice (some ⟨b, off, none⟩) p.length cap] 22)).alloc (.cells #[.int .i64 ((a : Int) + 1)] 3) = Wi at *
      clear hat hatA bA cS cA hm hbel
      refine wpIn_rangeFunc_ownH rfl (by omega) (gf := 102) (lb := #[.pointer (some ⟨wr.heap.size + 1 + 1, 0, none⟩), .pointer (some ⟨wr.heap.size + 1, 0, none⟩)]) rfl trivial (enters_of Try.func102 (by kernel_rfl) rfl)
        (values_stops Fence.wide 99 trivial rfl (by omega) (wr.heap.size + 1 + 1) (wr.heap.size + 1) b off cap (a + 1) p (by omega) (by omega) (KeepTwo b (wr.heap.size + 1)) (fun _ _ h => valsAt_keep h) Wi (by omega) (by omega) (by omega) (by simpa using bI.cell) ⟨bS.cell, fun j hj => Hrow.out Wi hat2.2 j hj⟩)
        KeepTwo.trans (fun W l _ o' h _ _ _ => KeepTwo.put (B := Wi.heap.size) (by omega) (by omega) W l o' h) (Below.refl _ _) (fun _ => rfl)
        (fun ys X => ((∀ y ∈ ys, NoB p a y.1) ∧ (BaxAt w.heap.size b off cap p pb X ∧ X.heap[wr.heap.size]? = some (.cells #[.int .i64 (a : Nat)] 3 (0, 0)) ∧ X.heap[wr.heap.size + 1]? = some (.cells #[.slice (some ⟨b, off, none⟩) p.length cap] 22 (0, 0))) ∧ Marked w.heap.size ds X) ∧ Below w.heap.size w X)
        (fun c ys X => (∃ ini y b' g, (c = .ret ∧ ys = ini ++ [y] ∧ (∀ y' ∈ ini, NoB p a y'.1) ∧ y.1 + 2 ≤ b' ∧ b' < p.length ∧ bad p a y.1 b' = true ∧ (∀ b'', y.1 + 2 ≤ b'' → b'' < b' → bad p a y.1 b'' = false) ∧ w.heap.size ≤ g) ∧ BaxRes w.heap.size a y.1 b' g X) ∧ Marked w.heap.size ds X ∧ Below w.heap.size w X)
        ?hI ?hIx ?h0
        (fun x a' X => ∃ Bj, (wr.heap.size + 1 < Bj ∧ Boxed X Bj 3 (.int .i64 (x.1 : Nat))) ∧ a' = { tmps := #[.slice (some ⟨b, off, none⟩) p.length cap, .pointer (some ⟨w.heap.size, 0, none⟩), .pointer (some ⟨w.heap.size + 1, 0, none⟩), .pointer (some ⟨w.heap.size + 1 + 1, 0, none⟩), .pointer (some ⟨w.heap.size + 1 + 1 + 1, 0, none⟩), .int .i64 0, .pointer (some ⟨wr.heap.size, 0, none⟩), .pointer (some ⟨Bj, 0, none⟩), u8, u9, u10, u11, u12, u13, u14, .slice (some ⟨b, off, none⟩) p.length cap, .int .i64 (p.length : Nat), .int .i64 (a : Nat), .bool true, .int .i64 (a : Nat), .slice (some ⟨b, off, none⟩) p.length cap, .int .i64 (a : Nat), .int .i64 ((a : Int) + 1), .func (.func 102) #[] #[.pointer (some ⟨wr.heap.size + 1 + 1, 0, none⟩), .pointer (some ⟨wr.heap.size + 1, 0, none⟩)], .int .i64 (x.1 : Nat), .int .i64 ((p.getD x.1 0 : Nat) : Int), u26, u27, u28, u29, u30, u31, u32, u33, u34, u35, u36, u37, u38, u39, u40, u41, u42, u43, u44, u45, u46, u47, u48, u49, u50, u51, u52, u53], defers := [] })
        ?hAx ?assign ?body ?done ?stop
      case hI =>
        exact OwnFrom.and (OwnFrom.and (ownFrom_pure _ _) (OwnFrom.and (OwnFrom.and (BaxAt.own _ _ _ _ _ _ _ (by omega) (by omega)) (OwnFrom.and (ownFrom_block _ _ _ (by omega)) (ownFrom_block _ _ _ (by omega)))) (marked_own _ _ _ fun D hD => hm2.lt hD))) (ownFrom_below (Nat.le_refl _) (by omega))
      case hIx =>
        intro c
        refine OwnFrom.and (fun s A B row hs hg hr => ?_) (OwnFrom.and (marked_own _ _ _ fun D hD => hm2.lt hD) (ownFrom_below (Nat.le_refl _) (by omega)))
        obtain ⟨ini, y, b', g, h1, h2⟩ := hs
        exact ⟨ini, y, b', g, h1, BaxRes.own (β := Unit) Wi.heap.size w.heap.size a y.1 b' g () A B row h2 hg hr⟩
      case h0 => exact ⟨⟨fun _ h => absurd h (by simp), ⟨hat2, bA1, bS⟩, hm2⟩, hbel2⟩
      case hAx =>
        rintro x a' s A B row ⟨Bj, ⟨h1, h2⟩, h3⟩ hg hr
        exact ⟨Bj, ⟨h1, Own.from (boxed_own Bj 3 (fun (_ : Unit) => Value.int .i64 (x.1 : Nat))) Wi.heap.size () A B row h2 hg hr⟩, h3⟩
      case assign =>
        rintro l pre x X K ⟨⟨hno, ⟨hatX, eA, eS⟩, hmX⟩, hbX⟩ hK
        have hxs := (Array.getElem?_eq_some_iff.1 eS).1
        unfold encV
        dsimp only at hK ⊢
        generalize p.getD x.1 0 = u at hK ⊢
        gi_wp2
        exact hK _ _ ((Rest.refl _ X).alloc _).keeps ⟨Below.heap_alloc _ _ _ hatX.lt.2, Below.heap_alloc _ _ _ hxs⟩ ⟨⟨hno, ⟨hatX.alloc _, (Below.heap_alloc _ _ _ (Boxed.lt eA)).trans eA, (Below.heap_alloc _ _ _ hxs).trans eS⟩, hmX.rest ((Rest.refl _ X).alloc _)⟩, hbX.alloc hbX.size _⟩ ⟨X.heap.size, ⟨hxs, Boxed.new X 3 _⟩, rfl⟩
      case body =>
        rintro l ys x a' X hl ⟨r, hr⟩ ⟨⟨hno, ⟨hatX, eA, eS⟩, hmX⟩, hbX⟩ ⟨Bj, ⟨hBj, eJ⟩, rfl⟩ hlen
        have hxp := x.2
        have hsX := hbX.size
        have hltX := hatX.lt
        have cS := Boxed.cell hatX.1.1
        have cA := Boxed.cell eA
        have cJ := eJ.cell
        have hxs := (Array.getElem?_eq_some_iff.1 eS).1
        generalize hux : p.getD x.1 0 = ux
        have Hux := Lib.hid hux
        clear hux
        gi_wp2_with (refine ⟨trivial, ?_⟩; gi_at_call 76; refine (CallsIn.inRound l (values_in Fence.wide 97 trivial rfl _ _ _ _ _)).mono ?_; rintro e w' ⟨rfl, rfl⟩)
        have bS2 := (Boxed.new X 22 (.slice (some ⟨b, off, none⟩) p.length cap)).alloc (.cells #[.int .i64 ((x.1 : Int) + 2)] 3)
        have bI2 := Boxed.new (X.alloc (.cells #[.slice (some ⟨b, off, none⟩) p.length cap] 22)) 3 (.int .i64 ((x.1 : Int) + 2))
        rw [World.size_alloc] at bI2
        have hat3 := (hatX.alloc (.cells #[.slice (some ⟨b, off, none⟩) p.length cap] 22)).alloc (.cells #[.int .i64 ((x.1 : Int) + 2)] 3)
        have hR3 := ((Rest.refl w.heap.size X).alloc (.cells #[.slice (some ⟨b, off, none⟩) p.length cap] 22)).alloc (.cells #[.int .i64 ((x.1 : Int) + 2)] 3)
        have hbel3 : Below w.heap.size w ((X.alloc (.cells #[.slice (some ⟨b, off, none⟩) p.length cap] 22)).alloc (.cells #[.int .i64 ((x.1 : Int) + 2)] 3)) := (hbX.alloc hsX _).alloc (by simp; omega) _
        have hsz3 : ((X.alloc (.cells #[.slice (some ⟨b, off, none⟩) p.length cap] 22)).alloc (.cells #[.int .i64 ((x.1 : Int) + 2)] 3)).heap.size = X.heap.size + 2 := by simp
        generalize (X.alloc (.cells #[.slice (some ⟨b, off, none⟩) p.length cap] 22)).alloc (.cells #[.int .i64 ((x.1 : Int) + 2)] 3) = Y at *
        have keep : ∀ {k : Nat} {o : Obj}, w.heap.size ≤ k → X.heap[k]? = some o → Y.heap[k]? = some o := fun hk ho => (hR3.2 _ hk (Array.getElem?_eq_some_iff.1 ho).1).trans ho
        have hr' := keep (by omega) hr
        have eA3 := keep (by omega) eA
        have eS3 := keep (by omega) eS
        have eJ3 := keep (by omega) (show X.heap[Bj]? = _ from eJ)
        have hm3 := hmX.rest hR3
        clear cS cA cJ
        refine wpIn_rangeFunc_ownN (l₀ := l) (r₀ := r) rfl hr' (by omega) (gf := 102) (lb := #[.pointer (some ⟨X.heap.size + 1, 0, none⟩), .pointer (some ⟨X.heap.size, 0, none⟩)]) rfl trivial (enters_of Try.func102 (by kernel_rfl) rfl)
          ((values_stops Fence.wide 97 trivial rfl (by omega) (X.heap.size + 1) X.heap.size b off cap (x.1 + 2) p (by omega) (by omega) (KeepTwo b X.heap.size) (fun _ _ h => valsAt_keep h) Y (by omega) (by omega) (by omega) (by simpa using bI2.cell) ⟨bS2.cell, fun j hj => Hrow.out Y hat3.2 j hj⟩).inRound l)
          KeepTwo.trans (fun W l _ o' h _ _ _ => KeepTwo.put (B := Y.heap.size) (by omega) (by omega) W l o' h) (Below.refl _ _) (fun _ => rfl)
          (fun zs Z => ((∀ z ∈ zs, bad p a x.1 z.1 = false) ∧ (BaxAt w.heap.size b off cap p pb Z ∧ Z.heap[wr.heap.size]? = some (.cells #[.int .i64 (a : Nat)] 3 (0, 0)) ∧ Z.heap[wr.heap.size + 1]? = some (.cells #[.slice (some ⟨b, off, none⟩) p.length cap] 22 (0, 0)) ∧ Z.heap[Bj]? = some (.cells #[.int .i64 (x.1 : Nat)] 3 (0, 0)) ∧ Z.heap[X.heap.size]? = some (.cells #[.slice (some ⟨b, off, none⟩) p.length cap] 22 (0, 0))) ∧ Marked w.heap.size ds Z) ∧ Below w.heap.size w Z ∧ KeepsFrom Wi.heap.size X Z)
          (fun c zs Z => (∃ ini z g, (c = .ret ∧ zs = ini ++ [z] ∧ (∀ z' ∈ ini, bad p a x.1 z'.1 = false) ∧ bad p a x.1 z.1 = true ∧ w.heap.size ≤ g) ∧ BaxRes w.heap.size a x.1 z.1 g Z) ∧ Marked w.heap.size ds Z ∧ Below w.heap.size w Z ∧ KeepsFrom Wi.heap.size X Z)
          ?hI2 ?hIx2 ?h02
          (fun z a' _ => a' = { tmps := #[.slice (some ⟨b, off, none⟩) p.length cap, .pointer (some ⟨w.heap.size, 0, none⟩), .pointer (some ⟨w.heap.size + 1, 0, none⟩), .pointer (some ⟨w.heap.size + 1 + 1, 0, none⟩), .pointer (some ⟨w.heap.size + 1 + 1 + 1, 0, none⟩), .int .i64 0, .pointer (some ⟨wr.heap.size, 0, none⟩), .pointer (some ⟨Bj, 0, none⟩), .int .i64 (z.1 : Nat), .int .i64 ((p.getD z.1 0 : Nat) : Int), u10, u11, u12, u13, u14, .slice (some ⟨b, off, none⟩) p.length cap, .int .i64 (p.length : Nat), .int .i64 (a : Nat), .bool true, .int .i64 (a : Nat), .slice (some ⟨b, off, none⟩) p.length cap, .int .i64 (a : Nat), .int .i64 ((a : Int) + 1), .func (.func 102) #[] #[.pointer (some ⟨wr.heap.size + 1 + 1, 0, none⟩), .pointer (some ⟨wr.heap.size + 1, 0, none⟩)], .int .i64 (x.1 : Nat), .int .i64 (ux : Nat), .slice (some ⟨b, off, none⟩) p.length cap, .int .i64 (x.1 : Nat), .int .i64 ((x.1 : Int) + 2), .func (.func 102) #[] #[.pointer (some ⟨X.heap.size + 1, 0, none⟩), .pointer (some ⟨X.heap.size, 0, none⟩)], .int .i64 (z.1 : Nat), .int .i64 ((p.getD z.1 0 : Nat) : Int), u32, u33, u34, u35, u36, u37, u38, u39, u40, u41, u42, u43, u44, u45, u46, u47, u48, u49, u50, u51, u52, u53], defers := [] })
          (fun _ _ _ _ _ _ hs _ _ => hs)
          ?assign2 ?body2 ?done2 ?stop2
        case hI2 =>
          exact OwnFrom.and (OwnFrom.and (ownFrom_pure _ _) (OwnFrom.and (OwnFrom.and (BaxAt.own _ _ _ _ _ _ _ (by omega) (by omega)) (OwnFrom.and (ownFrom_block _ _ _ (by omega)) (OwnFrom.and (ownFrom_block _ _ _ (by omega)) (OwnFrom.and (ownFrom_block _ _ _ (by have := eJ.lt; omega)) (ownFrom_block _ _ _ (by omega)))))) (marked_own _ _ _ fun D hD => hm3.lt hD))) (OwnFrom.and (ownFrom_below (Nat.le_refl _) (by omega)) (ownFrom_keepsFrom (by omega)))
        case hIx2 =>
          intro c
          refine OwnFrom.and (fun s A B row hs hg hr => ?_) (OwnFrom.and (marked_own _ _ _ fun D hD => hm3.lt hD) (OwnFrom.and (ownFrom_below (Nat.le_refl _) (by omega)) (ownFrom_keepsFrom (by omega))))
          obtain ⟨ini, z, g, h1, h2⟩ := hs
          exact ⟨ini, z, g, h1, BaxRes.own (β := Unit) Y.heap.size w.heap.size a x.1 z.1 g () A B row h2 hg hr⟩
        case h02 => exact ⟨⟨fun _ h => absurd h (by simp), ⟨hat3, eA3, eS3, eJ3, bS2⟩, hm3⟩, hbel3, (hR3.mono (by omega)).keeps⟩
        case assign2 =>
          rintro l2 zs z Z K hi hK
          unfold encV
          dsimp only at hK ⊢
          generalize p.getD z.1 0 = u at hK ⊢
          gi_wp2
          exact hK _ _ (KeepsFrom.refl _ _) (KeepTwo.refl _ _ _) hi rfl
        case body2 =>
          rintro l2 zs z a'' Z _ _ ⟨⟨hno2, ⟨hatZ, eA4, eS4, eJ4, eV4⟩, hmZ⟩, hbZ, hkZ⟩ rfl hlen2
          have hj2 : x.1 + 2 < p.length := by omega
          have ca := Hrow.out Z hatZ.2 a hap
          have cj := Hrow.out Z hatZ.2 x.1 hxp
          have cx := Hrow.out Z hatZ.2 (x.1 + 1) (by omega)
          have HB := Lib.hid (show bad p a x.1 z.1 = badV (p.getD a 0) (p.getD x.1 0) (p.getD (x.1 + 1) 0) (p.getD z.1 0) from rfl)
          rw [Hux.out] at cj HB
          have cS := Boxed.cell hatZ.1.1
          have cA := Boxed.cell eA4
          have cJ := Boxed.cell eJ4
          clear hat3 eA3 eS3 eJ3 hm3 keep hr hr' hR3 hbel3 bS2 bI2 hatX eA eS eJ hmX hbX
          generalize hva : p.getD a 0 = va at *
          generalize hvx : p.getD (x.1 + 1) 0 = vx at *
          generalize hvz : p.getD z.1 0 = vz at *
          clear hva hvx hvz
          have hrul := fun W : World => rulesOut_any va ux vx vz W
          obtain ⟨x1, hx1⟩ : ∃ x1 : Nat, x1 = x.1 := ⟨_, rfl⟩
          by_cases hbad : badV va ux vx vz = true
          · rw [hbad] at hrul HB
            have Hrul := Lib.hid hrul
            clear hrul
            gi_wp2
            refine region_quiet_round l2 (by kernel_rfl) (by kernel_rfl) (by kernel_rfl) ?_
            repeat (gi_big_quiet_step (fail))
            refine wpQuietIn_step (fun _ _ _ _ => trivial) (fun K hK => ?_)
            go_simp
            apply Exists.intro
            refine ⟨fun _ => ?_, hK _ ?_⟩
            · gi_at_call 77
              exact CallsIn.quiet_of_same (callsIn_wide.2 ((Hrul.out _).mono fun _ _ h => ⟨h.1, h.2.symm⟩))
            clear hK K
            refine wpQuietIn_nil ?_
            rintro _ ⟨nq, rfl⟩
            have hatV : BaxAt w.heap.size b off cap p pb (Z.drewN nq) := hatZ
            have eAV : (Z.drewN nq).heap[wr.heap.size]? = _ := eA4
            have eSV : (Z.drewN nq).heap[wr.heap.size + 1]? = _ := eS4
            have eJV : (Z.drewN nq).heap[Bj]? = _ := eJ4
            have eVV : (Z.drewN nq).heap[X.heap.size]? = _ := eV4
            have hmV : Marked w.heap.size ds (Z.drewN nq) := hmZ
            have hbV : Below w.heap.size w (Z.drewN nq) := below_drewN hbZ nq
            have hkV : KeepsFrom Wi.heap.size X (Z.drewN nq) := ⟨hkZ.1, hkZ.2⟩
            have hRV : Rest w.heap.size Z (Z.drewN nq) := ⟨Nat.le_refl _, fun _ _ _ => rfl⟩
            have hTV : KeepTwo b X.heap.size Z (Z.drewN nq) := ⟨rfl, rfl⟩
            generalize Z.drewN nq = V at *
            clear cS cA cJ ca cj cx Hrul
            have HB' := HB.out
            have cAV := Boxed.cell eAV
            have cJV := Boxed.cell eJV
            have hatO := hatV.alloc (.cells #[.int .i64 (a : Nat), .int .i64 (x.1 : Nat), .int .i64 ((x.1 : Int) + 1), .int .i64 (z.1 : Nat)] 3)
            have r1 := Boxed.cell hatO.1.2.1
            have r2 : _ = some (Value.bool false) := Boxed.cell (B := w.heap.size + 1 + 1) hatO.1.2.2.1
            have r3 : _ = some (Value.int .i64 0) := Boxed.cell (B := w.heap.size + 1 + 1 + 1) hatO.1.2.2.2
            have f1 := Boxed.frozen hatO.1.2.1
            have f2 : _ = false := Boxed.frozen (B := w.heap.size + 1 + 1) hatO.1.2.2.1
            have f3 : _ = false := Boxed.frozen (B := w.heap.size + 1 + 1 + 1) hatO.1.2.2.2
            have Hfound := Lib.hid (hatV.found a x.1 z.1)
            have hsV := hbV.size
            gi_wp2
            refine ⟨?_, ⟨⟨zs, z, V.heap.size, ⟨rfl, rfl, hno2, HB', by omega⟩, Hfound.out⟩, ?_, ?_, ?_⟩⟩
            · exact (hRV.mono (by omega)).keeps.trans (((((KeepsOthers.alloc V _).trans (KeepsOthers.setCell _ _ _)).trans (KeepsOthers.setCell _ _ _)).trans (KeepsOthers.setCell _ _ _)).from _)
            · exact hmV.keeps (((((KeepsOthers.alloc V _).trans (KeepsOthers.setCell _ _ _)).trans (KeepsOthers.setCell _ _ _)).trans (KeepsOthers.setCell _ _ _)).from _)
            · exact (((hbV.alloc hsV _).setCell (p := ⟨w.heap.size + 1, 0, none⟩) (by simp) _).setCell (p := ⟨w.heap.size + 1 + 1, 0, none⟩) (by simp <;> omega) _).setCell (p := ⟨w.heap.size + 1 + 1 + 1, 0, none⟩) (by simp <;> omega) _
            · exact hkV.trans (((((KeepsOthers.alloc V _).trans (KeepsOthers.setCell _ _ _)).trans (KeepsOthers.setCell _ _ _)).trans (KeepsOthers.setCell _ _ _)).from _)
          · have hbf : badV va ux vx vz = false := by simpa using hbad
            rw [hbf] at hrul HB
            have Hrul := Lib.hid hrul
            clear hrul hbf
            gi_wp2
            refine region_quiet_round l2 (by kernel_rfl) (by kernel_rfl) (by kernel_rfl) ?_
            repeat (gi_big_quiet_step (fail))
            refine wpQuietIn_step (fun _ _ _ _ => trivial) (fun K hK => ?_)
            go_simp
            apply Exists.intro
            refine ⟨fun _ => ?_, hK _ ?_⟩
            · gi_at_call 77
              exact CallsIn.quiet_of_same (callsIn_wide.2 ((Hrul.out _).mono fun _ _ h => ⟨h.1, h.2.symm⟩))
            clear hK K
            refine wpQuietIn_nil ?_
            rintro _ ⟨nq, rfl⟩
            have hatV : BaxAt w.heap.size b off cap p pb (Z.drewN nq) := hatZ
            have eAV : (Z.drewN nq).heap[wr.heap.size]? = _ := eA4
            have eSV : (Z.drewN nq).heap[wr.heap.size + 1]? = _ := eS4
            have eJV : (Z.drewN nq).heap[Bj]? = _ := eJ4
            have eVV : (Z.drewN nq).heap[X.heap.size]? = _ := eV4
            have hmV : Marked w.heap.size ds (Z.drewN nq) := hmZ
            have hbV : Below w.heap.size w (Z.drewN nq) := below_drewN hbZ nq
            have hkV : KeepsFrom Wi.heap.size X (Z.drewN nq) := ⟨hkZ.1, hkZ.2⟩
            have hRV : Rest w.heap.size Z (Z.drewN nq) := ⟨Nat.le_refl _, fun _ _ _ => rfl⟩
            have hTV : KeepTwo b X.heap.size Z (Z.drewN nq) := ⟨rfl, rfl⟩
            generalize Z.drewN nq = V at *
            clear cS cA cJ ca cj cx Hrul
            have HB' := HB.out
            gi_wp2
            refine ⟨hRV.keeps.mono_base (by omega), hTV, ⟨⟨fun z' hz' => ?_, ⟨hatV, eAV, eSV, eJV, eVV⟩, hmV⟩, hbV, hkV⟩⟩
            rcases List.mem_append.1 hz' with h | h
            · exact hno2 z' h
            · rw [List.mem_singleton.1 h]; exact HB'
        case done2 =>
          rintro zs Z hS2 ⟨⟨hno2, ⟨hatZ, eA4, eS4, eJ4, eV4⟩, hmZ⟩, hbZ, hkZ⟩
          have HS2 := Lib.hid hS2
          clear hS2
          gi_wp2
          refine ⟨hkZ, ⟨hatZ.2.trans hatX.2.symm, eS4.trans eS.symm⟩, ⟨⟨fun y hy => ?_, ⟨hatZ, eA4, eS4⟩, hmZ⟩, hbZ⟩⟩
          rcases List.mem_append.1 hy with h | h
          · exact hno y h
          · rw [List.mem_singleton.1 h]
            intro b' hb1 hb2
            obtain ⟨z, hz, hzb⟩ := upto_mem HS2.out b' hb1 (by omega)
            rw [← hzb]
            exact hno2 z hz
        case stop2 =>
          rintro c zs Z hSp2 ⟨⟨ini, z, g, ⟨rfl, rfl, hno2, hbad, hg⟩, hres⟩, hmZ, hbZ, hkZ⟩
          obtain ⟨k, hk, hU⟩ := hSp2
          have hu := upto_last hU
          have Hu := Lib.hid hu
          clear hU hu
          gi_wp2
          refine ⟨hkZ, ⟨⟨ys, x, z.1, g, ⟨rfl, rfl, hno, by have := Hu.out.2.1; omega, z.2, hbad, fun b'' hb1 hb2 => ?_, hg⟩, hres⟩, hmZ, hbZ⟩⟩
          obtain ⟨z', hz', hzb⟩ := upto_mem Hu.out.1 b'' hb1 (by have := Hu.out.2.1; omega)
          rw [← hzb]
          exact hno2 z' hz'
      case done =>
        rintro D ys X hD hS1 ⟨⟨hno, ⟨hatX, eA, eS⟩, hmX⟩, hbX⟩ hK
        have HS1 := Lib.hid hS1
        clear hS1
        gi_wp2
        refine ⟨⟨a + 1, D :: ds, ⟨_, _, _, _, _, _, _, _, _, _, _, _, _, _, _, _, _, _, _, _, _, _, _, _, _, _, _, _, _, _, _, _, _, _, _, _, _, _, _, _, _, _, _, _, _, rfl⟩, by omega, ?_, hatX, hmX.cons (by omega) hK (fun h => by have := hm2.lt h; omega), hbX⟩, ?_⟩
        · intro a' j' b' h1 h2 h3 h4
          by_cases e : a' = a
          · subst e
            obtain ⟨y, hy, hyj⟩ := upto_mem HS1.out j' (by omega) (by omega)
            rw [← hyj] at h2 ⊢
            exact hno y hy b' h2 h3
          · exact Hcl.out a' j' b' h1 h2 h3 (by omega)
        · simp [intOf]; omega
      case stop =>
        rintro D c ys X hD hSp ⟨⟨ini, y, b', g, ⟨rfl, rfl, hno, hb1, hb2, hbad, hmin, hg⟩, hres⟩, hmX, hbX⟩ hK
        obtain ⟨k, hk, hU⟩ := hSp
        have hu := upto_last hU
        have Hu := Lib.hid hu
        clear hU hu
        have hfirst : First p a y.1 b' := by
          refine ⟨by have := Hu.out.2.1; omega, hb1, hb2, hbad, ?_⟩
          intro a' j' b'' h1 h2 h3 h4
          by_cases e : a' = a
          · subst e
            by_cases e2 : j' = y.1
            · subst e2
              exact hmin b'' h2 (by omega)
            · obtain ⟨y', hy', hyj⟩ := upto_mem Hu.out.1 j' (by omega) (by have := Hu.out.2.1; omega)
              rw [← hyj] at h2 ⊢
              exact hno y' hy' b'' h2 h3
          · exact Hcl.out a' j' b'' h1 h2 h3 (by omega)
        have Hfirst := Lib.hid hfirst
        clear hfirst hno hmin hbad
        gi_wp2
        refine leaves_marks (B := w.heap.size) (T := fun X => BaxRes w.heap.size a y.1 b' g X ∧ Below w.heap.size w X) (fun X D hB hD h => ⟨(BaxRes.own (β := Unit) w.heap.size w.heap.size a y.1 b' g).putObj (s := ()) _ h.1 hB hD rfl, h.2.trans (belowK_b (w := w) (Nat.le_refl _) X D _ _ hB hD rfl rfl)⟩) (fun X h => ?_) (D :: ds) X (hmX.cons (by omega) hK (fun h => by have := hm2.lt h; omega)) ⟨hres, hbX⟩
        have c1 := Boxed.cell h.1.1.1
        have c2 : _ = some (Value.bool false) := Boxed.cell (B := w.heap.size + 1 + 1) h.1.1.2.1
        have c3 : _ = some (Value.int .i64 0) := Boxed.cell (B := w.heap.size + 1 + 1 + 1) h.1.1.2.2
        exact ⟨.tuple #[.slice (some ⟨g, 0, none⟩) 4 4, .bool false, .int .i64 0], by simp [results, Try.f30, go_sem, c1, c2, c3], Or.inl ⟨a, y.1, b', g, Hfirst.out, rfl, Sl.of_blk (t := 3) (l := [a, y.1, y.1 + 1, b']) h.1.2 rfl (by omega)⟩, h.2⟩
    · obtain rfl : a = p.length := by omega
      have hnone := Lib.hid (Hcl.out.none (Nat.le_refl _))
      have r1 := Boxed.cell hat.1.2.1
      have r2 : _ = some (Value.bool false) := Boxed.cell (B := w.heap.size + 1 + 1) hat.1.2.2.1
      have r3 : _ = some (Value.int .i64 0) := Boxed.cell (B := w.heap.size + 1 + 1 + 1) hat.1.2.2.2
      have f1 := Boxed.frozen hat.1.2.1
      have f2 : _ = false := Boxed.frozen (B := w.heap.size + 1 + 1) hat.1.2.2.1
      have f3 : _ = false := Boxed.frozen (B := w.heap.size + 1 + 1 + 1) hat.1.2.2.2
      have Hyes := Lib.hid hat.yes
      gi_wp2
      refine leaves_marks (B := w.heap.size) (T := fun X => BaxYes w.heap.size X ∧ Below w.heap.size w X) (fun X D hB hD h => ⟨(BaxYes.own (β := Unit) w.heap.size w.heap.size).putObj (s := ()) _ h.1 hB hD rfl, h.2.trans (belowK_b (w := w) (Nat.le_refl _) X D _ _ hB hD rfl rfl)⟩) (fun X h => ?_) ds _
        (hm.keeps ((((KeepsOthers.setCell _ _ _).trans (KeepsOthers.setCell _ _ _)).trans (KeepsOthers.setCell _ _ _)).from _))
        ⟨Hyes.out, ((hbel.setCell (p := ⟨w.heap.size + 1, 0, none⟩) (by simp) _).setCell (p := ⟨w.heap.size + 1 + 1, 0, none⟩) (by simp <;> omega) _).setCell (p := ⟨w.heap.size + 1 + 1 + 1, 0, none⟩) (by simp <;> omega) _⟩
      have c1 := Boxed.cell h.1.1
      have c2 : _ = some (Value.bool true) := Boxed.cell (B := w.heap.size + 1 + 1) h.1.2.1
      have c3 : _ = some (Value.int .i64 0) := Boxed.cell (B := w.heap.size + 1 + 1 + 1) h.1.2.2
      exact ⟨.tuple #[.slice none 0 0, .bool true, .int .i64 0], by simp [results, Try.f30, go_sem, c1, c2, c3], Or.inr ⟨hnone.out, rfl⟩, h.2⟩

theorem baxter_any (b off n cap : Nat) (p : List Nat) (w : World) (hS : Sl .i64 w (some ⟨b, off, none⟩) n p) (hp : IsPerm p) (hn : n ≤ 60) (h0 : 0 < n) :
    Calls Try.prog 30 #[.slice (some ⟨b, off, none⟩) n cap] w (RetBax p w) :=
  callsIn_wide.1 (baxter_in b off n cap p w hS hp hn h0)

end Go.Proofs.Ytgdaidmkcgblbaa
