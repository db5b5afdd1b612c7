/-
  The walk of leastSubsets: the least sets for which a question is answered with true.
-/
import Derived.Test.YtkdalgdckgmccaaGreatDoorSubs
import Derived.Test.YtkdalgdckgmccaaGreatDoorHas
import Derived.Maps.OwnIn
namespace Go.Proofs.YtkdalgdckgmccaaGreatDoor
open Go.RowKit Go.Shelf

attribute [local go_sem] Oper.semAt_some

/-- One set more, if the question is answered with true and none before is within it. -/
def leastStep (hp : (Nat → Bool) → Bool) (out : List (Nat → Bool)) (T : Nat → Bool) : List (Nat → Bool) := if (!(out.any fun U => subN T U) && hp T) = true then out ++ [T] else out
def leastL (hp : (Nat → Bool) → Bool) (Ts : List (Nat → Bool)) : List (Nat → Bool) := Ts.foldl (leastStep hp) []
theorem leastL_snoc (hp : (Nat → Bool) → Bool) (Ts : List (Nat → Bool)) (T : Nat → Bool) : leastL hp (Ts ++ [T]) = leastStep hp (leastL hp Ts) T := by
  unfold leastL
  rw [List.foldl_append]; rfl
theorem leastStep_length (hp : (Nat → Bool) → Bool) (out : List (Nat → Bool)) (T : Nat → Bool) : (leastStep hp out T).length ≤ out.length + 1 := by
  unfold leastStep
  split
  · simp
  · omega
theorem leastL_length (hp : (Nat → Bool) → Bool) (Ts : List (Nat → Bool)) : (leastL hp Ts).length ≤ Ts.length := by
  have : ∀ (Ts out : List (Nat → Bool)), (Ts.foldl (leastStep hp) out).length ≤ out.length + Ts.length := by
    intro Ts
    induction Ts with
    | nil => intro out; simp
    | cons T Ts ih =>
      intro out
      have h1 := ih (leastStep hp out T)
      have h2 := leastStep_length hp out T
      simp only [List.foldl_cons, List.length_cons]
      omega
  have h := this Ts []
  unfold leastL
  simpa using h

/-- Sets as cells. -/
def flatC (Ss : List (Nat → Bool)) : List Value := Ss.flatMap fun S => (nailC S).toList
theorem flatC_length (Ss : List (Nat → Bool)) : (flatC Ss).length = Ss.length * 26 := by
  induction Ss with
  | nil => rfl
  | cons S Ss ih =>
    unfold flatC at *
    rw [List.flatMap_cons, List.length_append, ih, List.length_cons, Array.length_toList, nailC_size]
    omega
theorem flatC_snoc (Ss : List (Nat → Bool)) (S : Nat → Bool) : flatC Ss ++ (nailC S).toList = flatC (Ss ++ [S]) := by
  unfold flatC
  rw [List.flatMap_append]; simp
theorem flatC_get (Ss : List (Nat → Bool)) : ∀ (i k : Nat), i < Ss.length → k < 26 → (flatC Ss)[i * 26 + k]? = some (.bool (Ss.getD i (fun _ => false) k)) := by
  induction Ss with
  | nil => intro i k h; exact absurd h (by simp)
  | cons S Ss ih =>
    intro i k hi hk
    have e : flatC (S :: Ss) = (nailC S).toList ++ flatC Ss := by unfold flatC; rw [List.flatMap_cons]
    rw [e]
    cases i with
    | zero => rw [List.getElem?_append_left (by rw [Array.length_toList, nailC_size]; omega), Nat.zero_mul, Nat.zero_add, Array.getElem?_toList, nailC_at S k hk]; rfl
    | succ i =>
      rw [List.getElem?_append_right (by rw [Array.length_toList, nailC_size]; omega), Array.length_toList, nailC_size, show (i + 1) * 26 + k - 26 = i * 26 + k by omega, ih i k (by simpa using hi) hk]
      rfl
/-- A row of sets of its own. -/
def OwnSets (B : Nat) (w : World) (v : Value) (Ss : List (Nat → Bool)) : Prop := w.ownsRow B 49 26 v Ss.length (flatC Ss)
theorem own_posS {w : World} {B k size : Nat} {e : TypeId} {v : Value} {xs : List Value} (h : w.ownsRow B e size v k xs) (h0 : 0 < k) : ∃ g cap, v = .slice (some ⟨g, 0, none⟩) k cap := by
  obtain ⟨hl, ⟨e1, rfl⟩ | ⟨g', cap', cur, e1, _⟩⟩ := h
  · omega
  · exact ⟨g', cap', e1⟩
theorem OwnSets.row {B : Nat} {w : World} {v : Value} {Ss : List (Nat → Bool)} (h : OwnSets B w v Ss) : ∃ A cap, v = .slice A Ss.length cap ∧ RowS w A Ss.length Ss := by
  obtain ⟨hl, ⟨e1, e2⟩ | ⟨g, cap, cur, e1, hb, hg, hc, hm, hs, ht⟩⟩ := h
  · exact ⟨none, 0, by rw [e2]; exact e1, rfl, fun h0 => by omega⟩
  · refine ⟨some ⟨g, 0, none⟩, cap, e1, rfl, fun h0 => ⟨g, 0, rfl, fun _ => (Array.getElem?_eq_some_iff.1 hg).1, fun i hi k hk => ?_⟩⟩
    rw [Nat.zero_add, cell_of_row w g (i * 26 + k) cur 49 (0, 0) hg, ← flatC_get Ss i k hi hk, ← ht, List.getElem?_take_of_lt (by
      have : (i + 1) * 26 ≤ Ss.length * 26 := Nat.mul_le_mul_right _ hi
      omega)]
    simp

theorem wpListIn_buildSlice {F : Fence} {n' : Nat} {P : Program} {ops : Array Oper} {rest : List Oper} {o : Oper} {a : Act} {w : World} {Q : Exit → Act → World → Prop} (hgd : o.guard = none) (t e : TypeId) (len : Nat) (parts : Array (Nat × Operand)) (ho : o.op = .buildSlice t len parts)
    (cells : Array Value) (ie : TypeInfo) (z : Value)
    (hu : P.underlying t = some (.slice e)) (hie : P.info? e = some ie) (hz : ie.zero = some z) (hsmall : ¬ len * ie.size > 2 ^ 24) (hpos : ¬ len * ie.size = 0)
    (hf : Instr.fill (fun i => some (i * ie.size, ie.size)) ((Array.range (len * ie.size)).map (z.cells[· % z.cells.size]!)) (parts.map fun (i, x) => (i, a.eval x)).toList = some cells)
    (h : wpListIn F n' P ops Q rest (a.put o.dst (.slice (some ⟨w.heap.size, 0, none⟩) len len)) (w.alloc (.cells cells e))) : wpListIn F n' P ops Q (o :: rest) a w := by
  refine wpListIn_plain hgd fun K hK' => ?_
  unfold Oper.wpIn
  refine ⟨by simp [Oper.about, ho], ?_⟩
  rw [Oper.semAt_plain F _ _ (by rw [ho]; intro c hc'; cases hc')]
  unfold execOp
  simp only [ho, Sem.run_bind, run_buildSlice w t e len _ cells ie z hu hie hz hsmall hpos hf, Result.andThen_ok]
  exact hK' _ _ h

/-- What the question does: it answers of a set as hp says. -/
def Asks (hf : Nat) (lb : Array Value) (hp : (Nat → Bool) → Bool) (w : World) : Prop :=
  ∀ (W : World) (T : Nat → Bool), Below w.heap.size w W → Calls Tryz.prog hf (#[.agg (nailC T)] ++ lb) W fun e W' => e = .returned (.bool (hp T)) ∧ Below W.heap.size W W'

theorem subsets_any (S : Nat → Bool) (w : World) : Calls Tryz.prog 65 #[.agg (nailC S)] w fun e w' => e = .returned (.func (.func 85) #[] #[.pointer (some ⟨w.heap.size, 0, none⟩)]) ∧ w' = w.alloc (.cells (nailC S) 49) := by
  go_enter Tryz.func65, Tryz.ntmps65
  go_wp2
  go_ret
  exact ⟨rfl, rfl⟩

theorem grown_blk {B k : Nat} {W W' : World} {row : Option Nat} {t : TypeId} {cs : Array Value} (hb : Blk W k t cs) (hg : W.grownBy W' row) (hr : ∀ r, row = some r → B ≤ r ∧ ∃ o : Obj, W.heap[r]? = some o ∧ o.isCells = false) : Blk W' k t cs :=
  (hg.block k hb.lt (fun e => by
    obtain ⟨_, o, ho, hc⟩ := hr k e.symm
    rw [show W.heap[k]? = some (.cells cs t (0, 0)) from hb] at ho
    injection ho with ho
    subst ho
    cases hc)).trans hb
theorem rowAt_blk {ob : Nat} {W : World} {t : TypeId} {v : Value} (h : Blk W ob t #[v]) : rowAt ob W = v.ownBlock := by
  unfold rowAt
  rw [h.cell 0]
  rfl

/-- What leastSubsets holds between two rounds. -/
def LeastI (hf : Nat) (lb : Array Value) (hp : (Nat → Bool) → Bool) (g : Nat) (w : World) (pre : List (Nat → Bool)) (W : World) : Prop :=
  ∃ v, (Blk W (g + 2) 79 #[v] ∧ OwnSets (g + 4) W v (leastL hp pre)) ∧ Blk W (g + 1) 52 #[.func (.func hf) #[] lb] ∧ Below g w W
theorem leastI_from (hf : Nat) (lb : Array Value) (hp : (Nat → Bool) → Bool) (g : Nat) (w : World) : OwnFrom (g + 4) (LeastI hf lb hp g w) := by
  rintro s W W' row ⟨v, ⟨h1, h2⟩, h3, h4⟩ hg hr
  refine ⟨v, ⟨grown_blk h1 hg hr, own_stay h2 fun r er => ?_⟩, grown_blk h3 hg hr, ?_⟩
  · obtain ⟨_, h | ⟨g', cap, cur, e1, hb, hgb, _⟩⟩ := h2
    · rw [h.1] at er; cases er
    · rw [e1] at er
      injection er with er
      subst er
      exact (grown_blk (t := 49) (cs := cur) hgb hg hr).trans (show W.heap[g']? = _ from hgb).symm
  · exact ⟨hg.os.trans h4.os, hg.tape.trans h4.tape, hg.output.trans h4.output, Nat.le_trans h4.size hg.size, fun k hk => (hg.block k (Nat.lt_of_lt_of_le (Nat.lt_of_lt_of_le hk (Nat.le_refl _)) (by have := h1.lt; omega)) (fun e => by have := (hr k e.symm).1; omega)).trans (h4.block k hk)⟩
theorem leastI_step (hf : Nat) (lb : Array Value) (hp : (Nat → Bool) → Bool) (g : Nat) (w : World) : ∀ s A C, LeastI hf lb hp g w s A → StepIt (g + 4) (g + 2) A C → LeastI hf lb hp g w s C := by
  rintro s A C ⟨v, ⟨h1, h2⟩, h3, h4⟩ hst
  refine ⟨v, ⟨(hst.block _ h1.lt (.inl (by omega))).trans h1, own_stay h2 fun r er => hst.block r (h2.lt r er).2 (.inr (.inr (.inl ?_)))⟩, (hst.block _ h3.lt (.inl (by omega))).trans h3, ?_⟩
  · rw [rowAt_blk h1]; exact er
  · exact ⟨hst.os.trans h4.os, hst.tape.trans h4.tape, hst.output.trans h4.output, Nat.le_trans h4.size hst.size, fun k hk => (hst.block k (by have := h1.lt; omega) (.inl (by omega))).trans (h4.block k hk)⟩

theorem KeepFar.of_below {ob : Nat} {A B : World} (hob : ob < A.heap.size) (h : Below A.heap.size A B) : KeepFar ob A B := by
  have hr : rowAt ob B = rowAt ob A := rowAt_congr (h.block ob hob)
  exact ⟨h.size, fun g r e => by rw [hr] at e; exact Nat.lt_of_lt_of_le (g r e) h.size, fun k o hf ho _ => ⟨(h.block k hf.1).trans ho, Nat.lt_of_lt_of_le hf.1 h.size, hf.2.1, by rw [hr]; exact hf.2.2⟩⟩
theorem KeepsFrom.of_below {B : Nat} {V V' : World} (h : Below V.heap.size V V') : KeepsFrom B V V' := ⟨h.size, fun k o _ ho _ => (h.block k (Array.getElem?_eq_some_iff.1 ho).1).trans ho⟩

/-- The row has grown by a set, and lies in the box again. -/
theorem leastI_grown {hf : Nat} {lb : Array Value} {hp : (Nat → Bool) → Bool} {g B : Nat} {w V V2 W3 : World} {pre : List (Nat → Bool)} {x : Nat → Bool} {v v' : Value} {out : List (Nat → Bool)}
    (hbO : Blk V (g + 2) 79 #[v]) (hown : OwnSets (g + 4) V v out) (hbH : Blk V (g + 1) 52 #[.func (.func hf) #[] lb]) (hbel : Below g w V) (h2 : Below V.heap.size V V2) (hB : g + 4 ≤ B) (hBV : B ≤ V.heap.size)
    {o : Obj} (hgrow : (V2.alloc o).grownBy W3 v.ownBlock) (hown3 : W3.ownsRow (g + 4) 49 26 v' (out.length + 1) (flatC out ++ (nailC x).toList)) (hat : v'.ownBlock = v.ownBlock ∨ v'.ownBlock = some (V2.alloc o).heap.size)
    (hleast : leastL hp (pre ++ [x]) = out ++ [x]) :
    KeepsFrom B V (W3.setCell ⟨g + 2, 0, none⟩ v') ∧ KeepFar (g + 2) V (W3.setCell ⟨g + 2, 0, none⟩ v') ∧ LeastI hf lb hp g w (pre ++ [x]) (W3.setCell ⟨g + 2, 0, none⟩ v') := by
  have hrow : ∀ k, v.ownBlock = some k → g + 4 ≤ k ∧ k < V.heap.size := fun k e => hown.lt k e
  have hsz : (V2.alloc o).heap.size = V2.heap.size + 1 := World.size_alloc _ _
  have hszs : (W3.setCell ⟨g + 2, 0, none⟩ v').heap.size = W3.heap.size := by simp [World.setCell]
  have h3s := hgrow.size
  have h2s := h2.size
  -- a block that lay in V and is neither the box nor the row
  have hblk : ∀ k, k < V.heap.size → k ≠ g + 2 → v.ownBlock ≠ some k → (W3.setCell ⟨g + 2, 0, none⟩ v').heap[k]? = V.heap[k]? := fun k hk h1 h4 => by
    refine (Below.heap_setCell _ _ _ _ h1).trans ?_
    refine (hgrow.block k (by omega) (fun e => h4 e.symm)).trans ?_
    exact (Below.heap_alloc V2 o k (by omega)).trans (h2.block k hk)
  have hO3 : Blk W3 (g + 2) 79 #[v] := (hgrow.block (g + 2) (by have := hbO.lt; omega) (fun e => by have := (hrow _ e.symm).1; omega)).trans ((Below.heap_alloc V2 o (g + 2) (by have := hbO.lt; omega)).trans ((h2.block (g + 2) hbO.lt).trans hbO))
  have hO4 : Blk (W3.setCell ⟨g + 2, 0, none⟩ v') (g + 2) 79 #[v'] := hO3.store 0 v'
  have hr4 := rowAt_blk hO4
  have hr0 := rowAt_blk hbO
  have hlen : (out ++ [x]).length = out.length + 1 := by simp
  have hown4 : OwnSets (g + 4) (W3.setCell ⟨g + 2, 0, none⟩ v') v' (out ++ [x]) := by
    unfold OwnSets
    rw [hlen, ← flatC_snoc]
    exact own_stay hown3 fun r e => Below.heap_setCell _ _ _ _ (by have := (hown3.lt r e).1; simp; omega)
  refine ⟨⟨by omega, fun k ok hBk ho hc => ?_⟩, ⟨by omega, fun _ r e => ?_, fun k ok hf' ho hc => ?_⟩, v', ⟨hO4, by rw [hleast]; exact hown4⟩, ?_, ?_⟩
  · refine (hblk k (Array.getElem?_eq_some_iff.1 ho).1 (by omega) (fun e => ?_)).trans ho
    obtain ⟨_, h | ⟨g', cap, cur, e1, hb, hgb, _⟩⟩ := hown
    · rw [h.1] at e; cases e
    · rw [e1] at e
      injection e with e
      subst e
      rw [hgb] at ho
      injection ho with ho
      subst ho
      cases hc
  · rw [hr4] at e
    rw [hszs]
    exact (hown3.lt r e).2
  · have hk := hf'.2.2
    rw [hr0] at hk
    have hlt := hf'.1
    refine ⟨(hblk k hf'.1 hf'.2.1 hk).trans ho, by omega, hf'.2.1, ?_⟩
    rw [hr4]
    rcases hat with h | h
    · rw [h]; exact hk
    · rw [h]
      intro e
      injection e with e
      omega
  · exact (hblk (g + 1) hbH.lt (by omega) (fun e => by have := (hrow _ e).1; omega)).trans hbH
  · refine ⟨?_, ?_, ?_, ?_, fun k hk => ?_⟩
    · exact hgrow.os.trans (h2.os.trans hbel.os)
    · exact hgrow.tape.trans (h2.tape.trans hbel.tape)
    · exact hgrow.output.trans (h2.output.trans hbel.output)
    · have := hbel.size; omega
    · exact (hblk k (by have := hbO.lt; omega) (by omega) (fun e => by have := (hrow _ e).1; omega)).trans (hbel.block k hk)

set_option maxRecDepth 100000 in
set_option maxHeartbeats 4000000 in
theorem leastSubsets_any (S : Nat → Bool) (N : Nat) (hf : Nat) (lb : Array Value) (hp : (Nat → Bool) → Bool) (w : World) (hN : doneF S N (fun _ => false) = true) (hNb : N ≤ 1000000) (heg : ∀ args W, (callFunc hf args).run Tryz.prog W = .ok (.enter hf args) W) (hask : Asks hf lb hp w) :
    Calls Tryz.prog 47 #[.agg (nailC S), .func (.func hf) #[] lb] w fun e w' => ∃ v, e = .returned v ∧ OwnSets w.heap.size w' v (leastL hp (subsF S N fun _ => false)) ∧ Below w.heap.size w w' := by
  refine (callsIn_wide (n := 100)).1 ?_
  refine callsIn_of_wp_marks Tryz.func47 rfl trivial ?_ rfl
  simp only [Tryz.ntmps47, List.size_toArray, List.length_cons, List.length_nil, Nat.reduceAdd, Nat.reduceSub, Array.replicate_succ, Array.replicate_zero, List.push_toArray, List.append_toArray, List.nil_append, List.cons_append]
  have hb0 := ((Blk.new w 49 (nailC S)).more' (.cells #[.func (.func hf) #[] lb] 52)).more' (.cells #[.slice none 0 0] 79)
  gi_wp2_with (first
    | (refine wpListIn_load_row rfl 49 _ rfl w.heap.size rfl 49 (nailC S) (0, 0) _ hb0 Tryz.underlying49 rfl (nailC_info _) ?_)
    | (refine ⟨trivial, ?_⟩; gi_at_call 65; refine (callsIn_wide.2 (subsets_any S _)).mono ?_; rintro e w1 ⟨rfl, rfl⟩))
  clear hb0
  have hbH := ((Blk.new (w.alloc (.cells (nailC S) 49)) 52 #[.func (.func hf) #[] lb]).more' (.cells #[.slice none 0 0] 79)).more' (.cells (nailC S) 49)
  have hbO := (Blk.new ((w.alloc (.cells (nailC S) 49)).alloc (.cells #[.func (.func hf) #[] lb] 52)) 79 #[.slice none 0 0]).more' (.cells (nailC S) 49)
  have hbS := Blk.new (((w.alloc (.cells (nailC S) 49)).alloc (.cells #[.func (.func hf) #[] lb] 52)).alloc (.cells #[.slice none 0 0] 79)) 49 (nailC S)
  have hbel : Below w.heap.size w ((((w.alloc (.cells (nailC S) 49)).alloc (.cells #[.func (.func hf) #[] lb] 52)).alloc (.cells #[.slice none 0 0] 79)).alloc (.cells (nailC S) 49)) := ((((Below.refl _ w).alloc (Nat.le_refl _) _).alloc (by simp) _).alloc (by simp; omega) _).alloc (by simp; omega) _
  have hsz : ((((w.alloc (.cells (nailC S) 49)).alloc (.cells #[.func (.func hf) #[] lb] 52)).alloc (.cells #[.slice none 0 0] 79)).alloc (.cells (nailC S) 49)).heap.size = w.heap.size + 4 := by simp
  simp only [World.size_alloc] at hbH hbO hbS
  generalize (((w.alloc (.cells (nailC S) 49)).alloc (.cells #[.func (.func hf) #[] lb] 52)).alloc (.cells #[.slice none 0 0] 79)).alloc (.cells (nailC S) 49) = W0 at *
  have hask2 : ∀ (W : World) (T : Nat → Bool), Below w.heap.size w W → Calls Tryz.prog hf (#[.agg (nailC T)] ++ lb) W fun e W' => e = .returned (.bool (hp T)) ∧ Below W.heap.size W W' := hask
  generalize hg : w.heap.size = g at *
  have Hg := Lib.hid hg
  have Hask := Lib.hid hask2
  clear hg hask hask2
  have hr0 : rowAt (g + 2) W0 = none := by rw [rowAt_blk hbO]; rfl
  have hgood0 : Good (g + 2) W0 := fun r e => by rw [hr0] at e; cases e
  have hfar0 : Far (g + 2) W0 (g + 3) := ⟨by omega, by omega, by rw [hr0]; exact fun e => by cases e⟩
  have hI := leastI_from hf lb hp g w
  have hI2 := leastI_step hf lb hp g w
  rw [← hsz] at hI hI2
  refine range_box (n := 100) rfl (by omega) (gf := 85) (lb := #[.pointer (some ⟨g + 1 + 1 + 1, 0, none⟩)]) rfl trivial (enters_of Tryz.func85 (by kernel_rfl) rfl)
    (subsets_gives 99 (by omega) (g + 3) (g + 2) N S hN W0 hbS (by omega) hgood0 hfar0) (by omega) (Below.refl _ _) (fun _ => rfl)
    (LeastI hf lb hp g w) hI hI2 ⟨.slice none 0 0, ⟨hbO, ⟨rfl, .inl ⟨rfl, rfl⟩⟩⟩, hbH, hbel⟩ ?good
    (fun x k => { tmps := #[.agg (nailC S), .func (.func hf) #[] lb, .pointer (some ⟨g, 0, none⟩), .pointer (some ⟨g + 1, 0, none⟩), .slice none 0 0, .pointer (some ⟨g + 1 + 1, 0, none⟩), .pointer (some ⟨k, 0, none⟩), .agg (nailC S), .func (.func 85) #[] #[.pointer (some ⟨g + 1 + 1 + 1, 0, none⟩)], .agg (nailC x), undef, undef, undef, undef, undef, undef, undef, undef, undef, undef, undef, undef, undef, undef, undef], defers := [] })
    (fun x => .cells (nailC x) 49) ?assign ?body ?done
  case good =>
    rintro s A ⟨v, ⟨h1, h2⟩, _, _⟩ r e
    rw [rowAt_blk h1] at e
    exact (h2.lt r e).2
  case assign =>
    intro l x W K hK
    have hnewL : Blk (W.alloc (.cells (nailC (fun _ => false)) 49)) W.heap.size 49 (nailC (fun _ => false)) := Blk.new W _ _
    rw [zero_agg] at hnewL
    unfold encN
    gi_wp2_with (refine wpListIn_store_row rfl 49 _ _ rfl W.heap.size (nailC x) rfl rfl 49 _ hnewL (nailC_info _) ?hz (nailC_one _) ?_)
    case hz => rw [nailC_size]; rfl
    rw [World.setRow_alloc_new]
    exact hK
  case body =>
    rintro l pre x V gx ⟨v, ⟨hbO1, hown⟩, hbH1, hbel1⟩ hszV hx hgx hlen
    have hbx : Blk V gx 49 (nailC x) := hx
    have Hown := Lib.hid hown
    have hol : (leastL hp pre).length ≤ 1000000 := Nat.le_trans (leastL_length hp pre) (by omega)
    have Hsnoc := Lib.hid (leastL_snoc hp pre x)
    obtain ⟨A, cap, rfl, hrow⟩ := hown.row
    have hrl := rowAt_blk hbO1
    generalize leastL hp pre = out at *
    obtain ⟨n, hn⟩ : ∃ n, out.length = n := ⟨_, rfl⟩
    have Hn := Lib.hid hn
    have Hown' : Hid (V.ownsRow (g + 4) 49 26 (.slice A n cap) n (flatC out)) := by
      have := Hown.out
      unfold OwnSets at this
      rw [hn] at this
      exact this
    rw [hn] at hrow hol hbO1 hown hrl
    clear Hown
    have Hown := Hown'
    clear Hown'
    have Hhas := Lib.hid (contains_has A cap n out x V hrow (by omega))
    have hcO := hbO1.cell 0
    have hcH := hbH1.cell 0
    have hgV : Hid (g ≤ V.heap.size) := by show g ≤ _; have := hbO1.lt; omega
    clear hn hrow hx hown
    unfold leastStep at Hsnoc
    generalize (out.any fun U => subN x U) = b1 at *
    cases b1
    · have hbx1 := Lib.hid (fun (V' : World) (h : Below V.heap.size V V') => hbx.below h hbx.lt)
      have hcH1 := Lib.hid (fun (V' : World) (h : Below V.heap.size V V') => (hbH1.below h hbH1.lt).cell 0)
      have hcO1 := Lib.hid (fun (V' : World) (h : Below V.heap.size V V') => (hbO1.below h hbO1.lt).cell 0)
      have Hq := Lib.hid (fun (V' : World) (h : Below V.heap.size V V') => Hask.out V' x (hbel1.trans (h.mono hgV.out)))
      clear Hask
      generalize hp x = b2 at *
      cases b2
      · gi_wp2_with (first
          | (refine wpListIn_load_row rfl 49 _ rfl gx rfl 49 (nailC x) (0, 0) _ hbx Tryz.underlying49 rfl (nailC_info _) ?_)
          | (refine ⟨trivial, ?_⟩; gi_at_call 66; refine (CallsIn.inRound l (callsIn_wide.2 Hhas.out)).mono ?_; clear Hhas; rintro e V1 ⟨rfl, hb1⟩; have hbx2 := hbx1.out V1 hb1; have hcH2 := hcH1.out V1 hb1; clear hbx)
          | (refine wpListIn_load_row_g rfl 49 _ rfl gx rfl 49 (nailC x) (0, 0) _ hbx2 Tryz.underlying49 rfl (nailC_info _) ?_))
        refine ⟨trivial, (CallsIn.inRound l (callsIn_wide.2 (Hq.out V1 hb1))).mono ?_⟩
        rintro e V2 ⟨rfl, hb2⟩
        have hb12 : Below V.heap.size V V2 := hb1.trans (hb2.mono hb1.size)
        gi_wp2
        refine ⟨KeepsFrom.of_below hb12, KeepFar.of_below hbO1.lt hb12, _, ⟨hbO1.below hb12 hbO1.lt, ?_⟩, hbH1.below hb12 hbH1.lt, hbel1.trans (hb12.mono hgV.out)⟩
        rw [Hsnoc.out, if_neg (by simp)]
        unfold OwnSets
        rw [Hn.out]
        exact own_keep Hown.out hb12
      · gi_wp2_with (first
          | (refine wpListIn_load_row rfl 49 _ rfl gx rfl 49 (nailC x) (0, 0) _ hbx Tryz.underlying49 rfl (nailC_info _) ?_)
          | (refine ⟨trivial, ?_⟩; gi_at_call 66; refine (CallsIn.inRound l (callsIn_wide.2 Hhas.out)).mono ?_; clear Hhas; rintro e V1 ⟨rfl, hb1⟩; have hbx2 := hbx1.out V1 hb1; have hcH2 := hcH1.out V1 hb1; clear hbx)
          | (refine wpListIn_load_row_g rfl 49 _ rfl gx rfl 49 (nailC x) (0, 0) _ hbx2 Tryz.underlying49 rfl (nailC_info _) ?_))
        refine ⟨trivial, (CallsIn.inRound l (callsIn_wide.2 (Hq.out V1 hb1))).mono ?_⟩
        rintro e V2 ⟨rfl, hb2⟩
        have hb12 : Below V.heap.size V V2 := hb1.trans (hb2.mono hb1.size)
        have hcO2 := hcO1.out V2 hb12
        have hbx3 := hbx1.out V2 hb12
        have hfO2 := (hbO1.below hb12 hbO1.lt).free 0
        have hown2 := own_keep Hown.out hb12
        have hb4V : g + 4 ≤ V2.heap.size := by have := hb12.size; omega
        obtain ⟨ie, hie, hiz, his, hib⟩ := info_parts info_set
        have hzs26 : (Value.agg (nailC fun _ => false)).cells.size = 26 := by show (nailC fun _ => false).size = 26; exact nailC_size _
        have hnsm : ¬ 1 * ie.size > 2 ^ 24 := by rw [his]; decide
        have hnz : ¬ 1 * ie.size = 0 := by rw [his]; decide
        clear hcO hcH hcH2 hbx2
        gi_wp2_with (first
          | (refine wpListIn_load_row rfl 49 _ rfl gx rfl 49 (nailC x) (0, 0) _ hbx3 Tryz.underlying49 rfl (nailC_info _) ?_)
          | (refine wpListIn_buildSlice rfl 79 49 1 _ rfl _ ie _ Tryz.underlying79 hie hiz hnsm hnz (fill_one' his _ _ rfl) ?_)
          | (gi_at_builtin; refine Hid.out ?_))
        refine Lib.hid ?_
        refine wpListIn_append_own_at _ rfl _ _ 79 rfl (g + 4) 49 ie (.agg (nailC fun _ => false)) 26 26 Tryz.underlying79 hie hiz his hib hzs26 (by decide) _ n (flatC out) rfl (hown2.alloc _) ⟨V2.heap.size, 0, none⟩ 1 1 (nailC x).toList rfl (by rw [Array.length_toList, nailC_size]) (World.news_of_block (Blk.new V2 _ _)) ?_ (by unfold maxLen; omega) (by omega) (by rw [World.size_alloc]; omega) ?_
        · intro u hu
          have := (Array.all_eq_true_iff_forall_mem.1 (nailC_one x)) u (by simpa using hu)
          exact this
        intro v' w3 hown3 hgrow3 hnil3 hat3
        obtain ⟨g', cap', rfl⟩ := own_posS hown3 (Nat.succ_pos n)
        have hO3 : Blk w3 (g + 2) 79 #[.slice A n cap] := (hgrow3.block (g + 2) (by rw [World.size_alloc]; omega) (fun e => by have := (hown2.lt _ e.symm).1; omega)).trans (Below.heap_alloc V2 _ (g + 2) (by omega) |>.trans (hbO1.below hb12 hbO1.lt))
        have hcO3 := hO3.cell 0
        have hfO3 := hO3.free 0
        have Hgr := Lib.hid hgrow3
        have Hown3 := Lib.hid hown3
        have Hat3 := Lib.hid hat3
        clear hgrow3 hown3 hat3 hO3 hcO2 hfO2 hnil3
        gi_wp2
        have hO : OwnSets (g + 4) V (.slice A n cap) out := by
          unfold OwnSets
          rw [Hn.out]
          exact Hown.out
        exact leastI_grown hbO1 hO hbH1 hbel1 hb12 (by omega) (by omega) Hgr.out (by rw [Hn.out]; exact Hown3.out) Hat3.out (by rw [Hsnoc.out, if_pos (by simp)])
    · gi_wp2_with (first
        | (refine wpListIn_load_row rfl 49 _ rfl gx rfl 49 (nailC x) (0, 0) _ hbx Tryz.underlying49 rfl (nailC_info _) ?_)
        | (refine ⟨trivial, ?_⟩; gi_at_call 66; refine (CallsIn.inRound l (callsIn_wide.2 Hhas.out)).mono ?_; clear Hhas; rintro e V1 ⟨rfl, hb1⟩))
      refine ⟨fun _ h => (by cases h), ?_⟩
      gi_wp2
      refine ⟨KeepsFrom.of_below hb1, KeepFar.of_below hbO1.lt hb1, _, ⟨hbO1.below hb1 hbO1.lt, ?_⟩, hbH1.below hb1 hbH1.lt, hbel1.trans (hb1.mono hgV.out)⟩
      rw [Hsnoc.out, if_neg (by simp)]
      unfold OwnSets
      rw [Hn.out]
      exact own_keep Hown.out hb1
  case done =>
    rintro D xs X hD rfl ⟨v, ⟨h1, h2⟩, h3, h4⟩ hK
    have hcO := h1.cell 0
    have hDl : D < X.heap.size := (Array.getElem?_eq_some_iff.1 hK).1
    have Hown := Lib.hid h2
    have Hbel := Lib.hid h4
    gi_wp2
    refine ⟨by simp, .inl ⟨_, _, rfl, run_takeDeferred hK, ?_⟩⟩
    refine ⟨_, results_tmp rfl _ _ _, v, rfl, ?_, ?_⟩
    · rw [Hg.out]
      exact own_mono (own_stay Hown.out fun r e => World.putObj_heap_other (fun e2 => by
        obtain ⟨_, h | ⟨g', cap, cur, e1, hb, hgb, _⟩⟩ := Hown.out
        · rw [h.1] at e; cases e
        · rw [e1] at e
          injection e with e
          subst e
          subst e2
          rw [hK] at hgb
          injection hgb with hgb
          cases hgb)) (by omega)
    · rw [Hg.out]
      exact Hbel.out.trans ⟨rfl, rfl, rfl, by simp, fun k hk => World.putObj_heap_other (by omega)⟩

end Go.Proofs.YtkdalgdckgmccaaGreatDoor
