/-
  The iterator over the inversions of a permutation.
  The walk of the iterator over the inversions of a permutation.
-/
import Derived.Test.YtgdaidmkcgblbaaLaw
namespace Go.Proofs.Ytgdaidmkcgblbaa
open Go.RowKit Go.Shelf

attribute [local go_sem] Oper.semAt_some

/-- The inversions of position i with those positions of a list. -/
def rowOf (p : List Nat) (i : Nat) (ks : List Nat) : List (Nat × Nat) := (ks.filter fun k => decide (p.getD k 0 < p.getD i 0)).map fun k => (i, k)
/-- The inversions whose first position is below i. -/
def invTo (p : List Nat) (i : Nat) : List (Nat × Nat) := (List.range i).flatMap fun i => rowOf p i (List.range' (i + 1) (p.length - (i + 1)))

theorem invTo_succ (p : List Nat) (i : Nat) : invTo p (i + 1) = invTo p i ++ rowOf p i (List.range' (i + 1) (p.length - (i + 1))) := by
  unfold invTo
  rw [List.range_succ, List.flatMap_append]
  simp
theorem rowOf_snoc_yes (p : List Nat) (i : Nat) (ks : List Nat) (k : Nat) (h : p.getD k 0 < p.getD i 0) : rowOf p i (ks ++ [k]) = rowOf p i ks ++ [(i, k)] := by
  unfold rowOf
  rw [List.filter_append, List.map_append, List.filter_cons_of_pos (by simpa using h)]
  rfl
theorem rowOf_snoc_no (p : List Nat) (i : Nat) (ks : List Nat) (k : Nat) (h : ¬ p.getD k 0 < p.getD i 0) : rowOf p i (ks ++ [k]) = rowOf p i ks := by
  unfold rowOf
  rw [List.filter_append, List.map_append, List.filter_cons_of_neg (by simpa using h)]
  simp
theorem rowOf_length (p : List Nat) (i : Nat) (ks : List Nat) : (rowOf p i ks).length ≤ ks.length := by
  unfold rowOf
  rw [List.length_map]
  exact List.length_filter_le _ _
theorem invTo_length (p : List Nat) : ∀ i, (invTo p i).length ≤ i * p.length
  | 0 => by simp [invTo]
  | i + 1 => by
    rw [invTo_succ, List.length_append, Nat.succ_mul]
    have h1 := invTo_length p i
    have h2 := rowOf_length p i (List.range' (i + 1) (p.length - (i + 1)))
    rw [List.length_range'] at h2
    omega

/-- A pair of positions. -/
abbrev Two (p : List Nat) := Fin p.length × Fin p.length
def posOf {p : List Nat} (x : Two p) : Nat × Nat := (x.1.1, x.2.1)
def encI (p : List Nat) (x : Two p) : Array Value := #[.int .i64 ((p.getD x.1.1 0 : Nat) : Int), .int .i64 ((p.getD x.2.1 0 : Nat) : Int)]

/-- A block with these cells holds a row of numbers from off on. -/
def RowAt (o : Obj) (b off : Nat) (p : List Nat) : Prop := ∀ W : World, W.heap[b]? = some o → ∀ j, j < p.length → W.cell? ⟨b, off + j, none⟩ = some (.int .i64 (p.getD j 0 : Nat))

theorem rowAt_of {w : World} {b off n : Nat} {p : List Nat} (h : Sl .i64 w (some ⟨b, off, none⟩) n p) (h0 : 0 < n) : ∃ o, w.heap[b]? = some o ∧ RowAt o b off p := by
  obtain ⟨b', off', e, hs, hc⟩ := h.at h0
  injection e with e
  injection e with e1 e2
  subst e1 e2
  refine ⟨w.heap[b], Array.getElem?_eq_getElem hs, fun W hW j hj => ?_⟩
  have e : W.heap[b]? = w.heap[b]? := hW.trans (Array.getElem?_eq_getElem hs).symm
  exact (World.cell?_of_block (w := w) (a := ⟨b, off + j, none⟩) e).trans (hc j (by have := h.len; omega))

/-- The two blocks stay. -/
def KeepTwo (b c : Nat) (W W' : World) : Prop := W'.heap[b]? = W.heap[b]? ∧ W'.heap[c]? = W.heap[c]?
theorem KeepTwo.refl (b c : Nat) (W : World) : KeepTwo b c W W := ⟨rfl, rfl⟩
theorem KeepTwo.trans {b c : Nat} {A B C : World} (h : KeepTwo b c A B) (k : KeepTwo b c B C) : KeepTwo b c A C := ⟨k.1.trans h.1, k.2.trans h.2⟩
theorem KeepTwo.put {b c B : Nat} (hb : b < B) (hc : c < B) (W : World) (l : Nat) (o : Obj) (h : B ≤ l) : KeepTwo b c W (W.putObj l o) :=
  ⟨World.putObj_heap_other (by omega), World.putObj_heap_other (by omega)⟩

theorem valsAt_keep {Bp b off cap : Nat} {p : List Nat} {W W' : World} (h : KeepTwo b Bp W W') (hv : ValsAt Bp b off cap p W) : ValsAt Bp b off cap p W' :=
  ⟨(World.cell?_of_block (w := W) (a := ⟨Bp, 0, none⟩) h.2).trans hv.1, fun j hj => (World.cell?_of_block (w := W) (a := ⟨b, off + j, none⟩) h.1).trans (hv.2 j hj)⟩

end Go.Proofs.Ytgdaidmkcgblbaa

namespace Go.Proofs.Ytgdaidmkcgblbaa
open Go.RowKit Go.Shelf

attribute [local go_sem] Oper.semAt_some

/-- A frame of the iterator. -/
def InvAct (l Bp By b off cap n k : Nat) (ds : List Nat) (a : Act) : Prop :=
  ∃ u3 u4 u5 u6 u10 u11 u12 u13 u14 u15 u16 u17 u18 u19 u20 u21 u22 u23 u24 u25 u26 u27 u28 u29 u30 : Value, a = { tmps := #[.func (.yield l) #[] #[], .pointer (some ⟨Bp, 0, none⟩), .pointer (some ⟨By, 0, none⟩), u3, u4, u5, u6, .slice (some ⟨b, off, none⟩) n cap, .int .i64 n, .int .i64 k, u10, u11, u12, u13, u14, u15, u16, u17, u18, u19, u20, u21, u22, u23, u24, u25, u26, u27, u28, u29, u30], defers := marks ds }

theorem marked_own {β : Type} (B B' : Nat) (ds : List Nat) (h : ∀ D, D ∈ ds → D < B') : OwnFrom B' (fun (_ : β) W => Marked B ds W) := fun _ _ _ _ hs hg hr =>
  ⟨hs.1, fun D hD => ⟨(hs.2 D hD).1, (hg.block D (hs.lt hD) (fun e => by have := (hr D e.symm).1; have := h D hD; omega)).trans (hs.2 D hD).2⟩⟩

set_option maxRecDepth 100000 in
set_option maxHeartbeats 2000000 in
theorem inv1_in (F : Fence) (hd : F.depth = none) (n : Nat) (h1 : F.fn 99) (h2 : F.fn 76) (h3 : F.fn 102) (hro : F.round = none) (hn : 6 ≤ n) (l Bp b off cap : Nat) (p : List Nat) (hmax : p.length ≤ 4611686018427387904)
    (pb : Obj) (hpb : RowAt pb b off p)
    (Kp : World → World → Prop) (hKp : ∀ W W', Kp W W' → KeepTwo b Bp W W') (J : List (Two p) → World → Prop) (W : World) (hJ : OwnFrom W.heap.size J)
    (hY : ∀ pre x W1, J pre W1 → pre.length < p.length * p.length → YieldAt F (n - 1) Try.prog l (encI p x) W1 fun e W' => e = .returned (.bool true) ∧ J (pre ++ [x]) W' ∧ Kp W1 W' ∧ Rest W.heap.size W1 W')
    (hBp : W.heap[Bp]? = some (.cells #[.slice (some ⟨b, off, none⟩) p.length cap] 22 (0, 0))) (hb : W.heap[b]? = some pb) (h0 : J [] W) :
    CallsIn F n Try.prog 99 #[.func (.yield l) #[] #[], .pointer (some ⟨Bp, 0, none⟩)] W fun e W' => (∃ v, e = .returned v) ∧ ∃ ys : List (Two p), ys.map posOf = invTo p p.length ∧ J ys W' := by
  refine callsIn_of_wp_marks Try.func99 rfl h1 ?_ hro
  simp only [Try.ntmps99, List.size_toArray, List.length_cons, List.length_nil, Nat.reduceAdd, Nat.reduceSub, Array.replicate_succ, Array.replicate_zero, List.push_toArray, List.append_toArray, List.nil_append, List.cons_append]
  have hyb := Boxed.new W 119 (.func (.yield l) #[] #[])
  have hBp1 : (W.alloc (.cells #[.func (.yield l) #[] #[]] 119)).heap[Bp]? = some (.cells #[.slice (some ⟨b, off, none⟩) p.length cap] 22 (0, 0)) := (Below.heap_alloc W _ Bp (Array.getElem?_eq_some_iff.1 hBp).1).trans hBp
  have hb1 : (W.alloc (.cells #[.func (.yield l) #[] #[]] 119)).heap[b]? = some pb := (Below.heap_alloc W _ b (Array.getElem?_eq_some_iff.1 hb).1).trans hb
  have cp := Boxed.cell hBp1
  gi_wp2
  refine wpIn_loop (fun a wr => ∃ (k : Nat) (ds : List Nat) (pre : List (Two p)), InvAct l Bp W.heap.size b off cap p.length k ds a ∧ k ≤ p.length ∧ pre.map posOf = invTo p k ∧ J pre wr ∧
      Boxed wr W.heap.size 119 (.func (.yield l) #[] #[]) ∧ wr.heap[Bp]? = some (.cells #[.slice (some ⟨b, off, none⟩) p.length cap] 22 (0, 0)) ∧ wr.heap[b]? = some pb ∧ Marked W.heap.size ds wr)
    (fun a _ => p.length - (intOf (a.tmps.getD 9 undef)).toNat) ?_ ?_
  · exact ⟨0, [], [], ⟨_, _, _, _, _, _, _, _, _, _, _, _, _, _, _, _, _, _, _, _, _, _, _, _, _, rfl⟩, Nat.zero_le _, by simp [invTo], hJ.alloc _ h0, hyb, hBp1, hb1, Marked.nil _ _⟩
  · rintro a wr ⟨k, ds, pre, ⟨u3, u4, u5, u6, u10, u11, u12, u13, u14, u15, u16, u17, u18, u19, u20, u21, u22, u23, u24, u25, u26, u27, u28, u29, u30, rfl⟩, hk, hpre, hJs, hyw, hBpw, hbw, hm⟩
    dsimp only
    have cpw := Boxed.cell hBpw
    have cyw := Boxed.cell hyw
    by_cases hlt : k < p.length
    · have hcx := hpb wr hbw k hlt
      have Hpre := Lib.hid hpre
      have HpbH := Lib.hid hpb
      clear hpre hpb hb1 hBp1 cp hyb
      generalize hv : p.getD k 0 = v at hcx
      have Hv := Lib.hid hv
      clear hv
      have hBpw1 := Boxed.alloc hBpw (.cells #[.int .i64 (v : Nat)] 3)
      have cpw1 := hBpw1.cell
      gi_wp2_with (gi_at_call 76; refine (values_in F (n - 1) h2 hro _ _ _ _ _).mono ?_; rintro e w' ⟨rfl, rfl⟩)
      have bV := ((Boxed.new wr 3 (.int .i64 (v : Nat))).alloc (.cells #[.slice (some ⟨b, off, none⟩) p.length cap] 22)).alloc (.cells #[.int .i64 ((k : Int) + 1)] 3)
      have bS := (Boxed.new (wr.alloc (.cells #[.int .i64 (v : Nat)] 3)) 22 (.slice (some ⟨b, off, none⟩) p.length cap)).alloc (.cells #[.int .i64 ((k : Int) + 1)] 3)
      have bI := Boxed.new ((wr.alloc (.cells #[.int .i64 (v : Nat)] 3)).alloc (.cells #[.slice (some ⟨b, off, none⟩) p.length cap] 22)) 3 (.int .i64 ((k : Int) + 1))
      simp only [World.size_alloc] at bS bI
      have hR0 : Rest W.heap.size wr (((wr.alloc (.cells #[.int .i64 (v : Nat)] 3)).alloc (.cells #[.slice (some ⟨b, off, none⟩) p.length cap] 22)).alloc (.cells #[.int .i64 ((k : Int) + 1)] 3)) := (((Rest.refl _ wr).alloc _).alloc _).alloc _
      have hJ1 := hJ.alloc (.cells #[.int .i64 ((k : Int) + 1)] 3) (hJ.alloc (.cells #[.slice (some ⟨b, off, none⟩) p.length cap] 22) (hJ.alloc (.cells #[.int .i64 (v : Nat)] 3) hJs))
      have hyw1 := ((hyw.alloc (.cells #[.int .i64 (v : Nat)] 3)).alloc (.cells #[.slice (some ⟨b, off, none⟩) p.length cap] 22)).alloc (.cells #[.int .i64 ((k : Int) + 1)] 3)
      have hBpw2 := (Boxed.alloc hBpw1 (.cells #[.slice (some ⟨b, off, none⟩) p.length cap] 22)).alloc (.cells #[.int .i64 ((k : Int) + 1)] 3)
      have hsz : (((wr.alloc (.cells #[.int .i64 (v : Nat)] 3)).alloc (.cells #[.slice (some ⟨b, off, none⟩) p.length cap] 22)).alloc (.cells #[.int .i64 ((k : Int) + 1)] 3)).heap.size = wr.heap.size + 3 := by simp
      have hbl : b < wr.heap.size := (Array.getElem?_eq_some_iff.1 hbw).1
      have hWr : W.heap.size < wr.heap.size := hyw.lt
      have hBpl : Bp < wr.heap.size := Boxed.lt hBpw
      have hbw1 : (((wr.alloc (.cells #[.int .i64 (v : Nat)] 3)).alloc (.cells #[.slice (some ⟨b, off, none⟩) p.length cap] 22)).alloc (.cells #[.int .i64 ((k : Int) + 1)] 3)).heap[b]? = some pb :=
        (Below.heap_alloc _ _ b (by simp; omega)).trans ((Below.heap_alloc _ _ b (by simp; omega)).trans ((Below.heap_alloc _ _ b hbl).trans hbw))
      have hm1 := hm.rest hR0
      generalize ((wr.alloc (.cells #[.int .i64 (v : Nat)] 3)).alloc (.cells #[.slice (some ⟨b, off, none⟩) p.length cap] 22)).alloc (.cells #[.int .i64 ((k : Int) + 1)] 3) = Wi at *
      clear hBpw1 cpw1 cpw cyw hcx hJs hyw hBpw hbw hm
      refine wpIn_rangeFunc_ownG hro (by omega) (gf := 102) (lb := #[.pointer (some ⟨wr.heap.size + 1 + 1, 0, none⟩), .pointer (some ⟨wr.heap.size + 1, 0, none⟩)]) rfl h3 (enters_of Try.func102 (by kernel_rfl) rfl)
        (values_stops F (n - 1) h3 hro (by omega) (wr.heap.size + 1 + 1) (wr.heap.size + 1) b off cap (k + 1) p hmax (by omega) (KeepTwo b (wr.heap.size + 1)) (fun _ _ h => valsAt_keep h) Wi (by omega) (by omega) (by omega) (by simpa using bI.cell) ⟨bS.cell, fun j hj => HpbH.out Wi hbw1 j hj⟩)
        KeepTwo.trans (fun W l _ o' h _ _ _ => KeepTwo.put (B := Wi.heap.size) (by omega) (by omega) W l o' h) (Below.refl _ _) (fun _ => rfl)
        (fun ys X => (∃ pre' : List (Two p), pre'.map posOf = invTo p k ++ rowOf p k (ys.map (·.1)) ∧ J pre' X) ∧ (X.heap[W.heap.size]? = some (.cells #[.func (.yield l) #[] #[]] 119 (0, 0)) ∧ X.heap[Bp]? = some (.cells #[.slice (some ⟨b, off, none⟩) p.length cap] 22 (0, 0)) ∧ X.heap[b]? = some pb ∧ X.heap[wr.heap.size]? = some (.cells #[.int .i64 (v : Nat)] 3 (0, 0)) ∧ X.heap[wr.heap.size + 1]? = some (.cells #[.slice (some ⟨b, off, none⟩) p.length cap] 22 (0, 0))) ∧ Marked W.heap.size ds X)
        (fun _ _ _ => False) ?hI (fun _ _ _ _ _ hs _ _ => hs) ?h0
        (fun x => { tmps := #[.func (.yield l) #[] #[], .pointer (some ⟨Bp, 0, none⟩), .pointer (some ⟨W.heap.size, 0, none⟩), .int .i64 (k : Nat), .pointer (some ⟨wr.heap.size, 0, none⟩), u5, .int .i64 ((p.getD x.1 0 : Nat) : Int), .slice (some ⟨b, off, none⟩) p.length cap, .int .i64 (p.length : Nat), .int .i64 (k : Nat), .bool true, .int .i64 (k : Nat), .pointer (some ⟨b, off + k, none⟩), .int .i64 (v : Nat), .slice (some ⟨b, off, none⟩) p.length cap, .int .i64 (k : Nat), .int .i64 ((k : Int) + 1), .func (.func 102) #[] #[.pointer (some ⟨wr.heap.size + 1 + 1, 0, none⟩), .pointer (some ⟨wr.heap.size + 1, 0, none⟩)], .int .i64 (x.1 : Nat), .int .i64 ((p.getD x.1 0 : Nat) : Int), u20, u21, u22, u23, u24, u25, u26, u27, u28, u29, u30], defers := [] }) ?assign ?body ?done ?stop
      case hI =>
        refine OwnFrom.and (fun _ A B row hs hg hr => ?_) (OwnFrom.and (OwnFrom.and (ownFrom_block _ _ _ (by omega)) (OwnFrom.and (ownFrom_block _ _ _ (by omega)) (OwnFrom.and (ownFrom_block _ _ _ (by omega)) (OwnFrom.and (ownFrom_block _ _ _ (by omega)) (ownFrom_block _ _ _ (by omega)))))) (marked_own _ _ _ fun D hD => hm1.lt hD))
        obtain ⟨pre', e, hj⟩ := hs
        exact ⟨pre', e, ownFrom_mono hJ (by omega) _ _ _ _ hj hg hr⟩
      case h0 => exact ⟨⟨pre, by rw [Hpre.out]; simp [rowOf], hJ1⟩, ⟨hyw1, hBpw2, hbw1, bV, bS⟩, hm1⟩
      case assign =>
        intro l2 x X K hK
        unfold encV
        dsimp only at hK ⊢
        generalize p.getD x.1 0 = u at hK ⊢
        gi_wp2
        exact hK
      case body =>
        rintro l2 ys x X ⟨⟨pre', hp', hJx⟩, ⟨e1, e2, e3, e4, e5⟩, hmX⟩ hlen
        have cy := Boxed.cell e1
        have cv := Boxed.cell e4
        have hxl := x.2
        by_cases hxv : p.getD x.1 0 < v
        · have hlen' : pre'.length < p.length * p.length := by
            have q1 := congrArg List.length hp'
            rw [List.length_map, List.length_append] at q1
            have q2 := invTo_length p k
            have q3 := rowOf_length p k (ys.map (·.1))
            rw [List.length_map] at q3
            have q4 : (k + 1) * p.length ≤ p.length * p.length := Nat.mul_le_mul_right _ hlt
            rw [Nat.succ_mul] at q4
            omega
          obtain ⟨fn, tmps, assign, body, hy, hR⟩ := yieldAt_anyDepth hd (n - 1 - 1 - 1) (hY pre' (⟨k, hlt⟩, x) X hJx hlen')
          have hy' : (Instr.yield l #[.int .i64 (v : Nat), .int .i64 ((p.getD x.1 0 : Nat) : Int)]).run Try.prog X = .ok (.round l fn tmps assign body) X := by
            have e := hy
            unfold encI at e
            dsimp only at e
            rwa [Hv.out] at e
          clear hy
          have HY := Lib.hid hY
          clear hY
          generalize hu : p.getD x.1 0 = u at *
          have Hu := Lib.hid hu
          clear hu
          gi_wp2
          refine RoundIn.mono (roundIn_anyDepth hd hR) ?_
          rintro e W3 ⟨rfl, hJ3, hk3, hr3⟩
          have hk3 := hKp _ _ hk3
          have f1 := (hr3.2 _ (Nat.le_refl _) (Boxed.lt e1)).trans e1
          have f4 := (hr3.2 _ (by omega) (Boxed.lt e4)).trans e4
          have f5 := (hr3.2 _ (by omega) (Boxed.lt e5))
          have Hp' := Lib.hid hp'
          clear hp'
          gi_wp2
          refine ⟨(hr3.mono (by omega)).keeps, ⟨hk3.1, f5⟩, ⟨_, ?_, hJ3⟩, ⟨f1, hk3.2.trans e2, hk3.1.trans e3, f4, f5.trans e5⟩, hmX.rest hr3⟩
          rw [List.map_append, List.map_append, Hp'.out, List.append_assoc]
          congr 1
          exact (rowOf_snoc_yes p k _ x.1 (by rw [Hu.out, Hv.out]; exact hxv)).symm
        · have hxv' : v ≤ p.getD x.1 0 := by omega
          generalize hu : p.getD x.1 0 = u at *
          have Hu := Lib.hid hu
          clear hu
          have Hp' := Lib.hid hp'
          clear hp'
          gi_wp2
          refine ⟨fun _ h => (by cases h), ?_⟩
          gi_wp2
          refine ⟨KeepsFrom.refl _ _, KeepTwo.refl _ _ _, ⟨_, ?_, hJx⟩, ⟨e1, e2, e3, e4, e5⟩, hmX⟩
          rw [List.map_append, Hp'.out]
          congr 1
          exact (rowOf_snoc_no p k _ x.1 (by rw [Hu.out, Hv.out]; omega)).symm
      case done =>
        rintro D ys X hD hS ⟨⟨pre', hp', hJx⟩, ⟨e1, e2, e3, e4, e5⟩, hmX⟩ hK
        have Hp' := Lib.hid hp'
        have HS := Lib.hid hS
        clear hp' hS
        gi_wp2
        refine ⟨⟨k + 1, D :: ds, pre', ⟨_, _, _, _, _, _, _, _, _, _, _, _, _, _, _, _, _, _, _, _, _, _, _, _, _, rfl⟩, by omega, ?_, hJx, e1, e2, e3, hmX.cons (by omega) hK (fun h => by have := hm1.lt h; omega)⟩, ?_⟩
        · rw [Hp'.out, invTo_succ]
          rw [show ys.map (·.1) = _ from HS.out]
        · simp [intOf]; omega
      case stop =>
        rintro D c pre X _ _ h _
        exact h.elim
    · obtain rfl : k = p.length := by omega
      have Hpre := Lib.hid hpre
      clear hpre hpb hb1 hBp1 cp hyb hY
      gi_wp2
      refine leaves_marks (B := W.heap.size) (T := J pre) (fun X D hB hD h => hJ.putObj _ h hB hD rfl) (fun X h => ?_) ds wr hm hJs
      exact ⟨_, results_none rfl _ _ _, ⟨_, rfl⟩, pre, Hpre.out, h⟩

theorem inversions_in (F : Fence) (n : Nat) (h1 : F.fn 71) (hro : F.round = none) (A : Option Addr) (len cap : Nat) (w : World) :
    CallsIn F n Try.prog 71 #[.slice A len cap] w fun e w' => e = .returned (.func (.func 99) #[] #[.pointer (some ⟨w.heap.size, 0, none⟩)]) ∧
      w' = w.alloc (.cells #[.slice A len cap] 22) := by
  refine callsIn_of_wp Try.func71 rfl h1 ?_ hro
  simp only [Try.ntmps71, List.size_toArray, List.length_cons, List.length_nil, Nat.reduceAdd, Nat.reduceSub, Array.replicate_succ, Array.replicate_zero, List.push_toArray, List.append_toArray, List.nil_append, List.cons_append]
  gi_wp2
  go_ret
  exact ⟨rfl, rfl⟩

theorem inversions_gives (F : Fence) (hd : F.depth = none) (n : Nat) (h1 : F.fn 99) (h2 : F.fn 76) (h3 : F.fn 102) (hro : F.round = none) (hn : 6 ≤ n) (Bp b off cap : Nat) (p : List Nat) (hmax : p.length ≤ 4611686018427387904)
    (pb : Obj) (hpb : RowAt pb b off p) (Kp : World → World → Prop) (hKp : ∀ W W', Kp W W' → KeepTwo b Bp W W') (w : World)
    (hBp : w.heap[Bp]? = some (.cells #[.slice (some ⟨b, off, none⟩) p.length cap] 22 (0, 0))) (hb : w.heap[b]? = some pb) :
    Gives F n Try.prog 99 #[.pointer (some ⟨Bp, 0, none⟩)] (encI p) Kp (fun ys : List (Two p) => ys.map posOf = invTo p p.length) (p.length * p.length) w :=
  fun l J W hW hJ hY h0 => inv1_in F hd n h1 h2 h3 hro hn l Bp b off cap p hmax pb hpb Kp hKp J W hJ hY
    ((hW.block _ (Array.getElem?_eq_some_iff.1 hBp).1).trans hBp) ((hW.block _ (Array.getElem?_eq_some_iff.1 hb).1).trans hb) h0

end Go.Proofs.Ytgdaidmkcgblbaa
