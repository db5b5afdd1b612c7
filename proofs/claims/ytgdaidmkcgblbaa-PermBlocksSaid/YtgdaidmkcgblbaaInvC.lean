/-
  The walk of Inversions.
-/
import Derived.Test.YtgdaidmkcgblbaaBaxter
import Derived.Test.YtgdaidmkcgblbaaCodeM
namespace Go.Proofs.Ytgdaidmkcgblbaa
open Go.RowKit Go.Shelf

attribute [local go_sem] Oper.semAt_some

theorem invTo_sum (p : List Nat) : ∀ k, k ≤ p.length → (invTo p k).length = sumTo (codeL p) k
  | 0, _ => by simp [invTo, sumTo]
  | k + 1, h => by
    rw [invTo_succ, List.length_append, invTo_sum p k (by omega)]
    show _ = sumTo (codeL p) k + (codeL p).getD k 0
    rw [codeL_get p k (by omega)]

set_option maxRecDepth 100000 in
set_option maxHeartbeats 2000000 in
theorem inversions_any (b off n cap : Nat) (p : List Nat) (w : World) (hS : Sl .i64 w (some ⟨b, off, none⟩) n p) (hp : IsPerm p) (hn : n ≤ 60) (h0 : 0 < n) :
    Calls Try.prog 25 #[.slice (some ⟨b, off, none⟩) n cap] w fun e w' => e = .returned (.tuple #[.int .i64 (sumTo (codeL p) n : Nat), .int .i64 0]) ∧ Below w.heap.size w w' := by
  obtain ⟨pb, hpb, hrow⟩ := rowAt_of hS h0
  have hl := hS.len
  subst hl
  have hbl : b < w.heap.size := (Array.getElem?_eq_some_iff.1 hpb).1
  have Hchk := Lib.hid (fun n => callsIn_wide (n := n) |>.2 (check_perm b off p.length cap p w hS hp hn h0))
  refine (callsIn_wide (n := 100)).1 ?_
  refine callsIn_of_wp_marks Try.func25 rfl trivial ?_ rfl
  simp only [Try.ntmps25, List.size_toArray, List.length_cons, List.length_nil, Nat.reduceAdd, Nat.reduceSub, Array.replicate_succ, Array.replicate_zero, List.push_toArray, List.append_toArray, List.nil_append, List.cons_append]
  gi_wp2_with (first
    | (refine ⟨trivial, ?_⟩; gi_at_call 16; refine (Hchk.out _).mono ?_; rintro e w1 ⟨rfl, hb1⟩)
    | (refine ⟨trivial, ?_⟩; gi_at_call 71; refine (inversions_in Fence.wide 99 trivial rfl _ _ _ _).mono ?_; rintro e w' ⟨rfl, rfl⟩))
  have bC := (Boxed.new w1 3 (.int .i64 0)).alloc (.cells #[.slice (some ⟨b, off, none⟩) p.length cap] 22)
  have bP := Boxed.new (w1.alloc (.cells #[.int .i64 0] 3)) 22 (.slice (some ⟨b, off, none⟩) p.length cap)
  have hB0 : Below w1.heap.size w1 ((w1.alloc (.cells #[.int .i64 0] 3)).alloc (.cells #[.slice (some ⟨b, off, none⟩) p.length cap] 22)) := ((Below.refl _ w1).alloc (Nat.le_refl _) _).alloc (by simp) _
  simp only [World.size_alloc] at bP
  have hsz : ((w1.alloc (.cells #[.int .i64 0] 3)).alloc (.cells #[.slice (some ⟨b, off, none⟩) p.length cap] 22)).heap.size = w1.heap.size + 2 := by simp
  have hs1 := hb1.size
  have hbW := hB0.mono hs1
  have hwW := hb1.trans hbW
  clear hB0 hbW
  generalize (w1.alloc (.cells #[.int .i64 0] 3)).alloc (.cells #[.slice (some ⟨b, off, none⟩) p.length cap] 22) = Wi at *
  have hbi : Wi.heap[b]? = some pb := (hwW.block b hbl).trans hpb
  generalize w1.heap.size = gc at *
  refine range_on rfl (by omega) (gf := 99) (lb := #[.pointer (some ⟨gc + 1, 0, none⟩)]) rfl trivial (enters_of Try.func99 (by kernel_rfl) rfl)
    (inversions_gives Fence.wide rfl 99 trivial trivial trivial rfl (by omega) (gc + 1) b off cap p (by omega) pb hrow (KeepTwo b (gc + 1)) (fun _ _ h => h) Wi bP hbi)
    KeepTwo.trans (fun X l _ o' h _ _ => KeepTwo.put (B := Wi.heap.size) (by omega) (by omega) X l o' h) (Below.refl _ _) (fun _ => rfl)
    (fun ys X => (X.heap[gc]? = some (.cells #[.int .i64 (ys.length : Nat)] 3 (0, 0)) ∧ X.heap[b]? = some pb) ∧ Below w.heap.size w X)
    (OwnFrom.and (OwnFrom.and (fun _ _ _ _ hs hg hr => (hg.block gc (Array.getElem?_eq_some_iff.1 hs).1 (fun e => by have := (hr gc e.symm).1; omega)).trans hs) (ownFrom_block _ _ _ (by omega))) (ownFrom_below (Nat.le_refl _) (by omega)))
    ⟨⟨bC, hbi⟩, hwW⟩
    (fun x => { tmps := #[.slice (some ⟨b, off, none⟩) p.length cap, undef, .int .i64 0, .int .i64 0, .int .i64 0, .pointer (some ⟨gc, 0, none⟩), .slice (some ⟨b, off, none⟩) p.length cap, .int .i64 0, .int .i64 0, .bool false, undef, .slice (some ⟨b, off, none⟩) p.length cap, .func (.func 99) #[] #[.pointer (some ⟨gc + 1, 0, none⟩)], .int .i64 ((p.getD x.1.1 0 : Nat) : Int), .int .i64 ((p.getD x.2.1 0 : Nat) : Int), undef, undef, undef], defers := [] }) ?assign ?body ?done
  case assign =>
    intro l x X K hK
    unfold encI
    dsimp only at hK ⊢
    generalize p.getD x.1.1 0 = u at hK ⊢
    generalize p.getD x.2.1 0 = u' at hK ⊢
    gi_wp2
    simpa using hK
  case body =>
    rintro l ys x X ⟨⟨e1, e3⟩, hB⟩ hlen
    have cL := Boxed.cell e1
    have fL := Boxed.frozen e1
    have Hset := Lib.hid (Boxed.set (.int .i64 ((ys.length : Int) + 1)) e1)
    have hnn : p.length * p.length ≤ 60 * 60 := Nat.mul_le_mul hn hn
    generalize p.getD x.1.1 0 = v
    generalize p.getD x.2.1 0 = v'
    have Hlen := Lib.hid (show (ys ++ [x]).length = ys.length + 1 by simp)
    have hlen' : ys.length < 3600 := by omega
    clear hlen hnn e1
    generalize ys.length = m at *
    gi_wp2
    refine ⟨(Rest.refl _ X).setCell (by omega) _ _, ⟨Below.heap_setCell _ _ _ _ (by simp; omega), Below.heap_setCell _ _ _ _ (by simp)⟩, ⟨⟨?_, (Below.heap_setCell _ _ _ _ (by simp; omega)).trans e3⟩, hB.setCell (by omega) _⟩⟩
    rw [Hlen.out]
    exact Hset.out
  case done =>
    rintro D ys X hD hys ⟨⟨e1, e3⟩, hB⟩ hK
    have hsum : ys.length = sumTo (codeL p) p.length := by rw [← invTo_sum p p.length (Nat.le_refl _), ← hys, List.length_map]
    rw [hsum] at e1
    have cL := Boxed.cell e1
    clear hys hsum
    gi_wp2
    refine ⟨by simp, .inl ⟨_, _, rfl, run_takeDeferred hK, ?_⟩⟩
    exact ⟨.tuple #[.int .i64 (sumTo (codeL p) p.length : Nat), .int .i64 0], by simp [results, Try.f25, go_sem], rfl, hB.trans (belowK_b (w := w) (Nat.le_refl _) X D _ _ (by omega) hK rfl rfl)⟩

end Go.Proofs.Ytgdaidmkcgblbaa
