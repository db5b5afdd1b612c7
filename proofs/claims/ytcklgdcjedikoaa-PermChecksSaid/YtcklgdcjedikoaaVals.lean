/-
  The walks of values and of the iterator that it returns: the positions from one on, each with its value.
-/
import Derived.RangeFuncNested
import Derived.RangeFuncBound
import Derived.RangeFuncCalls
import Derived.RangeFuncLeaves
import Derived.RangeFuncBox
import Derived.Shelf.Abstract
import Derived.Shelf.RegionOpen
import Derived.WalkKit
import Derived.OwnWalkIn
import Derived.TacticsInMore
import Derived.LoopNIn
import Derived.LoopIn
import Derived.Test.YtcklgdcjedikoaaSame
namespace Go.Proofs.Ytcklgdcjedikoaa
open Go.RowKit Go.Shelf

attribute [local go_sem] Oper.semAt_some

theorem room_of_none {F : Fence} (hd : F.depth = none) (k : Nat) : F.room k := fun d h => by rw [hd] at h; cases h
theorem roundIn_anyDepth {F : Fence} (hd : F.depth = none) {m m' : Nat} {P : Program} {l : Nat} {f : FuncId} {tmps : Array Value} {assign body : Code} {w : World} {R : Ending → World → Prop}
    (h : RoundIn F m P l f tmps assign body w R) : RoundIn F m' P l f tmps assign body w R := ⟨h.1, fun c cs _ => h.2 c cs (room_of_none hd _)⟩
theorem yieldAt_anyDepth {F : Fence} (hd : F.depth = none) {m : Nat} (m' : Nat) {P : Program} {l : Nat} {args : Array Value} {W : World} {R : Ending → World → Prop} (h : YieldAt F m P l args W R) : YieldAt F m' P l args W R := by
  obtain ⟨fn, tmps, assign, body, hy, hR⟩ := h
  exact ⟨fn, tmps, assign, body, hy, roundIn_anyDepth hd hR⟩

/-- The box Bp holds a slice that reads as p. -/
def ValsAt (Bp b off cap : Nat) (p : List Nat) (W : World) : Prop :=
  W.cell? ⟨Bp, 0, none⟩ = some (.slice (some ⟨b, off, none⟩) p.length cap) ∧ ∀ j, j < p.length → W.cell? ⟨b, off + j, none⟩ = some (.int .i64 (p.getD j 0 : Nat))

/-- A position and its value. -/
def encV (p : List Nat) (x : Fin p.length) : Array Value := #[.int .i64 ((x.1 : Nat) : Int), .int .i64 ((p.getD x.1 0 : Nat) : Int)]

/-- The positions from a on, n of them. -/
def Upto (p : List Nat) (a n : Nat) (ys : List (Fin p.length)) : Prop := ys.map (·.1) = List.range' a n

theorem Upto.snoc {p : List Nat} {a n : Nat} {ys : List (Fin p.length)} (h : Upto p a n ys) (x : Fin p.length) (hx : x.1 = a + n) : Upto p a (n + 1) (ys ++ [x]) := by
  unfold Upto at *
  rw [List.map_append, h, List.range'_1_concat]
  simp [hx]
theorem Upto.length {p : List Nat} {a n : Nat} {ys : List (Fin p.length)} (h : Upto p a n ys) : ys.length = n := by
  have := congrArg List.length h
  simpa using this

set_option maxRecDepth 100000 in
set_option maxHeartbeats 2000000 in
theorem values1_in (F : Fence) (n : Nat) (h1 : F.fn 102) (hro : F.round = none) (hn : 1 ≤ n) (l Bi Bp b off cap a : Nat) (p : List Nat) (hmax : p.length ≤ 4611686018427387904) (_ha : a ≤ 4611686018427387904)
    (Kp : World → World → Prop) (hKp : ∀ W W', Kp W W' → ValsAt Bp b off cap p W → ValsAt Bp b off cap p W') (J Jx : List (Fin p.length) → World → Prop)
    (hY : ∀ pre x W, J pre W → pre.length < p.length - a → YieldAt F (n - 1) Try.prog l (encV p x) W fun e W' =>
      (e = .returned (.bool true) ∧ J (pre ++ [x]) W' ∧ Kp W W') ∨ (e = .returned (.bool false) ∧ Jx (pre ++ [x]) W'))
    (W : World) (hBi : W.cell? ⟨Bi, 0, none⟩ = some (.int .i64 (a : Nat))) (hV : ValsAt Bp b off cap p W) (h0 : J [] W) :
    CallsIn F n Try.prog 102 #[.func (.yield l) #[] #[], .pointer (some ⟨Bi, 0, none⟩), .pointer (some ⟨Bp, 0, none⟩)] W fun e W' => (∃ v, e = .returned v) ∧
      ((∃ ys, Upto p a (p.length - a) ys ∧ J ys W') ∨ (∃ pre, (∃ k, a + k ≤ p.length ∧ Upto p a k pre) ∧ Jx pre W')) := by
  refine callsIn_of_wp Try.func102 rfl h1 ?_ hro
  simp only [Try.ntmps102, List.size_toArray, List.length_cons, List.length_nil, Nat.reduceAdd, Nat.reduceSub, Array.replicate_succ, Array.replicate_zero, List.push_toArray, List.append_toArray, List.nil_append, List.cons_append]
  gi_wp2
  gi_loopw [4] (fun i wr => ∃ (k : Nat) (pre : List (Fin p.length)), a ≤ k ∧ (k ≤ p.length ∨ k = a) ∧ i = .int .i64 (k : Nat) ∧ Upto p a (k - a) pre ∧ J pre wr ∧ ValsAt Bp b off cap p wr)
    (fun i _ => p.length - (intOf i).toNat)
  case atStart => exact ⟨a, [], Nat.le_refl _, Or.inr rfl, rfl, by unfold Upto; rw [Nat.sub_self]; rfl, h0, hV⟩
  case round =>
    obtain ⟨k, pre, hak, hk, rfl, hU, hJs, hVs⟩ := hrel
    have hcp := hVs.1
    by_cases hlt : k < p.length
    · have hcx := hVs.2 k hlt
      obtain ⟨fn, tmps, assign, body, hy, hR⟩ := hY pre ⟨k, hlt⟩ wr hJs (by rw [hU.length]; omega)
      have HU := Lib.hid hU
      have HK := Lib.hid hKp
      have HV := Lib.hid hVs
      clear hY hU hVs hV hKp
      unfold encV at hy
      dsimp only at hy
      generalize hv : p.getD k 0 = v at hy hcx
      clear hv
      gi_wp2
      refine hR.mono ?_
      rintro e W3 (⟨rfl, hJ3, hk3⟩ | ⟨rfl, hJx3⟩)
      · gi_wp2
        go_roundw
        case rel => exact ⟨k + 1, _, by omega, Or.inl (by omega), by go_num, by rw [show k + 1 - a = (k - a) + 1 by omega]; exact HU.out.snoc _ (show k = a + (k - a) by omega), hJ3, HK.out _ _ hk3 HV.out⟩
        case measure => simp [intOf]; omega
      · gi_wp2
        refine bodyPost_ret (results_none rfl _ _ _) rfl ?_
        exact ⟨⟨_, rfl⟩, .inr ⟨_, ⟨k - a + 1, by omega, HU.out.snoc _ (show k = a + (k - a) by omega)⟩, hJx3⟩⟩
    · have hle : p.length ≤ k := by omega
      have e : p.length - a = k - a := by omega
      have HU := Lib.hid hU
      clear hU hY hKp hV hVs
      gi_wp2
      go_end0
      exact ⟨⟨_, rfl⟩, .inl ⟨pre, by rw [e]; exact HU.out, hJs⟩⟩

set_option maxHeartbeats 1000000 in
theorem values_in (F : Fence) (n : Nat) (h1 : F.fn 76) (hro : F.round = none) (A : Option Addr) (len cap : Nat) (a : Int) (w : World) :
    CallsIn F n Try.prog 76 #[.slice A len cap, .int .i64 a] w fun e w' => e = .returned (.func (.func 102) #[] #[.pointer (some ⟨w.heap.size + 1, 0, none⟩), .pointer (some ⟨w.heap.size, 0, none⟩)]) ∧
      w' = (w.alloc (.cells #[.slice A len cap] 22)).alloc (.cells #[.int .i64 a] 3) := by
  refine callsIn_of_wp Try.func76 rfl h1 ?_ hro
  simp only [Try.ntmps76, List.size_toArray, List.length_cons, List.length_nil, Nat.reduceAdd, Nat.reduceSub, Array.replicate_succ, Array.replicate_zero, List.push_toArray, List.append_toArray, List.nil_append, List.cons_append]
  gi_wp2
  go_ret
  exact ⟨rfl, rfl⟩

theorem values_stops (F : Fence) (n : Nat) (h1 : F.fn 102) (hro : F.round = none) (hn : 1 ≤ n) (Bi Bp b off cap a : Nat) (p : List Nat) (hmax : p.length ≤ 4611686018427387904) (ha : a ≤ 4611686018427387904)
    (Kp : World → World → Prop) (hKp : ∀ W W', Kp W W' → ValsAt Bp b off cap p W → ValsAt Bp b off cap p W') (w : World)
    (hBp : Bp < w.heap.size) (hBi : Bi < w.heap.size) (hb : b < w.heap.size) (hc : w.cell? ⟨Bi, 0, none⟩ = some (.int .i64 (a : Nat))) (hV : ValsAt Bp b off cap p w) :
    SeqStopsK F n Try.prog 102 #[.pointer (some ⟨Bi, 0, none⟩), .pointer (some ⟨Bp, 0, none⟩)] (encV p) Kp (fun ys => Upto p a (p.length - a) ys) (fun pre => ∃ k, a + k ≤ p.length ∧ Upto p a k pre) (p.length - a) w :=
  fun l J Jx W hW _ _ hY h0 => values1_in F n h1 hro hn l Bi Bp b off cap a p hmax ha Kp hKp J Jx hY W ((hW.cell (p := ⟨Bi, 0, none⟩) hBi).trans hc)
    ⟨(hW.cell (p := ⟨Bp, 0, none⟩) hBp).trans hV.1, fun j hj => (hW.cell (p := ⟨b, off + j, none⟩) hb).trans (hV.2 j hj)⟩ h0

end Go.Proofs.Ytcklgdcjedikoaa
