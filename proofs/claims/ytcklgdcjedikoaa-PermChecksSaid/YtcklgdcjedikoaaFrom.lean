/-
  The walks of FromCode, of both sides.
-/
import Derived.Test.YtcklgdcjedikoaaDec
import Derived.Test.YtcklgdcjedikoaaApp
import Derived.Test.YtcklgdcjedikoaaRow
namespace Go.Proofs.Ytcklgdcjedikoaa
open Go.RowKit

/-- A slice that reads as a list of integers. -/
def Zl (w : World) (A : Option Addr) (n : Nat) (zs : List Int) : Prop :=
  zs.length = n ∧ n ≤ 4611686018427387904 ∧ (∀ z ∈ zs, -9223372036854775808 ≤ z ∧ z ≤ 9223372036854775807) ∧
    (0 < n → ∃ b off, A = some ⟨b, off, none⟩ ∧ b < w.heap.size ∧ ∀ i, i < n → w.cell? ⟨b, off + i, none⟩ = some (.int .i64 (zs.getD i 0)))
theorem Zl.below {w w' : World} {A : Option Addr} {n : Nat} {zs : List Int} (h : Zl w A n zs) (hb : Below w.heap.size w w') : Zl w' A n zs := by
  obtain ⟨h1, h2, h3, h4⟩ := h
  refine ⟨h1, h2, h3, fun hn => ?_⟩
  obtain ⟨b, off, e, hs, hc⟩ := h4 hn
  exact ⟨b, off, e, Nat.lt_of_lt_of_le hs hb.size, fun i hi => (hb.cell hs).trans (hc i hi)⟩
theorem Zl.bound {w : World} {A : Option Addr} {n : Nat} {zs : List Int} (h : Zl w A n zs) (i : Nat) (hi : i < n) : -9223372036854775808 ≤ zs.getD i 0 ∧ zs.getD i 0 ≤ 9223372036854775807 := by
  refine h.2.2.1 _ ?_
  have hi' : i < zs.length := by rw [h.1]; exact hi
  rw [List.getD_eq_getElem?_getD, List.getElem?_eq_getElem hi']
  exact List.getElem_mem hi'

def goodAt (zs : List Int) (i : Nat) : Prop := 0 ≤ zs.getD i 0 ∧ zs.getD i 0 + i < zs.length
def AllGood (zs : List Int) : Prop := ∀ i, i < zs.length → goodAt zs i
def natsOf (zs : List Int) : List Nat := zs.map Int.toNat
theorem natsOf_length (zs : List Int) : (natsOf zs).length = zs.length := by simp [natsOf]
theorem natsOf_get (zs : List Int) (i : Nat) (h : i < zs.length) : (natsOf zs).getD i 0 = (zs.getD i 0).toNat := by
  simp [natsOf, List.getD_eq_getElem?_getD, h]
theorem natsOf_valid {zs : List Int} (h : AllGood zs) : ValidC (natsOf zs) := by
  intro i hi
  rw [natsOf_length] at hi ⊢
  rw [natsOf_get zs i hi]
  have := h i hi
  unfold goodAt at this
  omega
theorem Zl.sl {w : World} {A : Option Addr} {n : Nat} {zs : List Int} (h : Zl w A n zs) (hg : AllGood zs) : Sl .i64 w A n (natsOf zs) := by
  obtain ⟨h1, h2, h3, h4⟩ := h
  refine ⟨by rw [natsOf_length, h1], h2, fun hn => ?_⟩
  obtain ⟨b, off, e, hs, hc⟩ := h4 hn
  refine ⟨b, off, e, hs, fun i hi => ?_⟩
  rw [hc i hi, natsOf_get zs i (by omega), Int.toNat_of_nonneg (hg i (by omega)).1]
theorem Sl.zl {w : World} {A : Option Addr} {n : Nat} {c : List Nat} (h : Sl .i64 w A n c) (hb : ∀ x ∈ c, x ≤ 1000) : Zl w A n (c.map fun (x : Nat) => (x : Int)) := by
  obtain ⟨h1, h2, h3⟩ := h
  refine ⟨by simpa using h1, h2, fun z hz => ?_, fun hn => ?_⟩
  · obtain ⟨x, hx, rfl⟩ := List.mem_map.1 hz
    have := hb x hx
    omega
  · obtain ⟨b, off, e, hs, hc⟩ := h3 hn
    refine ⟨b, off, e, hs, fun i hi => ?_⟩
    rw [hc i hi]
    simp [List.getD_eq_getElem?_getD, show i < c.length by omega]

theorem fromCode_len (A : Option Addr) (n cap : Nat) (w : World) (hn : n < 1 ∨ 60 < n) (hmax : n ≤ 4611686018427387904) :
    Calls Try.prog 38 #[.slice A n cap] w fun e w' => e = .returned (.tuple #[.slice none 0 0, .int .i64 20]) ∧ w = w' := by
  rcases hn with hn | hn
  · obtain rfl : n = 0 := by omega
    go_enter Try.func38, Try.ntmps38
    go_wp2
    go_ret2
    exact ⟨rfl, rfl⟩
  · have d1 : decide ((n : Int) < 1) = false := decide_eq_false (by omega)
    have d2 : decide ((60 : Int) < (n : Int)) = true := decide_eq_true (by omega)
    go_enter Try.func38, Try.ntmps38
    go_wp2
    go_ret2
    exact ⟨rfl, rfl⟩

/-- What FromCode returns of a list of 1 to 60 integers. -/
def RetFrom (zs : List Int) (w : World) (e : Ending) (w' : World) : Prop :=
  (AllGood zs ∧ RetRowE (outL (natsOf zs)) w e w') ∨ (¬ AllGood zs ∧ e = .returned (.tuple #[.slice none 0 0, .int .i64 1]) ∧ w = w')

set_option maxRecDepth 100000 in
set_option maxHeartbeats 1000000 in
theorem fromCode_any (A : Option Addr) (n cap : Nat) (zs : List Int) (w : World) (hZ : Zl w A n zs) (hn : n ≤ 60) (h0 : 0 < n) :
    Calls Try.prog 38 #[.slice A n cap] w (RetFrom zs w) := by
  have hl := hZ.1
  subst hl
  obtain ⟨b, off, rfl, hs, hc⟩ := hZ.2.2.2 h0
  have d1 : decide ((zs.length : Int) < 1) = false := decide_eq_false (by omega)
  have d2 : decide ((60 : Int) < (zs.length : Int)) = false := decide_eq_false (by omega)
  have HZ := Lib.hid hZ
  have Hc := Lib.hid hc
  clear hZ hc
  go_enter Try.func38, Try.ntmps38
  go_wp2
  go_loop [16] (fun i => ∃ k : Nat, k ≤ zs.length ∧ i = .int .i64 k ∧ ∀ j, j < k → goodAt zs j) (fun i => zs.length - (intOf i).toNat)
  case atStart => exact ⟨0, Nat.zero_le _, rfl, fun j h => absurd h (by omega)⟩
  case round =>
    obtain ⟨k, hk, rfl, hgood⟩ := hrel
    have Hgood := Lib.hid hgood
    clear hgood
    by_cases hlt : k < zs.length
    · have hck := Hc.out k hlt
      have hbd := HZ.out.bound k hlt
      have i1 : IntKind.i64.wrap ((zs.length : Int) - 1) = (zs.length : Int) - 1 := IntWalk.i64_in _ (by omega)
      have i2 : IntKind.i64.wrap ((zs.length : Int) - 1 - (k : Int)) = (zs.length : Int) - 1 - (k : Int) := IntWalk.i64_in _ (by omega)
      by_cases hg : goodAt zs k
      · have hg' := hg
        unfold goodAt at hg'
        have Hg := Lib.hid (show ∀ j, j < k + 1 → goodAt zs j by
          intro j hj
          by_cases e : j = k
          · subst e; exact hg
          · exact Hgood.out j (by omega))
        clear hg
        generalize zs.getD k 0 = z at *
        have d3 : decide (z < 0) = false := decide_eq_false (by omega)
        have d4 : decide ((zs.length : Int) - 1 - (k : Int) < z) = false := decide_eq_false (by omega)
        go_wp2
        go_round
        case rel => exact ⟨k + 1, by omega, by go_num, Hg.out⟩
        case measure => simp [intOf]; omega
      · have Hbad := Lib.hid (show ¬ AllGood zs from fun h => hg (h k hlt))
        have hg' : zs.getD k 0 < 0 ∨ (zs.length : Int) ≤ zs.getD k 0 + k := by unfold goodAt at hg; omega
        clear hg
        generalize zs.getD k 0 = z at *
        by_cases hz : z < 0
        · have d3 : decide (z < 0) = true := decide_eq_true hz
          clear hg'
          go_wp2
          go_ret2
          exact .inr ⟨Hbad.out, rfl, rfl⟩
        · have d3 : decide (z < 0) = false := decide_eq_false hz
          have d4 : decide ((zs.length : Int) - 1 - (k : Int) < z) = true := decide_eq_true (by omega)
          clear hg' hz
          go_wp2
          go_ret2
          exact .inr ⟨Hbad.out, rfl, rfl⟩
    · obtain rfl : k = zs.length := by omega
      have hall : AllGood zs := Hgood.out
      have Hall := Lib.hid hall
      have Hdec := Lib.hid (fun (W : World) (hW : Zl W (some ⟨b, off, none⟩) zs.length zs) => decode_any b off zs.length cap (natsOf zs) W (hW.sl hall) (natsOf_valid hall) hn h0)
      clear hall
      go_wp2_with (go_at_call 78; refine (Hdec.out _ HZ.out).mono ?_; rintro e w1 ⟨g, rfl, hg, hblk, hb⟩)
      go_ret2
      exact .inl ⟨Hall.out, g, rfl, hg, hblk, hb⟩

end Go.Proofs.Ytcklgdcjedikoaa
