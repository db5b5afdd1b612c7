/-
  The walk of tame.
-/
import Derived.Test.YtgdaidmkcgblbaaOwn
import Derived.Deep.DeepCutAuto
namespace Go.Proofs.Ytgdaidmkcgblbaa
open Go.RowKit

theorem info_int' : (Try.prog.info? 3).map (fun i => (i.zero, i.size, i.bytes)) = some (some (.int .i64 0), 1, 8) := by kernel_rfl

/-- A slice of any integers, from no address on if it is empty. -/
def Ints (w : World) (A : Option Addr) (n : Nat) : Prop :=
  n ≤ 9223372036854775807 ∧ (0 < n → ∃ b off, A = some ⟨b, off, none⟩ ∧ b < w.heap.size ∧ ∀ i, i < n → ∃ z : Int, -9223372036854775808 ≤ z ∧ z ≤ 9223372036854775807 ∧ w.cell? ⟨b, off + i, none⟩ = some (.int .i64 z))

/-- A permutation in new memory. -/
def RetPerm (m : Nat) (w : World) (e : Ending) (w' : World) : Prop :=
  ∃ g cap p, e = .returned (.slice (some ⟨g, 0, none⟩) m cap) ∧ Sl .i64 w' (some ⟨g, 0, none⟩) m p ∧ IsPerm p ∧ w.heap.size ≤ g ∧ Below w.heap.size w w'

def tameLen (n most : Nat) : Nat := max 1 (min n most)


/-- The same, and how much room there is. -/
def RetPermC (m : Nat) (w : World) (e : Ending) (w' : World) : Prop :=
  ∃ g cap p, e = .returned (.slice (some ⟨g, 0, none⟩) m cap) ∧ Sl .i64 w' (some ⟨g, 0, none⟩) m p ∧ IsPerm p ∧ w.heap.size ≤ g ∧ (m ≤ cap ∧ cap ≤ 9223372036854775807) ∧ Below w.heap.size w w'
theorem own_cap {w : World} {B g cap n : Nat} {e : TypeId} {xs : List Value} (h : w.ownsRow B e 1 (.slice (some ⟨g, 0, none⟩) n cap) n xs) : n ≤ cap ∧ cap ≤ 9223372036854775807 := by
  obtain ⟨hl, ⟨e1, _⟩ | ⟨g', cap', cur, e1, hb, hg, hc, hm, hs, ht⟩⟩ := h
  · cases e1
  · injection e1 with e1 e2 e3
    subst e3
    unfold maxLen at hm
    omega

set_option maxRecDepth 100000 in
set_option maxHeartbeats 2000000 in
theorem tame_cap (A : Option Addr) (n cap most : Nat) (w : World) (h : Ints w A n) (hm : most ≤ 60) :
    Calls Try.prog 32 #[.slice A n cap, .int .i64 most] w (RetPermC (tameLen n most) w) := by
  have hn := h.1
  obtain ⟨N, hN⟩ : ∃ N, N = tameLen n most := ⟨_, rfl⟩
  have hN1 : 1 ≤ N := by rw [hN]; unfold tameLen; omega
  have hN2 : N ≤ 60 := by rw [hN]; unfold tameLen; omega
  rw [← hN]
  have hmin : (max 1 (min (n : Int) (most : Int))) = (N : Int) := by rw [hN]; unfold tameLen; omega
  clear hN
  obtain ⟨i0, hi, hz0, hz1, hz2⟩ := info_parts info_int'
  go_enter Try.func32, Try.ntmps32
  go_upto_region 1 with fail
  go_cut [5] (fun s5 wx => s5 = .int .i64 (N : Nat) ∧ wx = w)
  case first =>
    go_wp2
    all_goals
      go_meet
      first
        | (refine ⟨congrArg (Value.int .i64) ?_, rfl⟩; omega)
        | trace_state
  case rest =>
    obtain ⟨rfl, rfl⟩ := hcut
    clear hmin
    go_wp2
    go_loopw [6, 7] (fun v i wr => ∃ k : Nat, k ≤ N ∧ i = .int .i64 k ∧ wr.ownsRow wc.heap.size 3 1 v k (nums .i64 (List.range k)) ∧ Below wc.heap.size wc wr) (fun _ i _ => N - (intOf i).toNat)
    case atStart => exact ⟨0, Nat.zero_le _, rfl, ⟨by simp [nums], .inl ⟨rfl, rfl⟩⟩, Below.refl _ _⟩
    case round =>
      obtain ⟨k, hk, rfl, hown, hbel⟩ := hrel
      by_cases hlt : k < N
      · have hsz : wc.heap.size ≤ wr.heap.size := hbel.size
        have Hnext := Lib.hid (show nums .i64 (List.range k) ++ [.int .i64 (k : Nat)] = nums .i64 (List.range (k + 1)) by rw [nums_snoc, List.range_succ])
        go_wp2_with (at_builtin; refine wpList_append_own _ rfl _ _ 22 rfl wc.heap.size 3 i0 (.int .i64 0) 1 8 Try.underlying22 hi hz0 hz1 hz2 rfl (by decide) _ _ _ rfl (hown.alloc _) ⟨wr.heap.size, 0, none⟩ 1 1 [.int .i64 (k : Nat)] rfl rfl ?c1 ?c2 ?c3 ?c4 ?c5 ?_)
        case c1 => exact cell_one_new _ _ _
        case c2 => simp [Value.oneCell']
        case c3 => unfold maxLen; omega
        case c4 => omega
        case c5 => simp; omega
        intro v' w1 hown' hgrow _
        obtain ⟨g', cap', rfl⟩ := ownsRow_succ hown'
        have hb' := hbel.trans (own_below hown hsz hgrow)
        rw [Hnext.out] at hown'
        go_wp2
        go_roundw
        case rel => exact ⟨k + 1, by omega, by go_num, hown', hb'⟩
        case measure => simp [intOf]; omega
      · obtain rfl : k = N := by omega
        obtain ⟨g, cap2, rfl⟩ := own_pos hown (by omega)
        have hp0 := isPerm_range k
        have Hcap := Lib.hid (own_cap hown)
        go_wp2
        obtain ⟨wo, rfl⟩ : ∃ wo : World, wo = wr := ⟨_, rfl⟩
        go_loopw [8] (fun i wr => ∃ (j : Nat) (p : List Nat), j ≤ k ∧ i = .int .i64 j ∧ wr.ownsRow wc.heap.size 3 1 (.slice (some ⟨g, 0, none⟩) k cap2) k (nums .i64 p) ∧ IsPerm p ∧ Below wc.heap.size wc wr) (fun i _ => k - (intOf i).toNat)
        case atStart => exact ⟨0, List.range k, Nat.zero_le _, rfl, hown, hp0, hbel⟩
        case round =>
          obtain ⟨j, p, hj, rfl, hown2, hp, hbel2⟩ := hrel
          have hpl := own_len hown2
          have hgw := own_lt hown2
          by_cases hjm : j < k
          · by_cases hjn : j < n
            · obtain ⟨b, off, rfl, hb, hc⟩ := h.2 (by omega)
              obtain ⟨z, hz1', hz2', hcz⟩ := hc j hjn
              have hcz' := (hbel2.cell (p := ⟨b, off + j, none⟩) hb).trans hcz
              obtain ⟨u, hu⟩ : ∃ u : Nat, IntKind.u64.wrap z = (u : Nat) := ⟨(IntKind.u64.wrap z).toNat, by have := IntKind.wrap_u64 z; omega⟩
              obtain ⟨c, hkk⟩ : ∃ c, c = u % k := ⟨_, rfl⟩
              have hkm : c < k := by rw [hkk]; exact Nat.mod_lt _ (by omega)
              have e2 : (u : Int) % (k : Int) = (c : Nat) := by rw [hkk]; simp
              have e4 : IntKind.u64.wrap ((k : Nat) : Int) = (k : Nat) := by rw [IntKind.wrap_u64]; omega
              have e5 : IntKind.i64.wrap ((c : Nat) : Int) = (c : Nat) := IntWalk.i64_in _ (by omega)
              have e6 : (u : Int).tmod (k : Int) = (c : Nat) := by rw [Int.tmod_eq_emod_of_nonneg (by omega)]; exact e2
              have cj := own_num hown2 j hjm
              have ck := own_num hown2 c hkm
              have fj := own_free hown2 j
              have hset := own_set hown2 j (p.getD c 0) rfl
              have cn := own_num hset c hkm
              have fn := own_free hset c
              have Hset := Lib.hid (own_set hset c (p.getD j 0) rfl)
              have Hsw := Lib.hid (hp.swap (i := j) (k := c) (by omega) (by omega))
              have hsw : (p.set j (p.getD c 0)).set c (p.getD j 0) = swapL p j c := rfl
              rw [hsw] at Hset
              clear hkk hcz hc hp hown hown2 hset hsw
              generalize (p.set j (p.getD c 0)).getD c 0 = d at *
              generalize hx : p.getD j 0 = x at *
              generalize hy : p.getD c 0 = y at *
              clear hx hy
              go_wp2
              go_roundw
              case rel => exact ⟨j + 1, _, by omega, by go_num, Hset.out, Hsw.out, (hbel2.setCell hgw.2 _).setCell hgw.2 _⟩
              case measure => simp [intOf]; omega
            · have hle : n ≤ j := by omega
              have hs := own_sl hown2 (by omega)
              clear hown
              go_wp2
              go_ret
              exact ⟨g, cap2, p, rfl, hs, hp, hgw.2, Hcap.out, hbel2⟩
          · obtain rfl : j = k := by omega
            have hs := own_sl hown2 (by omega)
            clear hown
            go_wp2
            go_ret
            exact ⟨g, cap2, p, rfl, hs, hp, hgw.2, Hcap.out, hbel2⟩

theorem tame_any (A : Option Addr) (n cap most : Nat) (w : World) (h : Ints w A n) (hm : most ≤ 60) :
    Calls Try.prog 32 #[.slice A n cap, .int .i64 most] w (RetPerm (tameLen n most) w) :=
  (tame_cap A n cap most w h hm).mono fun _ _ ⟨g, c, p, h1, h2, h3, h4, _, h5⟩ => ⟨g, c, p, h1, h2, h3, h4, h5⟩

end Go.Proofs.Ytgdaidmkcgblbaa
