/-
  The walk of raw.
-/
import Derived.Test.YtcklgdcjedikoaaRFrom
namespace Go.Proofs.Ytcklgdcjedikoaa
open Go.RowKit

/-- A slice that came in reads as integers. -/
def Rl (w : World) (A : Option Addr) (n : Nat) (zs : List Int) : Prop :=
  zs.length = n ∧ n ≤ 9223372036854775807 ∧ (∀ z ∈ zs, -9223372036854775808 ≤ z ∧ z ≤ 9223372036854775807) ∧
    (0 < n → ∃ b off, A = some ⟨b, off, none⟩ ∧ b < w.heap.size ∧ ∀ i, i < n → w.cell? ⟨b, off + i, none⟩ = some (.int .i64 (zs.getD i 0)))
theorem Rl.below {w w' : World} {A : Option Addr} {n : Nat} {zs : List Int} (h : Rl w A n zs) (hb : Below w.heap.size w w') : Rl w' A n zs := by
  obtain ⟨h1, h2, h3, h4⟩ := h
  refine ⟨h1, h2, h3, fun hn => ?_⟩
  obtain ⟨b, off, e, hs, hc⟩ := h4 hn
  exact ⟨b, off, e, Nat.lt_of_lt_of_le hs hb.size, fun i hi => (hb.cell hs).trans (hc i hi)⟩
theorem rl_of_row {w : World} {a : Option Addr} {len cap : Nat} {zs : List Int} (h : IsRow .i64 w a len cap zs) : ∃ ys, Rl w a len ys := by
  rcases h with ⟨rfl, rfl, rfl, rfl⟩ | ⟨x, rfl, hl, hm, hz, hc, hw⟩
  · exact ⟨[], rfl, by omega, fun z hz => absurd hz (by simp), fun h => absurd h (by omega)⟩
  · refine ⟨zs.take len, by rw [List.length_take]; omega, by unfold maxLen at hm; omega, fun z hz => i64_bounds (hw z (List.mem_of_mem_take hz)), fun h0 => ?_⟩
    obtain ⟨b, off, rfl, hcell⟩ := ints_at hc (by omega)
    have hb : b < w.heap.size := World.block_lt_of_cell? w ⟨b, off + 0, none⟩ (hcell 0 (by omega))
    refine ⟨b, off, rfl, hb, fun i hi => ?_⟩
    rw [hcell i (by omega)]
    simp [List.getD_eq_getElem?_getD, hi]
theorem ints_of_rl {w : World} {A : Option Addr} {n : Nat} {zs : List Int} (h : Rl w A n zs) : Ints w A n := by
  obtain ⟨h1, h2, h3, h4⟩ := h
  refine ⟨h2, fun hn => ?_⟩
  obtain ⟨b, off, e, hs, hc⟩ := h4 hn
  refine ⟨b, off, e, hs, fun i hi => ⟨zs.getD i 0, ?_⟩⟩
  have hi' : i < zs.length := by omega
  have hmem : zs.getD i 0 ∈ zs := by
    rw [List.getD_eq_getElem?_getD, List.getElem?_eq_getElem hi']
    exact List.getElem_mem hi'
  exact ⟨(h3 _ hmem).1, (h3 _ hmem).2, hc i hi⟩

theorem own_zl {w : World} {B n : Nat} {v : Value} {zs : List Int} (h : w.ownsRow B 3 1 v n (zs.map (Value.int .i64))) (hb : ∀ z ∈ zs, -9223372036854775808 ≤ z ∧ z ≤ 9223372036854775807) (hn : n ≤ 4611686018427387904) : ∃ A c, v = .slice A n c ∧ Zl w A n zs := by
  have hl : zs.length = n := by have := h.1; simpa using this
  obtain ⟨A, c, rfl⟩ := own_slice' h
  refine ⟨A, c, rfl, hl, hn, hb, fun h0 => ?_⟩
  obtain ⟨g, c', e⟩ := own_pos h h0
  injection e with e1 e2 e3
  subst e1 e3
  refine ⟨g, 0, rfl, (own_lt h).1, fun i hi => ?_⟩
  rw [Nat.zero_add, own_cell h i hi]
  simp [List.getD_eq_getElem?_getD, show i < zs.length by omega]

theorem run_append_none {P : Program} {t ty e : TypeId} (i : TypeInfo) (z : Value) (ht : P.underlying t = some (.slice e)) (hi0 : P.info? e = some i) (_hz : i.zero = some z) (A : Option Addr) (c : Nat) (w : World) :
    (Builtin.append_ #[t, t] ty #[.slice none 0 0, .slice A 0 c]).run P w = .ok (.slice none 0 0) w := by
  cases A with
  | none => simp [Builtin.append_, run_underlying ht, sizeOf, typeInfo, hi0, Builtin.lenOf, Builtin.firstCells]
  | some ad => simp [Builtin.append_, run_underlying ht, sizeOf, typeInfo, hi0, Builtin.lenOf, Builtin.firstCells, loadCells, loadCellsFrom]

/-- The first integers in new memory. -/
def RetRaw (zs : List Int) (m : Nat) (w : World) (e : Ending) (w' : World) : Prop :=
  ∃ A c, e = .returned (.slice A m c) ∧ Zl w' A m (zs.take m) ∧ Below w.heap.size w w'

theorem Rl.cellsAt {w : World} {b off n : Nat} {zs : List Int} (h : Rl w (some ⟨b, off, none⟩) n zs) (m : Nat) (hm : m ≤ n) : ∀ j u, ((zs.take m).map (Value.int .i64))[j]? = some u → w.cell? ((⟨b, off, none⟩ : Addr).add j) = some u := by
  intro j u hu
  have hj : j < (zs.take m).length := by
    have := (List.getElem?_eq_some_iff.1 hu).1
    simpa using this
  rw [List.length_take, h.1] at hj
  obtain ⟨b', off', e, _, hc⟩ := h.2.2.2 (by omega)
  injection e with e
  injection e with e1 e2
  subst e1 e2
  have hl := h.1
  rw [add_at, hc j (by omega), ← hu]
  simp [List.getD_eq_getElem?_getD, show j < zs.length by omega, List.getElem?_take_of_lt (show j < m by omega)]
theorem one_of_ints (zs : List Int) : ∀ u ∈ zs.map (Value.int .i64), u.oneCell' = true := by
  intro u hu
  obtain ⟨x, _, rfl⟩ := List.mem_map.1 hu
  rfl

set_option maxRecDepth 100000 in
theorem raw_any (A : Option Addr) (n cap most : Nat) (zs : List Int) (w : World) (hR : Rl w A n zs) (hcap : n ≤ cap) (hm : most ≤ 100) :
    Calls Try.prog 14 #[.slice A n cap, .int .i64 most] w (RetRaw zs (min n most) w) := by
  obtain ⟨i0, hi, hz0, hz1, hz2⟩ := info_parts info_int'
  have hl := hR.1
  have hmax := hR.2.1
  have hbd : ∀ z ∈ zs.take (min n most), -9223372036854775808 ≤ z ∧ z ≤ 9223372036854775807 := fun z hz => hR.2.2.1 z (List.mem_of_mem_take hz)
  have Hbd := Lib.hid hbd
  clear hbd
  rcases Nat.eq_zero_or_pos n with h0 | h0
  · subst h0
    have hmin : min (0 : Int) (most : Int) = 0 := by omega
    have hrun := fun W => run_append_none (P := Try.prog) (t := 22) (ty := 22) (e := 3) i0 (.int .i64 0) Try.underlying22 hi hz0 A cap W
    have Hz := Lib.hid (List.eq_nil_of_length_eq_zero hl)
    clear hl hR
    go_enter Try.func14, Try.ntmps14
    go_wp2_with (at_builtin; refine wpList_append_run rfl rfl rfl rfl (hrun _) ?_)
    all_goals
      go_ret
      exact ⟨none, 0, by rw [Nat.zero_min]; rfl, ⟨by rw [Hz.out]; simp, by omega, Hbd.out, fun h => absurd h (by simp)⟩, Below.refl _ _⟩
  · obtain ⟨b, off, rfl, hs, hc⟩ := hR.2.2.2 h0
    obtain ⟨m, hm'⟩ : ∃ m, m = min n most := ⟨_, rfl⟩
    have hnews := hR.cellsAt m (by omega)
    have hq1 : ((zs.take m).map (Value.int .i64)).length = m * 1 := by rw [List.length_map, List.length_take]; omega
    have hq2 : 0 + m ≤ maxLen := by unfold maxLen; omega
    have hq3 : (0 + m) * 8 ≤ 140737488355328 := by omega
    have hmn : min (n : Int) (most : Int) = (m : Int) := by omega
    have hmle : m ≤ n := by omega
    have hm100 : m ≤ 100 := by omega
    rw [← hm'] at Hbd ⊢
    have Hn := Lib.hid hnews
    clear hm' hnews hc hR hl
    go_enter Try.func14, Try.ntmps14
    go_wp2_with (at_builtin; refine wpList_append_own _ rfl _ _ 22 rfl w.heap.size 3 i0 (.int .i64 0) 1 8 Try.underlying22 hi hz0 hz1 hz2 rfl (by decide) (.slice none 0 0) 0 [] rfl (World.ownsRow_nil _ _ _ _) ⟨b, off, none⟩ m cap ((zs.take m).map (Value.int .i64)) rfl hq1 Hn.out (one_of_ints _) hq2 hq3 (Nat.le_refl _) ?_)
    intro v' w' hown hgrow _
    rw [← List.map_take] at hown
    obtain ⟨A', c', rfl, hZ⟩ := own_zl hown Hbd.out (by omega)
    have hb : Below w.heap.size w w' := (Below.refl _ _).grown hgrow (Nat.le_refl _) (fun k e => by cases e)
    clear hown hgrow
    go_wp2
    go_ret
    exact ⟨A', c', rfl, hZ, hb⟩

end Go.Proofs.Ytcklgdcjedikoaa
