/-
  The walks of Check, of both sides, on any list.
-/
import Derived.Test.YtgdaidmkcgblbaaRaw
import Derived.Test.YtgdaidmkcgblbaaCntM
namespace Go.Proofs.Ytgdaidmkcgblbaa
open Go.RowKit

/-- The first k are in range, and no two of them are the same. -/
def OkTo (zs : List Int) (k : Nat) : Prop := ∀ j, j < k → 0 ≤ zs.getD j 0 ∧ zs.getD j 0 < zs.length ∧ ∀ i, i < j → zs.getD i 0 ≠ zs.getD j 0
def ChkP (zs : List Int) : Prop := 1 ≤ zs.length ∧ zs.length ≤ 60 ∧ OkTo zs zs.length
theorem OkTo.succ {zs : List Int} {k : Nat} (h : OkTo zs k) (h1 : 0 ≤ zs.getD k 0) (h2 : zs.getD k 0 < zs.length) (h3 : ∀ i, i < k → zs.getD i 0 ≠ zs.getD k 0) : OkTo zs (k + 1) := by
  intro j hj
  by_cases e : j = k
  · subst e; exact ⟨h1, h2, h3⟩
  · exact h j (by omega)
theorem ChkP.perm {zs : List Int} (h : ChkP zs) : IsPerm (natsOf zs) := by
  obtain ⟨h1, h2, h3⟩ := h
  refine ⟨fun i hi => ?_, fun i j hi hj e => ?_⟩
  · rw [natsOf_length] at hi ⊢
    rw [natsOf_get zs i hi]
    have := h3 i hi
    omega
  · rw [natsOf_length] at hi hj
    rw [natsOf_get zs i hi, natsOf_get zs j hj] at e
    have hi' := h3 i hi
    have hj' := h3 j hj
    rcases Nat.lt_trichotomy i j with h | h | h
    · exact absurd (by omega) (hj'.2.2 i h)
    · exact h
    · exact absurd (by omega) (hi'.2.2 j h)
theorem ChkP.nonneg {zs : List Int} (h : ChkP zs) (i : Nat) (hi : i < zs.length) : 0 ≤ zs.getD i 0 := (h.2.2 i hi).1
theorem chk_sl {w : World} {A : Option Addr} {n : Nat} {zs : List Int} (h : Zl w A n zs) (hc : ChkP zs) : Sl .i64 w A n (natsOf zs) := by
  obtain ⟨h1, h2, h3, h4⟩ := h
  refine ⟨by rw [natsOf_length, h1], h2, fun hn => ?_⟩
  obtain ⟨b, off, e, hs, hcl⟩ := h4 hn
  refine ⟨b, off, e, hs, fun i hi => ?_⟩
  rw [hcl i hi, natsOf_get zs i (by omega), Int.toNat_of_nonneg (hc.nonneg i (by omega))]
theorem chk_of_perm {l : List Nat} (hp : IsPerm l) (h1 : 1 ≤ l.length) (h2 : l.length ≤ 60) : ChkP (l.map fun (x : Nat) => (x : Int)) := by
  have hg : ∀ i, i < l.length → (l.map fun (x : Nat) => (x : Int)).getD i 0 = (l.getD i 0 : Nat) := fun i hi => by simp [List.getD_eq_getElem?_getD, hi]
  refine ⟨by simpa using h1, by simpa using h2, fun j hj => ?_⟩
  rw [List.length_map] at hj ⊢
  rw [hg j hj]
  refine ⟨by omega, by have := hp.lt hj; omega, fun i hi e => ?_⟩
  rw [hg i (by omega)] at e
  have := hp.inj (i := i) (j := j) (by omega) hj (by omega)
  omega

/-- What Check returns. -/
def RetChk (zs : List Int) (w : World) (e : Ending) (w' : World) : Prop :=
  ((ChkP zs ∧ e = .returned (.int .i64 0)) ∨ (¬ ChkP zs ∧ e = .returned (.int .i64 20))) ∧ Below w.heap.size w w'

set_option maxRecDepth 100000 in
set_option maxHeartbeats 1000000 in
theorem check_any (A : Option Addr) (n cap : Nat) (zs : List Int) (w : World) (hZ : Zl w A n zs) :
    Calls Try.prog 16 #[.slice A n cap] w (RetChk zs w) := by
  have hl := hZ.1
  subst hl
  have hmax := hZ.2.1
  by_cases h1 : zs.length < 1
  · have d1 : decide ((zs.length : Int) < 1) = true := decide_eq_true (by omega)
    have Hno := Lib.hid (show ¬ ChkP zs from fun h => by have := h.1; omega)
    clear h1
    go_enter Try.func16, Try.ntmps16
    go_wp2
    go_ret
    exact ⟨.inr ⟨Hno.out, rfl⟩, Below.refl _ _⟩
  · have d1 : decide ((zs.length : Int) < 1) = false := decide_eq_false (by omega)
    by_cases h2 : 60 < zs.length
    · have d2 : decide ((60 : Int) < (zs.length : Int)) = true := decide_eq_true (by omega)
      have Hno := Lib.hid (show ¬ ChkP zs from fun h => by have := h.2.1; omega)
      clear h1 h2
      go_enter Try.func16, Try.ntmps16
      go_wp2
      go_ret
      exact ⟨.inr ⟨Hno.out, rfl⟩, Below.refl _ _⟩
    · have d2 : decide ((60 : Int) < (zs.length : Int)) = false := decide_eq_false (by omega)
      obtain ⟨b, off, rfl, hs, hc⟩ := hZ.2.2.2 (by omega)
      have Hc := Lib.hid hc
      clear hc hZ
      go_enter Try.func16, Try.ntmps16
      go_wp2
      go_loopw [16] (fun i wr => ∃ k : Nat, k ≤ zs.length ∧ i = .int .i64 k ∧ ∃ f : Nat → Bool, Blk wr w.heap.size 81 (flags f) ∧ (∀ v : Nat, f v = true ↔ ∃ j, j < k ∧ zs.getD j 0 = (v : Int)) ∧ OkTo zs k ∧ Below w.heap.size w wr) (fun i _ => zs.length - (intOf i).toNat)
      case atStart =>
        refine ⟨0, Nat.zero_le _, rfl, fun _ => false, ?_, fun v => ⟨fun h => absurd h (by simp), fun ⟨j, h, _⟩ => absurd h (by omega)⟩, fun j h => absurd h (by omega), (Below.refl _ _).alloc (Nat.le_refl _) _⟩
        exact (heap_alloc_new w _).trans (congrArg (fun x => some (Obj.cells x 81 (0, 0))) (by rfl))
      case round =>
        obtain ⟨k, hk, rfl, f, hblk, hf, hok, hbel⟩ := hrel
        have Hf := Lib.hid hf
        have Hok := Lib.hid hok
        clear hf hok
        by_cases hlt : k < zs.length
        · have hck := (hbel.cell (p := ⟨b, off + k, none⟩) hs).trans (Hc.out k hlt)
          by_cases hz1 : zs.getD k 0 < 0
          · have Hno := Lib.hid (show ¬ ChkP zs from fun h => by have := h.nonneg k hlt; omega)
            generalize zs.getD k 0 = z at *
            have d3 : decide (z < 0) = true := decide_eq_true hz1
            clear hz1
            go_wp2
            go_ret
            exact ⟨.inr ⟨Hno.out, rfl⟩, hbel⟩
          · by_cases hz2 : (zs.length : Int) ≤ zs.getD k 0
            · have Hno := Lib.hid (show ¬ ChkP zs from fun h => by have := (h.2.2 k hlt).2.1; omega)
              generalize zs.getD k 0 = z at *
              have d3 : decide (z < 0) = false := decide_eq_false hz1
              have d4 : decide ((zs.length : Int) ≤ z) = true := decide_eq_true hz2
              clear hz1 hz2
              go_wp2
              go_ret
              exact ⟨.inr ⟨Hno.out, rfl⟩, hbel⟩
            · obtain ⟨v, hv⟩ : ∃ v : Nat, zs.getD k 0 = (v : Int) := ⟨(zs.getD k 0).toNat, by omega⟩
              have hv60 : v < 60 := by omega
              have hvl : v < zs.length := by omega
              have hcf : wr.cell? ⟨w.heap.size, v, none⟩ = some (.bool (f v)) := by rw [hblk.cell, flags_get f _ hv60]
              have hff := hblk.free v
              rw [hv] at hck
              have d3 : decide (((v : Nat) : Int) < 0) = false := decide_eq_false (by omega)
              have d4 : decide ((zs.length : Int) ≤ (v : Int)) = false := decide_eq_false (by omega)
              cases hfv : f v with
              | true =>
                rw [hfv] at hcf
                have Hno := Lib.hid (show ¬ ChkP zs from fun h => by
                  obtain ⟨j, hj, ej⟩ := (Hf.out v).1 hfv
                  exact (h.2.2 k hlt).2.2 j hj (by rw [ej, hv]))
                clear hfv hv hz1 hz2
                go_wp2
                go_ret
                exact ⟨.inr ⟨Hno.out, rfl⟩, hbel⟩
              | false =>
                rw [hfv] at hcf
                have Hput := Lib.hid ((flags_set f v) ▸ hblk.store v (.bool true))
                have Hk := Lib.hid (show ∀ u : Nat, (decide (u = v) || f u) = true ↔ ∃ j, j < k + 1 ∧ zs.getD j 0 = (u : Int) by
                  intro u
                  constructor
                  · intro h
                    rcases Bool.or_eq_true_iff.1 h with h | h
                    · exact ⟨k, by omega, by rw [hv, of_decide_eq_true h]⟩
                    · obtain ⟨j, hj, ej⟩ := (Hf.out u).1 h
                      exact ⟨j, by omega, ej⟩
                  · rintro ⟨j, hj, ej⟩
                    by_cases e : j = k
                    · subst e
                      rw [hv] at ej
                      have : u = v := by omega
                      simp [this]
                    · rw [(Hf.out u).2 ⟨j, by omega, ej⟩]; simp)
                have Hok2 := Lib.hid (Hok.out.succ (k := k) (by omega) (by omega) (fun i hi e => by
                  have := (Hf.out v).2 ⟨i, hi, by rw [e, hv]⟩
                  rw [hfv] at this
                  exact absurd this (by decide)))
                clear hfv hv hz1 hz2
                go_wp2
                go_roundw
                case rel => exact ⟨k + 1, by omega, by go_num, _, Hput.out, Hk.out, Hok2.out, hbel.setCell (Nat.le_refl _) _⟩
                case measure => simp [intOf]; omega
        · obtain rfl : k = zs.length := by omega
          have Hyes := Lib.hid (show ChkP zs from ⟨by omega, by omega, Hok.out⟩)
          go_wp2
          go_ret
          exact ⟨.inl ⟨Hyes.out, rfl⟩, hbel⟩

/-- Flags as cells, as many as there are. -/
def flagsN (n : Nat) (f : Nat → Bool) : Array Value := ((List.range n).map fun i => Value.bool (f i)).toArray
theorem flagsN_get (n : Nat) (f : Nat → Bool) (i : Nat) (h : i < n) : (flagsN n f)[i]? = some (.bool (f i)) := by simp [flagsN, h]
theorem flagsN_set (n : Nat) (f : Nat → Bool) (i : Nat) : (flagsN n f).setIfInBounds i (.bool true) = flagsN n fun k => decide (k = i) || f k := by
  apply Array.ext
  · simp [flagsN]
  · intro j h1 h2
    simp only [flagsN, List.setIfInBounds_toArray, List.getElem_toArray, List.getElem_set, List.getElem_map, List.getElem_range]
    by_cases e : i = j
    · subst e; simp
    · simp [e]; intro h; exact absurd h.symm e
theorem flagsN_made (n : Nat) : madeCells (Value.bool false).cells n = flagsN n fun _ => false := by
  unfold madeCells flagsN Value.cells
  apply Array.ext
  · simp
  · intro i h1 h2
    simp [Nat.mod_one]
theorem info_bool : (Try.prog.info? 4).map (fun i => (i.zero, i.size, i.bytes)) = some (some (.bool false), 1, 1) := by kernel_rfl
theorem run_makeBools (n : Nat) (hn : n ≤ 60) (w : World) :
    (Instr.makeSlice 80 (.int .i64 (n : Int)) (.int .i64 (n : Int))).run Try.prog w = .ok (.slice (some ⟨w.heap.size, 0, none⟩) n n) (w.alloc (.cells (flagsN n fun _ => false) 4)) := by
  obtain ⟨i0, h0, hz, hs, hb⟩ := info_parts info_bool
  have hr := run_make (P := Try.prog) w 80 4 i0 _ Try.underlying80 h0 hz .i64 .i64 n n (by omega) (by omega) (by rw [hb]; omega) (by omega)
  rw [hs, Nat.mul_one, Int.toNat_natCast, flagsN_made] at hr
  exact hr

set_option maxRecDepth 100000 in
set_option maxHeartbeats 1000000 in
theorem rcheck_any (A : Option Addr) (n cap : Nat) (zs : List Int) (w : World) (hZ : Zl w A n zs) :
    Calls Try.prog 15 #[.slice A n cap] w (RetChk zs w) := by
  have hl := hZ.1
  subst hl
  have hmax := hZ.2.1
  by_cases h1 : zs.length < 1
  · have d1 : decide ((zs.length : Int) < 1) = true := decide_eq_true (by omega)
    have Hno := Lib.hid (show ¬ ChkP zs from fun h => by have := h.1; omega)
    clear h1
    go_enter Try.func15, Try.ntmps15
    go_wp2
    go_ret
    exact ⟨.inr ⟨Hno.out, rfl⟩, Below.refl _ _⟩
  · have d1 : decide ((zs.length : Int) < 1) = false := decide_eq_false (by omega)
    by_cases h2 : 60 < zs.length
    · have d2 : decide ((60 : Int) < (zs.length : Int)) = true := decide_eq_true (by omega)
      have Hno := Lib.hid (show ¬ ChkP zs from fun h => by have := h.2.1; omega)
      clear h1 h2
      go_enter Try.func15, Try.ntmps15
      go_wp2
      go_ret
      exact ⟨.inr ⟨Hno.out, rfl⟩, Below.refl _ _⟩
    · have d2 : decide ((60 : Int) < (zs.length : Int)) = false := decide_eq_false (by omega)
      obtain ⟨b, off, rfl, hs, hc⟩ := hZ.2.2.2 (by omega)
      have Hc := Lib.hid hc
      have hmk := fun W : World => run_makeBools zs.length (by omega) W
      clear hc hZ
      go_enter Try.func15, Try.ntmps15
      go_wp2
      go_loopw [4] (fun i wr => ∃ k : Nat, k ≤ zs.length ∧ i = .int .i64 k ∧ ∃ f : Nat → Bool, Blk wr w.heap.size 4 (flagsN zs.length f) ∧ (∀ v : Nat, f v = true ↔ ∃ j, j < k ∧ zs.getD j 0 = (v : Int)) ∧ OkTo zs k ∧ Below w.heap.size w wr) (fun i _ => zs.length - (intOf i).toNat)
      case atStart => exact ⟨0, Nat.zero_le _, rfl, fun _ => false, Blk.new w _ _, fun v => ⟨fun h => absurd h (by simp), fun ⟨j, h, _⟩ => absurd h (by omega)⟩, fun j h => absurd h (by omega), (Below.refl _ _).alloc (Nat.le_refl _) _⟩
      case round =>
        obtain ⟨k, hk, rfl, f, hblk, hf, hok, hbel⟩ := hrel
        have Hf := Lib.hid hf
        have Hok := Lib.hid hok
        clear hf hok hmk
        by_cases hlt : k < zs.length
        · have hck := (hbel.cell (p := ⟨b, off + k, none⟩) hs).trans (Hc.out k hlt)
          by_cases hz1 : zs.getD k 0 < 0
          · have Hno := Lib.hid (show ¬ ChkP zs from fun h => by have := h.nonneg k hlt; omega)
            generalize zs.getD k 0 = z at *
            have d3 : decide (z < 0) = true := decide_eq_true hz1
            clear hz1
            go_wp2
            go_ret
            exact ⟨.inr ⟨Hno.out, rfl⟩, hbel⟩
          · by_cases hz2 : (zs.length : Int) ≤ zs.getD k 0
            · have Hno := Lib.hid (show ¬ ChkP zs from fun h => by have := (h.2.2 k hlt).2.1; omega)
              generalize zs.getD k 0 = z at *
              have d3 : decide (z < 0) = false := decide_eq_false hz1
              have d4 : decide ((zs.length : Int) ≤ z) = true := decide_eq_true hz2
              clear hz1 hz2
              go_wp2
              go_ret
              exact ⟨.inr ⟨Hno.out, rfl⟩, hbel⟩
            · obtain ⟨v, hv⟩ : ∃ v : Nat, zs.getD k 0 = (v : Int) := ⟨(zs.getD k 0).toNat, by omega⟩
              have hvl : v < zs.length := by omega
              have hcf : wr.cell? ⟨w.heap.size, v, none⟩ = some (.bool (f v)) := by rw [hblk.cell, flagsN_get _ f _ hvl]
              have hff := hblk.free v
              rw [hv] at hck
              have d3 : decide (((v : Nat) : Int) < 0) = false := decide_eq_false (by omega)
              have d4 : decide ((zs.length : Int) ≤ (v : Int)) = false := decide_eq_false (by omega)
              cases hfv : f v with
              | true =>
                rw [hfv] at hcf
                have Hno := Lib.hid (show ¬ ChkP zs from fun h => by
                  obtain ⟨j, hj, ej⟩ := (Hf.out v).1 hfv
                  exact (h.2.2 k hlt).2.2 j hj (by rw [ej, hv]))
                clear hfv hv hz1 hz2
                go_wp2
                go_ret
                exact ⟨.inr ⟨Hno.out, rfl⟩, hbel⟩
              | false =>
                rw [hfv] at hcf
                have Hput := Lib.hid ((flagsN_set zs.length f v) ▸ hblk.store v (.bool true))
                have Hk := Lib.hid (show ∀ u : Nat, (decide (u = v) || f u) = true ↔ ∃ j, j < k + 1 ∧ zs.getD j 0 = (u : Int) by
                  intro u
                  constructor
                  · intro h
                    rcases Bool.or_eq_true_iff.1 h with h | h
                    · exact ⟨k, by omega, by rw [hv, of_decide_eq_true h]⟩
                    · obtain ⟨j, hj, ej⟩ := (Hf.out u).1 h
                      exact ⟨j, by omega, ej⟩
                  · rintro ⟨j, hj, ej⟩
                    by_cases e : j = k
                    · subst e
                      rw [hv] at ej
                      have : u = v := by omega
                      simp [this]
                    · rw [(Hf.out u).2 ⟨j, by omega, ej⟩]; simp)
                have Hok2 := Lib.hid (Hok.out.succ (k := k) (by omega) (by omega) (fun i hi e => by
                  have := (Hf.out v).2 ⟨i, hi, by rw [e, hv]⟩
                  rw [hfv] at this
                  exact absurd this (by decide)))
                clear hfv hv hz1 hz2
                go_wp2
                go_roundw
                case rel => exact ⟨k + 1, by omega, by go_num, _, Hput.out, Hk.out, Hok2.out, hbel.setCell (Nat.le_refl _) _⟩
                case measure => simp [intOf]; omega
        · obtain rfl : k = zs.length := by omega
          have Hyes := Lib.hid (show ChkP zs from ⟨by omega, by omega, Hok.out⟩)
          go_wp2
          go_ret
          exact ⟨.inl ⟨Hyes.out, rfl⟩, hbel⟩

end Go.Proofs.Ytgdaidmkcgblbaa
