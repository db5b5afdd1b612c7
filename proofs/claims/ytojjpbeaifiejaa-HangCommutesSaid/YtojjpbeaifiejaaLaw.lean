/-
  The walks of the law's own helpers: same, text.
-/
import Derived.Test.YtojjpbeaifiejaaList
namespace Go.Proofs.Ytojjpbeaifiejaa
open Go.RowKit Go.Shelf

theorem strs_eq (ss ts : List ByteArray) (n : Nat) (h1 : ss.length = n) (h2 : ts.length = n) (h : ∀ i, i < n → ss.getD i ByteArray.empty = ts.getD i ByteArray.empty) : ss = ts := by
  apply List.ext_getElem (by omega)
  intro i a b
  have := h i (by omega)
  simpa [List.getD_eq_getElem?_getD, List.getElem?_eq_getElem a, List.getElem?_eq_getElem b] using this

set_option maxRecDepth 100000 in
set_option maxHeartbeats 2000000 in
theorem same_any (A B : Option Addr) (n m c d : Nat) (ss ts : List ByteArray) (w : World) (hS : StrS w A n ss) (hT : StrS w B m ts) (hn : n ≤ 4611686018427387904) (hm : m ≤ 4611686018427387904) :
    Calls Try.prog 21 #[.slice A n c, .slice B m d] w fun e w' => e = .returned (.bool (decide (ss = ts))) ∧ Below w.heap.size w w' := by
  have Hls := Lib.hid hS.1
  have Hlt := Lib.hid hT.1
  have HS := Lib.hid hS.2
  have HT := Lib.hid hT.2
  clear hS hT
  go_enter Try.func21, Try.ntmps21
  by_cases he : n = m
  · subst he
    go_wp2_with fail
    go_loopw [5] (fun kv wr => ∃ k : Nat, k ≤ n ∧ kv = .int .i64 k ∧ Drew w wr ∧ ∀ i, i < k → ss.getD i ByteArray.empty = ts.getD i ByteArray.empty) (fun kv _ => n - (intOf kv).toNat)
    case atStart => exact ⟨0, Nat.zero_le _, rfl, Drew.refl _, fun i hi => absurd hi (Nat.not_lt_zero _)⟩
    case round =>
      obtain ⟨k, hk, rfl, hd, hall⟩ := hrel
      obtain ⟨q, rfl⟩ := hd
      have Hall := Lib.hid hall
      clear hall
      by_cases hlt : k < n
      · obtain ⟨b1, o1, rfl, hb1, hg1⟩ := HS.out (by omega)
        obtain ⟨b2, o2, rfl, hb2, hg2⟩ := HT.out (by omega)
        have hc1 := hg1 k hlt
        have hc2 := hg2 k hlt
        clear hg1 hg2
        have Hstep : Hid (ss.getD k ByteArray.empty = ts.getD k ByteArray.empty → ∀ i, i < k + 1 → ss.getD i ByteArray.empty = ts.getD i ByteArray.empty) := fun h i hi => by
          rcases Nat.lt_or_ge i k with g | g
          · exact Hall.out i g
          · obtain rfl : i = k := by omega
            exact h
        have Hne : Hid (ss.getD k ByteArray.empty ≠ ts.getD k ByteArray.empty → ¬ ss = ts) := fun h e => h (by rw [e])
        obtain ⟨x, hx⟩ : ∃ x, ss.getD k ByteArray.empty = x := ⟨_, rfl⟩
        obtain ⟨y, hy⟩ : ∃ y, ts.getD k ByteArray.empty = y := ⟨_, rfl⟩
        rw [hx] at hc1 Hstep Hne
        rw [hy] at hc2 Hstep Hne
        clear hx hy
        by_cases hxy : x = y
        · subst hxy
          have hbe : (x.toList == x.toList) = true := beq_self_eq_true _
          have hst := Hstep.out rfl
          have Hst := Lib.hid hst
          clear Hstep Hne hst
          go_wp2_with fail
          go_quiet (fail)
          go_wp2_with fail
          exact ⟨⟨k + 1, by omega, by go_num, ⟨_, rfl⟩, Hst.out⟩, by simp [intOf]; omega⟩
        · have hbe : (x.toList == y.toList) = false := by
            rw [beq_eq_false_iff_ne]
            intro e
            exact hxy (by
              rw [← strL_letters x, ← strL_letters y]
              unfold lettersOf
              rw [← ByteArray.toList_eq, ← ByteArray.toList_eq, e])
          have hss := Hne.out hxy
          have Hss := Lib.hid hss
          clear Hstep Hne hss
          go_wp2_with fail
          go_quiet (fail)
          go_wp2_with fail
          go_ret
          exact ⟨by rw [decide_eq_false Hss.out]; rfl, below_drewN (below_drewN (Below.refl _ _) _) _⟩
      · obtain rfl : k = n := by omega
        have hss : ss = ts := strs_eq ss ts k Hls.out Hlt.out Hall.out
        go_wp2_with fail
        go_ret
        exact ⟨by rw [decide_eq_true hss]; rfl, below_drewN (Below.refl _ _) q⟩
  · have hne : ((n : Int) == (m : Int)) = false := by
      have : ((n : Int) ≠ (m : Int)) := by omega
      simpa using this
    have hss : ¬ ss = ts := fun e => he (by rw [← Hls.out, ← Hlt.out, e])
    go_wp2_with fail
    go_ret
    exact ⟨by rw [decide_eq_false hss]; rfl, Below.refl _ _⟩

end Go.Proofs.Ytojjpbeaifiejaa
