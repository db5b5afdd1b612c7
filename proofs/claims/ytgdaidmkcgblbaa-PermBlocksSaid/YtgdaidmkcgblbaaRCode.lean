/-
  The walks of Code, Inversions, Factorial and Rank of the reference, and of Rank.
-/
import Derived.Test.YtgdaidmkcgblbaaInvs
import Derived.Test.YtgdaidmkcgblbaaInvC
namespace Go.Proofs.Ytgdaidmkcgblbaa
open Go.RowKit

/-- A grown row of numbers. -/
def RetOwn (l : List Nat) (w : World) (e : Ending) (w' : World) : Prop :=
  ∃ g cap, e = .returned (.slice (some ⟨g, 0, none⟩) l.length cap) ∧ w'.ownsRow w.heap.size 3 1 (.slice (some ⟨g, 0, none⟩) l.length cap) l.length (nums .i64 l) ∧ Below w.heap.size w w'

/-- Of the k positions behind i those that hold less. -/
def rowCnt (p : List Nat) (i k : Nat) : Nat := (rowOf p i (List.range' (i + 1) k)).length
theorem rowCnt_zero (p : List Nat) (i : Nat) : rowCnt p i 0 = 0 := by simp [rowCnt, rowOf]
theorem rowCnt_yes (p : List Nat) (i k : Nat) (h : p.getD (i + 1 + k) 0 < p.getD i 0) : rowCnt p i (k + 1) = rowCnt p i k + 1 := by
  unfold rowCnt
  rw [List.range'_1_concat, rowOf_snoc_yes p i _ _ h, List.length_append, List.length_singleton]
theorem rowCnt_no (p : List Nat) (i k : Nat) (h : ¬ p.getD (i + 1 + k) 0 < p.getD i 0) : rowCnt p i (k + 1) = rowCnt p i k := by
  unfold rowCnt
  rw [List.range'_1_concat, rowOf_snoc_no p i _ _ h]
theorem rowCnt_le (p : List Nat) (i k : Nat) : rowCnt p i k ≤ k := by
  have := rowOf_length p i (List.range' (i + 1) k)
  rwa [List.length_range'] at this
theorem codeL_cnt (p : List Nat) (i : Nat) (h : i < p.length) : (codeL p).getD i 0 = rowCnt p i (p.length - (i + 1)) := codeL_get p i h
theorem codeL_valid (p : List Nat) : ValidC (codeL p) := by
  intro i hi
  rw [codeL_length] at hi ⊢
  rw [codeL_cnt p i hi]
  have := rowCnt_le p i (p.length - (i + 1))
  omega

set_option maxRecDepth 100000 in
set_option maxHeartbeats 1000000 in
theorem rcode_any (b off n cap : Nat) (p : List Nat) (w : World) (hS : Sl .i64 w (some ⟨b, off, none⟩) n p) (hn : n ≤ 60) (h0 : 0 < n) :
    Calls Try.prog 36 #[.slice (some ⟨b, off, none⟩) n cap] w (RetOwn (codeL p) w) := by
  have hl := hS.len
  subst hl
  obtain ⟨i0, hi, hz0, hz1, hz2⟩ := info_parts info_int'
  obtain ⟨b', off', e, hs, hc⟩ := hS.at h0
  injection e with e
  injection e with e1 e2
  subst e1 e2
  have Hc := Lib.hid hc
  clear hc hS
  go_enter Try.func36, Try.ntmps36
  go_wp2
  go_loopw [3, 4] (fun v i wr => ∃ k : Nat, k ≤ p.length ∧ i = .int .i64 k ∧ wr.ownsRow w.heap.size 3 1 v k (nums .i64 ((codeL p).take k)) ∧ Below w.heap.size w wr) (fun _ i _ => p.length - (intOf i).toNat)
  case atStart => exact ⟨0, Nat.zero_le _, rfl, ⟨by simp [nums], .inl ⟨rfl, rfl⟩⟩, Below.refl _ _⟩
  case round =>
    obtain ⟨k, hk, rfl, hown, hbel⟩ := hrel
    by_cases hlt : k < p.length
    · have ck := (hbel.cell (p := ⟨b, off + k, none⟩) hs).trans (Hc.out k hlt)
      have Hck := Lib.hid ck
      have Hnext := Lib.hid (show nums .i64 ((codeL p).take k) ++ [.int .i64 ((rowCnt p k (p.length - (k + 1)) : Nat) : Int)] = nums .i64 ((codeL p).take (k + 1)) by
        rw [nums_snoc, take_snoc (codeL p) k (by rw [codeL_length]; exact hlt), codeL_cnt p k hlt])
      have HB := Lib.hid hbel
      have Hown := Lib.hid hown
      generalize hx : p.getD k 0 = x at *
      have Hx := Lib.hid hx
      clear hx ck hown
      go_wp2
      obtain ⟨wo, rfl⟩ : ∃ wo : World, wo = wr := ⟨_, rfl⟩
      go_loopw [5, 6] (fun c i wr => ∃ j : Nat, j ≤ p.length - (k + 1) ∧ i = .int .i64 (k + 1 + j : Nat) ∧ c = .int .i64 (rowCnt p k j : Nat) ∧ Drew wo wr) (fun _ i _ => p.length - (intOf i).toNat)
      case atStart => exact ⟨0, Nat.zero_le _, by go_num, by rw [rowCnt_zero]; rfl, Drew.refl _⟩
      case round =>
        obtain ⟨j, hj, rfl, rfl, q, rfl⟩ := hrel
        by_cases hjl : k + 1 + j < p.length
        · have cj := (HB.out.cell (p := ⟨b, off + (k + 1 + j), none⟩) hs).trans (Hc.out (k + 1 + j) hjl)
          have ck := Hck.out
          have hle := rowCnt_le p k j
          have hyes := rowCnt_yes p k j
          have hno := rowCnt_no p k j
          rw [Hx.out] at hyes hno
          have Hyes := Lib.hid hyes
          have Hno := Lib.hid hno
          clear hyes hno
          generalize p.getD (k + 1 + j) 0 = y at *
          generalize rowCnt p k j = c at *
          by_cases hyx : y < x
          · have Hy := Lib.hid (Hyes.out hyx)
            go_wp2
            go_quiet (fail)
            go_wp2
            go_roundw
            case rel => exact ⟨j + 1, by omega, by go_num, by rw [Hy.out]; go_num, by exact ⟨_, rfl⟩⟩
            case measure => simp [intOf]; omega
          · have Hy := Lib.hid (Hno.out hyx)
            go_wp2
            go_quiet (fail)
            go_wp2
            go_roundw
            case rel => exact ⟨j + 1, by omega, by go_num, by rw [Hy.out], by exact ⟨_, rfl⟩⟩
            case measure => simp [intOf]; omega
        · obtain rfl : j = p.length - (k + 1) := by omega
          have hown2 : (wo.drewN q).ownsRow w.heap.size 3 1 _ k (nums .i64 ((codeL p).take k)) := Hown.out
          have hbel2 := below_drewN HB.out q
          have hsz : w.heap.size ≤ (wo.drewN q).heap.size := hbel2.size
          generalize rowCnt p k (p.length - (k + 1)) = c at *
          generalize wo.drewN q = X at *
          go_wp2_with (at_builtin; refine wpList_append_own _ rfl _ _ 22 rfl w.heap.size 3 i0 (.int .i64 0) 1 8 Try.underlying22 hi hz0 hz1 hz2 rfl (by decide) _ _ _ rfl (hown2.alloc _) ⟨X.heap.size, 0, none⟩ 1 1 [.int .i64 (c : Nat)] rfl rfl ?c1 ?c2 ?c3 ?c4 ?c5 ?_)
          case c1 => exact cell_one_new _ _ _
          case c2 => exact one_cell _ rfl
          case c3 => unfold maxLen; omega
          case c4 => omega
          case c5 => simp; omega
          intro v' w1 hown' hgrow _
          have hb' := hbel2.trans (own_below hown2 hsz hgrow)
          rw [Hnext.out] at hown'
          go_wp2
          go_roundw
          case rel => exact ⟨k + 1, by omega, by go_num, hown', hb'⟩
          case measure => simp [intOf]; omega
    · obtain rfl : k = p.length := by omega
      rw [List.take_of_length_le (by rw [codeL_length]; exact Nat.le_refl _)] at hown
      obtain ⟨g, cap2, rfl⟩ := own_pos hown h0
      go_wp2
      go_ret
      exact ⟨g, cap2, by rw [codeL_length]; rfl, by rw [codeL_length]; exact hown, hbel⟩

theorem rfactorial_any (n : Nat) (w : World) (hn : n ≤ 20) : Calls Try.prog 41 #[.int .i64 n] w fun e w' => e = .returned (.int .i64 (facN n)) ∧ w = w' := by
  go_enter Try.func41, Try.ntmps41
  go_wp2
  go_loop [3, 4] (fun o i => ∃ k : Nat, i = .int .i64 (k + 2 : Nat) ∧ k ≤ 19 ∧ (k + 1 ≤ n ∨ k = 0) ∧ o = .int .i64 (facN (k + 1))) (fun _ i => 22 - (intOf i).toNat)
  case atStart => exact ⟨0, rfl, by omega, .inr rfl, rfl⟩
  case round =>
    obtain ⟨k, rfl, hk, hkn, rfl⟩ := hrel
    by_cases hlt : k + 2 ≤ n
    · have h2 := facN_small (k + 2) (by omega)
      have e : facN (k + 2) = facN (k + 1) * (k + 2) := rfl
      have He := Lib.hid e
      rw [e] at h2
      generalize facN (k + 1) = f at *
      have hw := i64_mul h2
      have hw' : wrap64 ((f : Int) * ((k : Int) + 2)) = ((f * (k + 2) : Nat) : Int) := by
        have e3 : (f : Int) * ((k : Int) + 2) = ((f * (k + 2) : Nat) : Int) := by simp
        rw [e3]; exact IntWalk.wrap64_in _ (by omega)
      clear e
      go_wp2
      go_round
      case rel => exact ⟨k + 1, by go_num, by omega, by omega, by rw [He.out]; exact congrArg (Value.int IntKind.i64) hw'⟩
      case measure => simp [intOf]; omega
    · have hf : facN (k + 1) = facN n := by
        rcases hkn with h | h
        · rw [show k + 1 = n by omega]
        · subst h
          rcases (show n = 0 ∨ n = 1 by omega) with h | h <;> subst h <;> rfl
      have Hf := Lib.hid hf
      clear hf hkn
      generalize facN (k + 1) = f at *
      go_wp2
      go_ret
      exact ⟨ret_int (by rw [Hf.out]), rfl⟩

theorem sumTo_le {c : List Nat} (hv : ValidC c) : ∀ k, k ≤ c.length → sumTo c k ≤ k * c.length
  | 0, _ => by simp [sumTo]
  | k + 1, h => by
    have h1 := sumTo_le hv k (by omega)
    have h2 := hv k (by omega)
    have h3 : (k + 1) * c.length = k * c.length + c.length := Nat.succ_mul _ _
    show sumTo c k + c.getD k 0 ≤ _
    omega

set_option maxRecDepth 100000 in
theorem rinversions_any (b off n cap : Nat) (p : List Nat) (w : World) (hS : Sl .i64 w (some ⟨b, off, none⟩) n p) (hn : n ≤ 60) (h0 : 0 < n) :
    Calls Try.prog 35 #[.slice (some ⟨b, off, none⟩) n cap] w fun e w' => e = .returned (.int .i64 (sumTo (codeL p) n : Nat)) ∧ Below w.heap.size w w' := by
  have hl := hS.len
  subst hl
  have Hcode := Lib.hid (rcode_any b off p.length cap p w hS hn h0)
  have hv := codeL_valid p
  have hle := fun k hk => sumTo_le hv k hk
  have hcl := codeL_length p
  unfold RetOwn at Hcode
  rw [hcl] at Hcode hle
  have hnn : p.length * p.length ≤ 60 * 60 := Nat.mul_le_mul hn hn
  have Hle := Lib.hid (show ∀ k, k ≤ p.length → sumTo (codeL p) k ≤ 3600 by
    intro k hk
    have h1 := hle k hk
    have h2 : k * p.length ≤ p.length * p.length := Nat.mul_le_mul_right _ hk
    omega)
  clear hle hv hS hcl hnn
  generalize codeL p = c at *
  go_enter Try.func35, Try.ntmps35
  go_wp2_with (go_at_call 36; refine Hcode.out.mono ?_; rintro e w1 ⟨g, cp, rfl, hown, hb1⟩)
  go_loop [3, 5] (fun s i => ∃ k : Nat, k ≤ p.length ∧ i = .int .i64 k ∧ s = .int .i64 (sumTo c k : Nat)) (fun _ i => p.length - (intOf i).toNat)
  case atStart => exact ⟨0, Nat.zero_le _, rfl, rfl⟩
  case round =>
    obtain ⟨k, hk, rfl, rfl⟩ := hrel
    have h1 := Hle.out k hk
    by_cases hlt : k < p.length
    · have hck := own_num hown k hlt
      have h2 := Hle.out (k + 1) hlt
      have Hs := Lib.hid (show sumTo c (k + 1) = sumTo c k + c.getD k 0 from rfl)
      rw [Hs.out] at h2
      generalize sumTo c k = s at *
      generalize c.getD k 0 = x at *
      clear hown
      go_wp2
      go_round
      case rel => exact ⟨k + 1, by omega, by go_num, by rw [Hs.out]; go_num⟩
      case measure => simp [intOf]; omega
    · obtain rfl : k = p.length := by omega
      clear hown
      go_wp2
      go_ret
      exact ⟨rfl, hb1⟩

set_option maxRecDepth 100000 in
theorem rank_any (b off n cap : Nat) (p : List Nat) (w : World) (hS : Sl .i64 w (some ⟨b, off, none⟩) n p) (hp : IsPerm p) (hn : n ≤ 20) (h0 : 0 < n) :
    Calls Try.prog 27 #[.slice (some ⟨b, off, none⟩) n cap] w fun e w' => e = .returned (.tuple #[.int .i64 (rankTo (codeL p) n : Nat), .int .i64 0]) ∧ Below w.heap.size w w' := by
  have hl := hS.len
  subst hl
  have Hchk := Lib.hid (check_perm b off p.length cap p w hS hp (by omega) h0)
  have Hcode := Lib.hid (fun W (hW : Sl .i64 W (some ⟨b, off, none⟩) p.length p) => code_any b off p.length cap p W hW hp (by omega) h0)
  unfold RetRow at Hcode
  have hv := codeL_valid p
  have hcl := codeL_length p
  rw [hcl] at Hcode
  have HS := Lib.hid hS
  have hf := facN_small p.length hn
  have Hlt := Lib.hid (show ∀ k, k ≤ p.length → hornTo (codeL p) k < 9223372036854775807 by
    intro k hk
    have := horn_lt hv k (by rw [hcl]; exact hk)
    rw [hcl] at this
    omega)
  have Hend := Lib.hid (show hornTo (codeL p) p.length = rankTo (codeL p) p.length by have := horn_end (codeL p); rwa [hcl] at this)
  have Hstep := Lib.hid (show ∀ k, hornTo (codeL p) (k + 1) = hornTo (codeL p) k * (p.length - k) + (codeL p).getD k 0 by
    intro k
    show _ * ((codeL p).length - k) + _ = _
    rw [hcl])
  have Hcl := Lib.hid hcl
  clear hS hv hcl hf
  generalize codeL p = c at *
  go_enter Try.func27, Try.ntmps27
  go_wp2_with (first
    | (go_at_call 16; refine Hchk.out.mono ?_; rintro e w1 ⟨rfl, hb1⟩)
    | (go_at_call 72; refine (Hcode.out _ (HS.out.below hb1)).mono ?_; rintro e w2 ⟨g, rfl, hg, hblk, hb2⟩))
  go_loop [5, 19] (fun s i => ∃ k : Nat, k ≤ p.length ∧ i = .int .i64 k ∧ s = .int .i64 (hornTo c k : Nat)) (fun _ i => p.length - (intOf i).toNat)
  case atStart => exact ⟨0, Nat.zero_le _, rfl, rfl⟩
  case round =>
    obtain ⟨k, hk, rfl, rfl⟩ := hrel
    by_cases hlt : k < p.length
    · have hck := hblk.num k (by rw [Hcl.out]; exact hlt)
      have h2 := Hlt.out (k + 1) hlt
      have Hs := Lib.hid (Hstep.out k)
      rw [Hs.out] at h2
      generalize hornTo c k = s at *
      generalize c.getD k 0 = x at *
      clear hblk
      have hm : s * (p.length - k) < 9223372036854775807 := by omega
      have e1 : ((p.length : Int) - (k : Int)) = ((p.length - k : Nat) : Int) := by omega
      have hw1 := i64_mul hm
      have hw2 : wrap64 ((s : Int) * ((p.length : Int) - (k : Int))) = ((s * (p.length - k) : Nat) : Int) := by
        rw [e1, show (s : Int) * ((p.length - k : Nat) : Int) = ((s * (p.length - k) : Nat) : Int) by simp]
        exact IntWalk.wrap64_in _ (by omega)
      generalize s * (p.length - k) = m at *
      have hw3 : wrap64 ((m : Int) + (x : Int)) = ((m + x : Nat) : Int) := by rw [IntWalk.wrap64_in _ (by omega)]; omega
      clear hw1 e1
      go_wp2
      go_round
      case rel => exact ⟨k + 1, by omega, by go_num, by rw [Hs.out]; first | go_num | trace_state⟩
      case measure => simp [intOf]; omega
    · obtain rfl : k = p.length := by omega
      have He := Hend
      generalize hornTo c p.length = s at *
      clear hblk
      go_wp2
      go_ret2
      exact ⟨by rw [He.out]; rfl, hb1.trans (hb2.mono hb1.size)⟩

set_option maxRecDepth 100000 in
theorem rank_long (b off n cap : Nat) (p : List Nat) (w : World) (hS : Sl .i64 w (some ⟨b, off, none⟩) n p) (hp : IsPerm p) (hn : n ≤ 60) (h20 : 20 < n) :
    Calls Try.prog 27 #[.slice (some ⟨b, off, none⟩) n cap] w fun e w' => e = .returned (.tuple #[.int .i64 0, .int .i64 2]) ∧ Below w.heap.size w w' := by
  have hl := hS.len
  subst hl
  have Hchk := Lib.hid (check_perm b off p.length cap p w hS hp (by omega) (by omega))
  clear hS
  go_enter Try.func27, Try.ntmps27
  go_wp2_with (go_at_call 16; refine Hchk.out.mono ?_; rintro e w1 ⟨rfl, hb1⟩)
  go_ret2
  exact ⟨rfl, hb1⟩

set_option maxRecDepth 100000 in
set_option maxHeartbeats 1000000 in
theorem rrank_any (b off n cap : Nat) (p : List Nat) (w : World) (hS : Sl .i64 w (some ⟨b, off, none⟩) n p) (hn : n ≤ 20) (h0 : 0 < n) :
    Calls Try.prog 37 #[.slice (some ⟨b, off, none⟩) n cap] w fun e w' => e = .returned (.int .i64 (rankTo (codeL p) n : Nat)) ∧ Below w.heap.size w w' := by
  have hl := hS.len
  subst hl
  have Hcode := Lib.hid (rcode_any b off p.length cap p w hS (by omega) h0)
  have hv := codeL_valid p
  have hcl := codeL_length p
  unfold RetOwn at Hcode
  rw [hcl] at Hcode
  have hf := facN_small p.length hn
  have Hlt := Lib.hid (show ∀ k, k ≤ p.length → rankTo (codeL p) k < 9223372036854775807 by
    intro k hk
    have := rank_lt hv k (by rw [hcl]; exact hk)
    rw [hcl] at this
    omega)
  have Hstep := Lib.hid (show ∀ k, rankTo (codeL p) (k + 1) = rankTo (codeL p) k + (codeL p).getD k 0 * facN (p.length - 1 - k) by
    intro k
    show _ + _ * facN ((codeL p).length - 1 - k) = _
    rw [hcl])
  clear hS hv hcl hf
  generalize codeL p = c at *
  go_enter Try.func37, Try.ntmps37
  go_wp2_with (go_at_call 36; refine Hcode.out.mono ?_; rintro e w1 ⟨g, cp, rfl, hown, hb1⟩)
  go_loopw [4, 5] (fun s i wr => ∃ k : Nat, k ≤ p.length ∧ i = .int .i64 k ∧ s = .int .i64 (rankTo c k : Nat) ∧ Drew w1 wr) (fun _ i _ => p.length - (intOf i).toNat)
  case atStart => exact ⟨0, Nat.zero_le _, rfl, rfl, Drew.refl _⟩
  case round =>
    obtain ⟨k, hk, rfl, rfl, q, rfl⟩ := hrel
    by_cases hlt : k < p.length
    · have hck : (w1.drewN q).cell? ⟨g, k, none⟩ = _ := own_num hown k hlt
      have hD : Drew w1 (w1.drewN q) := ⟨q, rfl⟩
      have h2 := Hlt.out (k + 1) hlt
      have Hs := Lib.hid (Hstep.out k)
      rw [Hs.out] at h2
      have Hfac := Lib.hid (fun W => (rfactorial_any (p.length - 1 - k) W (by omega)).mono fun _ _ h => (show _ ∧ _ = _ from ⟨h.1, h.2.symm⟩))
      generalize rankTo c k = s at *
      generalize c.getD k 0 = x at *
      generalize facN (p.length - 1 - k) = f at *
      have hm : x * f < 9223372036854775807 := by omega
      have hw1 := i64_mul hm
      have e0 : (x : Int) * (f : Int) = ((x * f : Nat) : Int) := by simp
      have hw2 : wrap64 ((x : Int) * (f : Int)) = ((x * f : Nat) : Int) := by
        rw [e0]; exact IntWalk.wrap64_in _ (by omega)
      have hw5 : IntKind.i64.wrap ((s : Int) + (x : Int) * (f : Int)) = ((s + x * f : Nat) : Int) := by
        rw [e0, IntWalk.i64_in _ (by omega)]; omega
      have i1 : IntKind.i64.wrap ((p.length : Int) - 1) = (p.length : Int) - 1 := IntWalk.i64_in _ (by omega)
      have i2 : IntKind.i64.wrap ((p.length : Int) - 1 - (k : Int)) = ((p.length - 1 - k : Nat) : Int) := by rw [IntWalk.i64_in _ (by omega)]; omega
      clear e0 hw2 hown
      generalize w1.drewN q = X at *
      go_wp2
      go_quiet ((go_at_call 41; exact Calls.quiet_of_same (Hfac.out _)))
      go_wp2
      go_roundw
      case rel => exact ⟨k + 1, by omega, by go_num, by rw [Hs.out]; first | done | go_num | trace_state, hD.drewN _⟩
      case measure => simp [intOf]; omega
    · obtain rfl : k = p.length := by omega
      clear hown
      go_wp2
      go_ret
      exact ⟨rfl, below_drewN hb1 q⟩

end Go.Proofs.Ytgdaidmkcgblbaa
