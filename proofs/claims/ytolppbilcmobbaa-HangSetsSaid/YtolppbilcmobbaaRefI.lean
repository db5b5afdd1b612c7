/-
  The walk of the reference's Least.
-/
import Derived.Test.YtolppbilcmobbaaRefH
namespace Go.Proofs.Ytolppbilcmobbaa
open Go.RowKit Go.Shelf

theorem getD_memB {l : List ByteArray} {k : Nat} (h : k < l.length) : l.getD k ByteArray.empty ∈ l := by
  rw [List.getD_eq_getElem?_getD, List.getElem?_eq_getElem h]
  exact List.getElem_mem _
/-- Whether a string is the other one, or not within it. -/
def offR (x t : ByteArray) : Bool := decide (t = x) || !((lettersOf t).all fun c => hasL (lettersOf x) c)
def okR (ss : List ByteArray) (x : ByteArray) : Bool := ss.all (offR x)
def insAll (l : List ByteArray) : List ByteArray := l.foldl insL []
def leastR (ss : List ByteArray) : List ByteArray := insAll (ss.filter (okR ss))
theorem insAll_snoc (l : List ByteArray) (x : ByteArray) : insAll (l ++ [x]) = insL (insAll l) x := by unfold insAll; rw [List.foldl_append]; rfl
theorem insAll_len (l : List ByteArray) : (insAll l).length ≤ l.length := by
  have : ∀ (l out : List ByteArray), (l.foldl insL out).length ≤ out.length + l.length := by
    intro l
    induction l with
    | nil => intro out; exact Nat.le_refl _
    | cons x l ih =>
      intro out
      have h1 := ih (insL out x)
      have h2 := insL_len out x
      simp only [List.foldl_cons, List.length_cons]
      omega
  have h := this l []
  rw [List.length_nil, Nat.zero_add] at h
  exact h
theorem leastTo {ss : List ByteArray} {P : ByteArray → Bool} {i : Nat} (h : i < ss.length) : insAll ((ss.take (i + 1)).filter P) = if P (ss.getD i ByteArray.empty) = true then insL (insAll ((ss.take i).filter P)) (ss.getD i ByteArray.empty) else insAll ((ss.take i).filter P) := by
  rw [List.take_succ_eq_append_getElem h, List.filter_append, List.getD_eq_getElem?_getD, List.getElem?_eq_getElem h, Option.getD_some]
  by_cases g : P ss[i] = true
  · rw [if_pos g, List.filter_cons_of_pos g, List.filter_nil, insAll_snoc]
  · rw [if_neg g, List.filter_cons_of_neg g, List.filter_nil, List.append_nil]

set_option maxRecDepth 100000 in
set_option maxHeartbeats 2000000 in
theorem rleast_any (A : Option Addr) (n c : Nat) (ss : List ByteArray) (w : World) (hS : StrS w A n ss) (hn : n ≤ 2000) (hz : ∀ s ∈ ss, s.size ≤ 1000000000) :
    Calls Try.prog 52 #[.slice A n c] w (RetIns (leastR ss) w) := by
  have HS := Lib.hid hS
  have Hl := Lib.hid hS.1
  have Hz := Lib.hid hz
  obtain ⟨P, hP⟩ : ∃ P, P = okR ss := ⟨_, rfl⟩
  have HP : Hid (∀ x, P x = ss.all (offR x)) := fun x => by rw [hP]; rfl
  have Hend : Hid (leastR ss = insAll (ss.filter P)) := by show _ = _; rw [hP]; rfl
  generalize hg : w.heap.size = g at *
  have Hg := Lib.hid hg
  obtain ⟨L, hL⟩ : ∃ L, leastR ss = L := ⟨_, rfl⟩
  rw [hL] at Hend ⊢
  clear hS hg hL hz hP
  go_enter Try.func52, Try.ntmps52
  go_wp2_with fail
  go_loopw [3, 4] (fun v iv wr => ∃ (i : Nat) (Ao : Option Addr) (no co : Nat), i ≤ n ∧ iv = .int .i64 i ∧ v = .slice Ao no co ∧ no ≤ co ∧ no ≤ i ∧ StrS wr Ao no (insAll ((ss.take i).filter P)) ∧ Below g w wr) (fun _ iv _ => n - (intOf iv).toNat)
  case atStart => exact ⟨0, none, 0, 0, Nat.zero_le _, rfl, rfl, Nat.le_refl _, Nat.le_refl _, ⟨rfl, fun h => absurd h (by omega)⟩, Below.refl _ _⟩
  case round =>
    obtain ⟨i, Ao, no, co, hi, rfl, rfl, hoc, hoi, hout, hbel⟩ := hrel
    by_cases hlt : i < n
    · obtain ⟨b, off, rfl, hb, hcl⟩ := HS.out.2 (by omega)
      have Hcl : Hid (∀ W, Below g w W → ∀ j, j < n → W.cell? ⟨b, off + j, none⟩ = some (.string (ss.getD j ByteArray.empty))) := fun W hW j hj => (hW.cell (p := ⟨b, off + j, none⟩) (by rw [← Hg.out]; exact hb)).trans (hcl j hj)
      have Hst := Lib.hid (leastTo (ss := ss) (P := P) (i := i) (by have := Hl.out; omega))
      have hxm := getD_memB (l := ss) (k := i) (by have := Hl.out; omega)
      have hxz := Hz.out _ hxm
      have HPx := Lib.hid (HP.out (ss.getD i ByteArray.empty))
      have Hci := Lib.hid (fun W hW => Hcl.out W hW i hlt)
      generalize ss.getD i ByteArray.empty = x at *
      generalize insAll ((ss.take i).filter P) = out at *
      have Hout := Lib.hid hout
      have hol := hout.1
      have Hins := Lib.hid (fun (W : World) (h : StrS W Ao no out) => insert_any Ao no co out x W h (by omega) hoc)
      have hno2 : no ≤ 2000 := by omega
      clear hcl hxm hout
      go_wp2_with fail
      go_loopw [5, 6] (fun fv jv wx => ∃ j : Nat, j ≤ n ∧ jv = .int .i64 j ∧ fv = .bool ((ss.take j).all (offR x)) ∧ Below g w wx ∧ StrS wx Ao no out) (fun _ jv _ => n - (intOf jv).toNat)
      case atStart => exact ⟨0, Nat.zero_le _, rfl, rfl, hbel, Hout.out⟩
      case round =>
        obtain ⟨j, hjn, rfl, rfl, hbel2, hout2⟩ := hrel
        by_cases hltj : j < n
        · have Hs2 := Lib.hid (all_takeB (l := ss) (P := offR x) (k := j) (by have := Hl.out; omega))
          have htm := getD_memB (l := ss) (k := j) (by have := Hl.out; omega)
          have htz := Hz.out _ htm
          have hci := Hci.out wr hbel2
          have hcj := Hcl.out wr hbel2 j hltj
          generalize ss.getD j ByteArray.empty = t at *
          have Hcon := Lib.hid (fun W => rcontains_any x t W hxz htz)
          have Hoff : Hid (offR x t = (decide (t = x) || !((lettersOf t).all fun c => hasL (lettersOf x) c))) := rfl
          generalize ((lettersOf t).all fun c => hasL (lettersOf x) c) = q at *
          have heq : (t.toList == x.toList) = decide (t = x) := str_eq_iff
          generalize decide (t = x) = e at *
          generalize offR x t = o at *
          have Hbel2 := Lib.hid hbel2
          have Hout2 := Lib.hid hout2
          clear htm hbel2 hout2
          generalize (ss.take j).all (offR x) = a at *
          cases a
          · go_wp2_with fail
            go_quiet (fail)
            have Hbel3 : Hid (Below g w (wr.drewN nq)) := below_drewN Hbel2.out nq
            have Hout3 : Hid (StrS (wr.drewN nq) Ao no out) := Hout2.out
            go_wp2_with fail
            go_roundw
            case rel => exact ⟨j + 1, by omega, by go_num, by rw [Hs2.out, Bool.false_and], Hbel3.out, Hout3.out⟩
            case measure => simp [intOf]; omega
          · cases e
            · go_wp2_with fail
              go_quiet ((go_at_call 27; exact Calls.quiet_of_same (Hcon.out _)))
              have Hbel3 : Hid (Below g w (wr.drewN nq)) := below_drewN Hbel2.out nq
              have Hout3 : Hid (StrS (wr.drewN nq) Ao no out) := Hout2.out
              go_wp2_with fail
              go_roundw
              case rel => exact ⟨j + 1, by omega, by go_num, by rw [Hs2.out, Hoff.out, Bool.true_and, Bool.false_or], Hbel3.out, Hout3.out⟩
              case measure => simp [intOf]; omega
            · go_wp2_with fail
              go_quiet (fail)
              have Hbel3 : Hid (Below g w (wr.drewN nq)) := below_drewN Hbel2.out nq
              have Hout3 : Hid (StrS (wr.drewN nq) Ao no out) := Hout2.out
              go_wp2_with fail
              go_roundw
              case rel => exact ⟨j + 1, by omega, by go_num, by rw [Hs2.out, Hoff.out, Bool.true_and, Bool.true_or], Hbel3.out, Hout3.out⟩
              case measure => simp [intOf]; omega
        · obtain rfl : j = n := by omega
          rw [List.take_of_length_le (by have := Hl.out; omega), ← HPx.out]
          have hci := Hci.out wr hbel2
          have Hi2 := Lib.hid (Hins.out wr hout2)
          have Hbel2 := Lib.hid hbel2
          have Hout2 := Lib.hid hout2
          have hgs : g ≤ wr.heap.size := by have := hbel2.size; have := Hg.out; omega
          clear hbel2 hout2
          generalize P x = p at *
          cases p
          · go_wp2_with fail
            go_roundw
            case rel => exact ⟨i + 1, Ao, no, co, by omega, by go_num, rfl, hoc, by omega, by rw [Hst.out, if_neg (by decide)]; exact Hout2.out, Hbel2.out⟩
            case measure => simp [intOf]; omega
          · go_wp2_with (go_at_call 76; refine Hi2.out.mono ?_; clear Hi2; rintro e w2 ⟨A2, c2, rfl, hc2, hS2, hb2⟩)
            have hln := insL_len out x
            go_roundw
            case rel => exact ⟨i + 1, A2, _, c2, by omega, by go_num, rfl, hc2, by omega, by rw [Hst.out, if_pos trivial]; exact hS2, Hbel2.out.trans (hb2.mono hgs)⟩
            case measure => simp [intOf]; omega
    · obtain rfl : i = n := by omega
      rw [List.take_of_length_le (by have := Hl.out; omega), ← Hend.out] at hout
      have hlL := hout.1
      go_wp2_with fail
      go_ret
      exact ⟨Ao, co, by rw [hlL]; rfl, by omega, by rw [hlL]; exact hout, by rw [Hg.out]; exact hbel⟩

end Go.Proofs.Ytolppbilcmobbaa
