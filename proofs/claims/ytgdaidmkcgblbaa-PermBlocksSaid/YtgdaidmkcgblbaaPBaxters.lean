/-
  The walk of PermBaxters.
-/
import Derived.Test.YtgdaidmkcgblbaaAwake
import Derived.Test.YtgdaidmkcgblbaaBaxter
import Derived.Test.YtgdaidmkcgblbaaRBaxs
import Derived.Test.YtgdaidmkcgblbaaRSep
import Derived.Test.YtgdaidmkcgblbaaRBaxter
namespace Go.Proofs.Ytgdaidmkcgblbaa
open Go.RowKit

theorem wrap_u64 (z : Int) : ∃ u : Nat, IntKind.u64.wrap z = (u : Nat) := ⟨(IntKind.u64.wrap z).toNat, by have := IntKind.wrap_u64 z; omega⟩

/-- What is to be answered of p. -/
def BaxIs (p : List Nat) (ok : Bool) (l : List Nat) : Prop := (ok = false ∧ ∃ a j b, First p a j b ∧ l = [a, j, j + 1, b]) ∨ (ok = true ∧ None' p ∧ l = [])
theorem BaxIs.only {p : List Nat} {a b : Bool} {l m : List Nat} (h : BaxIs p a l) (k : BaxIs p b m) : a = b ∧ l = m := by
  rcases h with ⟨rfl, x, y, z, hf, rfl⟩ | ⟨rfl, hn, rfl⟩ <;> rcases k with ⟨rfl, x', y', z', hf', rfl⟩ | ⟨rfl, hn', rfl⟩
  · obtain ⟨rfl, rfl, rfl⟩ := hf.only hf'
    exact ⟨rfl, rfl⟩
  · exact (hf.not_none hn').elim
  · exact (hf'.not_none hn).elim
  · exact ⟨rfl, rfl⟩

def RetBaxU (p : List Nat) (w : World) (e : Ending) (w' : World) : Prop :=
  ∃ A m ok l, e = .returned (.tuple #[.slice A m m, .bool ok, .int .i64 0]) ∧ Sl .i64 w' A m l ∧ BaxIs p ok l ∧ Below w.heap.size w w'
def RetRBaxU (p : List Nat) (w : World) (e : Ending) (w' : World) : Prop :=
  ∃ A m no l, e = .returned (.tuple #[.slice A m m, .bool no]) ∧ Sl .i64 w' A m l ∧ BaxIs p (!no) l ∧ Below w.heap.size w w'
theorem baxter_uni (b off n cap : Nat) (p : List Nat) (w : World) (hS : Sl .i64 w (some ⟨b, off, none⟩) n p) (hp : IsPerm p) (hn : n ≤ 60) (h0 : 0 < n) :
    Calls Try.prog 30 #[.slice (some ⟨b, off, none⟩) n cap] w (RetBaxU p w) :=
  (baxter_any b off n cap p w hS hp hn h0).mono fun _ _ ⟨h, hb⟩ => by
    rcases h with ⟨a, j, b, g, hf, he, hs⟩ | ⟨hn, he⟩
    · exact ⟨_, _, _, _, he, hs, .inl ⟨rfl, a, j, b, hf, rfl⟩, hb⟩
    · exact ⟨_, _, _, _, he, Sl.nil, .inr ⟨rfl, hn, rfl⟩, hb⟩
theorem rbaxter_uni (b off n cap : Nat) (p : List Nat) (w : World) (hS : Sl .i64 w (some ⟨b, off, none⟩) n p) (h0 : 0 < n) (hn : n ≤ 60) :
    Calls Try.prog 57 #[.slice (some ⟨b, off, none⟩) n cap] w (RetRBaxU p w) :=
  (rbaxter_any b off n cap p w hS h0 hn).mono fun _ _ ⟨h, hb⟩ => by
    rcases h with ⟨a, j, b, g, hf, he, _, hs⟩ | ⟨hn, he⟩
    · exact ⟨_, _, _, _, he, hs, .inl ⟨rfl, a, j, b, hf, rfl⟩, hb⟩
    · exact ⟨_, _, _, _, he, Sl.nil, .inr ⟨rfl, hn, rfl⟩, hb⟩
theorem same_true (A B : Option Addr) (n m : Nat) (a b : List Nat) (w : World) (ha : Sl .i64 w A n a) (hb : Sl .i64 w B m b) (hab : a = b) (ca cb : Nat) :
    Calls Try.prog 33 #[.slice A n ca, .slice B m cb] w fun e w' => e = .returned (.bool true) ∧ Drew w w' :=
  (same_any A B n m ca cb a b w ha hb).mono fun _ _ ⟨h1, h2⟩ => ⟨by rw [h1, decide_eq_true hab], h2⟩

set_option maxRecDepth 100000 in
set_option maxHeartbeats 2000000 in
theorem permBaxters_walk (A : Option Addr) (n cap : Nat) (z : Int) (hz1 : -9223372036854775808 ≤ z) (hz2 : z ≤ 9223372036854775807) (w : World) (h : Ints w A n) :
    Calls Try.prog 9 #[.slice A n cap, .int .i64 z] w fun e w' => e = .returned (.bool true) ∧ Below w.heap.size w w' := by
  have hN1 : 1 ≤ tameLen n 14 := by unfold tameLen; omega
  have hN2 : tameLen n 14 ≤ 60 := by unfold tameLen; omega
  have Htame := Lib.hid (tame_any A n cap 14 w h (by omega))
  generalize tameLen n 14 = N at *
  go_enter Try.func9, Try.ntmps9
  go_wp2_with fail
  refine Htame.out.mono ?_
  rintro e w1 ⟨gp, cp, p, rfl, hS, hp, hgp, hb1⟩
  go_wp2_with fail
  refine (baxter_uni gp 0 N cp p w1 hS hp hN2 hN1).mono ?_
  rintro e w2 ⟨A1, m1, ok, l1, rfl, hs1, hB1, hb2⟩
  have hS2 := hS.below hb2
  go_wp2_with fail
  refine (rbaxter_uni gp 0 N cp p w2 hS2 hN1 hN2).mono ?_
  rintro e w3 ⟨A2, m2, no, l2, rfl, hs2, hB2, hb3⟩
  have ho := hB1.only hB2
  have hok : (ok == no) = false := by rw [ho.1]; cases no <;> rfl
  have Hsame := Lib.hid (same_true A1 A2 m1 m2 l1 l2 w3 (hs1.below hb3) hs2 ho.2)
  have Hbel := Lib.hid (hb1.trans ((hb2.mono hb1.size).trans (hb3.mono (Nat.le_trans hb1.size hb2.size))))
  clear ho hs1 hs2 hS hS2 hB1 hB2 hb1 hb2 hb3 Htame hgp h
  go_wp2_with (go_at_call 33; refine (Hsame.out _ _).mono ?_; rintro e w4 ⟨rfl, q, rfl⟩)
  have Hbel4 := Lib.hid (below_drewN Hbel.out q)
  clear Hbel Hsame
  generalize w3.drewN q = X at *
  go_loopw [1, 11] (fun v i wr => ∃ (k : Nat) (y : Int), k ≤ 2 ∧ i = .int .i64 k ∧ v = .int .i64 y ∧ -9223372036854775808 ≤ y ∧ y ≤ 9223372036854775807 ∧ Below w.heap.size w wr) (fun _ i _ => 2 - (intOf i).toNat)
  case atStart => exact ⟨0, z, by omega, rfl, rfl, hz1, hz2, Hbel4.out⟩
  case round =>
    obtain ⟨k, y, hk, rfl, rfl, hy1, hy2, hbel⟩ := hrel
    obtain ⟨u, hu⟩ := wrap_u64 y
    have e2 : (u : Int) % (20 : Int) = ((u % 20 : Nat) : Int) := by simp
    have e6 : (u : Int).tmod (20 : Int) = ((u % 20 : Nat) : Int) := by rw [Int.tmod_eq_emod_of_nonneg (by omega)]; exact e2
    obtain ⟨c, hc⟩ : ∃ c, c = u % 20 := ⟨_, rfl⟩
    have hc20 : c < 20 := by rw [hc]; exact Nat.mod_lt _ (by omega)
    rw [← hc] at e2 e6
    clear hc
    have e5 : IntKind.i64.wrap ((c : Nat) : Int) = (c : Nat) := IntWalk.i64_in _ (by omega)
    by_cases hlt : k < 2
    · by_cases hin : 1 ≤ y ∧ y ≤ 20
      · obtain ⟨m, rfl⟩ : ∃ m : Nat, y = m := ⟨y.toNat, by omega⟩
        have h1 : 1 ≤ m := by omega
        have h2 : m ≤ 20 := by omega
        have d1 : decide ((m : Int) < 1) = false := decide_eq_false (by omega)
        have d2 : decide ((20 : Int) < (m : Int)) = false := decide_eq_false (by omega)
        have hse := sep_eq (m - 1) (by omega)
        rw [show m - 1 + 1 = m by omega] at hse
        have Hb := Lib.hid (fun W => baxters_yes m W h1 h2)
        have Hs := Lib.hid (fun W => separables_yes m W h1 h2)
        have Hrb := Lib.hid (fun W => rbaxters_any m W h1 h2)
        have Hrs := Lib.hid (fun W => rseparables_any m W h1 h2)
        rw [← hse] at Hrs
        generalize baxN m = bx at *
        generalize (sepL (m - 1)).getD (m - 1) 0 = sx at *
        clear hse
        go_wp2_with (first
          | (go_at_call 58; refine (Hb.out _).mono ?_; rintro e w5 ⟨rfl, hb5⟩)
          | (go_at_call 59; refine (Hs.out _).mono ?_; rintro e w6 ⟨rfl, hb6⟩)
          | (go_at_call 60; refine (Hrb.out _).mono ?_; rintro e w7 ⟨rfl, rfl⟩)
          | (go_at_call 61; refine (Hrs.out _).mono ?_; rintro e w8 ⟨rfl, hb8⟩))
        go_roundw
        case rel => exact ⟨k + 1, 1 + c, by omega, by go_num, rfl, by omega, by omega, ((hbel.trans (hb5.mono hbel.size)).trans (hb6.mono (Nat.le_trans hbel.size hb5.size))).trans (hb8.mono (Nat.le_trans (Nat.le_trans hbel.size hb5.size) hb6.size))⟩
        case measure => simp [intOf]; omega
      · have hno : y < 1 ∨ 20 < y := by omega
        have Hb := Lib.hid (fun W => baxters_no y W hno)
        have Hs := Lib.hid (fun W => separables_no y W hno)
        by_cases h1 : y < 1
        · have d1 : decide (y < 1) = true := decide_eq_true h1
          clear hno hin h1
          go_wp2_with (first
            | (go_at_call 58; refine (Hb.out _).mono ?_; rintro e w5 ⟨rfl, rfl⟩)
            | (go_at_call 59; refine (Hs.out _).mono ?_; rintro e w6 ⟨rfl, rfl⟩))
          go_roundw
          case rel => exact ⟨k + 1, 1 + c, by omega, by go_num, rfl, by omega, by omega, hbel⟩
          case measure => simp [intOf]; omega
        · have d1 : decide (y < 1) = false := decide_eq_false h1
          have d2 : decide ((20 : Int) < y) = true := decide_eq_true (by omega)
          clear hno hin h1
          go_wp2_with (first
            | (go_at_call 58; refine (Hb.out _).mono ?_; rintro e w5 ⟨rfl, rfl⟩)
            | (go_at_call 59; refine (Hs.out _).mono ?_; rintro e w6 ⟨rfl, rfl⟩))
          go_roundw
          case rel => exact ⟨k + 1, 1 + c, by omega, by go_num, rfl, by omega, by omega, hbel⟩
          case measure => simp [intOf]; omega
    · obtain rfl : k = 2 := by omega
      go_wp2_with (go_at_call 23; refine (awake_any _).mono ?_; rintro e w5 ⟨rfl, hb5⟩)
      go_ret
      exact ⟨rfl, hbel.trans (hb5.mono hbel.size)⟩

end Go.Proofs.Ytgdaidmkcgblbaa
