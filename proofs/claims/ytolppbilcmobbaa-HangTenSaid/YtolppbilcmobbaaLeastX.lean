/-
  The walks of the exported Least and Dual.
-/
import Derived.Test.YtolppbilcmobbaaLeastOf
namespace Go.Proofs.Ytolppbilcmobbaa
open Go.RowKit Go.Shelf

set_option maxRecDepth 100000 in
set_option maxHeartbeats 1000000 in
theorem leastX_any (A : Option Addr) (n c : Nat) (ss : List ByteArray) (w : World) (hS : StrS w A n ss) (hn : n ≤ 100) (hnam : Named ss) :
    Calls Try.prog 35 #[.slice A n c] w fun e w' => ∃ v, e = .returned (.tuple #[v, .int .i64 0]) ∧ OwnStrs w.heap.size w' v (namesB (minL (setsOf ss))) ∧ Below w.heap.size w w' := by
  have Hp := Lib.hid (parseList_any A n c ss w hS hn hnam)
  have hlen : (setsOf ss).length ≤ 100 := by unfold setsOf; rw [List.length_map, hS.1]; exact hn
  have hml : (minL (setsOf ss)).length ≤ 100 := Nat.le_trans (minTo_length _ _) hlen
  generalize setsOf ss = Ss at *
  have Hl := Lib.hid (fun (A2 : Option Addr) (c2 : Nat) (W : World) (h : RowS W A2 Ss.length Ss) => leastOf_any A2 Ss.length c2 Ss W h (by omega))
  generalize minL Ss = L at *
  clear hS hnam
  go_enter Try.func35, Try.ntmps35
  go_wp2_with (first
    | (go_at_call 65; refine Hp.out.mono ?_; clear Hp; rintro e w2 ⟨v, rfl, hown, hb2⟩; obtain ⟨A2, c2, rfl, hrow⟩ := hown.row)
    | (go_at_call 66; refine (Hl.out A2 c2 w2 hrow).mono ?_; clear Hl; rintro e w3 ⟨v3, rfl, hown3, hb3⟩; obtain ⟨A3, c3, rfl, hrow3⟩ := hown3.row)
    | (go_at_call 44; refine (names_any A3 c3 L.length L w3 hrow3 (by omega)).mono ?_; rintro e w4 ⟨v4, rfl, hown4, hb4⟩))
  go_ret2
  have h1 := hb2.trans (hb3.mono hb2.size)
  exact ⟨v4, rfl, own_mono hown4 h1.size, h1.trans (hb4.mono h1.size)⟩

set_option maxRecDepth 100000 in
set_option maxHeartbeats 1000000 in
theorem dualX_any (A : Option Addr) (n c N : Nat) (ss : List ByteArray) (w : World) (hS : StrS w A n ss) (hn : n ≤ 100) (h0 : 0 < n) (hnam : Named ss) (hne : ((setsOf ss).any fun S => eqN (fun _ => false) S) = false)
    (hfew : (nameL (unionN (setsOf ss))).length ≤ 10) (hN : doneF (unionN (setsOf ss)) N (fun _ => false) = true) (hNb : N ≤ 1000000) :
    Calls Try.prog 36 #[.slice A n c] w fun e w' => ∃ v, e = .returned (.tuple #[v, .int .i64 0]) ∧ OwnStrs w.heap.size w' v (namesB (dualL (setsOf ss) N)) ∧ Below w.heap.size w w' := by
  have Hp := Lib.hid (parseSome_any A n c ss w hS hn h0 hnam)
  have hlen : (setsOf ss).length = n := by unfold setsOf; rw [List.length_map, hS.1]
  have hml : (dualL (setsOf ss) N).length ≤ N := leastL_length' _ _ _
  generalize setsOf ss = Ss at *
  have Hc := Lib.hid (fun (A2 : Option Addr) (c2 : Nat) (W : World) (h : RowS W A2 n Ss) => contains_same A2 c2 n Ss (fun _ => false) W h (by omega))
  rw [hne, zero_agg] at Hc
  have Hmany := Lib.hid (fun W => tooMany_any (unionN Ss) W)
  rw [show decide (10 < (nameL (unionN Ss)).length) = false from decide_eq_false (by omega)] at Hmany
  have Hu := Lib.hid (fun (b off c2 : Nat) (W : World) (h : SetRow W b off Ss) => union_any b off c2 n Ss W hlen h (by omega))
  have Hd := Lib.hid (fun (b off c2 : Nat) (W : World) (h : RowS W (some ⟨b, off, none⟩) n Ss) => dual_any b off n c2 N Ss W h h0 (by omega) hN hNb)
  have H0 := Lib.hid h0
  generalize dualL Ss N = L at *
  generalize unionN Ss = U at *
  clear hS hnam hN hne hfew h0
  go_enter Try.func36, Try.ntmps36
  go_upto_region 2 with (first
    | (go_at_call 54; refine Hp.out.mono ?_; clear Hp; rintro e w2 ⟨v, rfl, hown, hb2⟩; obtain ⟨A2, c2, rfl, hrow⟩ := hown.row))
  rw [hlen] at *
  obtain ⟨b, off, rfl, hrow2⟩ := hrow.2 H0.out
  go_wp2_with (first
    | (go_at_call 67; refine (Hc.out _ c2 _ hrow).mono ?_; clear Hc; rintro e w3 ⟨rfl, hb3⟩; have hrow3 := hrow2.below hb3)
    | (go_at_call 55; refine (Hu.out b off c2 w3 hrow3).mono ?_; clear Hu; rintro e w4 ⟨rfl, hb4⟩)
    | (go_at_call 43; refine (Hmany.out _).mono ?_; clear Hmany; rintro e w5 ⟨rfl, hb5⟩; have hb25 := (hb3.trans (hb4.mono hb3.size)).trans (hb5.mono (Nat.le_trans hb3.size hb4.size)); have hrow5 := hrow.below hb25)
    | (go_at_call 56; refine (Hd.out b off c2 w5 hrow5).mono ?_; clear Hd; rintro e w6 ⟨v6, rfl, hown6, hb6⟩; obtain ⟨A6, c6, rfl, hrow6⟩ := hown6.row)
    | (go_at_call 44; refine (names_any A6 c6 L.length L w6 hrow6 (by omega)).mono ?_; rintro e w7 ⟨v7, rfl, hown7, hb7⟩))
  go_ret2
  have h1 := hb2.trans (hb25.mono hb2.size)
  have h2 := h1.trans (hb6.mono h1.size)
  exact ⟨v7, rfl, own_mono hown7 h2.size, h2.trans (hb7.mono h2.size)⟩

end Go.Proofs.Ytolppbilcmobbaa
