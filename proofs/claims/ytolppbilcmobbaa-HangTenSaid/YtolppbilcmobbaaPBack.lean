/-
  The walk of HangBack.
-/
import Derived.Test.YtolppbilcmobbaaBackM
import Derived.Test.YtolppbilcmobbaaLeastX
import Derived.Test.YtolppbilcmobbaaPWires
namespace Go.Proofs.Ytolppbilcmobbaa
open Go.RowKit Go.Shelf

theorem own_rows {B : Nat} {w : World} {v : Value} {ss : List ByteArray} (h : w.ownsRow B 9 1 v ss.length (ss.map Value.string)) : ∃ A c, v = .slice A ss.length c ∧ StrS w A ss.length ss := by
  rcases Nat.eq_zero_or_pos ss.length with h0 | h0
  · obtain ⟨A, c, e⟩ := own_slice' h
    exact ⟨A, c, e, rfl, fun g => absurd g (by omega)⟩
  · obtain ⟨g, c, rfl⟩ := own_pos h h0
    refine ⟨_, c, rfl, rfl, fun _ => ⟨g, 0, rfl, (own_lt h).1, fun i hi => ?_⟩⟩
    rw [Nat.zero_add, own_cell h i hi, List.getElem?_map, List.getD_eq_getElem?_getD, List.getElem?_eq_getElem hi]
    rfl
/-- The sets of the law, as strings. -/
theorem lawStrs_any (A : Option Addr) (n c most nails : Nat) (xs : List Int) (w : World) (hI : IntS w A n xs) (hn : n ≤ 9223372036854775807) (hmost : most ≤ 1000000) (h26 : nails ≤ 26) (hr : ∀ x ∈ xs, -9223372036854775808 ≤ x ∧ x ≤ 9223372036854775807) :
    Calls Try.prog 16 #[.slice A n c, .int .i64 most, .int .i64 nails, .bool false] w fun e w' => ∃ A2 c2, e = .returned (.slice A2 (xs.take most).length c2) ∧ StrS w' A2 (xs.take most).length ((xs.take most).map fun x => strL (oneS nails false x)) ∧ Below w.heap.size w w' := by
  refine (lawSets_any A n c most nails false xs w hI hn hmost h26 hr).mono ?_
  rintro e w' ⟨v, rfl, hown, hb⟩
  have hl : ((xs.take most).map fun x => strL (oneS nails false x)).length = (xs.take most).length := List.length_map ..
  obtain ⟨A2, c2, rfl, hS⟩ := own_rows (ss := (xs.take most).map fun x => strL (oneS nails false x)) (by
    rw [hl, List.map_map]; exact hown)
  rw [hl] at hS ⊢
  exact ⟨A2, c2, rfl, hS, hb⟩

/-- What the calls of HangBack return of a good list of sets. -/
structure BackC (ss : List ByteArray) (L : List (List UInt8)) (D : List (List UInt8)) (s : ByteArray) : Prop where
  hang : ∀ A c W, StrS W A ss.length ss → Calls Try.prog 26 #[.slice A ss.length c] W fun e w' => e = .returned (.tuple #[.string s, .int .i64 0]) ∧ Below W.heap.size W w'
  sets : ∀ W, Calls Try.prog 14 #[.string s] W fun e w' => ∃ A c, e = .returned (.tuple #[.slice A L.length c, .int .i64 0]) ∧ StrS w' A L.length (L.map strOf) ∧ Below W.heap.size W w'
  least : ∀ A c W, StrS W A ss.length ss → Calls Try.prog 35 #[.slice A ss.length c] W fun e w' => ∃ A2 c2, e = .returned (.tuple #[.slice A2 L.length c2, .int .i64 0]) ∧ StrS w' A2 L.length (L.map strOf) ∧ Below W.heap.size W w'
  dual : ∀ A c W, StrS W A ss.length ss → Calls Try.prog 36 #[.slice A ss.length c] W fun e w' => ∃ A2 c2, e = .returned (.tuple #[.slice A2 D.length c2, .int .i64 0]) ∧ StrS w' A2 D.length (D.map strOf) ∧ Below W.heap.size W w'
  back : ∀ A c W, StrS W A D.length (D.map strOf) → Calls Try.prog 36 #[.slice A D.length c] W fun e w' => ∃ A2 c2, e = .returned (.tuple #[.slice A2 L.length c2, .int .i64 0]) ∧ StrS w' A2 L.length (L.map strOf) ∧ Below W.heap.size W w'
  small : L.length ≤ 100

theorem back_calls {ss : List ByteArray} (hg : Nice 5 ss) (h0 : 0 < ss.length) (hl : ss.length ≤ 100) : ∃ L D s, BackC ss L D s := by
  have hu := hg.union
  have hp : 2 ^ (nailsIn (unionN (setsOf ss))).length ≤ 32 := pow_few hu
  have hs := hg.sup
  have hne := hg.nonempty
  have hn0 : setsOf ss ≠ [] := fun e => by
    have := congrArg List.length e
    unfold setsOf at this
    rw [List.length_map, List.length_nil] at this
    omega
  have hfew : (nameL (unionN (setsOf ss))).length ≤ 10 := Nat.le_trans (name_few hu) (by omega)
  have hdone := doneF_all _ 32 hp
  have hwl : (hangL (setsOf ss) 32).length ≤ 2048 := hangL_size (d := 3) fun D hD => Nat.le_trans (name_few (dual_good hp hu hn0 D hD).1) (by omega)
  have hww := hangL_word (setsOf ss) 32
  have hlet : lettersOf (strL (hangL (setsOf ss) 32)) = hangL (setsOf ss) 32 := letters_strL hww.lt256
  have hwn : ∀ k, nailsL (hangL (setsOf ss) 32) k = true → k < 5 := fun k hk => hu k (hang_nails hp hn0 hk)
  have hmin : (minL (setsOf ss)).length ≤ 100 := Nat.le_trans (minTo_length _ _) (by unfold setsOf; rw [List.length_map]; exact hl)
  have hdl : (dualL (setsOf ss) 32).length ≤ 32 := leastL_length' _ _ _
  have hgd := dual_good hp hu hn0
  have hg2 : Nice 5 ((namesB (dualL (setsOf ss) 32)).map strOf) := good_names hgd
  have hperm : (setsOf ((namesB (dualL (setsOf ss) 32)).map strOf)).Perm (dualL (setsOf ss) 32) := sets_names fun D hD => dual_sup hp hD
  have hp2 : 2 ^ (nailsIn (unionN (setsOf ((namesB (dualL (setsOf ss) 32)).map strOf)))).length ≤ 32 := pow_few hg2.union
  refine ⟨namesB (minL (setsOf ss)), namesB (dualL (setsOf ss) 32), strL (hangL (setsOf ss) 32), ?_, ?_, ?_, ?_, ?_, ?_⟩
  · intro A c W hS
    exact hang_any A ss.length c 32 ss W hS hl h0 hg.named hfew hdone (by omega)
  · intro W
    have h := sets_any (strL (hangL (setsOf ss) 32)) 32 W (by rw [strL_size]; omega) (by rw [hlet]; exact checkN_word hww (by omega)) (by rw [hlet]; exact Nat.le_trans (name_few hwn) (by omega)) (by rw [hlet]; exact doneF_all _ 32 (pow_few hwn)) (by omega)
    refine h.mono ?_
    rintro e w' ⟨v, rfl, hown, hb⟩
    rw [hlet, hang_sets hp hn0 hs (pow_few hwn)] at hown
    obtain ⟨A, c, rfl, hS⟩ := own_strs hown
    exact ⟨A, c, rfl, hS, hb⟩
  · intro A c W hS
    refine (leastX_any A ss.length c ss W hS hl hg.named).mono ?_
    rintro e w' ⟨v, rfl, hown, hb⟩
    obtain ⟨A, c, rfl, hS⟩ := own_strs hown
    exact ⟨A, c, rfl, hS, hb⟩
  · intro A c W hS
    refine (dualX_any A ss.length c 32 ss W hS hl h0 hg.named (no_empty hne) hfew hdone (by omega)).mono ?_
    rintro e w' ⟨v, rfl, hown, hb⟩
    obtain ⟨A, c, rfl, hS⟩ := own_strs hown
    exact ⟨A, c, rfl, hS, hb⟩
  · intro A c W hS
    have hDl : (namesB (dualL (setsOf ss) 32)).length = (dualL (setsOf ss) 32).length := namesB_length _
    have hpos := dual_some hp hne
    refine (dualX_any A _ c 32 _ W hS (by omega) (by omega) hg2.named (no_empty hg2.nonempty) (Nat.le_trans (name_few hg2.union) (by omega)) (doneF_all _ 32 hp2) (by omega)).mono ?_
    rintro e w' ⟨v, rfl, hown, hb⟩
    rw [dual_dual hp hs hperm hp2] at hown
    obtain ⟨A, c, rfl, hS⟩ := own_strs hown
    exact ⟨A, c, rfl, hS, hb⟩
  · rw [namesB_length]; exact hmin

set_option maxRecDepth 100000 in
set_option maxHeartbeats 600000 in
theorem hangBack_walk (A : Option Addr) (n c : Nat) (xs : List Int) (m : Int) (w : World) (hI : IntS w A n xs) (hn : n ≤ 9223372036854775807) (hr : ∀ x ∈ xs, -9223372036854775808 ≤ x ∧ x ≤ 9223372036854775807) (hm : w.cell? ⟨0, 0, none⟩ = some (.int .i64 m)) (hw0 : 0 < w.heap.size) :
    Calls Try.prog 8 #[.slice A n c] w fun e w' => e = .returned (.bool true) ∧ Below w.heap.size w w' := by
  have Hset := Lib.hid (lawStrs_any A n c 5 5 xs w hI hn (by omega) (by omega) hr)
  have hg : Nice 5 ((xs.take 5).map fun x => strL (oneS 5 false x)) := good_ones (by omega) (by omega) _
  have hl : ((xs.take 5).map fun x => strL (oneS 5 false x)).length = (xs.take 5).length := List.length_map ..
  have hl5 : (xs.take 5).length ≤ 5 := by rw [List.length_take]; omega
  have Haw := Lib.hid (fun W (hW : Below w.heap.size w W) => awake_any m W ((hW.cell (p := ⟨0, 0, none⟩) hw0).trans hm) (Nat.lt_of_lt_of_le hw0 hW.size))
  generalize ((xs.take 5).map fun x => strL (oneS 5 false x)) = ss at *
  rw [← hl] at Hset hl5
  clear hI hr hm hw0 hn hl
  have Hcalls : Hid (0 < ss.length → ∃ L D s, BackC ss L D s) := fun h => back_calls hg h (by omega)
  clear hg
  generalize hk : ss.length = k at *
  have Hk := Lib.hid hk
  clear hk
  go_enter Try.func8, Try.ntmps8
  go_upto_region 2 with (first
    | (go_at_call 16; refine Hset.out.mono ?_; clear Hset; rintro e w1 ⟨A1, c1, rfl, hS1, hb1⟩))
  rcases Nat.eq_zero_or_pos k with h0 | h0
  · subst h0
    go_wp2_with (go_at_call 15; refine (Haw.out w1 hb1).mono ?_; clear Haw; rintro e w2 ⟨rfl, hb2⟩)
    go_ret
    exact ⟨rfl, hb1.trans (hb2.mono hb1.size)⟩
  · obtain ⟨L, D, s, hC⟩ := Hcalls.out h0
    have HC := Lib.hid hC
    clear hC Hcalls
    have hLs := HC.out.small
    have HH := Lib.hid (fun (A : Option Addr) (c : Nat) (W : World) (h : StrS W A k ss) => show Calls _ _ _ _ _ by have := HC.out.hang A c W; rw [Hk.out] at this; exact this h)
    have HL := Lib.hid (fun (A : Option Addr) (c : Nat) (W : World) (h : StrS W A k ss) => show Calls _ _ _ _ _ by have := HC.out.least A c W; rw [Hk.out] at this; exact this h)
    have HD := Lib.hid (fun (A : Option Addr) (c : Nat) (W : World) (h : StrS W A k ss) => show Calls _ _ _ _ _ by have := HC.out.dual A c W; rw [Hk.out] at this; exact this h)
    go_upto_region 5 with (first
      | (go_at_call 26; refine (HH.out A1 c1 w1 hS1).mono ?_; rintro e w2 ⟨rfl, hb2⟩; have hb12 := hb1.trans (hb2.mono hb1.size); have hS2 := hS1.below hb2))
    clear hb1 hS1 hb2 HH
    go_upto_region 6 with (first
      | (go_at_call 14; refine (HC.out.sets w2).mono ?_; rintro e w3 ⟨A3, c3, rfl, hS3, hb3⟩; have hb13 := hb12.trans (hb3.mono hb12.size); have hS13 := hS2.below hb3))
    clear hb12 hS2 hb3
    go_upto_region 7 with (first
      | (go_at_call 35; refine (HL.out A1 c1 w3 hS13).mono ?_; rintro e w4 ⟨A4, c4, rfl, hS4, hb4⟩; have hb14 := hb13.trans (hb4.mono hb13.size); have hS14 := hS13.below hb4; have hS34 := hS3.below hb4))
    clear hb13 hS13 hS3 hb4 HL
    go_upto_region 8 with (first
      | (go_at_call 36; refine (HD.out A1 c1 w4 hS14).mono ?_; rintro e w5 ⟨A5, c5, rfl, hS5, hb5⟩; have hb15 := hb14.trans (hb5.mono hb14.size); have hS45 := hS4.below hb5; have hS35 := hS34.below hb5))
    clear hb14 hS14 hS4 hS34 hb5 HD
    go_upto_region 9 with (first
      | (go_at_call 36; refine (HC.out.back A5 c5 w5 hS5).mono ?_; rintro e w6 ⟨A6, c6, rfl, hS6, hb6⟩; have hb16 := hb15.trans (hb6.mono hb15.size); have hS46 := hS45.below hb6; have hS36 := hS35.below hb6))
    clear hb15 hS5 hS45 hS35 hb6 HC
    have hmx : L.length ≤ 4611686018427387904 := by omega
    have HQ1 := Lib.hid (same_any A3 A4 L.length L.length c3 c4 (L.map strOf) (L.map strOf) w6 hS36 hS46 hmx hmx)
    have HQ2 := Lib.hid (fun W (hW : Below w6.heap.size w6 W) => same_any A6 A4 L.length L.length c6 c4 (L.map strOf) (L.map strOf) W (hS6.below hW) (hS46.below hW) hmx hmx)
    have hdd : decide (L.map strOf = L.map strOf) = true := decide_eq_true rfl
    rw [hdd] at HQ1 HQ2
    clear hS36 hS46 hS6 hdd hLs
    go_wp2_with (first
      | (go_at_call 21; refine HQ1.out.mono ?_; clear HQ1; rintro e w7 ⟨rfl, hb7⟩; have hb17 := hb16.trans (hb7.mono hb16.size))
      | (go_at_call 21; refine (HQ2.out w7 hb7).mono ?_; clear HQ2; rintro e w8 ⟨rfl, hb8⟩; have hb18 := hb17.trans (hb8.mono hb17.size))
      | (go_at_call 15; refine (Haw.out w8 hb18).mono ?_; clear Haw; rintro e w9 ⟨rfl, hb9⟩))
    go_ret
    exact ⟨rfl, hb18.trans (hb9.mono hb18.size)⟩

end Go.Proofs.Ytolppbilcmobbaa
