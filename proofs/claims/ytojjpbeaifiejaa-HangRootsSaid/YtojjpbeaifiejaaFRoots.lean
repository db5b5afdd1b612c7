/-
  The walk of HangRoots.
  HangRoots: for all two strings and every two numbers the statement's function returns true, and its arguments read as before. No condition.
-/
import Derived.Test.YtojjpbeaifiejaaRootR
import Derived.Test.YtojjpbeaifiejaaAwake
import Derived.Test.YtojjpbeaifiejaaRow
namespace Go.Proofs.Ytojjpbeaifiejaa
open Go.RowKit Go.Shelf

theorem Cell0.low {m : Int} {w W : World} (h : Cell0 m w) (hb : Below w.heap.size w W) : Cell0 m W := ⟨(hb.cell (p := ⟨0, 0, none⟩) h.2).trans h.1, Nat.lt_of_lt_of_le h.2 hb.size⟩

/-- What the calls about one string return: the program's Root; S, N, E: the root, the power, the error. -/
structure RootC (m : Int) (a : ByteArray) (C : Nat) (red : Bool) (X S : ByteArray) (N E : Nat) : Prop where
  root : ∀ W, Cell0 m W → Calls Try.prog 13 #[.string a] W fun e w' => e = .returned (.tuple #[.string S, .int .i64 N, .int .i64 E]) ∧ Below W.heap.size W w'
  chk : ∀ W, Calls Try.prog 23 #[.string a] W fun e w' => e = .returned (.int .i64 C) ∧ w' = W
  bad : C ≠ 0 → E = C ∧ S = ⟨#[]⟩ ∧ N = 0
  good : C = 0 → (∀ W, Calls Try.prog 18 #[.string a] W fun e w' => e = .returned (.string X) ∧ Below W.heap.size W w') ∧ (red = true → X = ⟨#[]⟩ ∧ E = 4 ∧ S = ⟨#[]⟩ ∧ N = 0) ∧
    (red = false → (X.toList == []) = false ∧ E = 0 ∧ ∀ W, Calls Try.prog 28 #[.string a] W fun e w' => e = .returned (.tuple #[.string S, .int .i64 N]) ∧ Below W.heap.size W w')
  small : C ≤ 100 ∧ E ≤ 100

theorem checkN_le (l : List Nat) : checkN l ≤ 100 := by
  unfold checkN
  split
  · split <;> omega
  · omega

theorem root_calls (m : Int) (a : ByteArray) (ha : a.size ≤ 200) : ∃ red X S N E, RootC m a (checkN (lettersOf a)) red X S N E := by
  have hcl := checkN_le (lettersOf a)
  refine ⟨decide (redL (lettersOf a) = []), strL (redL (lettersOf a)), rootS (lettersOf a), rootN (lettersOf a), errR (lettersOf a), ⟨fun W hW => root_res a m W (by omega) hW, fun W => rcheck_any a W (by omega), fun h => ?_, fun h => ?_, hcl, ?_⟩⟩
  · unfold errR rootS rootN
    rw [if_neg h, if_neg h, if_neg h]
    exact ⟨rfl, rfl, rfl⟩
  · have hw := (checkN_zero h).1
    have hrr := red_red hw
    have hrw := red_word hw
    unfold errR rootS rootN
    rw [if_pos h, if_pos h, if_pos h]
    refine ⟨fun W => rreduce_any a W hw (by omega), fun hr => ?_, fun hr => ?_⟩
    · have h0 := of_decide_eq_true hr
      rw [if_pos h0, h0, root_nil, pow_nil]
      exact ⟨rfl, rfl, rfl, rfl⟩
    · have h0 := of_decide_eq_false hr
      rw [if_neg h0]
      exact ⟨strL_ne hrw.lt256 h0, rfl, fun W => rroot_any a W hw (by omega)⟩
  · unfold errR
    split
    · split <;> omega
    · exact hcl

/-- What the calls about two strings return. -/
structure PairC (m : Int) (a b : ByteArray) (C D Z : Nat) (S : ByteArray) (p q : Int) (ok : Bool) : Prop where
  chk1 : ∀ W, Calls Try.prog 23 #[.string a] W fun e w' => e = .returned (.int .i64 C) ∧ w' = W
  chk2 : ∀ W, Calls Try.prog 23 #[.string b] W fun e w' => e = .returned (.int .i64 D) ∧ w' = W
  eZ : Z = if C = 0 then D else C
  com : ∀ W, Cell0 m W → Calls Try.prog 29 #[.string a, .string b] W fun e w' => e = .returned (.tuple #[.string S, .int .i64 p, .int .i64 q, .bool ok, .int .i64 Z]) ∧ Below W.heap.size W w'
  bad : Z ≠ 0 → S = ⟨#[]⟩ ∧ p = 0 ∧ q = 0 ∧ ok = false
  good : Z = 0 → ∀ W, Calls Try.prog 30 #[.string a, .string b] W fun e w' => e = .returned (.tuple #[.string S, .int .i64 p, .int .i64 q, .bool ok]) ∧ Below W.heap.size W w'

theorem pair_calls (m : Int) (a b : ByteArray) (ha : a.size ≤ 200) (hb : b.size ≤ 200) : ∃ C D Z S p q ok, PairC m a b C D Z S p q ok := by
  refine ⟨checkN (lettersOf a), checkN (lettersOf b), chk2 (lettersOf a) (lettersOf b), (comW (lettersOf a) (lettersOf b)).1, (comW (lettersOf a) (lettersOf b)).2.1, (comW (lettersOf a) (lettersOf b)).2.2.1, (comW (lettersOf a) (lettersOf b)).2.2.2, ⟨fun W => rcheck_any a W (by omega), fun W => rcheck_any b W (by omega), rfl, fun W hW => ?_, fun h => ?_, fun h W => ?_⟩⟩
  · refine (commute_res a b m W (by omega) (by omega) hW).mono ?_
    rintro e w' ⟨V, rfl, rfl, hb⟩
    exact ⟨rfl, hb⟩
  · unfold comW
    rw [if_neg h]
    exact ⟨rfl, rfl, rfl, rfl⟩
  · have hca : checkN (lettersOf a) = 0 := by unfold chk2 at h; split at h <;> assumption
    have hcb : checkN (lettersOf b) = 0 := by unfold chk2 at h; rw [if_pos hca] at h; exact h
    unfold comW
    rw [if_pos h]
    refine (rcommute_any a b W (checkN_zero hca).1 (checkN_zero hcb).1 (by omega) (by omega)).mono ?_
    rintro e w' ⟨V, rfl, rfl, hb⟩
    exact ⟨rfl, hb⟩

set_option maxRecDepth 100000 in
set_option maxHeartbeats 4000000 in
theorem hangRoots_walk (u v : ByteArray) (b0 b1 : Int) (m : Int) (w : World) (h0 : -9223372036854775808 ≤ b0 ∧ b0 ≤ 9223372036854775807) (h1 : -9223372036854775808 ≤ b1 ∧ b1 ≤ 9223372036854775807) (hm : Cell0 m w) :
    Calls Try.prog 6 #[.string u, .string v, .agg #[.int .i64 b0, .int .i64 b1]] w fun e w' => e = .returned (.bool true) ∧ Below w.heap.size w w' := by
  have Haw := Lib.hid (fun W (hW : Below w.heap.size w W) => awake_any m W (hm.low hW).1 (hm.low hW).2)
  have HTu : Hid (∀ W : World, Calls Try.prog 25 #[.string u, .int .i64 2, .int .i64 12] W fun e w' => e = .returned (.string (strL (textL 2 ((lettersOf u).take 12)))) ∧ Below W.heap.size W w') := fun W => text_any u 2 12 W (by omega) (by omega) (by omega)
  have HTv : Hid (∀ W : World, Calls Try.prog 25 #[.string v, .int .i64 2, .int .i64 12] W fun e w' => e = .returned (.string (strL (textL 2 ((lettersOf v).take 12)))) ∧ Below W.heap.size W w') := fun W => text_any v 2 12 W (by omega) (by omega) (by omega)
  have Hm := Lib.hid hm
  have hwx : IsWord (textL 2 ((lettersOf u).take 12)) := textL_word _ (by omega) (by omega)
  have hwy : IsWord (textL 2 ((lettersOf v).take 12)) := textL_word _ (by omega) (by omega)
  have hlx : (textL 2 ((lettersOf u).take 12)).length ≤ 12 := by unfold textL; rw [List.length_map, List.length_take]; omega
  have hly : (textL 2 ((lettersOf v).take 12)).length ≤ 12 := by unfold textL; rw [List.length_map, List.length_take]; omega
  generalize textL 2 ((lettersOf u).take 12) = tx at *
  generalize textL 2 ((lettersOf v).take 12) = ty at *
  have Htx := Lib.hid (And.intro hwx hlx)
  have Hty := Lib.hid (And.intro hwy hly)
  have hbox := below_new' w (.cells #[.int .i64 b0, .int .i64 b1] 48)
  have hblk := Blk.new w 48 #[.int .i64 b0, .int .i64 b1]
  have HB := Lib.hid (And.intro h0 h1)
  clear hm hwx hwy hlx hly h0 h1
  go_enter Try.func6, Try.ntmps6
  go_upto_region 1 with fail
  generalize w.alloc (.cells #[.int .i64 b0, .int .i64 b1] 48) = W0 at *
  have Hbox := Lib.hid hbox
  have Hblk0 := Lib.hid hblk
  clear hbox hblk
  go_cut [7, 8] (fun x y wx => ∃ a b : ByteArray, x = .string a ∧ y = .string b ∧ a.size ≤ 200 ∧ b.size ≤ 200 ∧ Drew W0 wx)
  case first =>
    go_quiet (fail)
    go_wp2_with fail
    go_meet
    exact ⟨_, _, rfl, rfl, by rw [ByteArray.size_extract]; omega, by rw [ByteArray.size_extract]; omega, ⟨nq, rfl⟩⟩
  case rest =>
    obtain ⟨a, b, rfl, rfl, ha, hb, hd⟩ := hcut
    have hd0 : Below W0.heap.size W0 wc := hd.below
    have Hblk := Lib.hid (Hblk0.out.below hd0 Hblk0.out.lt)
    have Hbel0 := Lib.hid (Hbox.out.trans (hd0.mono Hbox.out.size))
    clear hd hd0 Hblk0 Hbox
    go_wp2_with fail
    go_loopw [7, 8, 9] (fun x y kv wr => ∃ (n : Nat) (a b : ByteArray), n ≤ 3 ∧ kv = .int .i64 n ∧ x = .string a ∧ y = .string b ∧ a.size ≤ 200 ∧ b.size ≤ 200 ∧ Below w.heap.size w wr ∧ Blk wr w.heap.size 48 #[.int .i64 b0, .int .i64 b1]) (fun _ _ kv _ => 3 - (intOf kv).toNat)
    case atStart => exact ⟨0, a, b, by omega, rfl, rfl, rfl, ha, hb, Hbel0.out, Hblk.out⟩
    case round =>
      clear ha hb Hblk Hbel0 a b
      obtain ⟨n, a, b, hn, rfl, rfl, rfl, ha, hb, hbel, hblk⟩ := hrel
      have Hbel := Lib.hid hbel
      have Hblk := Lib.hid hblk
      clear hblk
      by_cases hlt : n < 3
      · have hni : (n : Int) < 3 := by omega
        obtain ⟨red, X, S, N, E, hC⟩ := root_calls m a ha
        obtain ⟨C, D, Z, T, p, q, ok, hP⟩ := pair_calls m a b ha hb
        have HC := Lib.hid hC
        have HP := Lib.hid hP
        have HM := Lib.hid (fun W (hW : Below wr.heap.size wr W) => Hm.out.low (hbel.trans (hW.mono hbel.size)))
        clear hbel ha hb hC hP
        generalize checkN (lettersOf a) = c at *
        go_upto_region 5 with fail
        go_cut [10, 11, 12] (fun x1 x2 x3 wx => x1 = .string S ∧ x2 = .int .i64 N ∧ x3 = .int .i64 E ∧ Below wr.heap.size wr wx)
        case first =>
          as_aux_lemma =>
            go_wp2_with (go_at_call 13; refine (HC.out.root _ (HM.out _ (Below.refl _ _))).mono ?_; rintro e w4 ⟨rfl, hb4⟩)
            go_meet
            exact ⟨rfl, rfl, rfl, hb4⟩
        case rest =>
          obtain ⟨rfl, rfl, rfl, hb4⟩ := hcut
          have Hb4 := Lib.hid hb4
          clear hb4
          go_upto_region 6 with fail
          go_cut [13] (fun x1 wx => x1 = .int .i64 c ∧ wx = wc)
          case first =>
            as_aux_lemma =>
              go_wp2_with (go_at_call 23; refine (HC.out.chk _).mono ?_; rintro e w5 ⟨rfl, rfl⟩)
              go_meet
              exact ⟨rfl, rfl⟩
          case rest =>
            obtain ⟨rfl, rfl⟩ := hcut
            go_upto_region 7 with fail
            go_cut [54] (fun x1 wx => ∃ f : Bool, x1 = .bool f ∧ (f = true → E = 4) ∧ (f = false → E = c) ∧ Below wr.heap.size wr wx)
            case first =>
              as_aux_lemma =>
                by_cases hc : c = 0
                · obtain ⟨g1, g2, g3⟩ := HC.out.good hc
                  have G1 := Lib.hid g1
                  cases red with
                  | true =>
                    have HE := Lib.hid (g2 rfl).2.1
                    obtain rfl := (g2 rfl).1
                    subst hc
                    clear g1 g2 g3
                    go_wp2_with (go_at_call 18; refine (G1.out _).mono ?_; rintro e w5 ⟨rfl, hb5⟩; have hb45 := Hb4.out.trans (hb5.mono Hb4.out.size))
                    go_meet
                    exact ⟨true, rfl, fun _ => HE.out, (fun h => by cases h), hb45⟩
                  | false =>
                    have hX := (g3 rfl).1
                    have HE := Lib.hid (g3 rfl).2.1
                    subst hc
                    clear g1 g2 g3
                    go_wp2_with (go_at_call 18; refine (G1.out _).mono ?_; rintro e w5 ⟨rfl, hb5⟩; have hb45 := Hb4.out.trans (hb5.mono Hb4.out.size))
                    go_meet
                    exact ⟨false, rfl, (fun h => by cases h), fun _ => HE.out, hb45⟩
                · have HE := Lib.hid (HC.out.bad hc).1
                  have hc0 : ((c : Int) == 0) = false := by simp; omega
                  go_wp2_with fail
                  go_meet
                  exact ⟨false, rfl, (fun h => by cases h), fun _ => HE.out, Hb4.out⟩
            case rest =>
              obtain ⟨f, rfl, hf1, hf2, hb5⟩ := hcut
              have Hb5 := Lib.hid hb5
              have Hf := Lib.hid (And.intro hf1 hf2)
              clear hb5 Hb4 hf1 hf2
              go_upto_if 54 with fail
              go_cut [13] (fun x1 wx => x1 = .int .i64 E ∧ wx = wc)
              case first =>
                as_aux_lemma =>
                  cases f with
                  | true =>
                    go_wp2_with fail
                    go_meet
                    exact ⟨by rw [Hf.out.1 (by trivial)]; rfl, rfl⟩
                  | false =>
                    go_wp2_with fail
                    go_meet
                    exact ⟨by rw [Hf.out.2 (by trivial)], rfl⟩
              case rest =>
                obtain ⟨rfl, rfl⟩ := hcut
                go_upto_if 56 with fail
                go_cut [9] (fun x1 wx => x1 = .int .i64 n ∧ Below wr.heap.size wr wx)
                case first =>
                  as_aux_lemma =>
                    by_cases hE : E = 0
                    · have hc : c = 0 := by
                        by_cases hc : c = 0
                        · exact hc
                        · have := (HC.out.bad hc).1; omega
                      obtain ⟨_, g2, g3⟩ := HC.out.good hc
                      subst hE
                      cases red with
                      | true =>
                        have := (g2 rfl).2.1
                        omega
                      | false =>
                        have G3 := Lib.hid (g3 rfl).2.2
                        clear g2 g3 hc
                        go_wp2_with (go_at_call 28; refine (G3.out _).mono ?_; rintro e w6 ⟨rfl, hb6⟩; have hb56 := Hb5.out.trans (hb6.mono Hb5.out.size))
                        go_meet
                        exact ⟨rfl, hb56⟩
                    · have hSN : S = ⟨#[]⟩ ∧ N = 0 := by
                        by_cases hc : c = 0
                        · obtain ⟨_, g2, g3⟩ := HC.out.good hc
                          cases red with
                          | true => exact ⟨(g2 rfl).2.2.1, (g2 rfl).2.2.2⟩
                          | false => exact absurd (g3 rfl).2.1 hE
                        · exact (HC.out.bad hc).2
                      obtain ⟨rfl, rfl⟩ := hSN
                      have hc0 : ((E : Int) == 0) = false := by simp; omega
                      have hc1 : ¬ (E : Int) = 0 := by omega
                      go_wp2_with fail
                      go_meet
                      exact ⟨rfl, Hb5.out⟩
                case rest =>
                  obtain ⟨rfl, hb6⟩ := hcut
                  have Hb6 := Lib.hid hb6
                  clear hb6 Hb5 HC
                  go_upto_region 15 with fail
                  go_cut [13] (fun x1 wx => x1 = .int .i64 C ∧ wx = wc)
                  case first =>
                    as_aux_lemma =>
                      go_wp2_with (go_at_call 23; refine (HP.out.chk1 _).mono ?_; rintro e w5 ⟨rfl, rfl⟩)
                      go_meet
                      exact ⟨rfl, rfl⟩
                  case rest =>
                    obtain ⟨rfl, rfl⟩ := hcut
                    go_upto_if 88 with fail
                    go_cut [13] (fun x1 wx => x1 = .int .i64 Z ∧ wx = wc)
                    case first =>
                      as_aux_lemma =>
                        have hZ := HP.out.eZ
                        by_cases hc : C = 0
                        · rw [if_pos hc] at hZ
                          subst hZ hc
                          go_wp2_with (go_at_call 23; refine (HP.out.chk2 _).mono ?_; rintro e w5 ⟨rfl, rfl⟩)
                          go_meet
                          exact ⟨rfl, rfl⟩
                        · rw [if_neg hc] at hZ
                          subst hZ
                          have hc0 : ((Z : Int) == 0) = false := by simp; omega
                          have hc1 : ¬ (Z : Int) = 0 := by omega
                          go_wp2_with fail
                          go_meet
                          exact ⟨rfl, rfl⟩
                    case rest =>
                      obtain ⟨rfl, rfl⟩ := hcut
                      go_upto_region 18 with fail
                      go_cut [16, 17, 18, 19, 20] (fun x1 x2 x3 x4 x5 wx => x1 = .string T ∧ x2 = .int .i64 p ∧ x3 = .int .i64 q ∧ x4 = .bool ok ∧ x5 = .int .i64 Z ∧ Below wr.heap.size wr wx)
                      case first =>
                        as_aux_lemma =>
                          have HM2 := Lib.hid (HM.out _ Hb6.out)
                          go_wp2_with (go_at_call 29; refine (HP.out.com _ HM2.out).mono ?_; rintro e w6 ⟨rfl, hb6⟩; have hb56 := Hb6.out.trans (hb6.mono Hb6.out.size))
                          go_meet
                          exact ⟨rfl, rfl, rfl, rfl, rfl, hb56⟩
                      case rest =>
                        obtain ⟨rfl, rfl, rfl, rfl, rfl, hb7⟩ := hcut
                        have Hb7 := Lib.hid hb7
                        clear hb7 Hb6
                        go_upto_if 101 with fail
                        go_cut [9] (fun x1 wx => x1 = .int .i64 n ∧ Below wr.heap.size wr wx)
                        case first =>
                          as_aux_lemma =>
                            by_cases hZ : Z = 0
                            · have G := Lib.hid (HP.out.good hZ)
                              subst hZ
                              go_wp2_with (go_at_call 30; refine (G.out _).mono ?_; rintro e w8 ⟨rfl, hb8⟩; have hb78 := Hb7.out.trans (hb8.mono Hb7.out.size))
                              go_meet
                              exact ⟨rfl, hb78⟩
                            · obtain ⟨rfl, rfl, rfl, rfl⟩ := HP.out.bad hZ
                              have hc0 : ((Z : Int) == 0) = false := by simp; omega
                              have hc1 : ¬ (Z : Int) = 0 := by omega
                              go_wp2_with fail
                              go_meet
                              exact ⟨rfl, Hb7.out⟩
                        case rest =>
                          obtain ⟨rfl, hb8⟩ := hcut
                          have Hb8 := Lib.hid hb8
                          clear hb8 Hb7 HP HM
                          go_upto_region 25 with fail
                          go_cut [7, 8] (fun x1 x2 wx => x1 = .string (strL tx) ∧ x2 = .string (strL ty) ∧ Below wr.heap.size wr wx)
                          case first =>
                            as_aux_lemma =>
                              go_wp2_with (first
                                | (go_at_call 25; refine (HTu.out _).mono ?_; clear HTu; rintro e w5 ⟨rfl, hb5⟩; have hb85 := Hb8.out.trans (hb5.mono Hb8.out.size))
                                | (go_at_call 25; refine (HTv.out _).mono ?_; clear HTv; rintro e w6 ⟨rfl, hb6⟩; have hb86 := hb85.trans (hb6.mono hb85.size)))
                              go_meet
                              exact ⟨rfl, rfl, hb86⟩
                          case rest =>
                            obtain ⟨rfl, rfl, hb9⟩ := hcut
                            have hblk9 := Hblk.out.below hb9 Hblk.out.lt
                            have Hb9 := Lib.hid hb9
                            have Hblk9 := Lib.hid hblk9
                            clear hb9 hblk9 Hb8
                            have Hbelc := Lib.hid (Hbel.out.trans (Hb9.out.mono Hbel.out.size))
                            have hzx : (strL tx).size ≤ 200 := by rw [strL_size]; have := Htx.out.2; omega
                            have hzy : (strL ty).size ≤ 200 := by rw [strL_size]; have := Hty.out.2; omega
                            by_cases hn1 : n = 1
                            · subst hn1
                              have hx := Htx.out
                              have hy := Hty.out
                              have elx : lettersOf (strL tx) = tx := letters_strL hx.1.lt256
                              have ely : lettersOf (strL ty) = ty := letters_strL hy.1.lt256
                              obtain ⟨M0, hM0, hM0w⟩ : ∃ M : Nat, M < 7 ∧ IntKind.u64.wrap b0 % 7 = (M : Int) := by
                                have h1 : 0 ≤ IntKind.u64.wrap b0 % 7 := by omega
                                have h2 : IntKind.u64.wrap b0 % 7 < 7 := by omega
                                generalize IntKind.u64.wrap b0 % 7 = x at *
                                exact ⟨x.toNat, by omega, by omega⟩
                              obtain ⟨M1, hM1, hM1w⟩ : ∃ M : Nat, M < 7 ∧ IntKind.u64.wrap b1 % 7 = (M : Int) := by
                                have h1 : 0 ≤ IntKind.u64.wrap b1 % 7 := by omega
                                have h2 : IntKind.u64.wrap b1 % 7 < 7 := by omega
                                generalize IntKind.u64.wrap b1 % 7 = x at *
                                exact ⟨x.toNat, by omega, by omega⟩
                              have hun0 : 0 ≤ IntKind.u64.wrap b0 := by
                                rw [show IntKind.u64.wrap b0 = b0 % 18446744073709551616 from rfl]; omega
                              have hun1 : 0 ≤ IntKind.u64.wrap b1 := by
                                rw [show IntKind.u64.wrap b1 = b1 % 18446744073709551616 from rfl]; omega
                              have hM0t : (IntKind.u64.wrap b0).tmod 7 = (M0 : Int) := by rw [Int.tmod_eq_emod_of_nonneg hun0]; exact hM0w
                              have hM1t : (IntKind.u64.wrap b1).tmod 7 = (M1 : Int) := by rw [Int.tmod_eq_emod_of_nonneg hun1]; exact hM1w
                              have hi0 : IntKind.i64.wrap (M0 : Int) = (M0 : Int) := IntWalk.i64_in _ (by omega)
                              have hi1 : IntKind.i64.wrap (M1 : Int) = (M1 : Int) := IntWalk.i64_in _ (by omega)
                              have hA0 : IntKind.i64.wrap ((M0 : Int) - 3) = (M0 : Int) - 3 := IntWalk.i64_in _ (by omega)
                              have hA1 : IntKind.i64.wrap ((M1 : Int) - 3) = (M1 : Int) - 3 := IntWalk.i64_in _ (by omega)
                              have HPw : ∀ z : Int, -3 ≤ z → z ≤ 3 → ∃ X : ByteArray, X.size ≤ 36 ∧ X = strL (powZ tx z) ∧ ∀ W, Calls Try.prog 31 #[.string (strL tx), .int .i64 z] W fun e w' => e = .returned (.string X) ∧ Below W.heap.size W w' := fun z z1 z2 => by
                                refine ⟨_, ?_, rfl, fun W => ?_⟩
                                · rw [strL_size, powZ_length]
                                  exact Nat.le_trans (Nat.mul_le_mul (show z.natAbs ≤ 3 by omega) hx.2) (by decide)
                                · have h := rpower_any (strL tx) z W (by rw [elx]; exact hx.1) (by omega) (by omega)
                                  rwa [elx] at h
                              obtain ⟨X0, z0, e0, P0⟩ := HPw ((M0 : Int) - 3) (by omega) (by omega)
                              obtain ⟨X1, z1, e1, P1⟩ := HPw ((M1 : Int) - 3) (by omega) (by omega)
                              have hI : ∀ W, Calls Try.prog 19 #[.string (strL ty)] W fun e w' => e = .returned (.string (strL (invL ty))) ∧ Below W.heap.size W w' := fun W => by
                                have h := rinverse_any (strL ty) W (by rw [ely]; exact hy.1) (by omega)
                                rwa [ely] at h
                              have hzi : (strL (invL ty)).size ≤ 12 := by rw [strL_size, invL_length]; exact hy.2
                              obtain ⟨Y, zY, hR⟩ : ∃ Y : ByteArray, Y.size ≤ 200 ∧ ∀ W, Calls Try.prog 18 #[.string (strL ty ++ X1 ++ strL (invL ty))] W fun e w' => e = .returned (.string Y) ∧ Below W.heap.size W w' := by
                                have ww : IsWord (ty ++ (powZ tx ((M1 : Int) - 3) ++ invL ty)) := hy.1.append ((powZ_word hx.1 _).append (invL_word hy.1))
                                have e2 : strL ty ++ X1 ++ strL (invL ty) = strL (ty ++ (powZ tx ((M1 : Int) - 3) ++ invL ty)) := by rw [e1, strL_append, strL_append, List.append_assoc]
                                have z2 : (strL (ty ++ (powZ tx ((M1 : Int) - 3) ++ invL ty))).size ≤ 200 := by
                                  rw [← e2, ByteArray.size_append, ByteArray.size_append]
                                  have : (strL ty).size ≤ 12 := by rw [strL_size]; exact hy.2
                                  omega
                                refine ⟨strL (redL (ty ++ (powZ tx ((M1 : Int) - 3) ++ invL ty))), ?_, fun W => ?_⟩
                                · rw [strL_size] at z2 ⊢
                                  exact Nat.le_trans (redL_length _) z2
                                · rw [e2]
                                  have h := rreduce_any (strL (ty ++ (powZ tx ((M1 : Int) - 3) ++ invL ty))) W (by rw [letters_strL ww.lt256]; exact ww) (by omega)
                                  rwa [letters_strL ww.lt256] at h
                              have J0 := Lib.hid P0
                              have J1 := Lib.hid P1
                              have JI := Lib.hid hI
                              have JR := Lib.hid hR
                              clear P0 P1 hI hR e0 e1 HPw hx hy elx ely hM0w hM1w hun0 hun1
                              generalize strL (invL ty) = iy at *
                              generalize strL tx = sx at *
                              generalize strL ty = sy at *
                              go_upto_region 27 with fail
                              go_cut [25] (fun x1 wx => x1 = .string X0 ∧ Below wr.heap.size wr wx)
                              case first =>
                                as_aux_lemma =>
                                  have hc0 := Hblk9.out.cell 0
                                  have hc1 := Hblk9.out.cell 1
                                  go_wp2_with (go_at_call 31; refine (J0.out _).mono ?_; clear J0; rintro e w5 ⟨rfl, hb5⟩; have hb95 := Hb9.out.trans (hb5.mono Hb9.out.size))
                                  go_meet
                                  exact ⟨rfl, hb95⟩
                              case rest =>
                                obtain ⟨rfl, hb10⟩ := hcut
                                have Hb10 := Lib.hid hb10
                                have Hblk10 := Lib.hid (Hblk.out.below hb10 Hblk.out.lt)
                                clear hb10 Hb9 Hblk9 Hbelc J0
                                go_upto_region 28 with fail
                                go_cut [8] (fun x1 wx => x1 = .string Y ∧ Below wr.heap.size wr wx)
                                case first =>
                                  as_aux_lemma =>
                                    have hc0 := Hblk10.out.cell 0
                                    have hc1 := Hblk10.out.cell 1
                                    go_wp2_with (first
                                      | (go_at_call 31; refine (J1.out _).mono ?_; clear J1; rintro e w5 ⟨rfl, hb5⟩; have hb95 := Hb10.out.trans (hb5.mono Hb10.out.size))
                                      | (go_at_call 19; refine (JI.out _).mono ?_; clear JI; rintro e w6 ⟨rfl, hb6⟩; have hb96 := hb95.trans (hb6.mono hb95.size))
                                      | (go_at_call 18; refine (JR.out _).mono ?_; clear JR; rintro e w7 ⟨rfl, hb7⟩; have hb97 := hb96.trans (hb7.mono hb96.size)))
                                    go_meet
                                    exact ⟨rfl, hb97⟩
                                case rest =>
                                  obtain ⟨rfl, hb11⟩ := hcut
                                  have Hb11 := Lib.hid hb11
                                  have Hblk11 := Lib.hid (Hblk.out.below hb11 Hblk.out.lt)
                                  clear hb11 Hb10 Hblk10 JI JR
                                  go_upto_if 181 with fail
                                  go_cut [8] (fun x1 wx => ∃ b' : ByteArray, x1 = .string b' ∧ b'.size ≤ 200 ∧ Below wr.heap.size wr wx)
                                  case first =>
                                    as_aux_lemma =>
                                      have hc0 := Hblk11.out.cell 0
                                      have hc1 := Hblk11.out.cell 1
                                      by_cases hv : v.size % 2 = 0
                                      · have hvi : (v.size : Int).tmod 2 = 0 := by rw [Int.tmod_eq_emod_of_nonneg (by omega)]; omega
                                        go_wp2_with (go_at_call 31; refine (J1.out _).mono ?_; clear J1; rintro e w5 ⟨rfl, hb5⟩; have hb95 := Hb11.out.trans (hb5.mono Hb11.out.size))
                                        go_meet
                                        exact ⟨X1, rfl, by omega, hb95⟩
                                      · have hvi : (v.size : Int).tmod 2 = 1 := by rw [Int.tmod_eq_emod_of_nonneg (by omega)]; omega
                                        go_wp2_with fail
                                        go_meet
                                        exact ⟨Y, rfl, zY, Hb11.out⟩
                                  case rest =>
                                    obtain ⟨b', rfl, hb', hb12⟩ := hcut
                                    have Hb12 := Lib.hid hb12
                                    have Hblk12 := Lib.hid (Hblk.out.below hb12 Hblk.out.lt)
                                    have Hbelc := Lib.hid (Hbel.out.trans (hb12.mono Hbel.out.size))
                                    clear hb12 Hb11 Hblk11 J1 hM0t hM1t hi0 hi1 hA0 hA1
                                    go_wp2_with fail
                                    go_roundw
                                    case rel => exact ⟨2, X0, b', by omega, by go_num, rfl, rfl, by omega, hb', Hbelc.out, Hblk12.out⟩
                                    case measure => simp [intOf]
                            · have hn1i : ¬ (n : Int) = 1 := by omega
                              have hn1b : ((n : Int) == 1) = false := by simp; omega
                              have Hzx := Lib.hid hzx
                              have Hzy := Lib.hid hzy
                              clear hzx hzy
                              go_wp2_with fail
                              go_roundw
                              case rel => exact ⟨n + 1, _, _, by omega, by go_num, rfl, rfl, Hzx.out, Hzy.out, Hbelc.out, Hblk9.out⟩
                              case measure => simp [intOf]; omega
      · obtain rfl : n = 3 := by omega
        have Ha := Lib.hid (Haw.out wr Hbel.out)
        clear hbel
        go_wp2_with (go_at_call 15; refine Ha.out.mono ?_; clear Ha; rintro e w6 ⟨rfl, hb6⟩)
        go_ret
        exact ⟨rfl, Hbel.out.trans (hb6.mono Hbel.out.size)⟩

end Go.Proofs.Ytojjpbeaifiejaa

namespace Go.Proofs.Ytojjpbeaifiejaa.hangRoots
open Go.ChangeShapes Go.WideShapes Go.ChangeAt Go.RowKit Go.Joins
open Go.ChangeMaps (open_string shut_string)
set_option linter.unusedVariables false

theorem cells_pair : Try.prog.cellsOf 48 = 2 := by kernel_rfl
theorem cells_int : Try.prog.cellsOf 3 = 1 := by kernel_rfl
theorem list2 {α : Type} (l : List α) (h : (⟨l⟩ : Array α).size = 2) : ∃ a b, l = [a, b] := by
  match l, h with
  | [a, b], _ => exact ⟨a, b, rfl⟩

set_option maxRecDepth 100000 in
set_option maxHeartbeats 400000 in
theorem lifted (os : Os) (started : os.Started) (H : Type) (enc : TypeId × Value → H) :
    ReturnsInHanded {} Try.checked os 6 .any (Rows.hangRootsSpec.pre6 enc Try.prog Try.f6 Rows.hangRootsRow.domain false) (Rows.hangRootsSpec.post enc Try.prog Try.f6 false true false false) := by
  refine returnsInHanded_of_change_shaped (C := Try.checked) own_knob started (by kernel_rfl) Try.func6
    (ChangeSpec.witness6 (enc := enc) (C := Try.checked) false ⟨#[], #[.string ⟨#[]⟩, .string ⟨#[]⟩, .agg #[.int .i64 0, .int .i64 0]], []⟩ 8 (by kernel_rfl) (by kernel_rfl) (by kernel_rfl) (by kernel_rfl)) ?_
  intro W base args ds gs before hval0 hW hcnd _ hsh _
  have hval : ∀ (j : Nat) t v, Try.f6.params[j]? = some t → args[j]? = some v → Value.okWide Try.prog W .any base t v := hval0
  have hW' := hW
  obtain ⟨p, q, hA0, hV, rfl, hfz, hnd⟩ := hW
  have hA : DataW.TrodAll enc Try.prog W 0 (fun _ => true) true Try.f6.params.toList args.toList ds p := hA0
  rw [Try.params6] at hA hval
  obtain ⟨v0, vs0, d0, ds0, p0, q0, hargs, rfl, rfl, h0, r0⟩ := trodAll_cons hA
  obtain ⟨v1, vs1, d1, ds1, p1, q1, rfl, rfl, rfl, h1, r1⟩ := trodAll_cons r0
  obtain ⟨v2, vs2, d2, ds2, p2, q2, rfl, rfl, rfl, h2, r2⟩ := trodAll_cons r1
  obtain ⟨rfl, rfl, rfl⟩ := trodAll_nil r2
  obtain rfl : args = #[v0, v1, v2] := by cases args; simp_all
  obtain ⟨rfl, rfl⟩ := trodVars_none hV
  have lt0 : ∀ x ∈ p0, x.block < W.heap.size := by obtain ⟨m, hm⟩ := h0; exact DataW.trod_lt m _ _ _ hm
  have lt1 : ∀ x ∈ p1, x.block < W.heap.size := by obtain ⟨m, hm⟩ := h1; exact DataW.trod_lt m _ _ _ hm
  obtain ⟨u, e0, _, _, wu⟩ := open_string Try.underlying9 (hval 0 9 v0 rfl rfl) h0
  subst e0
  obtain ⟨v, e1, _, _, wv⟩ := open_string Try.underlying9 (hval 1 9 v1 rfl rfl) h1
  subst e1
  have lt2 : ∀ x ∈ p2, x.block < W.heap.size := by obtain ⟨m, hm⟩ := h2; exact DataW.trod_lt m _ _ _ hm
  have hagg : ∃ b0 b1, v2 = .agg #[.int .i64 b0, .int .i64 b1] ∧ (-9223372036854775808 ≤ b0 ∧ b0 ≤ 9223372036854775807) ∧ (-9223372036854775808 ≤ b1 ∧ b1 ≤ 9223372036854775807) := by
    obtain ⟨cs, rfl, hsz, _⟩ : ∃ cs, v2 = .agg cs ∧ cs.size = Try.prog.cellsOf 48 ∧ Row.okWide Try.prog W .any base 48 cs := by
      have := hval 2 48 v2 rfl rfl
      simpa [Value.okWide, Try.underlying48] using this
    rw [cells_pair] at hsz
    obtain ⟨l⟩ := cs
    obtain ⟨c0, c1, rfl⟩ := list2 l hsz
    obtain ⟨fuel, hf⟩ := h2
    obtain ⟨xs, m, _, _, _, hxl, hxe⟩ := DataW.trod_array Try.underlying48 hf
    obtain ⟨a0, a1, rfl⟩ := list2 xs hxl
    have y0 := hxe 0 (by omega)
    have y1 := hxe 1 (by omega)
    simp [Value.cells, cells_int] at y0 y1
    obtain ⟨x0, e0, _, w0⟩ := DataW.trod_int Try.underlying3 y0
    obtain ⟨x1, e1, _, w1⟩ := DataW.trod_int Try.underlying3 y1
    simp at e0 e1
    subst e0 e1
    exact ⟨x0, x1, rfl, i64_bounds w0, i64_bounds w1⟩
  obtain ⟨b0, b1, rfl, hb0, hb1⟩ := hagg
  obtain ⟨m, hm⟩ := Try.laysM185.s1_3 W hsh
  have hm : W.cell? ⟨0, 0, none⟩ = some (.int .i64 m) := hm
  have hw0 := kept_cell hm
  clear hA0 hval0
  refine (hangRoots_walk u v b0 b1 m W hb0 hb1 ⟨hm, hw0⟩).mono fun e W' ⟨he, bel⟩ => ?_
  subst he
  exact ⟨_, rfl, _, _, _, [], _, [], hW', trodAll_mk1 (shut_bool Try.underlying4 _), (trodAll_cons_mk (Below.trod laid_out (by kernel_rfl) (of_decide_eq_true (by kernel_rfl)) h0 bel lt0) (trodAll_cons_mk (Below.trod laid_out (by kernel_rfl) (of_decide_eq_true (by kernel_rfl)) h1 bel lt1) (trodAll_cons_mk (Below.trod laid_out (by kernel_rfl) (of_decide_eq_true (by kernel_rfl)) h2 bel lt2) trodAll_mk0))), rfl, bel.frame _, fun h => by cases h⟩

theorem over : Rows.hangRootsRow.holds Try.pinned (OpenSpec.ofChange Rows.hangRootsSpec) :=
  OpenClaim.holds_of_wide 6 Try.f6 rfl rfl rfl rfl rfl rfl rfl ⟨rfl, rfl, rfl, rfl, rfl⟩ rfl rfl rfl rfl rfl (by kernel_rfl) Try.func6 (by kernel_rfl)
    (of_decide_eq_true (by kernel_rfl)) (by unfold Func.isWrapper; first | (rw [if_pos (by decide +kernel)]; kernel_rfl) | (rw [if_neg (by decide +kernel)]; exact ⟨rfl, rfl⟩))
    (fun os started H enc _ => lifted os started H enc)
end Go.Proofs.Ytojjpbeaifiejaa.hangRoots

namespace Go.Proofs.Ytojjpbeaifiejaa
theorem hangRoots_proved : Rows.HangRootsSaid := hangRoots.over
#print axioms hangRoots_proved
end Go.Proofs.Ytojjpbeaifiejaa
