/-
  The walk of HangWords.
-/
import Derived.Test.YtkdalgdckgmccaaGreatDoorSumW
import Derived.Test.YtkdalgdckgmccaaGreatDoorAwake
namespace Go.Proofs.YtkdalgdckgmccaaGreatDoor
open Go.RowKit Go.Shelf

theorem oneSetW (K : Nat) (z : Int) (W : World) (hK : K ≤ 26) (hz : -9223372036854775808 ≤ z ∧ z ≤ 9223372036854775807) :
    Calls Tryz.prog 16 #[.slice (some ⟨W.heap.size, 0, none⟩) 1 1, .int .i64 1, .int .i64 K, .bool true] (W.alloc (.cells #[.int .i64 z] 3)) fun e w' => ∃ g c, e = .returned (.slice (some ⟨g, 0, none⟩) 1 c) ∧ w'.cell? ⟨g, 0, none⟩ = some (.string (strL (oneS K true z))) ∧ 1 ≤ c ∧ Below W.heap.size W w' := by
  have hblk := Blk.new W 3 #[.int .i64 z]
  have h := lawSets_any (some ⟨W.heap.size, 0, none⟩) 1 1 1 K true [z] (W.alloc (.cells #[.int .i64 z] 3)) ⟨rfl, fun _ => ⟨_, 0, rfl, hblk.lt, fun i hi => by
    obtain rfl : i = 0 := by omega
    exact hblk.cell 0⟩⟩ (by omega) (by omega) (by omega) (fun x hx => by
    obtain rfl : x = z := by simpa using hx
    exact hz)
  refine h.mono ?_
  rintro e w' ⟨v, rfl, hown, hb⟩
  simp only [List.take_succ_cons, List.take_zero, List.map_cons, List.map_nil, List.length_singleton] at hown
  obtain ⟨g, c, rfl⟩ := own_pos hown (by omega)
  exact ⟨g, c, rfl, own_cell hown 0 (by omega), own_capd hown, (below_new' W _).trans (hb.mono (alloc_size_le W _ (Nat.le_refl _)))⟩

theorem wrap_range (x : Int) : -9223372036854775808 ≤ IntKind.i64.wrap x ∧ IntKind.i64.wrap x ≤ 9223372036854775807 := by
  rw [IntKind.wrap_i64]
  omega

/-- What the calls about a word, a set of nails and a nail return. C: the error; X, Y: the forms; f, g: whether it falls, and the error; d, h: the sum, and the error; b: whether p is a set; o: whether q is a nail. -/
structure WordC (s p q : ByteArray) (C : Nat) (X Y : ByteArray) (f b o : Bool) (g d h : Int) : Prop where
  chk : ∀ W, Calls Tryz.prog 5 #[.string s] W fun e w' => e = .returned (.int .i64 C) ∧ Below W.heap.size W w'
  rchk : ∀ W, Calls Tryz.prog 4 #[.string s] W fun e w' => e = .returned (.int .i64 C) ∧ w' = W
  red : ∀ W, Calls Tryz.prog 6 #[.string s] W fun e w' => e = .returned (.tuple #[.string X, .int .i64 C]) ∧ Below W.heap.size W w'
  inv : ∀ W, Calls Tryz.prog 7 #[.string s] W fun e w' => e = .returned (.tuple #[.string Y, .int .i64 C]) ∧ Below W.heap.size W w'
  fal : ∀ W, Calls Tryz.prog 8 #[.string s, .string p] W fun e w' => e = .returned (.tuple #[.bool f, .int .i64 g]) ∧ Below W.heap.size W w'
  sum : ∀ W, Calls Tryz.prog 9 #[.string s, .string q] W fun e w' => e = .returned (.tuple #[.int .i64 d, .int .i64 h]) ∧ Below W.heap.size W w'
  set : ∀ W, Calls Tryz.prog 12 #[.string p] W fun e w' => e = .returned (.bool b) ∧ Below W.heap.size W w'
  nail : o = oneNail q
  bad : C ≠ 0 → X = ⟨#[]⟩ ∧ Y = ⟨#[]⟩ ∧ f = false ∧ g = C ∧ d = 0 ∧ h = C
  rred : C = 0 → ∀ W, Calls Tryz.prog 10 #[.string s] W fun e w' => e = .returned (.string X) ∧ Below W.heap.size W w'
  rinv : C = 0 → ∀ W, Calls Tryz.prog 11 #[.string s] W fun e w' => e = .returned (.string Y) ∧ Below W.heap.size W w'
  noset : C = 0 → b = false → g = 1 ∧ f = false
  rfal : C = 0 → b = true → g = 0 ∧ ∀ W, Calls Tryz.prog 13 #[.string s, .string p] W fun e w' => e = .returned (.bool f) ∧ Below W.heap.size W w'
  nonail : C = 0 → o = false → h = 1 ∧ d = 0
  rsum : C = 0 → o = true → h = 0 ∧ ∀ W, Calls Tryz.prog 14 #[.string s, .int .u8 ((lettersOf q).getD 0 0)] W fun e w' => e = .returned (.int .i64 d) ∧ Below W.heap.size W w'
  small : C ≤ 100

theorem word_calls (s p q : ByteArray) (hs : s.size ≤ 9223372036854775807) (hp : p.size ≤ 9223372036854775807) : ∃ C X Y f b o g d h, WordC s p q C X Y f b o g d h := by
  have hcl : checkN (lettersOf s) ≤ 100 := by
    unfold checkN
    split
    · split <;> omega
    · omega
  by_cases hc : checkN (lettersOf s) = 0
  · obtain ⟨hword, hlen⟩ := checkN_zero hc
    have hl := lettersOf_length s
    have hred := reduce_any s
    have hchk := fun W => check_any s W hs
    have hrchk := fun W => rcheck_any s W hs
    rw [hc] at hchk hrchk
    refine ⟨0, strL (redL (lettersOf s)), strL (invL (lettersOf s)), risingB 0 (lettersOf p) && fallsL (nailsL (lettersOf p)) (redL (lettersOf s)), risingB 0 (lettersOf p), oneNail q, if risingB 0 (lettersOf p) = true then 0 else 1,
      if oneNail q = true then ((lettersOf s).count ((lettersOf q).getD 0 0) : Int) - ((lettersOf s).count (inv ((lettersOf q).getD 0 0)) : Int) else 0, if oneNail q = true then 0 else 1,
      ⟨hchk, hrchk, fun W => reduce_any s W (by omega) hc, fun W => inverseOf_any s W (by omega) hc, fun W => ?_, fun W => ?_, fun W => isset_any p W hp, rfl, fun h => absurd rfl h, fun _ W => rreduce_any s W hword (by omega), fun _ W => rinverse_any s W hword (by omega), fun _ hb => ?_, fun _ hb => ?_, fun _ ho => ?_, fun _ ho => ?_, by omega⟩⟩
    · cases hb : risingB 0 (lettersOf p) with
      | true =>
        rw [Bool.true_and, if_pos rfl]
        have hz := rising_size hb
        rw [lettersOf_length] at hz
        exact falls_any s p W (by omega) (by omega) hc hb
      | false =>
        rw [Bool.false_and, if_neg (by simp)]
        exact falls_noset s p W hs hp hc hb
    · cases ho : oneNail q with
      | true =>
        rw [if_pos rfl, if_pos rfl]
        exact sum_any s q W hc ho
      | false =>
        rw [if_neg (by simp), if_neg (by simp)]
        exact sum_noset s q W hs hc ho
    · rw [hb, if_neg (by simp), Bool.false_and]; exact ⟨rfl, rfl⟩
    · rw [hb, if_pos rfl, Bool.true_and]
      refine ⟨rfl, fun W => ?_⟩
      have hz := rising_size hb
      rw [lettersOf_length] at hz
      have h := rfalls_any s p W hword (by omega) (by omega)
      rwa [stay_keep hb, ← falls_eq hword] at h
    · rw [ho, if_neg (by simp), if_neg (by simp)]; exact ⟨rfl, rfl⟩
    · rw [ho, if_pos rfl, if_pos rfl]
      refine ⟨rfl, fun W => ?_⟩
      unfold oneNail at ho
      simp only [Bool.and_eq_true, decide_eq_true_eq] at ho
      exact rsum_any s _ W ⟨ho.1.2, ho.2⟩ (by omega)
  · refine ⟨checkN (lettersOf s), ⟨#[]⟩, ⟨#[]⟩, false, risingB 0 (lettersOf p), oneNail q, checkN (lettersOf s), 0, checkN (lettersOf s),
      ⟨fun W => check_any s W hs, fun W => rcheck_any s W hs, fun W => reduce_bad s W hs hc, fun W => inverse_bad s W hs hc, fun W => falls_bad s p W hs hc, fun W => sum_bad s q W hs hc, fun W => isset_any p W hp, rfl, fun _ => ⟨rfl, rfl, rfl, rfl, rfl, rfl⟩, fun h => absurd h hc, fun h => absurd h hc, fun h => absurd h hc, fun h => absurd h hc, fun h => absurd h hc, fun h => absurd h hc, hcl⟩⟩

set_option maxRecDepth 100000 in
set_option maxHeartbeats 4000000 in
theorem hangWords_walk (s p q : ByteArray) (m : Int) (w : World) (hs : s.size ≤ 9223372036854775807) (hp : p.size ≤ 9223372036854775807) (hm : w.cell? ⟨0, 0, none⟩ = some (.int .i64 m)) (hw0 : 0 < w.heap.size) :
    Calls Tryz.prog 3 #[.string s, .string p, .string q] w fun e w' => e = .returned (.bool true) ∧ Below w.heap.size w w' := by
  have Haw := Lib.hid (fun W (hW : Below w.heap.size w W) => awake_any m W ((hW.cell (p := ⟨0, 0, none⟩) hw0).trans hm) (Nat.lt_of_lt_of_le hw0 hW.size))
  clear hm hw0
  go_enter Tryz.func3, Tryz.ntmps3
  go_wp2_with fail
  go_loopw [0, 1, 2, 7] (fun x y z kv wr => ∃ (n : Nat) (s p q : ByteArray), n ≤ 2 ∧ kv = .int .i64 n ∧ x = .string s ∧ y = .string p ∧ z = .string q ∧ s.size ≤ 9223372036854775807 ∧ p.size ≤ 9223372036854775807 ∧ Below w.heap.size w wr) (fun _ _ _ kv _ => 2 - (intOf kv).toNat)
  case atStart => exact ⟨0, s, p, q, by omega, rfl, rfl, rfl, rfl, hs, hp, Below.refl _ _⟩
  case round =>
    clear hs hp s p q
    obtain ⟨n, s, p, q, hn, rfl, rfl, rfl, rfl, hs, hp, hbel⟩ := hrel
    have Hbel := Lib.hid hbel
    clear hbel
    by_cases hlt : n < 2
    · have hni : (n : Int) < 2 := by omega
      obtain ⟨C, X, Y, f, b, o, g, d, h, hC⟩ := word_calls s p q hs hp
      have HC := Lib.hid hC
      have hcs := hC.small
      have HTx : Hid (∀ W : World, Calls Tryz.prog 15 #[.string s, .int .i64 3, .int .i64 100] W fun e w' => e = .returned (.string (strL (textL 3 ((lettersOf s).take 100)))) ∧ Below W.heap.size W w') := fun W => text_any s 3 100 W (by omega) (by omega) (by omega)
      have htz : (strL (textL 3 ((lettersOf s).take 100))).size ≤ 100 := by rw [strL_size]; unfold textL; rw [List.length_map, List.length_take]; omega
      generalize strL (textL 3 ((lettersOf s).take 100)) = tx at *
      have Htz := Lib.hid htz
      obtain ⟨Z, hZ⟩ : ∃ Z, IntKind.i64.wrap ((p.size : Int) + (q.size : Int)) = Z := ⟨_, rfl⟩
      have hZr := wrap_range ((p.size : Int) + (q.size : Int))
      rw [hZ] at hZr
      have HO := Lib.hid (fun W => oneSetW 3 Z W (by omega) hZr)
      have hoz : (strL (oneS 3 true Z)).size ≤ 26 := by rw [strL_size]; exact rising_size (rising_one (show 3 ≤ 26 by omega) true Z)
      generalize strL (oneS 3 true Z) = O at *
      have Hoz := Lib.hid hoz
      have HZ := Lib.hid hZ
      clear hC htz hZr hoz hZ hs hp
      have Hb0 : Hid (Below wr.heap.size wr wr) := Below.refl _ _
      go_upto_region 4 with fail
      go_cut [8] (fun x1 wx => x1 = .int .i64 C ∧ Below wr.heap.size wr wx)
      case first =>
        as_aux_lemma =>
          go_wp2_with (go_at_call 4; refine (HC.out.rchk _).mono ?_; rintro e w5 ⟨rfl, rfl⟩)
          go_meet
          exact ⟨rfl, Hb0.out⟩
      case rest =>
        obtain ⟨rfl, hb1⟩ := hcut
        have Hb1 := Lib.hid hb1
        clear hb1 Hb0
        go_upto_region 5 with fail
        go_cut [26] (fun x1 wx => x1 = .bool false ∧ Below wr.heap.size wr wx)
        case first =>
          as_aux_lemma =>
            go_wp2_with (go_at_call 5; refine (HC.out.chk _).mono ?_; rintro e w5 ⟨rfl, hb5⟩; have hb6 := Hb1.out.trans (hb5.mono Hb1.out.size))
            go_meet
            exact ⟨rfl, hb6⟩
        case rest =>
          obtain ⟨rfl, hb2⟩ := hcut
          have Hb2 := Lib.hid hb2
          clear hb2 Hb1
          go_upto_region 7 with fail
          go_cut [9, 10] (fun x1 x2 wx => x1 = .string X ∧ x2 = .int .i64 C ∧ Below wr.heap.size wr wx)
          case first =>
            as_aux_lemma =>
              go_wp2_with (go_at_call 6; refine (HC.out.red _).mono ?_; rintro e w5 ⟨rfl, hb5⟩; have hb6 := Hb2.out.trans (hb5.mono Hb2.out.size))
              go_meet
              exact ⟨rfl, rfl, hb6⟩
          case rest =>
            obtain ⟨rfl, rfl, hb3⟩ := hcut
            have Hb3 := Lib.hid hb3
            clear hb3 Hb2
            go_upto_region 8 with fail
            go_cut [11, 12] (fun x1 x2 wx => x1 = .string Y ∧ x2 = .int .i64 C ∧ Below wr.heap.size wr wx)
            case first =>
              as_aux_lemma =>
                go_wp2_with (go_at_call 7; refine (HC.out.inv _).mono ?_; rintro e w5 ⟨rfl, hb5⟩; have hb6 := Hb3.out.trans (hb5.mono Hb3.out.size))
                go_meet
                exact ⟨rfl, rfl, hb6⟩
            case rest =>
              obtain ⟨rfl, rfl, hb4⟩ := hcut
              have Hb4 := Lib.hid hb4
              clear hb4 Hb3
              go_upto_region 9 with fail
              go_cut [13, 14] (fun x1 x2 wx => x1 = .bool f ∧ x2 = .int .i64 g ∧ Below wr.heap.size wr wx)
              case first =>
                as_aux_lemma =>
                  go_wp2_with (go_at_call 8; refine (HC.out.fal _).mono ?_; rintro e w5 ⟨rfl, hb5⟩; have hb6 := Hb4.out.trans (hb5.mono Hb4.out.size))
                  go_meet
                  exact ⟨rfl, rfl, hb6⟩
              case rest =>
                obtain ⟨rfl, rfl, hb5⟩ := hcut
                have Hb5 := Lib.hid hb5
                clear hb5 Hb4
                go_upto_region 10 with fail
                go_cut [15, 16] (fun x1 x2 wx => x1 = .int .i64 d ∧ x2 = .int .i64 h ∧ Below wr.heap.size wr wx)
                case first =>
                  as_aux_lemma =>
                    go_wp2_with (go_at_call 9; refine (HC.out.sum _).mono ?_; rintro e w5 ⟨rfl, hb5⟩; have hb6 := Hb5.out.trans (hb5.mono Hb5.out.size))
                    go_meet
                    exact ⟨rfl, rfl, hb6⟩
                case rest =>
                  obtain ⟨rfl, rfl, hb6⟩ := hcut
                  have Hb6 := Lib.hid hb6
                  clear hb6 Hb5
                  go_upto_if 50 with fail
                  go_cut [7] (fun x1 wx => x1 = .int .i64 n ∧ Below wr.heap.size wr wx)
                  case first =>
                    by_cases hc : C = 0
                    · have hrred := HC.out.rred hc
                      have hrinv := HC.out.rinv hc
                      have J1 := Lib.hid hrred
                      have J2 := Lib.hid hrinv
                      have J3 := Lib.hid (HC.out.noset hc)
                      have J4 := Lib.hid (HC.out.rfal hc)
                      have J5 := Lib.hid (HC.out.nonail hc)
                      have J6 := Lib.hid (HC.out.rsum hc)
                      have J7 := Lib.hid HC.out.set
                      have J8 := Lib.hid HC.out.nail
                      clear hrred hrinv HC
                      subst hc
                      go_upto_region 14 with fail
                      go_cut [101] (fun x1 wx => x1 = .bool false ∧ Below wr.heap.size wr wx)
                      case first =>
                        as_aux_lemma =>
                          go_wp2_with (first
                            | (go_at_call 10; refine (J1.out _).mono ?_; rintro e w5 ⟨rfl, hb5⟩; have hb65 := Hb6.out.trans (hb5.mono Hb6.out.size))
                            | (go_at_call 11; refine (J2.out _).mono ?_; rintro e w6 ⟨rfl, hb6⟩; have hb66 := hb65.trans (hb6.mono hb65.size)))
                          go_meet
                          exact ⟨rfl, hb66⟩
                      case rest =>
                        obtain ⟨rfl, hb7⟩ := hcut
                        have Hb7 := Lib.hid hb7
                        clear hb7 Hb6 J1 J2
                        go_upto_region 16 with fail
                        go_cut [104] (fun x1 wx => x1 = .bool (!b) ∧ Below wr.heap.size wr wx)
                        case first =>
                          as_aux_lemma =>
                            go_wp2_with (go_at_call 12; refine (J7.out _).mono ?_; rintro e w5 ⟨rfl, hb5⟩; have hb75 := Hb7.out.trans (hb5.mono Hb7.out.size))
                            go_meet
                            exact ⟨rfl, hb75⟩
                        case rest =>
                          obtain ⟨rfl, hb8⟩ := hcut
                          have Hb8 := Lib.hid hb8
                          clear hb8 Hb7 J7
                          go_upto_if 104 with fail
                          go_cut [7] (fun x1 wx => x1 = .int .i64 n ∧ Below wr.heap.size wr wx)
                          case first =>
                            as_aux_lemma =>
                              cases b with
                              | false =>
                                obtain ⟨rfl, rfl⟩ := J3.out rfl
                                clear J3 J4
                                go_wp2_with fail
                                go_meet
                                exact ⟨rfl, Hb8.out⟩
                              | true =>
                                obtain ⟨rfl, j4⟩ := J4.out rfl
                                have J4' := Lib.hid j4
                                clear J3 J4 j4
                                go_wp2_with (go_at_call 13; refine (J4'.out _).mono ?_; rintro e w5 ⟨rfl, hb5⟩; have hb85 := Hb8.out.trans (hb5.mono Hb8.out.size))
                                go_meet
                                exact ⟨rfl, hb85⟩
                          case rest =>
                            obtain ⟨rfl, hb9⟩ := hcut
                            have Hb9 := Lib.hid hb9
                            clear hb9 Hb8 J3 J4
                            by_cases h1 : q.size = 1
                            · have hq0 : 0 < q.size := by omega
                              have hcc : (q[0]'hq0).toNat = (lettersOf q).getD 0 0 := (lettersOf_get q 0 hq0).symm
                              have ho : o = (decide (97 ≤ (lettersOf q).getD 0 0) && decide ((lettersOf q).getD 0 0 ≤ 122)) := by rw [J8.out]; unfold oneNail; rw [decide_eq_true h1, Bool.true_and]
                              obtain ⟨c, hc⟩ : ∃ c, (lettersOf q).getD 0 0 = c := ⟨_, rfl⟩
                              rw [hc] at hcc ho J6
                              clear hc J8
                              by_cases h2 : c < 97
                              · have h2i : (c : Int) < 97 := by omega
                                obtain rfl : o = false := by rw [ho, decide_eq_false (show ¬ 97 ≤ c by omega)]; rfl
                                obtain ⟨rfl, rfl⟩ := J5.out rfl
                                clear J5 J6 ho h2
                                go_wp2_with fail
                                go_meet
                                exact ⟨rfl, Hb9.out⟩
                              · have h2i : ¬ (c : Int) < 97 := by omega
                                by_cases h3 : 122 < c
                                · have h3i : (122 : Int) < (c : Int) := by omega
                                  obtain rfl : o = false := by rw [ho, decide_eq_false (show ¬ c ≤ 122 by omega), Bool.and_false]
                                  obtain ⟨rfl, rfl⟩ := J5.out rfl
                                  clear J5 J6 ho h2 h3
                                  go_wp2_with fail
                                  go_meet
                                  exact ⟨rfl, Hb9.out⟩
                                · have h3i : ¬ (122 : Int) < (c : Int) := by omega
                                  obtain rfl : o = true := by rw [ho, decide_eq_true (show 97 ≤ c by omega), decide_eq_true (show c ≤ 122 by omega)]; rfl
                                  obtain ⟨rfl, j6⟩ := J6.out rfl
                                  have J6' := Lib.hid j6
                                  clear J5 J6 j6 ho h2 h3
                                  go_wp2_with (go_at_call 14; refine (J6'.out _).mono ?_; rintro e w5 ⟨rfl, hb5⟩; have hb95 := Hb9.out.trans (hb5.mono Hb9.out.size))
                                  go_meet
                                  exact ⟨rfl, hb95⟩
                            · have h1b : (((q.size : Nat) : Int) == 1) = false := by
                                rw [beq_eq_false_iff_ne]
                                intro e
                                exact h1 (by omega)
                              obtain rfl : o = false := by rw [J8.out]; unfold oneNail; rw [decide_eq_false h1]; rfl
                              obtain ⟨rfl, rfl⟩ := J5.out rfl
                              clear J5 J6 J8
                              go_wp2_with fail
                              go_meet
                              exact ⟨rfl, Hb9.out⟩
                    · obtain ⟨rfl, rfl, rfl, rfl, rfl, rfl⟩ := HC.out.bad hc
                      have hc0 : ((C : Int) == 0) = false := by simp; omega
                      have hc1 : ¬ (C : Int) = 0 := by omega
                      go_wp2_with fail
                      go_meet
                      exact ⟨rfl, Hb6.out⟩
                  case rest =>
                    obtain ⟨rfl, hb10⟩ := hcut
                    have Hb10 := Lib.hid hb10
                    clear hb10 Hb6 HC
                    go_upto_region 26 with fail
                    go_cut [0] (fun x1 wx => x1 = .string tx ∧ Below wr.heap.size wr wx)
                    case first =>
                      as_aux_lemma =>
                        go_wp2_with (go_at_call 15; refine (HTx.out _).mono ?_; rintro e w5 ⟨rfl, hb5⟩; have hb6 := Hb10.out.trans (hb5.mono Hb10.out.size))
                        go_meet
                        exact ⟨rfl, hb6⟩
                    case rest =>
                      obtain ⟨rfl, hb11⟩ := hcut
                      have Hb11 := Lib.hid hb11
                      clear hb11 Hb10
                      have hZ := HZ.out
                      go_upto_region 27 with fail
                      go_cut [1] (fun x1 wx => x1 = .string O ∧ Below wr.heap.size wr wx)
                      case first =>
                        as_aux_lemma =>
                          go_wp2_with (go_at_call 16; refine (HO.out _).mono ?_; clear HO; rintro e w8 ⟨gs, cs, rfl, hcs, h1c, hb8⟩; have hb78 := Hb11.out.trans (hb8.mono Hb11.out.size))
                          go_meet
                          exact ⟨rfl, hb78⟩
                      case rest =>
                        obtain ⟨rfl, hb12⟩ := hcut
                        have Hb12 := Lib.hid (Hbel.out.trans (hb12.mono Hbel.out.size))
                        clear hb12 Hb11 hZ
                        go_wp2_with fail
                        go_roundw
                        case rel => exact ⟨n + 1, tx, O, _, by omega, by go_num, rfl, rfl, rfl, by have := Htz.out; omega, by have := Hoz.out; omega, Hb12.out⟩
                        case measure => simp [intOf]; omega
    · obtain rfl : n = 2 := by omega
      have Ha := Lib.hid (Haw.out wr Hbel.out)
      go_wp2_with (go_at_call 17; refine Ha.out.mono ?_; clear Ha; rintro e w6 ⟨rfl, hb6⟩)
      go_ret
      exact ⟨rfl, Hbel.out.trans (hb6.mono Hbel.out.size)⟩

end Go.Proofs.YtkdalgdckgmccaaGreatDoor
