/-
  The walk of PermCodes.
-/
import Derived.Test.YtknicageehomkaaCodeU
namespace Go.Proofs.Ytknicageehomkaa
open Go.RowKit

set_option maxRecDepth 100000 in
set_option maxHeartbeats 16000000 in
theorem permCodes_walk (A C : Option Addr) (n cap m cc : Nat) (zs cs : List Int) (y0 y1 : Int) (w : World) (hA : Rl w A n zs) (hC : Rl w C m cs) (hcap : m ≤ cc)
    (hy0 : -9223372036854775808 ≤ y0 ∧ y0 ≤ 9223372036854775807) (hy1 : -9223372036854775808 ≤ y1 ∧ y1 ≤ 9223372036854775807) :
    Calls Try.prog 4 #[.slice A n cap, .slice C m cc, .agg #[.int .i64 y0, .int .i64 y1]] w fun e w' => e = .returned (.bool true) ∧ Below w.heap.size w w' := by
  have hN1 : 1 ≤ tameLen n 60 := by unfold tameLen; omega
  have hN2 : tameLen n 60 ≤ 60 := by unfold tameLen; omega
  have hbox := Blk.new w 49 #[.int .i64 y0, .int .i64 y1]
  have hbel0 := below_new' w (.cells #[.int .i64 y0, .int .i64 y1] 49)
  have b0 := hbox.cell 0
  have b1 := hbox.cell 1
  have Htame := Lib.hid (fun W (hW : Below w.heap.size w W) => tame_any A n cap 60 W (ints_of_rl (hA.below hW)) (by omega))
  generalize tameLen n 60 = N at *
  go_enter Try.func4, Try.ntmps4
  go_wp2_with fail
  go_quiet (fail)
  have hbelX := below_drewN hbel0 nq
  clear hbox hbel0 b0 b1
  generalize (w.alloc (.cells #[.int .i64 y0, .int .i64 y1] 49)).drewN nq = X at *
  go_wp2_with fail
  refine (Htame.out X hbelX).mono ?_
  rintro e w1 ⟨gp, cp, p, rfl, hS, hp, hgp, hb1⟩
  have hbw1 := hbelX.trans (hb1.mono hbelX.size)
  clear Htame hb1 hgp hbelX
  go_wp2_with fail
  refine (inverse_any gp 0 N cp p w1 hS hp hN2 hN1).mono ?_
  rintro e w2 ⟨gi, rfl, hgi, hbi, hb2⟩
  have hS2 := hS.below hb2
  have hbw2 := hbw1.trans (hb2.mono hbw1.size)
  clear hb2 hgi hS hbw1
  go_wp2_with fail
  refine (inversions_any gp 0 N cp p w2 hS2 hp hN2 hN1).mono ?_
  rintro e w3 ⟨rfl, hb3⟩
  have hS3 := hS2.below hb3
  have hbi3 := hbi.below hb3 hbi.lt
  have hbw3 := hbw2.trans (hb3.mono hbw2.size)
  clear hb3 hS2 hbw2 hbi
  go_wp2_with fail
  refine (codes_any gp 0 N cp p w3 hS3 hp hN2 hN1).mono ?_
  rintro e w4 ⟨gd, rfl, hgd, hbd, hb4⟩
  have hS4 := hS3.below hb4
  have hbi4 := hbi3.below hb4 hbi3.lt
  have hbw4 := hbw3.trans (hb4.mono hbw3.size)
  clear hb4 hS3 hbw3 hbi3 hgd
  go_wp2_with fail
  refine (rank_uni gp 0 N cp p w4 hS4 hp hN2 hN1).mono ?_
  rintro e w5 ⟨r16, h17, rfl, hrank, hb5⟩
  have hS5 := hS4.below hb5
  have hbi5 := hbi4.below hb5 hbi4.lt
  have hbd5 := hbd.below hb5 hbd.lt
  have hbw5 := hbw4.trans (hb5.mono hbw4.size)
  clear hb5 hS4 hbw4 hbi4 hbd
  have hpl := hS5.len
  have hil := invF_length p N
  have hcl := codeL_length p
  have hsi := blk_sl hbi5 (hil.trans hpl) hN2
  have hsd := blk_sl hbd5 (hcl.trans hpl) hN2
  rw [hil, hcl, hpl]
  have HP := Lib.hid (And.intro hp (And.intro hpl (And.intro hil (And.intro hcl hrank))))
  have Hsi := Lib.hid hsi
  have Hsd := Lib.hid hsd
  have Hbd5 := Lib.hid hbd5
  have hcbd : ∀ x ∈ codeL p, x ≤ 1000 := by
    intro x hx
    obtain ⟨i, hi, rfl⟩ := List.getElem_of_mem hx
    have := codeL_valid p i hi
    rw [List.getD_eq_getElem?_getD, List.getElem?_eq_getElem hi] at this
    simp at this
    omega
  have Hcbd := Lib.hid hcbd
  clear hp hpl hil hcl hrank hsi hsd hbi5 hbd5 hcbd
  have Hcbv := Lib.hid (codeL_valid p)
  have Hrinv := Lib.hid (fun W (hW : Sl .i64 W (some ⟨gp, 0, none⟩) N p) => rinverse_any gp 0 N cp p W hW HP.out.1 hN2 hN1)
  have Hrinvs := Lib.hid (fun W (hW : Sl .i64 W (some ⟨gp, 0, none⟩) N p) => rinversions_any gp 0 N cp p W hW hN2 hN1)
  have Hrcode := Lib.hid (fun W (hW : Sl .i64 W (some ⟨gp, 0, none⟩) N p) => rcode_any gp 0 N cp p W hW hN2 hN1)
  have HS5 := Lib.hid hS5
  clear hS5
  generalize sumTo (codeL p) N = sm at *
  go_wp2_with (first
    | (go_at_call 34; refine (Hrinv.out _ HS5.out).mono ?_; rintro e w6 ⟨g6, rfl, hg6, hblk6, hb6⟩; rw [HP.out.2.2.1, HP.out.2.1]; have hsl6 := blk_sl hblk6 (HP.out.2.2.1.trans HP.out.2.1) hN2; have hsi6 := Hsi.out.below hb6)
    | (go_at_call 33; refine (same_true _ _ _ _ _ _ _ hsi6 hsl6 rfl _ _).mono ?_; rintro e w7 ⟨rfl, q7, rfl⟩))
  have hb7 := below_drewN hb6 q7
  have hs7 := HS5.out.below hb7
  refine (Hrinvs.out _ hs7).mono ?_
  rintro e w8 ⟨rfl, hb8⟩
  have hb58 := hb7.trans (hb8.mono hb7.size)
  have hs8 := HS5.out.below hb58
  clear hb7 hs7 hb6 hb8 hblk6 hg6 hsl6 hsi6
  go_upto_if 84 with (first
    | (go_at_call 36; refine (Hrcode.out _ hs8).mono ?_; rintro e w9 ⟨g9, c9, rfl, ho9, hb9⟩; rw [HP.out.2.2.2.1, HP.out.2.1] at ho9 ⊢; have hsl9 := own_sl ho9 (by omega); have hb59 := hb58.trans (hb9.mono hb58.size); have hsd9 := Hsd.out.below hb59)
    | (go_at_call 33; refine (same_true _ _ _ _ _ _ _ hsd9 hsl9 rfl _ _).mono ?_; rintro e w10 ⟨rfl, q10, rfl⟩))
  have hb510 := below_drewN hb59 q10
  have HB := Lib.hid (hbw5.trans (hb510.mono hbw5.size))
  have HBd := Lib.hid (Hbd5.out.below hb510 Hbd5.out.lt)
  have HS := Lib.hid (HS5.out.below hb510)
  clear hb58 hb59 hsl9 hsd9 hs8 hb510 ho9 hbw5 Hrinv Hrinvs Hrcode Hsi Hsd Hbd5 HS5
  generalize w9.drewN q10 = X9 at *
  go_cut [] (fun wx => Below X9.heap.size X9 wx)
  case first =>
    as_aux_lemma =>
      obtain ⟨hp, hpl, hil, hcl, hrank⟩ := HP.out
      have Hpl := Lib.hid hpl
      clear hil hcl hpl hp
      rcases hrank with ⟨hle, hr, hh⟩ | ⟨hle, hr, hh⟩
      · subst hh
        rw [Hpl.out] at hle hr
        have Hr := Lib.hid hr
        have Hrr := Lib.hid (rrank_any gp 0 N cp p X9 HS.out hle hN1)
        rw [← Hr.out] at Hrr
        have hd : decide ((20 : Int) < (N : Int)) = false := decide_eq_false (by omega)
        clear hr
        go_wp2_with (go_at_call 37; refine Hrr.out.mono ?_; rintro e w11 ⟨rfl, hb11⟩)
        go_meet
        exact hb11
      · subst hh hr
        rw [Hpl.out] at hle
        have hd : decide ((20 : Int) < (N : Int)) = true := decide_eq_true (by omega)
        go_wp2_with fail
        go_meet
        exact Below.refl _ _
  case rest =>
    have hX9 := hcut
    have Hdl := Lib.hid (HP.out.2.2.2.1.trans HP.out.2.1)
    clear HP
    have HZd := Lib.hid (fun (W : World) (hW : Below X9.heap.size X9 W) => (blk_sl (HBd.out.below hW HBd.out.lt) Hdl.out hN2).zl Hcbd.out)
    go_wp2_with fail
    refine (raw_any C m cc 61 cs _ (hC.below (HB.out.trans (hX9.mono HB.out.size))) hcap (by omega)).mono ?_
    rintro e wA ⟨A18, c18, rfl, hZ18, hbA⟩
    have hXA := hX9.trans (hbA.mono hX9.size)
    have hm61 : min m 61 ≤ 61 := by omega
    generalize cs.take (min m 61) = us at *
    generalize min m 61 = mm at *
    clear hbA hX9 hcut hA hC hcap hN1
    go_wp2_with fail
    go_loopw [7, 8, 18, 19] (fun nv rv ov i wr => ∃ (k : Nat) (y r : Int) (A' : Option Addr) (m' c' : Nat) (vs : List Int), k ≤ 2 ∧ i = .int .i64 k ∧ nv = .int .i64 y ∧ rv = .int .i64 r ∧ ov = .slice A' m' c' ∧
      (-9223372036854775808 ≤ y ∧ y ≤ 9223372036854775807) ∧ (-9223372036854775808 ≤ r ∧ r ≤ 9223372036854775807) ∧ m' ≤ 61 ∧ Zl wr A' m' vs ∧ Below X9.heap.size X9 wr) (fun _ _ _ i _ => 2 - (intOf i).toNat)
    case atStart => exact ⟨0, y0, y1, A18, mm, c18, us, by omega, rfl, rfl, rfl, rfl, hy0, hy1, hm61, hZ18, hXA⟩
    case round =>
      obtain ⟨k, y, r, A', m', c', vs, hk, rfl, rfl, rfl, rfl, hy, hr, hm', hZ, hbel⟩ := hrel
      clear hZ18 hXA hy0 hy1 hm61
      by_cases hlt : k < 2
      · go_wp2_with fail
        refine (fromCode_uni A' m' c' vs _ hZ).mono ?_
        rintro e wB ⟨A20, m20, c20, rfl, hwant, hbB⟩
        have hl := hZ.1
        have hat := hZ.2.2.2
        have hbd := fun j hj => hZ.bound j hj
        have HZ := Lib.hid hZ
        have Hl := Lib.hid hl
        have Hat := Lib.hid hat
        have Hbd := Lib.hid hbd
        have HbB := Lib.hid hbB
        have Hwant := Lib.hid hwant
        have hnext : ∀ j, badTo vs (j + 1) = (badTo vs j || (decide (vs.getD j 0 < 0) || decide ((m' : Int) ≤ vs.getD j 0 + j))) := by
          intro j; rw [← hl]; rfl
        have Hnext := Lib.hid hnext
        have hw0 : wantOf vs = if m' < 1 ∨ 60 < m' then 20 else if badTo vs m' = true then 1 else 0 := by unfold wantOf; rw [hl]
        have Hw0 := Lib.hid hw0
        clear hl hat hbd hbB hwant hnext hw0 hZ
        generalize wantOf vs = wv at *
        go_wp2_with fail
        go_loop [22, 23] (fun s i => ∃ j : Nat, j ≤ m' ∧ i = .int .i64 j ∧ s = .int .i64 (if badTo vs j = true then 1 else 0)) (fun _ i => m' - (intOf i).toNat)
        case atStart => exact ⟨0, Nat.zero_le _, rfl, rfl⟩
        case round =>
          obtain ⟨j, hj, rfl, rfl⟩ := hrel
          by_cases hjm : j < m'
          · obtain ⟨bv, ov, rfl, hbs, hcv⟩ := Hat.out (by omega)
            have hcj := (HbB.out.cell (p := ⟨bv, ov + j, none⟩) hbs).trans (hcv j hjm)
            have hbdj := Hbd.out j hjm
            have hnj := Hnext.out j
            have Hnj := Lib.hid hnj
            clear hcv hnj
            generalize vs.getD j 0 = z at *
            generalize hbb : badTo vs j = bb at *
            clear hbb
            by_cases hz : z < 0
            · have d1 : decide (z < 0) = true := decide_eq_true hz
              have hn1 : badTo vs (j + 1) = true := by rw [Hnj.out, d1]; simp
              have Hn1 := Lib.hid hn1
              clear hn1
              go_wp2_with fail
              go_round
              case rel => exact ⟨j + 1, by omega, by go_num, by rw [Hn1.out]; rfl⟩
              case measure => simp [intOf]; omega
            · have d1 : decide (z < 0) = false := decide_eq_false hz
              by_cases hz2 : (m' : Int) ≤ z + j
              · have d2 : decide ((m' : Int) - (j : Int) ≤ z) = true := decide_eq_true (by omega)
                have hn1 : badTo vs (j + 1) = true := by rw [Hnj.out, decide_eq_true hz2]; simp
                have Hn1 := Lib.hid hn1
                clear hn1
                go_wp2_with fail
                go_round
                case rel => exact ⟨j + 1, by omega, by go_num, by rw [Hn1.out]; rfl⟩
                case measure => simp [intOf]; omega
              · have d2 : decide ((m' : Int) - (j : Int) ≤ z) = false := decide_eq_false (by omega)
                have hn1 : badTo vs (j + 1) = bb := by rw [Hnj.out, d1, decide_eq_false hz2]; simp
                have Hn1 := Lib.hid hn1
                clear hn1
                go_wp2_with fail
                go_round
                case rel => exact ⟨j + 1, by omega, by go_num, by rw [Hn1.out]⟩
                case measure => simp [intOf]; omega
          · obtain rfl : j = m' := by omega
            generalize hbb : badTo vs j = bb at *
            clear hbb
            obtain ⟨sv, hsv⟩ : ∃ sv : Int, (if bb = true then (1 : Int) else 0) = sv := ⟨_, rfl⟩
            rw [hsv]
            have Hsv := Lib.hid hsv
            clear hsv
            go_upto_region 25 with fail
            go_cut [139] (fun s wx => s = .bool (decide (j < 1 ∨ 60 < j)) ∧ wx = wB)
            case first =>
              as_aux_lemma =>
                by_cases h1 : j < 1
                · have d1 : decide ((j : Int) < 1) = true := decide_eq_true (by omega)
                  have hw := decide_eq_true (p := j < 1 ∨ 60 < j) (.inl h1)
                  have Hw := Lib.hid hw
                  clear hw
                  go_wp2_with fail
                  go_meet
                  exact ⟨by rw [Hw.out], rfl⟩
                · have d1 : decide ((j : Int) < 1) = false := decide_eq_false (by omega)
                  by_cases h2 : 60 < j
                  · have d2 : decide ((60 : Int) < (j : Int)) = true := decide_eq_true (by omega)
                    have hw := decide_eq_true (p := j < 1 ∨ 60 < j) (.inr h2)
                    have Hw := Lib.hid hw
                    clear hw
                    go_wp2_with fail
                    go_meet
                    exact ⟨by rw [Hw.out], rfl⟩
                  · have d2 : decide ((60 : Int) < (j : Int)) = false := decide_eq_false (by omega)
                    have hw := decide_eq_false (p := j < 1 ∨ 60 < j) (by omega)
                    have Hw := Lib.hid hw
                    clear hw
                    go_wp2_with fail
                    go_meet
                    exact ⟨by rw [Hw.out], rfl⟩
            case rest =>
              obtain ⟨rfl, rfl⟩ := hcut
              have Hw1 := Lib.hid (show wv = if decide (j < 1 ∨ 60 < j) = true then 20 else sv by
                rw [Hw0.out, ← Hsv.out]
                by_cases hq : j < 1 ∨ 60 < j
                · rw [if_pos hq, if_pos (decide_eq_true hq)]
                · have hdq : ¬ decide (j < 1 ∨ 60 < j) = true := by rw [decide_eq_false hq]; decide
                  rw [if_neg hq, if_neg hdq])
              clear Hw0
              generalize decide (j < 1 ∨ 60 < j) = q139 at *
              go_upto_if 139 with fail
              go_cut [22] (fun s wx => s = .int .i64 wv ∧ wx = wc)
              case first =>
                as_aux_lemma =>
                  have Hw := Lib.hid (show wv = if q139 = true then 20 else sv from Hw1.out)
                  cases q139 with
                  | true =>
                    go_wp2_with fail
                    go_meet
                    exact ⟨by rw [Hw.out]; rfl, rfl⟩
                  | false =>
                    go_wp2_with fail
                    go_meet
                    exact ⟨by rw [Hw.out]; rfl, rfl⟩
              case rest =>
                obtain ⟨rfl, rfl⟩ := hcut
                clear Hw1
                go_upto_region 27 with fail
                go_cut [162] (fun s wx => s = .bool false ∧ Below wc.heap.size wc wx)
                case first =>
                  as_aux_lemma =>
                    rcases Hwant.out with ⟨hne, hm0⟩ | ⟨h0, hg, h1, h60, hsl⟩
                    · subst hm0
                      have e1 : (wv == 0) = false := by rw [beq_eq_false_iff_ne]; exact hne
                      have e2 : (wv != 0) = true := by rw [bne_iff_ne]; exact hne
                      clear hne
                      go_wp2_with fail
                      go_meet
                      exact ⟨rfl, Below.refl _ _⟩
                    · subst h0
                      rw [Hl.out] at h1 h60
                      obtain ⟨bv, ov, rfl, -, -⟩ := HZ.out.2.2.2 (by omega)
                      have Hrf := Lib.hid (rfromCode_any bv ov j c' (natsOf vs) wc ((HZ.out.below HbB.out).sl hg) (natsOf_valid hg) (by omega) (by omega))
                      have Hsl := Lib.hid hsl
                      have Hlen := Lib.hid (show (outL (natsOf vs)).length ≤ 4611686018427387904 by rw [outL_length, natsOf_length, Hl.out]; omega)
                      clear hsl hg h1
                      generalize outL (natsOf vs) = ol at *
                      go_wp2_with (first
                        | (go_at_call 39; refine Hrf.out.mono ?_; rintro e wD ⟨gD, cD, rfl, hoD, hbD⟩; have hslD := own_sl hoD Hlen.out; have hslq := Hsl.out.below hbD; clear hoD)
                        | (go_at_call 33; refine (same_true _ _ _ _ _ _ _ hslq hslD rfl _ _).mono ?_; rintro e wE ⟨rfl, qE, rfl⟩))
                      go_meet
                      exact ⟨rfl, below_drewN hbD qE⟩
                case rest =>
                  obtain ⟨rfl, hcE⟩ := hcut
                  have HbE := Lib.hid (hbel.trans ((HbB.out.trans (hcE.mono HbB.out.size)).mono hbel.size))
                  clear Hwant hcE HbB
                  go_wp2_with fail
                  refine (unrank_uni y r _ hr.2).mono ?_
                  rintro e wF ⟨A24, m24, c24, e25, rfl, hun, hbF⟩
                  have HbF := Lib.hid (HbE.out.trans (hbF.mono HbE.out.size))
                  have Hun := Lib.hid hun
                  clear hun hbF HbE
                  go_upto_region 31 with fail
                  go_cut [185] (fun s wx => s = .bool (!okB y r) ∧ wx = wF)
                  case first =>
                    as_aux_lemma =>
                      by_cases h1 : y < 1
                      · have d1 : decide (y < 1) = true := decide_eq_true h1
                        have Hok := Lib.hid (okB_not (n := y) (r := r) (by omega))
                        clear h1
                        go_wp2_with fail
                        go_meet
                        exact ⟨by rw [Hok.out]; rfl, rfl⟩
                      · have d1 : decide (y < 1) = false := decide_eq_false h1
                        by_cases h2 : 20 < y
                        · have d2 : decide ((20 : Int) < y) = true := decide_eq_true h2
                          have Hok := Lib.hid (okB_not (n := y) (r := r) (by omega))
                          clear h1 h2
                          go_wp2_with fail
                          go_meet
                          exact ⟨by rw [Hok.out]; rfl, rfl⟩
                        · have d2 : decide ((20 : Int) < y) = false := decide_eq_false h2
                          by_cases h3 : r < 0
                          · have d3 : decide (r < 0) = true := decide_eq_true h3
                            have Hok := Lib.hid (okB_not (n := y) (r := r) (by omega))
                            clear h1 h2 h3
                            go_wp2_with fail
                            go_meet
                            exact ⟨by rw [Hok.out]; rfl, rfl⟩
                          · have d3 : decide (r < 0) = false := decide_eq_false h3
                            obtain ⟨a, rfl⟩ : ∃ a : Nat, y = a := ⟨y.toNat, by omega⟩
                            have Hfac := Lib.hid (fun W => rfactorial_any a W (by omega))
                            have hta : ((a : Int)).toNat = a := by omega
                            by_cases h4 : r < (facN a : Nat)
                            · have Hok := Lib.hid (okB_of (n := a) (r := r) ⟨by omega, by omega, by omega, by rw [hta]; exact h4⟩)
                              generalize facN a = f at *
                              have d4 : decide ((f : Int) ≤ r) = false := decide_eq_false (by omega)
                              clear hta
                              go_wp2_with (go_at_call 41; refine (Hfac.out _).mono ?_; rintro e w' ⟨rfl, rfl⟩)
                              go_meet
                              exact ⟨by rw [Hok.out]; rfl, rfl⟩
                            · have Hok := Lib.hid (okB_not (n := a) (r := r) (by rw [hta]; omega))
                              generalize facN a = f at *
                              have d4 : decide ((f : Int) ≤ r) = true := decide_eq_true (by omega)
                              clear hta
                              go_wp2_with (go_at_call 41; refine (Hfac.out _).mono ?_; rintro e w' ⟨rfl, rfl⟩)
                              go_meet
                              exact ⟨by rw [Hok.out]; rfl, rfl⟩
                  case rest =>
                    obtain ⟨rfl, rfl⟩ := hcut
                    obtain ⟨ob, hob⟩ : ∃ ob, okB y r = ob := ⟨_, rfl⟩
                    rw [hob] at Hun
                    rw [hob]
                    have Hob := Lib.hid hob
                    clear hob
                    go_upto_if 185 with fail
                    go_cut [] (fun wx => Below wc.heap.size wc wx)
                    case first =>
                      as_aux_lemma =>
                        rcases Hun.out with ⟨h1, h2, hsl⟩ | ⟨h1, h2, h3⟩
                        · subst h1 h2
                          obtain ⟨o1, o2, o3, o4⟩ := okB_true Hob.out
                          obtain ⟨a, rfl⟩ : ∃ a : Nat, y = a := ⟨y.toNat, by omega⟩
                          obtain ⟨b, rfl⟩ : ∃ b : Nat, r = b := ⟨r.toNat, by omega⟩
                          rw [show ((a : Int)).toNat = a by omega] at o4 hsl
                          rw [show ((b : Int)).toNat = b by omega] at hsl
                          have Hru := Lib.hid (runrank_any a b wc (by omega) (by omega) (by omega))
                          have Hsl := Lib.hid hsl
                          have Hlen := Lib.hid (show (outL (digL a b)).length ≤ 4611686018427387904 by rw [outL_length, digL_length]; omega)
                          clear hsl o4
                          generalize outL (digL a b) = ol at *
                          go_wp2_with (first
                            | (go_at_call 42; refine Hru.out.mono ?_; rintro e wD ⟨gD, cD, rfl, hoD, hbD⟩; have hslD := own_sl hoD Hlen.out; have hslq := Hsl.out.below hbD; clear hoD)
                            | (go_at_call 33; refine (same_true _ _ _ _ _ _ _ hslq hslD rfl _ _).mono ?_; rintro e wE ⟨rfl, qE, rfl⟩))
                          go_meet
                          exact below_drewN hbD qE
                        · subst h1 h2 h3
                          go_wp2_with fail
                          go_meet
                          exact Below.refl _ _
                    case rest =>
                      have HbG := Lib.hid (HbF.out.trans (hcut.mono HbF.out.size))
                      clear Hun Hob hcut HbF
                      obtain ⟨u, hu⟩ := wrap_u64 y
                      have e2 : (u : Int) % (20 : Int) = ((u % 20 : Nat) : Int) := by simp
                      have e6 : (u : Int).tmod (20 : Int) = ((u % 20 : Nat) : Int) := by rw [Int.tmod_eq_emod_of_nonneg (by omega)]; exact e2
                      obtain ⟨q, hq⟩ : ∃ q, q = u % 20 := ⟨_, rfl⟩
                      have hq20 : q < 20 := by rw [hq]; exact Nat.mod_lt _ (by omega)
                      rw [← hq] at e2 e6
                      clear hq
                      have e5 : IntKind.i64.wrap ((q : Nat) : Int) = (q : Nat) := IntWalk.i64_in _ (by omega)
                      have hcast : ((q + 1 : Nat) : Int) = 1 + (q : Int) := by omega
                      have Hfac := Lib.hid (fun W => rfactorial_any (q + 1) W (by omega))
                      rw [hcast] at Hfac
                      clear hcast
                      have hfp := facN_pos (q + 1)
                      have hfs := facN_small (q + 1) (by omega)
                      generalize facN (q + 1) = f at *
                      have hfne : ¬ f = 0 := by omega
                      obtain ⟨u2, hu2⟩ := wrap_u64 r
                      have f4 : IntKind.u64.wrap ((f : Nat) : Int) = (f : Nat) := by rw [IntKind.wrap_u64]; omega
                      have f2 : (u2 : Int) % (f : Int) = ((u2 % f : Nat) : Int) := by simp
                      have f6 : (u2 : Int).tmod (f : Int) = ((u2 % f : Nat) : Int) := by rw [Int.tmod_eq_emod_of_nonneg (by omega)]; exact f2
                      obtain ⟨q2, hq2⟩ : ∃ q2, q2 = u2 % f := ⟨_, rfl⟩
                      have hq2f : q2 < f := by rw [hq2]; exact Nat.mod_lt _ (by omega)
                      rw [← hq2] at f2 f6
                      clear hq2
                      have f5 : IntKind.i64.wrap ((q2 : Nat) : Int) = (q2 : Nat) := IntWalk.i64_in _ (by omega)
                      go_wp2_with (go_at_call 41; (with_reducible refine (Hfac.out _).mono ?_); rintro e w' ⟨rfl, rfl⟩)
                      go_roundw
                      case rel => exact ⟨k + 1, 1 + (q : Int), (q2 : Int), _, N, N, _, by omega, by go_num, rfl, rfl, rfl, ⟨by omega, by omega⟩, ⟨by omega, by omega⟩, by omega, HZd.out _ HbG.out, HbG.out⟩
                      case measure => simp [intOf]; omega
      · obtain rfl : k = 2 := by omega
        go_wp2_with (go_at_call 23; refine (awake_any _).mono ?_; rintro e w5 ⟨rfl, hb5⟩)
        go_ret
        have h1 := HB.out.trans (hbel.mono HB.out.size)
        exact ⟨rfl, h1.trans (hb5.mono h1.size)⟩

end Go.Proofs.Ytknicageehomkaa
