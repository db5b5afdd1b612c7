/-
  The walk of HangCommutes.
-/
import Derived.Test.YtojjpbeaifiejaaComC
import Derived.Test.YtojjpbeaifiejaaAwake
namespace Go.Proofs.Ytojjpbeaifiejaa
open Go.RowKit Go.Shelf

theorem oneSetC (K : Nat) (z : Int) (W : World) (hK : K ≤ 26) (hz : -9223372036854775808 ≤ z ∧ z ≤ 9223372036854775807) :
    Calls Try.prog 16 #[.slice (some ⟨W.heap.size, 0, none⟩) 1 1, .int .i64 1, .int .i64 K, .bool true] (W.alloc (.cells #[.int .i64 z] 3)) fun e w' => ∃ g c, e = .returned (.slice (some ⟨g, 0, none⟩) 1 c) ∧ w'.cell? ⟨g, 0, none⟩ = some (.string (strL (oneS K true z))) ∧ 1 ≤ c ∧ Below W.heap.size W w' := by
  have hblk := Blk.new W 3 #[.int .i64 z]
  have h := lawSets_any (some ⟨W.heap.size, 0, none⟩) 1 1 1 K true [z] (W.alloc (.cells #[.int .i64 z] 3)) ⟨rfl, fun _ => ⟨_, 0, rfl, hblk.lt, fun i hi => by
    obtain rfl : i = 0 := by omega
    exact hblk.cell 0⟩⟩ (by omega) (by omega) (by omega) (fun x hx => by
    obtain rfl : x = z := by simpa using hx
    exact hz)
  refine h.mono ?_
  rintro e w' ⟨v, rfl, hown, hb⟩
  simp only [List.take_succ_cons, List.take_zero, List.map_cons, List.map_nil, List.length_singleton] at hown
  obtain ⟨g, c, rfl⟩ := own_pos hown (by omega)
  exact ⟨g, c, rfl, own_cell hown 0 (by omega), own_capd hown, (below_new' W _).trans (hb.mono (alloc_size_le W _ (Nat.le_refl _)))⟩

theorem Cell0.below {m : Int} {w W : World} (h : Cell0 m w) (hb : Below w.heap.size w W) : Cell0 m W := ⟨(hb.cell (p := ⟨0, 0, none⟩) h.2).trans h.1, Nat.lt_of_lt_of_le h.2 hb.size⟩

set_option maxRecDepth 100000 in
set_option maxHeartbeats 4000000 in
theorem hangCommutes_walk (u v : ByteArray) (b0 b1 b2 : Int) (m : Int) (w : World) (h0 : -9223372036854775808 ≤ b0 ∧ b0 ≤ 9223372036854775807) (h1 : -9223372036854775808 ≤ b1 ∧ b1 ≤ 9223372036854775807) (h2 : -9223372036854775808 ≤ b2 ∧ b2 ≤ 9223372036854775807) (hm : Cell0 m w) :
    Calls Try.prog 10 #[.string u, .string v, .agg #[.int .i64 b0, .int .i64 b1, .int .i64 b2]] w fun e w' => e = .returned (.bool true) ∧ Below w.heap.size w w' := by
  have Haw := Lib.hid (fun W (hW : Below w.heap.size w W) => awake_any m W (hm.below hW).1 (hm.below hW).2)
  have HTu : Hid (∀ W : World, Calls Try.prog 25 #[.string u, .int .i64 2, .int .i64 8] W fun e w' => e = .returned (.string (strL (textL 2 ((lettersOf u).take 8)))) ∧ Below W.heap.size W w') := fun W => text_any u 2 8 W (by omega) (by omega) (by omega)
  have HTv : Hid (∀ W : World, Calls Try.prog 25 #[.string v, .int .i64 2, .int .i64 8] W fun e w' => e = .returned (.string (strL (textL 2 ((lettersOf v).take 8)))) ∧ Below W.heap.size W w') := fun W => text_any v 2 8 W (by omega) (by omega) (by omega)
  have Hm := Lib.hid hm
  have hwx : IsWord (textL 2 ((lettersOf u).take 8)) := textL_word _ (by omega) (by omega)
  have hwy : IsWord (textL 2 ((lettersOf v).take 8)) := textL_word _ (by omega) (by omega)
  have hlx : (textL 2 ((lettersOf u).take 8)).length ≤ 8 := by unfold textL; rw [List.length_map, List.length_take]; omega
  have hly : (textL 2 ((lettersOf v).take 8)).length ≤ 8 := by unfold textL; rw [List.length_map, List.length_take]; omega
  generalize textL 2 ((lettersOf u).take 8) = tx at *
  generalize textL 2 ((lettersOf v).take 8) = ty at *
  have Htx := Lib.hid (And.intro hwx hlx)
  have Hty := Lib.hid (And.intro hwy hly)
  have hbox := below_new' w (.cells #[.int .i64 b0, .int .i64 b1, .int .i64 b2] 63)
  have hblk := Blk.new w 63 #[.int .i64 b0, .int .i64 b1, .int .i64 b2]
  have Hb := Lib.hid (And.intro h0 (And.intro h1 h2))
  clear hm hwx hwy hlx hly h0 h1 h2
  go_enter Try.func10, Try.ntmps10
  go_upto_region 1 with fail
  have hc0 := hblk.cell 0
  have hc1 := hblk.cell 1
  have hc2 := hblk.cell 2
  generalize w.alloc (.cells #[.int .i64 b0, .int .i64 b1, .int .i64 b2] 63) = W0 at *
  refine wp_region_held_drew (S := fun w' => w'.cell? ⟨w.heap.size, 0, none⟩ = some (.int .i64 b0) ∧ w'.cell? ⟨w.heap.size, 1, none⟩ = some (.int .i64 b1) ∧ w'.cell? ⟨w.heap.size, 2, none⟩ = some (.int .i64 b2)) (by kernel_rfl) ⟨hc0, hc1, hc2⟩ (fun hHeld => ?_)
  refine wpAnyH_take (i := 0) (v := .pointer (some ⟨w.heap.size, 0, none⟩)) rfl (by kernel_rfl) (by kernel_rfl) (by kernel_rfl) (fun _ _ _ h => h) (Or.inl ⟨by rfl, fun W _ => by go_simp⟩) hHeld ?_
  refine wpAnyH_take (i := 1) (v := .int .i64 b0) rfl (by kernel_rfl) (by kernel_rfl) (by kernel_rfl) (fun _ _ _ h => h) (Or.inl ⟨by rfl, fun W hW => by obtain ⟨k0, k1, k2⟩ := hW; go_simp⟩) hHeld ?_
  refine wpAnyH_take (i := 2) (v := .pointer (some ⟨w.heap.size, 1, none⟩)) rfl (by kernel_rfl) (by kernel_rfl) (by kernel_rfl) (fun _ _ _ h => h) (Or.inl ⟨by rfl, fun W _ => by go_simp⟩) hHeld ?_
  refine wpAnyH_take (i := 3) (v := .int .i64 b1) rfl (by kernel_rfl) (by kernel_rfl) (by kernel_rfl) (fun _ _ _ h => h) (Or.inl ⟨by rfl, fun W hW => by obtain ⟨k0, k1, k2⟩ := hW; go_simp⟩) hHeld ?_
  refine wpAnyH_take (i := 4) (v := .agg #[.int .i64 b0, .int .i64 b1]) rfl (by kernel_rfl) (by kernel_rfl) (by kernel_rfl) (fun _ _ _ h => h) (Or.inl ⟨by rfl, fun W _ => by go_simp⟩) hHeld ?_
  refine wpAnyH_take (i := 5) (v := .pointer (some ⟨w.heap.size, 2, none⟩)) rfl (by kernel_rfl) (by kernel_rfl) (by kernel_rfl) (fun _ _ _ h => h) (Or.inl ⟨by rfl, fun W _ => by go_simp⟩) hHeld ?_
  refine wpAnyH_take (i := 6) (v := .int .i64 b2) rfl (by kernel_rfl) (by kernel_rfl) (by kernel_rfl) (fun _ _ _ h => h) (Or.inl ⟨by rfl, fun W hW => by obtain ⟨k0, k1, k2⟩ := hW; go_simp⟩) hHeld ?_
  refine wpAnyH_ready (rs := [7]) (by kernel_rfl) (by simp) (AllReadyH.cons rfl (fun K' hK => ?_) AllReadyH.nil)
  rw [if_pos (by rfl)]
  go_simp
  have hgl : w.heap.size < W0.heap.size := hblk.lt
  have hb1 : Below W0.heap.size W0 ((W0.alloc (.cells #[.int .i64 0, .int .i64 0] 48)).drew) := (below_new' W0 _).drew
  have hblk2 : Blk ((W0.alloc (.cells #[.int .i64 0, .int .i64 0] 48)).drew) W0.heap.size 48 #[.int .i64 0, .int .i64 0] := Blk.new W0 _ _
  refine hK.out _ _ ⟨(hb1.cell (p := ⟨w.heap.size, 0, none⟩) hgl).trans hc0, (hb1.cell (p := ⟨w.heap.size, 1, none⟩) hgl).trans hc1, (hb1.cell (p := ⟨w.heap.size, 2, none⟩) hgl).trans hc2⟩ (fun hHeld => ?_)
  refine wpAnyH_ready (rs := [8]) (by kernel_rfl) (by simp) (AllReadyH.cons rfl (fun K' hK => ?_) AllReadyH.nil)
  rw [if_pos (by rfl)]
  refine wp_store_row 48 _ _ rfl W0.heap.size #[.int .i64 b0, .int .i64 b1] rfl rfl 48 #[.int .i64 0, .int .i64 0] hblk2 (by kernel_rfl) rfl (by simp [Value.oneCell']) ?_
  have e2 : World.setRow ((W0.alloc (.cells #[.int .i64 0, .int .i64 0] 48)).drew) W0.heap.size #[.int .i64 b0, .int .i64 b1] = (W0.alloc (.cells #[.int .i64 b0, .int .i64 b1] 48)).drew := congrArg World.drew (World.setRow_alloc_new ..)
  rw [e2]
  have hb2 : Below W0.heap.size W0 ((W0.alloc (.cells #[.int .i64 b0, .int .i64 b1] 48)).drew) := (below_new' W0 _).drew
  have hblk3 : Blk ((W0.alloc (.cells #[.int .i64 b0, .int .i64 b1] 48)).drew) W0.heap.size 48 #[.int .i64 b0, .int .i64 b1] := Blk.new W0 _ _
  have hbelw : Below w.heap.size w ((W0.alloc (.cells #[.int .i64 b0, .int .i64 b1] 48)).drew) := hbox.trans (hb2.mono hbox.size)
  have hgk : w.heap.size ≤ W0.heap.size := hbox.size
  clear hblk2 hb1
  generalize hk : W0.heap.size = k at *
  generalize (W0.alloc (.cells #[.int .i64 b0, .int .i64 b1] 48)).drew = W1 at *
  refine hK.out _ _ ⟨(hb2.cell (p := ⟨w.heap.size, 0, none⟩) hgl).trans hc0, (hb2.cell (p := ⟨w.heap.size, 1, none⟩) hgl).trans hc1, (hb2.cell (p := ⟨w.heap.size, 2, none⟩) hgl).trans hc2⟩ (fun hHeld => ?_)
  refine wpAnyH_ready (rs := [9]) (by kernel_rfl) (by simp) (AllReadyH.cons rfl (fun K' hK => ?_) AllReadyH.nil)
  rw [if_pos (by rfl)]
  go_simp
  refine hK.out _ _ hHeld (fun hHeld => ?_)
  refine wpAnyH_done (by kernel_rfl) ?_ _
  clear hHeld hc0 hc1 hc2 hblk hbox hb2 hgl
  have Hbel := Lib.hid hbelw
  have Hblk := Lib.hid hblk3
  have Hgk := Lib.hid hgk
  clear hbelw hblk3 hgk hk
  go_upto_region 3 with (first
    | (go_at_call 25; refine (HTu.out _).mono ?_; clear HTu; rintro e w2 ⟨rfl, hb2⟩)
    | (go_at_call 25; refine (HTv.out _).mono ?_; clear HTv; rintro e w3 ⟨rfl, hb3⟩))
  have hb13 : Below W1.heap.size W1 w3 := hb2.trans (hb3.mono hb2.size)
  have Hbel3 := Lib.hid (Hbel.out.trans (hb13.mono Hbel.out.size))
  have Hblk3 := Lib.hid (Hblk.out.below hb13 Hblk.out.lt)
  clear hb2 hb3 hb13 Hbel Hblk
  go_wp2_with fail
  go_loopw [9, 10, 11] (fun x y kv wr => ∃ (n : Nat) (la lb : List Nat), n ≤ 2 ∧ kv = .int .i64 n ∧ x = .string (strL la) ∧ y = .string (strL lb) ∧ IsWord la ∧ IsWord lb ∧ la.length ≤ 3000 ∧ lb.length ≤ 3000 ∧ (n ≤ 1 → la.length ≤ 300 ∧ lb.length ≤ 300) ∧ (n = 0 → la.length ≤ 8 ∧ lb.length ≤ 8) ∧ Below w.heap.size w wr ∧ Blk wr k 48 #[.int .i64 b0, .int .i64 b1]) (fun _ _ kv _ => 2 - (intOf kv).toNat)
  case atStart =>
    have h1 := Htx.out
    have h2 := Hty.out
    exact ⟨0, tx, ty, by omega, rfl, rfl, rfl, h1.1, h2.1, by omega, by omega, fun _ => by omega, fun _ => by omega, Hbel3.out, Hblk3.out⟩
  case round =>
    obtain ⟨n, la, lb, hn, rfl, rfl, rfl, wa, wb, la0, lb0, hl1, hl2, hbel, hblk⟩ := hrel
    have Hbel := Lib.hid hbel
    have Hblk := Lib.hid hblk
    by_cases hlt : n < 2
    · have hni : (n : Int) < 2 := by omega
      obtain ⟨ha, hb⟩ := hl1 (by omega)
      obtain ⟨R, X, Y, p, q, ok, hC⟩ := com_calls m wa wb ha hb
      have HC := Lib.hid hC
      have HS := Lib.hid hC.sizes
      have HW := Lib.hid (And.intro wa (And.intro wb (And.intro hl2 (And.intro ha hb))))
      have HP1 := Lib.hid (fun (z : Int) (hz : -30000 ≤ z ∧ z ≤ 30000) W => rpower_any (strL la) z W (by rw [letters_strL wa.lt256]; exact wa) (by rw [strL_size]; omega) hz)
      rw [letters_strL wa.lt256] at HP1
      have HM := Lib.hid (fun W (hW : Below w.heap.size w W) => Hm.out.below hW)
      clear wa wb la0 lb0 hl1 hl2 hbel hblk ha hb hC
      generalize strL la = S at *
      generalize strL lb = T at *
      generalize strL (invL la) = U at *
      generalize strL (invL lb) = V at *
      go_upto_region 6 with fail
      go_cut [12, 13, 14, 15, 16] (fun x1 x2 x3 x4 x5 wx => x1 = .string R ∧ x2 = .int .i64 p ∧ x3 = .int .i64 q ∧ x4 = .bool ok ∧ x5 = .int .i64 0 ∧ Below wr.heap.size wr wx)
      case first =>
        as_aux_lemma =>
          go_wp2_with (go_at_call 29; refine (HC.out.com _ (HM.out _ Hbel.out)).mono ?_; rintro e w4 ⟨rfl, hb4⟩)
          go_meet
          exact ⟨rfl, rfl, rfl, rfl, rfl, hb4⟩
      case rest =>
        obtain ⟨rfl, rfl, rfl, rfl, rfl, hb4⟩ := hcut
        have Hb4 := Lib.hid hb4
        clear hb4
        have hzS := HS.out.1
        have hzT := HS.out.2.1
        have hzU := HS.out.2.2.1
        have hzV := HS.out.2.2.2
        have HO := Lib.hid (fun W => oneSetC 2 b2 W (by omega) Hb.out.2.2)
        obtain ⟨c, d, y, hcdy, hF1, hF2, hF3⟩ := HC.out.fall b2
        have HF1 := Lib.hid hF1
        have HF2 := Lib.hid hF2
        have HF3 := Lib.hid hF3
        have Hcdy := Lib.hid hcdy
        clear hF1 hF2 hF3 hcdy
        generalize strL (oneS 2 true b2) = N at *
        go_upto_region 7 with fail
        go_cut [84] (fun x1 wx => x1 = .bool false ∧ Below wr.heap.size wr wx)
        case first =>
          as_aux_lemma =>
            have J1 := Lib.hid HC.out.same
            have J2 := Lib.hid HC.out.pow1
            have J4 := Lib.hid HC.out.pow2
            have J3 := Lib.hid HC.out.same1
            have J5 := Lib.hid HC.out.same2
            cases ok with
            | false =>
              go_wp2_with (go_at_call 37; refine (J1.out _).mono ?_; clear J1; rintro e w5 ⟨rfl, hb5⟩; have hb45 := Hb4.out.trans (hb5.mono Hb4.out.size))
              go_meet
              exact ⟨rfl, hb45⟩
            | true =>
              have J3' := Lib.hid (J3.out rfl)
              have J5' := Lib.hid (J5.out rfl)
              clear J3 J5
              go_wp2_with (first
                | (go_at_call 37; refine (J1.out _).mono ?_; clear J1; rintro e w5 ⟨rfl, hb5⟩; have hb45 := Hb4.out.trans (hb5.mono Hb4.out.size))
                | (go_at_call 31; refine (J2.out _).mono ?_; clear J2; rintro e w6 ⟨rfl, hb6⟩; have hb46 := hb45.trans (hb6.mono hb45.size))
                | (go_at_call 37; refine (J3'.out _).mono ?_; clear J3'; rintro e w7 ⟨rfl, hb7⟩; have hb47 := hb46.trans (hb7.mono hb46.size))
                | (go_at_call 31; refine (J4.out _).mono ?_; clear J4; rintro e w8 ⟨rfl, hb8⟩; have hb48 := hb47.trans (hb8.mono hb47.size))
                | (go_at_call 37; refine (J5'.out _).mono ?_; clear J5'; rintro e w9 ⟨rfl, hb9⟩; have hb49 := hb48.trans (hb9.mono hb48.size)))
              go_meet
              exact ⟨rfl, hb49⟩
        case rest =>
          obtain ⟨rfl, hb5⟩ := hcut
          have Hb5 := Lib.hid hb5
          clear hb5 Hb4
          go_upto_region 9 with fail
          go_cut [89] (fun x1 wx => ∃ f : Bool, x1 = .bool f ∧ (f = true → ok = true ∧ R ≠ ⟨#[]⟩) ∧ wx = wc)
          case first =>
            as_aux_lemma =>
              cases ok with
              | false =>
                go_wp2_with fail
                go_meet
                exact ⟨false, rfl, (fun h => by cases h), rfl⟩
              | true =>
                by_cases hR : R = ⟨#[]⟩
                · subst hR
                  go_wp2_with fail
                  go_meet
                  exact ⟨false, rfl, (fun h => by cases h), rfl⟩
                · have hRb : (R.toList == []) = false := by
                    rw [beq_eq_false_iff_ne]
                    intro e
                    exact hR (by rw [← strL_letters R]; unfold lettersOf; rw [← ByteArray.toList_eq, e]; rfl)
                  have HR := Lib.hid hR
                  clear hR
                  go_wp2_with fail
                  go_meet
                  exact ⟨true, rfl, fun _ => ⟨trivial, HR.out⟩, rfl⟩
          case rest =>
            obtain ⟨f, rfl, hf, rfl⟩ := hcut
            go_upto_if 89 with (fail)
            go_cut [11] (fun x1 wx => x1 = .int .i64 n ∧ Below wr.heap.size wr wx)
            case first =>
              as_aux_lemma =>
                cases f with
                | false =>
                  go_wp2_with fail
                  go_meet
                  exact ⟨rfl, Hb5.out⟩
                | true =>
                  obtain ⟨rfl, hR⟩ := hf rfl
                  have HR := Lib.hid hR
                  clear hR hf
                  have HM2 := Lib.hid (HM.out _ (Hbel.out.trans (Hb5.out.mono Hbel.out.size)))
                  go_wp2_with (go_at_call 13; refine (HC.out.root rfl HR.out _ HM2.out).mono ?_; rintro e w6 ⟨rfl, hb6⟩; have hb56 := Hb5.out.trans (hb6.mono Hb5.out.size))
                  go_meet
                  exact ⟨rfl, hb56⟩
            case rest =>
              obtain ⟨rfl, hb6⟩ := hcut
              have Hb6 := Lib.hid hb6
              clear hb6 Hb5 hf
              go_upto_region 13 with fail
              go_cut [20] (fun x1 wx => x1 = .string (S ++ (T ++ (U ++ V))) ∧ Below wr.heap.size wr wx)
              case first =>
                as_aux_lemma =>
                  have J1 := Lib.hid HC.out.inv1
                  have J2 := Lib.hid HC.out.inv2
                  go_wp2_with (first
                    | (go_at_call 19; refine (J1.out _).mono ?_; clear J1; rintro e w7 ⟨rfl, hb7⟩; have hb67 := Hb6.out.trans (hb7.mono Hb6.out.size))
                    | (go_at_call 19; refine (J2.out _).mono ?_; clear J2; rintro e w8 ⟨rfl, hb8⟩; have hb68 := hb67.trans (hb8.mono hb67.size)))
                  go_meet
                  refine ⟨?_, hb68⟩
                  simp only [ByteArray.append_assoc]
              case rest =>
                obtain ⟨rfl, hb7⟩ := hcut
                have Hb7 := Lib.hid hb7
                clear hb7 Hb6
                go_upto_region 14 with fail
                go_cut [21] (fun x1 wx => x1 = .string N ∧ Below wr.heap.size wr wx)
                case first =>
                  as_aux_lemma =>
                    go_wp2_with (go_at_call 16; refine (HO.out _).mono ?_; clear HO; rintro e w8 ⟨gs, cs, rfl, hcs, h1c, hb8⟩; have hb78 := Hb7.out.trans (hb8.mono Hb7.out.size))
                    go_meet
                    exact ⟨rfl, hb78⟩
                case rest =>
                  obtain ⟨rfl, hb8⟩ := hcut
                  have Hb8 := Lib.hid hb8
                  clear hb8 Hb7 HO
                  go_upto_region 15 with fail
                  go_cut [22, 23] (fun x1 x2 wx => x1 = .bool c ∧ x2 = .int .i64 0 ∧ Below wr.heap.size wr wx)
                  case first =>
                    as_aux_lemma =>
                      go_wp2_with (go_at_call 17; refine (HF1.out _).mono ?_; rintro e w9 ⟨rfl, hb9⟩; have hb89 := Hb8.out.trans (hb9.mono Hb8.out.size))
                      go_meet
                      exact ⟨rfl, rfl, hb89⟩
                  case rest =>
                    obtain ⟨rfl, rfl, hb9⟩ := hcut
                    have Hb9 := Lib.hid hb9
                    clear hb9 Hb8
                    go_upto_region 16 with fail
                    go_cut [24, 25] (fun x1 x2 wx => x1 = .bool d ∧ x2 = .int .i64 0 ∧ Below wr.heap.size wr wx)
                    case first =>
                      as_aux_lemma =>
                        go_wp2_with (go_at_call 17; refine (HF2.out _).mono ?_; rintro e w9 ⟨rfl, hb9⟩; have hb89 := Hb9.out.trans (hb9.mono Hb9.out.size))
                        go_meet
                        exact ⟨rfl, rfl, hb89⟩
                    case rest =>
                      obtain ⟨rfl, rfl, hb10⟩ := hcut
                      have Hb10 := Lib.hid hb10
                      clear hb10 Hb9
                      go_upto_region 17 with fail
                      go_cut [26, 27] (fun x1 x2 wx => x1 = .bool y ∧ x2 = .int .i64 0 ∧ Below wr.heap.size wr wx)
                      case first =>
                        as_aux_lemma =>
                          go_wp2_with (go_at_call 17; refine (HF3.out _).mono ?_; rintro e w9 ⟨rfl, hb9⟩; have hb89 := Hb10.out.trans (hb9.mono Hb10.out.size))
                          go_meet
                          exact ⟨rfl, rfl, hb89⟩
                      case rest =>
                        obtain ⟨rfl, rfl, hb11⟩ := hcut
                        have Hb11 := Lib.hid hb11
                        clear hb11 Hb10
                        go_upto_region 18 with fail
                        go_cut [158] (fun x1 wx => x1 = .bool false ∧ wx = wc)
                        case first =>
                          as_aux_lemma =>
                            cases c with
                            | true =>
                              obtain rfl : y = true := Hcdy.out (Or.inl rfl)
                              go_wp2_with fail
                              go_meet
                              exact ⟨rfl, rfl⟩
                            | false =>
                              cases d with
                              | true =>
                                obtain rfl : y = true := Hcdy.out (Or.inr rfl)
                                go_wp2_with fail
                                go_meet
                                exact ⟨rfl, rfl⟩
                              | false =>
                                go_wp2_with fail
                                go_meet
                                exact ⟨rfl, rfl⟩
                        case rest =>
                          obtain ⟨rfl, rfl⟩ := hcut
                          go_upto_region 21 with fail
                          have hblk4 := (Hblk.out.below Hb11.out Hblk.out.lt)
                          have hc0 := hblk4.cell 0
                          have hc1 := hblk4.cell 1
                          obtain ⟨M0, hM0, hM0w⟩ : ∃ M : Nat, M < 3 ∧ IntKind.u64.wrap b0 % 3 = (M : Int) := by
                            have h1 : 0 ≤ IntKind.u64.wrap b0 % 3 := by omega
                            have h2 : IntKind.u64.wrap b0 % 3 < 3 := by omega
                            generalize IntKind.u64.wrap b0 % 3 = x at *
                            exact ⟨x.toNat, by omega, by omega⟩
                          obtain ⟨M1, hM1, hM1w⟩ : ∃ M : Nat, M < 3 ∧ IntKind.u64.wrap b1 % 3 = (M : Int) := by
                            have h1 : 0 ≤ IntKind.u64.wrap b1 % 3 := by omega
                            have h2 : IntKind.u64.wrap b1 % 3 < 3 := by omega
                            generalize IntKind.u64.wrap b1 % 3 = x at *
                            exact ⟨x.toNat, by omega, by omega⟩
                          have hun0 : 0 ≤ IntKind.u64.wrap b0 := by
                            rw [show IntKind.u64.wrap b0 = b0 % 18446744073709551616 from rfl]; omega
                          have hun1 : 0 ≤ IntKind.u64.wrap b1 := by
                            rw [show IntKind.u64.wrap b1 = b1 % 18446744073709551616 from rfl]; omega
                          have hM0t : (IntKind.u64.wrap b0).tmod 3 = (M0 : Int) := by rw [Int.tmod_eq_emod_of_nonneg hun0]; exact hM0w
                          have hM1t : (IntKind.u64.wrap b1).tmod 3 = (M1 : Int) := by rw [Int.tmod_eq_emod_of_nonneg hun1]; exact hM1w
                          have hi0 : IntKind.i64.wrap (M0 : Int) = (M0 : Int) := IntWalk.i64_in _ (by omega)
                          have hi1 : IntKind.i64.wrap (M1 : Int) = (M1 : Int) := IntWalk.i64_in _ (by omega)
                          have hA0 : IntKind.i64.wrap (1 + (M0 : Int)) = 1 + (M0 : Int) := IntWalk.i64_in _ (by omega)
                          have hA1 : IntKind.i64.wrap (-1 - (M1 : Int)) = -1 - (M1 : Int) := IntWalk.i64_in _ (by omega)
                          have P1 := Lib.hid (HP1.out (1 + (M0 : Int)) (by omega))
                          have P2 := Lib.hid (HP1.out (-1 - (M1 : Int)) (by omega))
                          have HL : Hid ((powZ la (1 + (M0 : Int))).length ≤ 3 * la.length ∧ (powZ la (-1 - (M1 : Int))).length ≤ 3 * la.length) := by
                            constructor
                            · rw [powZ_length]; exact Nat.mul_le_mul (by omega) (Nat.le_refl _)
                            · rw [powZ_length]; exact Nat.mul_le_mul (by omega) (Nat.le_refl _)
                          have Hb12 : Hid (Below wr.heap.size wr wc.drew) := Hb11.out.drew
                          have Hblk4 : Hid (Blk wc.drew k 48 #[.int .i64 b0, .int .i64 b1]) := hblk4
                          clear hblk4
                          refine wp_region_held_drew (S := fun w' => w'.cell? ⟨k, 0, none⟩ = some (.int .i64 b0) ∧ w'.cell? ⟨k, 1, none⟩ = some (.int .i64 b1)) (by kernel_rfl) ⟨hc0, hc1⟩ (fun hHeld => ?_)
                          refine wpAnyH_take (i := 0) (v := .string S) rfl (by kernel_rfl) (by kernel_rfl) (by kernel_rfl) (fun _ _ _ h => h) (Or.inl ⟨by rfl, fun W hW => by go_simp⟩) hHeld ?_
                          refine wpAnyH_take (i := 1) (v := .pointer (some ⟨k, 0, none⟩)) rfl (by kernel_rfl) (by kernel_rfl) (by kernel_rfl) (fun _ _ _ h => h) (Or.inl ⟨by rfl, fun W hW => by go_simp⟩) hHeld ?_
                          refine wpAnyH_take (i := 2) (v := .int .i64 b0) rfl (by kernel_rfl) (by kernel_rfl) (by kernel_rfl) (fun _ _ _ h => h) (Or.inl ⟨by rfl, fun W hW => by obtain ⟨k0, k1⟩ := hW; go_simp⟩) hHeld ?_
                          refine wpAnyH_take (i := 3) (v := .int .u64 (IntKind.u64.wrap b0)) rfl (by kernel_rfl) (by kernel_rfl) (by kernel_rfl) (fun _ _ _ h => h) (Or.inl ⟨by rfl, fun W hW => by go_simp⟩) hHeld ?_
                          refine wpAnyH_take (i := 4) (v := .int .u64 M0) rfl (by kernel_rfl) (by kernel_rfl) (by kernel_rfl) (fun _ _ _ h => h) (Or.inl ⟨by rfl, fun W hW => by go_simp⟩) hHeld ?_
                          refine wpAnyH_take (i := 5) (v := .int .i64 M0) rfl (by kernel_rfl) (by kernel_rfl) (by kernel_rfl) (fun _ _ _ h => h) (Or.inl ⟨by rfl, fun W hW => by go_simp⟩) hHeld ?_
                          refine wpAnyH_take (i := 6) (v := .int .i64 (1 + (M0 : Int))) rfl (by kernel_rfl) (by kernel_rfl) (by kernel_rfl) (fun _ _ _ h => h) (Or.inl ⟨by rfl, fun W hW => by go_simp⟩) hHeld ?_
                          refine wpAnyH_take (i := 8) (v := .string S) rfl (by kernel_rfl) (by kernel_rfl) (by kernel_rfl) (fun _ _ _ h => h) (Or.inl ⟨by rfl, fun W hW => by go_simp⟩) hHeld ?_
                          refine wpAnyH_take (i := 9) (v := .pointer (some ⟨k, 1, none⟩)) rfl (by kernel_rfl) (by kernel_rfl) (by kernel_rfl) (fun _ _ _ h => h) (Or.inl ⟨by rfl, fun W hW => by go_simp⟩) hHeld ?_
                          refine wpAnyH_take (i := 10) (v := .int .i64 b1) rfl (by kernel_rfl) (by kernel_rfl) (by kernel_rfl) (fun _ _ _ h => h) (Or.inl ⟨by rfl, fun W hW => by obtain ⟨k0, k1⟩ := hW; go_simp⟩) hHeld ?_
                          refine wpAnyH_take (i := 11) (v := .int .u64 (IntKind.u64.wrap b1)) rfl (by kernel_rfl) (by kernel_rfl) (by kernel_rfl) (fun _ _ _ h => h) (Or.inl ⟨by rfl, fun W hW => by go_simp⟩) hHeld ?_
                          refine wpAnyH_take (i := 12) (v := .int .u64 M1) rfl (by kernel_rfl) (by kernel_rfl) (by kernel_rfl) (fun _ _ _ h => h) (Or.inl ⟨by rfl, fun W hW => by go_simp⟩) hHeld ?_
                          refine wpAnyH_take (i := 13) (v := .int .i64 M1) rfl (by kernel_rfl) (by kernel_rfl) (by kernel_rfl) (fun _ _ _ h => h) (Or.inl ⟨by rfl, fun W hW => by go_simp⟩) hHeld ?_
                          refine wpAnyH_take (i := 14) (v := .int .i64 (-1 - (M1 : Int))) rfl (by kernel_rfl) (by kernel_rfl) (by kernel_rfl) (fun _ _ _ h => h) (Or.inl ⟨by rfl, fun W hW => by go_simp⟩) hHeld ?_
                          clear hc0 hc1
                          refine wpAnyH_ready (rs := [7]) (by kernel_rfl) (by simp) (AllReadyH.cons rfl (fun K' hK => ?_) AllReadyH.nil)
                          rw [if_pos (by rfl)]
                          go_simp
                          refine (P1.out _).mono ?_
                          rintro e w13 ⟨rfl, hb13⟩
                          dsimp only
                          have hblk5 := Hblk4.out.below hb13 Hblk4.out.lt
                          have hb13' := Hb12.out.trans (hb13.mono Hb12.out.size)
                          refine hK.out _ _ ⟨hblk5.cell 0, hblk5.cell 1⟩ (fun hHeld => ?_)
                          refine wpAnyH_ready (rs := [15]) (by kernel_rfl) (by simp) (AllReadyH.cons rfl (fun K' hK => ?_) AllReadyH.nil)
                          rw [if_pos (by rfl)]
                          go_simp
                          refine (P2.out _).mono ?_
                          rintro e w14 ⟨rfl, hb14⟩
                          dsimp only
                          have hblk6 := hblk5.below hb14 hblk5.lt
                          have hb14' := hb13'.trans (hb14.mono hb13'.size)
                          refine hK.out _ _ ⟨hblk6.cell 0, hblk6.cell 1⟩ (fun hHeld => ?_)
                          refine wpAnyH_ready (rs := [16]) (by kernel_rfl) (by simp) (AllReadyH.cons rfl (fun K' hK => ?_) AllReadyH.nil)
                          rw [if_pos (by rfl)]
                          go_simp
                          refine hK.out _ _ hHeld (fun hHeld => ?_)
                          refine wpAnyH_ready (rs := [17]) (by kernel_rfl) (by simp) (AllReadyH.cons rfl (fun K' hK => ?_) AllReadyH.nil)
                          rw [if_pos (by rfl)]
                          go_simp
                          refine hK.out _ _ hHeld (fun hHeld => ?_)
                          refine wpAnyH_done (by kernel_rfl) ?_ _
                          have Hx := Lib.hid (And.intro hb14' hblk6)
                          clear hHeld hb13 hb13' hb14 hb14' hblk5 hblk6 hM0t hM1t hM0w hM1w hi0 hi1 hun0 hun1 hA0 hA1
                          go_wp2_with fail
                          go_roundw
                          case rel =>
                            obtain ⟨wa, wb, hl2, ha, hb⟩ := HW.out
                            obtain ⟨q1, q2⟩ := HL.out
                            have hb0 := Hbel.out.trans (Hx.out.1.mono Hbel.out.size)
                            first
                              | exact ⟨n + 1, _, _, by omega, by go_num, rfl, rfl, powZ_word wa _, powZ_word wa _, by omega, by omega, fun _ => by omega, fun _ => by omega, hb0, Hx.out.2⟩
                              | exact ⟨⟨n + 1, _, _, by omega, by go_num, rfl, rfl, powZ_word wa _, powZ_word wa _, by omega, by omega, fun _ => by omega, fun _ => by omega, hb0, Hx.out.2⟩, rfl⟩
                          case measure => simp [intOf]; omega
    · obtain rfl : n = 2 := by omega
      have Ha := Lib.hid (Haw.out wr Hbel.out)
      clear hbel
      go_wp2_with (go_at_call 15; refine Ha.out.mono ?_; clear Ha; rintro e w6 ⟨rfl, hb6⟩)
      go_ret
      exact ⟨rfl, Hbel.out.trans (hb6.mono Hbel.out.size)⟩

end Go.Proofs.Ytojjpbeaifiejaa
