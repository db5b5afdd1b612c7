/-
  The walk of HangTen.
-/
import Derived.Test.YtolppbilcmobbaaTenM
import Derived.Test.YtolppbilcmobbaaPBack
namespace Go.Proofs.Ytolppbilcmobbaa
open Go.RowKit Go.Shelf

/-- Sets of nails as the law makes them. -/
def onesB (nails : Nat) (e : Bool) (xs : List Int) : List ByteArray := xs.map fun x => strL (oneS nails e x)
theorem ones_rising {K : Nat} (h : K ≤ 26) (e : Bool) (xs : List Int) : ∀ s ∈ onesB K e xs, risingB 0 (lettersOf s) = true ∧ s.size ≤ 26 := fun s hs => by
  obtain ⟨x, _, rfl⟩ := List.mem_map.1 hs
  have hr := rising_one h e x
  rw [letters_strL (rising_word hr).lt256, strL_size]
  exact ⟨hr, rising_size hr⟩
theorem any_takeB {l : List ByteArray} {P : ByteArray → Bool} {k : Nat} (h : k < l.length) : (l.take (k + 1)).any P = ((l.take k).any P || P (l.getD k ByteArray.empty)) := by
  rw [List.take_succ_eq_append_getElem h, List.any_append, List.getD_eq_getElem?_getD, List.getElem?_eq_getElem h]; simp
theorem getD_mem {l : List ByteArray} {k : Nat} (h : k < l.length) : l.getD k ByteArray.empty ∈ l := by
  rw [List.getD_eq_getElem?_getD, List.getElem?_eq_getElem h]
  exact List.getElem_mem _

/-- The second half of HangTen: all tries are as they must be. -/
def Tries (OL TL : List ByteArray) (s : ByteArray) : Prop :=
  (∀ o ∈ OL, o.size ≤ 26) ∧ ∀ t ∈ TL, t.size ≤ 26 ∧ decide (redL (stayL (lettersOf t) (lettersOf s)) = []) = OL.any fun o => (lettersOf o).all fun c => hasL (lettersOf t) c

theorem ten_facts (xs ys : List Int) (h0 : onesB 10 false (xs.take 8) ≠ []) :
    2 ^ (nailsIn (unionN (setsOf (onesB 10 false (xs.take 8))))).length ≤ 1024 ∧ (nameL (unionN (setsOf (onesB 10 false (xs.take 8))))).length ≤ 10 ∧ Named (onesB 10 false (xs.take 8)) ∧
    (hangL (setsOf (onesB 10 false (xs.take 8))) 1024).length ≤ 30000 ∧
    Tries (onesB 10 false (xs.take 8)) (onesB 10 true (ys.take 6) ++ onesB 10 false (xs.take 8)) (strL (hangL (setsOf (onesB 10 false (xs.take 8))) 1024)) := by
  have hg : Nice 10 (onesB 10 false (xs.take 8)) := good_ones (by omega) (by omega) _
  have hu := hg.union
  have hp : 2 ^ (nailsIn (unionN (setsOf (onesB 10 false (xs.take 8))))).length ≤ 1024 := pow_few hu
  have hl8 : (setsOf (onesB 10 false (xs.take 8))).length ≤ 8 := by
    unfold setsOf onesB
    rw [List.length_map, List.length_map, List.length_take]
    omega
  have hlet : lettersOf (strL (hangL (setsOf (onesB 10 false (xs.take 8))) 1024)) = hangL (setsOf (onesB 10 false (xs.take 8))) 1024 := letters_strL (hangL_word _ _).lt256
  refine ⟨hp, name_few hu, hg.named, ten_length hp (few_nailsIn hu) hl8, fun o ho => (ones_rising (by omega) false _ o ho).2, fun t ht => ?_⟩
  have hr : risingB 0 (lettersOf t) = true ∧ t.size ≤ 26 := by
    rcases List.mem_append.1 ht with ht | ht
    · exact ones_rising (by omega) true _ t ht
    · exact ones_rising (by omega) false _ t ht
  exact ⟨hr.2, by rw [hlet]; exact ten_falls hg hp h0 hr.1⟩

set_option maxRecDepth 100000 in
set_option maxHeartbeats 1000000 in
theorem hangTen_walk (A A' : Option Addr) (n c n' c' : Nat) (xs ys : List Int) (m : Int) (w : World) (hI : IntS w A n xs) (hn : n ≤ 9223372036854775807) (hr : ∀ x ∈ xs, -9223372036854775808 ≤ x ∧ x ≤ 9223372036854775807)
    (hI' : IntS w A' n' ys) (hn' : n' ≤ 9223372036854775807) (hr' : ∀ x ∈ ys, -9223372036854775808 ≤ x ∧ x ≤ 9223372036854775807) (hm : w.cell? ⟨0, 0, none⟩ = some (.int .i64 m)) (hw0 : 0 < w.heap.size) :
    Calls Try.prog 5 #[.slice A n c, .slice A' n' c'] w fun e w' => e = .returned (.bool true) ∧ Below w.heap.size w w' := by
  obtain ⟨i0, hi, hz0, hz1, hz2⟩ := info_parts info_str
  have Hset := Lib.hid (lawSets_any A n c 8 10 false xs w hI hn (by omega) (by omega) hr)
  have IntBelow : ∀ W, Below w.heap.size w W → IntS W A' n' ys := fun W hW => ⟨hI'.1, fun h => by
    obtain ⟨b, off, e, hb, hc⟩ := hI'.2 h
    exact ⟨b, off, e, Nat.lt_of_lt_of_le hb hW.size, fun i hi => (hW.cell hb).trans (hc i hi)⟩⟩
  have Hset2 := Lib.hid (fun W (hW : Below w.heap.size w W) => lawSets_any A' n' c' 6 10 true ys W (IntBelow W hW) hn' (by omega) (by omega) hr')
  have Haw := Lib.hid (fun W (hW : Below w.heap.size w W) => awake_any m W ((hW.cell (p := ⟨0, 0, none⟩) hw0).trans hm) (Nat.lt_of_lt_of_le hw0 hW.size))
  have hfacts := fun h => ten_facts xs ys h
  have hlO : (onesB 10 false (xs.take 8)).length = (xs.take 8).length := List.length_map ..
  have hlT : (onesB 10 true (ys.take 6)).length = (ys.take 6).length := List.length_map ..
  have hl8 : (xs.take 8).length ≤ 8 := by rw [List.length_take]; omega
  have hl6 : (ys.take 6).length ≤ 6 := by rw [List.length_take]; omega
  have hmO : ((xs.take 8).map fun x => Value.string (strL (oneS 10 false x))) = (onesB 10 false (xs.take 8)).map Value.string := by unfold onesB; rw [List.map_map]; rfl
  have hmT : ((ys.take 6).map fun x => Value.string (strL (oneS 10 true x))) = (onesB 10 true (ys.take 6)).map Value.string := by unfold onesB; rw [List.map_map]; rfl
  rw [hmO, ← hlO] at Hset
  rw [hmT, ← hlT] at Hset2
  rw [← hlO] at hl8
  rw [← hlT] at hl6
  generalize onesB 10 false (xs.take 8) = OL at *
  generalize onesB 10 true (ys.take 6) = TL at *
  have Hfacts := Lib.hid hfacts
  clear hI hI' IntBelow hr hr' hm hw0 hn hn' hlO hlT hmO hmT hfacts
  generalize hk : OL.length = k at *
  have Hk := Lib.hid hk
  go_enter Try.func5, Try.ntmps5
  go_upto_region 2 with (first
    | (go_at_call 16; refine Hset.out.mono ?_; clear Hset; rintro e w1 ⟨v1, rfl, hown1, hb1⟩; obtain ⟨A1, c1, rfl⟩ := own_slice' hown1))
  rcases Nat.eq_zero_or_pos k with h0 | h0
  · subst h0
    clear hk
    go_wp2_with (go_at_call 15; refine (Haw.out w1 hb1).mono ?_; clear Haw; rintro e w2 ⟨rfl, hb2⟩)
    go_ret
    exact ⟨rfl, hb1.trans (hb2.mono hb1.size)⟩
  · have hne : OL ≠ [] := fun e => by rw [e] at hk; simp at hk; omega
    obtain ⟨go, co, e⟩ := own_pos hown1 h0
    have e1 : A1 = some ⟨go, 0, none⟩ := by injection e
    clear e
    subst e1
    obtain ⟨f1, f2, f3, f4, f5⟩ := Hfacts.out hne
    have hS1 : StrS w1 (some ⟨go, 0, none⟩) k OL := by
      rw [← hk] at hown1 ⊢
      obtain ⟨A2, c2, e, h⟩ := own_rows hown1
      injection e with e1 e2 e3
      subst e1
      exact h
    have Hh := Lib.hid (hang_any (some ⟨go, 0, none⟩) k c1 1024 OL w1 hS1 (by omega) h0 f3 f2 (doneF_all _ 1024 f1) (by omega))
    have hlet : lettersOf (strL (hangL (setsOf OL) 1024)) = hangL (setsOf OL) 1024 := letters_strL (hangL_word _ _).lt256
    have hsz : (strL (hangL (setsOf OL) 1024)).size ≤ 30000 := by rw [strL_size]; exact f4
    have hwd : IsWord (lettersOf (strL (hangL (setsOf OL) 1024))) := by rw [hlet]; exact hangL_word _ _
    generalize strL (hangL (setsOf OL) 1024) = s at *
    have Hc : Hid (∀ W, Calls Try.prog 23 #[.string s] W fun e w' => e = .returned (.int .i64 0) ∧ w' = W) := fun W => by
      have h := rcheck_any s W (by omega)
      rw [checkN_word hwd (by rw [lettersOf_length]; exact hsz)] at h
      exact h
    have Hown := Lib.hid hown1
    have Hne := Lib.hid hne
    have Hwd := Lib.hid hwd
    have Hf5 := Lib.hid f5
    have Hf3 := Lib.hid f3
    clear hne f1 f2 f3 f4 f5 hlet hwd hS1 hown1 hk Hfacts
    go_upto_region 8 with (first
      | (go_at_call 26; refine Hh.out.mono ?_; clear Hh; rintro e w2 ⟨rfl, hb2⟩; have hb12 := hb1.trans (hb2.mono hb1.size); have hown2 := own_keep Hown.out hb2)
      | (go_at_call 23; refine (Hc.out _).mono ?_; clear Hc; rintro e w3 ⟨rfl, rfl⟩)
      | (go_at_call 16; refine (Hset2.out w3 hb12).mono ?_; clear Hset2; rintro e w4 ⟨v4, rfl, hown4, hb4⟩))
    have hown3 := own_keep hown2 hb4
    have hb14 := hb12.trans (hb4.mono hb12.size)
    have hblk4 : ∀ r, v4.ownBlock = some r → w3.heap.size ≤ r := fun r e => (hown4.lt r e).1
    have hgo : go < w3.heap.size := (own_lt hown2).1
    have hb34 : w3.heap.size ≤ w4.heap.size := hb4.size
    have hle3 : w.heap.size ≤ w3.heap.size := hb12.size
    have Hcells := Lib.hid (fun i (hi : i < k) => own_cell hown3 i hi)
    have Hown3 := Lib.hid hown3
    have Hown4 := Lib.hid hown4
    have Hb14 := Lib.hid hb14
    clear hb1 hb2 hb12 hown2 Hown hb4 hown3 hb14
    have hlT6 : (TL.map Value.string).length ≤ 6 := by rw [List.length_map]; exact hl6
    go_upto_region 9 with (at_builtin; refine wpList_append_lies _ rfl _ _ 29 rfl w3.heap.size 9 i0 (.string ⟨#[]⟩) 1 16 Try.underlying29 hi hz0 hz1 hz2 rfl (by decide) _ TL.length (TL.map Value.string) rfl Hown4.out ⟨go, 0, none⟩ k c1 (OL.map Value.string) rfl ?c0 ?c1 ?c2 ?c3 ?c4 ?c5 ?c6 w4.heap.size rfl ?_)
    case c0 => rw [List.length_map, Nat.mul_one]; exact Hk.out
    case c1 =>
      intro j u hu
      have hj : j < (OL.map Value.string).length := (List.getElem?_eq_some_iff.1 hu).1
      rw [List.length_map, Hk.out] at hj
      rw [add_at, Nat.zero_add, Hcells.out j hj]
      exact hu
    case c2 =>
      intro u hu
      obtain ⟨x, _, rfl⟩ := List.mem_map.1 hu
      rfl
    case c3 => exact h0
    case c4 => unfold maxLen; omega
    case c5 => omega
    case c6 => exact hb34
    intro gt ct w5 hown5 hgrow5 hat5 hlt5
    have hgne : some go ≠ v4.ownBlock := fun e => by have := hblk4 go e.symm; omega
    have hO5 : w5.ownsRow w.heap.size 9 1 (.slice (some ⟨go, 0, none⟩) k c1) k (OL.map Value.string) := own_stay Hown3.out fun j hj => by
      have hj2 : go = j := by simpa [Value.ownBlock] using hj
      subst hj2
      exact hgrow5.block go (by omega) hgne
    have hb5 : Below w.heap.size w w5 := Hb14.out.trans (((Below.refl w3.heap.size w4).grown hgrow5 hb34 hblk4).mono hle3)
    obtain ⟨N1, hN1⟩ : ∃ N1, TL.length + k = N1 := ⟨_, rfl⟩
    have hRl : (TL ++ OL).length = N1 := by rw [List.length_append, Hk.out, hN1]
    have HcT : Hid (∀ W, Below w5.heap.size w5 W → ∀ i, i < N1 → W.cell? ⟨gt, i, none⟩ = some (.string ((TL ++ OL).getD i ByteArray.empty))) := fun W hW i hi => by
      rw [hW.cell (p := ⟨gt, i, none⟩) hlt5, own_cell hown5 i (by omega), ← List.map_append, List.getElem?_map, List.getD_eq_getElem?_getD, List.getElem?_eq_getElem (by omega)]
      rfl
    have HcO : Hid (∀ W, Below w5.heap.size w5 W → ∀ i, i < k → W.cell? ⟨go, i, none⟩ = some (.string (OL.getD i ByteArray.empty))) := fun W hW i hi => by
      rw [hW.cell (p := ⟨go, i, none⟩) (own_lt hO5).1, own_cell hO5 i hi, List.getElem?_map, List.getD_eq_getElem?_getD, List.getElem?_eq_getElem (by have := Hk.out; omega)]
      rfl
    have Hb5 := Lib.hid hb5
    have hN14 : N1 ≤ 14 := by omega
    rw [hN1]
    clear hown5 hgrow5 hat5 hlt5 hgne hO5 hb5 Hb14 Hown3 Hown4 Hcells hblk4 hgo hb34 hle3 hlT6 hN1 Hf3 hl6
    generalize TL ++ OL = R at *
    have HR := Lib.hid hRl
    clear hRl
    go_wp2_with fail
    go_loopw [9] (fun iv wr => ∃ i : Nat, i ≤ N1 ∧ iv = .int .i64 i ∧ Below w5.heap.size w5 wr) (fun iv _ => N1 - (intOf iv).toNat)
    case atStart => exact ⟨0, Nat.zero_le _, rfl, Below.refl _ _⟩
    case round =>
      obtain ⟨i, hiN, rfl, hbel⟩ := hrel
      by_cases hlt : i < N1
      · have htm := getD_mem (l := R) (k := i) (by have := HR.out; omega)
        obtain ⟨htz, htf⟩ := Hf5.out.2 _ htm
        have HcTi : Hid (∀ W, Below w5.heap.size w5 W → W.cell? ⟨gt, i, none⟩ = some (.string (R.getD i ByteArray.empty))) := fun W hW => HcT.out W hW i hlt
        generalize R.getD i ByteArray.empty = t at *
        have Htf := Lib.hid htf
        have HF := Lib.hid (fun W => rfalls_any s t W Hwd.out (by omega) (by omega))
        rw [Htf.out] at HF
        obtain ⟨P, hPd⟩ : ∃ P : ByteArray → Bool, P = fun o : ByteArray => (lettersOf o).all fun c => hasL (lettersOf t) c := ⟨_, rfl⟩
        have HP : Hid (∀ (o : ByteArray) (W : World), o ∈ OL → Calls Try.prog 27 #[.string t, .string o] W fun e w' => e = .returned (.bool (P o)) ∧ w' = W) := fun o W ho => by rw [hPd]; exact rcontains_any t o W (by omega) (by have := Hf5.out.1 o ho; omega)
        rw [← hPd] at HF
        clear htm htf hPd Htf
        go_wp2_with fail
        go_loopw [10, 11] (fun wv jv wr => ∃ j : Nat, j ≤ k ∧ jv = .int .i64 j ∧ wv = .bool ((OL.take j).any P) ∧ Below w5.heap.size w5 wr) (fun _ jv _ => k - (intOf jv).toNat)
        case atStart => exact ⟨0, Nat.zero_le _, rfl, rfl, hbel⟩
        case round =>
          obtain ⟨j, hjk, rfl, rfl, hbel2⟩ := hrel
          by_cases hltj : j < k
          · have Hst := Lib.hid (any_takeB (l := OL) (P := P) (k := j) (by have := Hk.out; omega))
            have hom := getD_mem (l := OL) (k := j) (by have := Hk.out; omega)
            have hcO := HcO.out wr hbel2 j hltj
            have hcT := HcTi.out wr hbel2
            generalize OL.getD j ByteArray.empty = o at *
            have Hcall := Lib.hid (fun W => HP.out o W hom)
            have Hbel2 := Lib.hid hbel2
            generalize P o = b at *
            clear hom hbel2
            generalize (OL.take j).any P = a at *
            cases a
            · go_wp2_with fail
              go_quiet ((go_at_call 27; exact Calls.quiet_of_same (Hcall.out _)))
              have Hbel3 : Hid (Below w5.heap.size w5 (wr.drewN nq)) := below_drewN Hbel2.out nq
              go_wp2_with fail
              go_roundw
              case rel => exact ⟨j + 1, by omega, by go_num, by rw [Hst.out, Bool.false_or], Hbel3.out⟩
              case measure => simp [intOf]; omega
            · go_wp2_with fail
              go_quiet (fail)
              have Hbel3 : Hid (Below w5.heap.size w5 (wr.drewN nq)) := below_drewN Hbel2.out nq
              go_wp2_with fail
              go_roundw
              case rel => exact ⟨j + 1, by omega, by go_num, by rw [Hst.out, Bool.true_or], Hbel3.out⟩
              case measure => simp [intOf]; omega
          · obtain rfl : j = k := by omega
            rw [List.take_of_length_le (by have := Hk.out; omega)]
            have hcT := HcTi.out wr hbel2
            have Hbel2 := Lib.hid hbel2
            clear hbel2
            generalize OL.any P = a at *
            cases a
            all_goals
              go_wp2_with (go_at_call 20; refine (HF.out _).mono ?_; clear HF; rintro e w6 ⟨rfl, hb6⟩)
              go_roundw
              case rel => exact ⟨i + 1, by omega, by go_num, Hbel2.out.trans (hb6.mono Hbel2.out.size)⟩
              case measure => simp [intOf]; omega
      · obtain rfl : i = N1 := by omega
        have hb05 := Hb5.out.trans (hbel.mono Hb5.out.size)
        go_wp2_with (go_at_call 15; refine (Haw.out _ hb05).mono ?_; clear Haw; rintro e w6 ⟨rfl, hb6⟩)
        go_ret
        exact ⟨rfl, hb05.trans (hb6.mono hb05.size)⟩

end Go.Proofs.Ytolppbilcmobbaa
