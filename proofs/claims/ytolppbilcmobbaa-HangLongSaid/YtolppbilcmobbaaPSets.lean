/-
  The walk of HangSets.
-/
import Derived.Test.YtolppbilcmobbaaSetsM
import Derived.Test.YtolppbilcmobbaaSets
import Derived.Test.YtolppbilcmobbaaLaw
import Derived.Test.YtolppbilcmobbaaAwake
namespace Go.Proofs.Ytolppbilcmobbaa
open Go.RowKit Go.Shelf

theorem own_strs2 {B : Nat} {w : World} {v : Value} {L : List (List UInt8)} (h : OwnStrs B w v L) : ∃ A c, v = .slice A (L.map fun b => (⟨b.toArray⟩ : ByteArray)).length c ∧ StrS w A (L.map fun b => (⟨b.toArray⟩ : ByteArray)).length (L.map fun b => (⟨b.toArray⟩ : ByteArray)) := by
  unfold OwnStrs at h
  refine own_rows2 (B := B) ?_
  rw [List.length_map, List.map_map]
  exact h

set_option maxRecDepth 100000 in
set_option maxHeartbeats 1000000 in
theorem sets_bad (s : ByteArray) (w : World) (hsz : s.size ≤ 1000000000) (hc : checkN (lettersOf s) ≠ 0) :
    Calls Try.prog 14 #[.string s] w fun e w' => e = .returned (.tuple #[.slice none 0 0, .int .i64 (checkN (lettersOf s))]) ∧ Below w.heap.size w w' := by
  have Hchk := Lib.hid (check_any s w hsz)
  obtain ⟨z, hz⟩ : ∃ z : Int, z = (checkN (lettersOf s) : Nat) := ⟨_, rfl⟩
  have hz0 : ¬ z = 0 := by omega
  have hzb : (z == 0) = false := by simpa using hz0
  rw [← hz] at Hchk ⊢
  clear hz hc
  go_enter Try.func14, Try.ntmps14
  go_wp2_with (go_at_call 38; refine Hchk.out.mono ?_; clear Hchk; rintro e w1 ⟨rfl, hb1⟩)
  go_ret2
  exact ⟨rfl, hb1⟩

set_option maxRecDepth 100000 in
set_option maxHeartbeats 1000000 in
theorem sets_many (s : ByteArray) (w : World) (hsz : s.size ≤ 1000000000) (hc : checkN (lettersOf s) = 0) (hmany : 10 < (nameL (nailsL (lettersOf s))).length) :
    Calls Try.prog 14 #[.string s] w fun e w' => e = .returned (.tuple #[.slice none 0 0, .int .i64 2]) ∧ Below w.heap.size w w' := by
  obtain ⟨hword, hlen⟩ := checkN_zero hc
  have Hchk := Lib.hid (check_any s w hsz)
  rw [hc] at Hchk
  have Hnails := Lib.hid (fun W => nailsOf_any s W hword)
  have Hmany := Lib.hid (fun W => tooMany_any (nailsL (lettersOf s)) W)
  rw [decide_eq_true hmany] at Hmany
  clear hc hmany hword hlen
  generalize nailsL (lettersOf s) = S at *
  have hnewL : ∀ (V : World) (k : Nat), V.heap.size = k → Blk (V.alloc (.cells (nailC (fun _ => false)) 73)) k 73 (nailC (fun _ => false)) := fun V k e => e ▸ Blk.new V _ _
  rw [zero_agg] at hnewL
  have Hsz0 : Hid ((#[.bool false, .bool false, .bool false, .bool false, .bool false, .bool false, .bool false, .bool false, .bool false, .bool false, .bool false, .bool false, .bool false, .bool false, .bool false, .bool false, .bool false, .bool false, .bool false, .bool false, .bool false, .bool false, .bool false, .bool false, .bool false, .bool false] : Array Value).size = (nailC S).size) := by show _ = _; rw [nailC_size]; rfl
  go_enter Try.func14, Try.ntmps14
  go_upto_region 5 with (first
    | (go_at_call 38; refine Hchk.out.mono ?_; rintro e w1 ⟨rfl, hb1⟩)
    | (go_at_call 42; refine (Hnails.out _).mono ?_; rintro e w2 ⟨rfl, hb2⟩)
    | (refine wpList_plain rfl fun _ hK => wp_store_row 73 _ _ rfl _ (nailC S) rfl rfl 73 _ (hnewL _ _ rfl) (nailC_info _) Hsz0.out (nailC_one _) (hK _ _ ?_)))
  rw [World.setRow_alloc_new]
  have hbS := Blk.new w2 73 (nailC S)
  have hbel : Below w.heap.size w (w2.alloc (.cells (nailC S) 73)) := (hb1.trans (hb2.mono hb1.size)).alloc (Nat.le_trans hb1.size hb2.size) _
  generalize w2.heap.size = gS at *
  generalize w2.alloc (.cells (nailC S) 73) = W3 at *
  go_wp2_with (first
    | (refine wpList_load_row rfl 73 _ rfl gS rfl 73 (nailC S) (0, 0) _ hbS Try.underlying73 rfl (nailC_info S) ?_)
    | (go_at_call 43; refine (Hmany.out _).mono ?_; rintro e w4 ⟨rfl, hb4⟩))
  go_ret2
  exact ⟨rfl, hbel.trans (hb4.mono hbel.size)⟩

set_option maxRecDepth 100000 in
set_option maxHeartbeats 1000000 in
theorem hangSets_walk (s : ByteArray) (m : Int) (w : World) (hm : w.cell? ⟨0, 0, none⟩ = some (.int .i64 m)) (hw0 : 0 < w.heap.size) :
    Calls Try.prog 4 #[.string s] w fun e w' => e = .returned (.bool true) ∧ Below w.heap.size w w' := by
  have Haw := Lib.hid (fun W (hW : Below w.heap.size w W) => awake_any m W ((hW.cell (p := ⟨0, 0, none⟩) hw0).trans hm) (Nat.lt_of_lt_of_le hw0 hW.size))
  have HT : Hid (∀ W : World, Calls Try.prog 25 #[.string s, .int .i64 4, .int .i64 60] W fun e w' => e = .returned (.string (strL (textL 4 ((lettersOf s).take 60)))) ∧ Below W.heap.size W w') := fun W => text_any s 4 60 W (by omega) (by omega) (by omega)
  have hts : (strL (textL 4 ((lettersOf s).take 60))).size ≤ 300 := by rw [strL_size]; unfold textL; rw [List.length_map, List.length_take]; omega
  generalize strL (textL 4 ((lettersOf s).take 60)) = tx at *
  have Hts := Lib.hid hts
  clear hm hw0 hts
  go_enter Try.func4, Try.ntmps4
  go_upto_region 1 with fail
  go_cut [3] (fun v wx => ∃ o : ByteArray, v = .string o ∧ o.size ≤ 300 ∧ wx = w)
  case first =>
    go_wp2_with fail
    go_meet
    exact ⟨_, rfl, by rw [ByteArray.size_extract]; omega, rfl⟩
  case rest =>
    obtain ⟨o, rfl, ho, rfl⟩ := hcut
    go_wp2_with fail
    go_loopw [3, 4] (fun v kv wr => ∃ (k : Nat) (o : ByteArray), k ≤ 2 ∧ kv = .int .i64 k ∧ v = .string o ∧ o.size ≤ 300 ∧ Below wc.heap.size wc wr) (fun _ kv _ => 2 - (intOf kv).toNat)
    case atStart => exact ⟨0, o, by omega, rfl, rfl, ho, Below.refl _ _⟩
    case round =>
      clear ho o
      obtain ⟨k, o, hk, rfl, rfl, ho, hbel⟩ := hrel
      have Hbel := Lib.hid hbel
      by_cases hlt : k < 2
      · have hki : (k : Int) < 2 := by omega
        have hlo := lettersOf_length o
        have HC : Hid (∀ W, Calls Try.prog 23 #[.string o] W fun e w' => e = .returned (.int .i64 (checkN (lettersOf o))) ∧ w' = W) := fun W => rcheck_any o W (by omega)
        clear hbel
        by_cases hc : checkN (lettersOf o) = 0
        · have hword := (checkN_zero hc).1
          rw [hc] at HC
          have Hns : Hid (∀ (W : World), Calls Try.prog 24 #[.slice (some ⟨W.heap.size, 0, none⟩) 1 1] (W.alloc (.cells #[.string o] 9)) fun e w' => e = .returned (.string (strL (nameL (nailsL (lettersOf o))))) ∧ w' = W.alloc (.cells #[.string o] 9)) := fun W => rnails_any o W.heap.size _ hword (by omega) ((Blk.new W 9 #[.string o]).cell 0)
          have hns := strL_size (nameL (nailsL (lettersOf o)))
          by_cases hmany : 10 < (nameL (nailsL (lettersOf o))).length
          · have HS := Lib.hid (fun W => sets_many o W (by omega) hc hmany)
            have h10 : (10 : Int) < ((nameL (nailsL (lettersOf o))).length : Int) := by omega
            generalize (nameL (nailsL (lettersOf o))).length = q at *
            generalize strL (nameL (nailsL (lettersOf o))) = ns at *
            clear hword hc hmany hlo
            go_wp2_with (first
              | (go_at_call 14; refine (HS.out _).mono ?_; clear HS; rintro e w2 ⟨rfl, hb2⟩)
              | (go_at_call 23; refine (HC.out _).mono ?_; clear HC; rintro e w3 ⟨rfl, rfl⟩)
              | (go_at_call 24; refine (Hns.out _).mono ?_; clear Hns; rintro e w4 ⟨rfl, rfl⟩; have hb24 := hb2.trans ((below_new' w3 (.cells #[.string o] 9)).mono hb2.size))
              | (go_at_call 25; refine (HT.out _).mono ?_; rintro e w5 ⟨rfl, hb5⟩))
            go_roundw
            case rel => exact ⟨k + 1, tx, by omega, by go_num, rfl, Hts.out, Hbel.out.trans ((hb24.trans (hb5.mono hb24.size)).mono Hbel.out.size)⟩
            case measure => simp [intOf]; omega
          · have hfew : (nameL (nailsL (lettersOf o))).length ≤ 10 := by omega
            have hp : 2 ^ (nailsIn (nailsL (lettersOf o))).length ≤ 1024 := by
              have e : (nameL (nailsL (lettersOf o))).length = (nailsIn (nailsL (lettersOf o))).length := List.length_map ..
              rw [← e]
              exact Nat.pow_le_pow_right (n := 2) (by omega) hfew
            have HS := Lib.hid (fun W => sets_any o 1024 W (by omega) hc hfew (doneF_all _ 1024 hp) (by omega))
            have HR := Lib.hid (fun W => rsets_any o W hword (by omega) hfew)
            rw [setsR_eq hword hp] at HR
            have hl1 : (setsB (lettersOf o) 1024).length ≤ 1024 := by unfold setsB; rw [namesB_length]; exact leastL_length' _ _ _
            unfold RetSets at HS
            unfold RetIns at HR
            have h10 : ¬ (10 : Int) < ((nameL (nailsL (lettersOf o))).length : Int) := by omega
            generalize (nameL (nailsL (lettersOf o))).length = q at *
            generalize strL (nameL (nailsL (lettersOf o))) = ns at *
            have HS2 : Hid (∀ W : World, Calls Try.prog 14 #[.string o] W fun e w' => ∃ A c, e = .returned (.tuple #[.slice A ((setsB (lettersOf o) 1024).map fun b => (⟨b.toArray⟩ : ByteArray)).length c, .int .i64 0]) ∧ StrS w' A ((setsB (lettersOf o) 1024).map fun b => (⟨b.toArray⟩ : ByteArray)).length ((setsB (lettersOf o) 1024).map fun b => (⟨b.toArray⟩ : ByteArray)) ∧ Below W.heap.size W w') := fun W => by
              refine (HS.out W).mono ?_
              rintro e w' ⟨v, rfl, hown, hb⟩
              obtain ⟨A, c, rfl, h⟩ := own_strs2 hown
              exact ⟨A, c, rfl, h, hb⟩
            clear HS
            have hl2 : ((setsB (lettersOf o) 1024).map fun b => (⟨b.toArray⟩ : ByteArray)).length ≤ 1024 := by rw [List.length_map]; exact hl1
            generalize ((setsB (lettersOf o) 1024).map fun b => (⟨b.toArray⟩ : ByteArray)) = L at *
            clear hl1 hword hc hmany hlo hfew hp
            go_upto_region 7 with (first
              | (go_at_call 14; refine (HS2.out _).mono ?_; clear HS2; rintro e w2 ⟨A2, c2, rfl, hS2, hb2⟩)
              | (go_at_call 23; refine (HC.out _).mono ?_; clear HC; rintro e w3 ⟨rfl, rfl⟩))
            have hbx := below_new' w3 (.cells #[.string o] 9)
            have hS4 := hS2.below hbx
            have hb4 := hb2.trans (hbx.mono hb2.size)
            have Hnow := Lib.hid (Hns.out w3)
            clear Hns hS2 hbx hb2
            have hmx : L.length ≤ 4611686018427387904 := by omega
            go_wp2_with (first
              | (go_at_call 24; refine Hnow.out.mono ?_; clear Hnow; rintro e w4 ⟨rfl, rfl⟩; generalize w3.alloc (.cells #[.string o] 9) = W4 at *)
              | (go_at_call 22; refine (HR.out _).mono ?_; clear HR; rintro e w5 ⟨A5, c5, rfl, hc5, hS5, hb5⟩; have hS45 := hS4.below hb5; have hb45 := hb4.trans (hb5.mono hb4.size))
              | (go_at_call 21; refine (same_any A2 A5 L.length L.length c2 c5 L L w5 hS45 hS5 hmx hmx).mono ?_; rintro e w6 ⟨rfl, hb6⟩; rw [decide_eq_true (rfl : L = L)]; have hb46 := hb45.trans (hb6.mono hb45.size))
              | (go_at_call 25; refine (HT.out _).mono ?_; rintro e w7 ⟨rfl, hb7⟩))
            go_roundw
            case rel => exact ⟨k + 1, tx, by omega, by go_num, rfl, Hts.out, Hbel.out.trans ((hb46.trans (hb7.mono hb46.size)).mono Hbel.out.size)⟩
            case measure => simp [intOf]; omega
        · have HS := Lib.hid (fun W => sets_bad o W (by omega) hc)
          obtain ⟨z, hz⟩ : ∃ z : Int, z = (checkN (lettersOf o) : Nat) := ⟨_, rfl⟩
          have hzb : (z == 0) = false := by simp; omega
          have hz0 : ¬ z = 0 := by omega
          rw [← hz] at HS HC
          clear hz hc hlo
          go_wp2_with (first
            | (go_at_call 14; refine (HS.out _).mono ?_; clear HS; rintro e w2 ⟨rfl, hb2⟩)
            | (go_at_call 23; refine (HC.out _).mono ?_; clear HC; rintro e w3 ⟨rfl, rfl⟩)
            | (go_at_call 25; refine (HT.out _).mono ?_; rintro e w5 ⟨rfl, hb5⟩))
          go_roundw
          case rel => exact ⟨k + 1, tx, by omega, by go_num, rfl, Hts.out, Hbel.out.trans ((hb2.trans (hb5.mono hb2.size)).mono Hbel.out.size)⟩
          case measure => simp [intOf]; omega
      · obtain rfl : k = 2 := by omega
        have Ha := Lib.hid (Haw.out wr Hbel.out)
        clear hbel
        go_wp2_with (go_at_call 15; refine Ha.out.mono ?_; clear Ha; rintro e w6 ⟨rfl, hb6⟩)
        go_ret
        exact ⟨rfl, Hbel.out.trans (hb6.mono Hbel.out.size)⟩

end Go.Proofs.Ytolppbilcmobbaa
