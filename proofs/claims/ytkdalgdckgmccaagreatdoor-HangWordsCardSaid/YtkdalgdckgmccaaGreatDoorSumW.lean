/-
  The walks of the reference's IsSet and Sum, of Sum of the program, and of what the calls of HangWords return of no word or no set.
-/
import Derived.Test.YtkdalgdckgmccaaGreatDoorTenM
import Derived.Test.YtkdalgdckgmccaaGreatDoorFallsW
import Derived.Test.YtkdalgdckgmccaaGreatDoorTurnA
import Derived.Test.YtkdalgdckgmccaaGreatDoorShelf
namespace Go.Proofs.YtkdalgdckgmccaaGreatDoor
open Go.RowKit Go.Shelf

/-- The letter before place k. -/
def prevL (l : List Nat) (k : Nat) : Nat := if k = 0 then 0 else l.getD (k - 1) 0

set_option maxRecDepth 100000 in
set_option maxHeartbeats 2000000 in
theorem isset_any (s : ByteArray) (w : World) (hsz : s.size ≤ 9223372036854775807) :
    Calls Tryz.prog 12 #[.string s] w fun e w' => e = .returned (.bool (risingB 0 (lettersOf s))) ∧ Below w.heap.size w w' := by
  have hl := lettersOf_length s
  obtain ⟨l, hL⟩ : ∃ l, lettersOf s = l := ⟨_, rfl⟩
  have Hget := Lib.hid (fun k (h : k < s.size) => lettersOf_get s k h)
  rw [hL] at hl Hget ⊢
  have Hl := Lib.hid hl
  obtain ⟨R, hR⟩ : ∃ R, risingB 0 l = R := ⟨_, rfl⟩
  have HR := Lib.hid hR
  rw [hR]
  clear hl hL hR
  go_enter Tryz.func12, Tryz.ntmps12
  go_wp2_with fail
  go_loopw [3] (fun kv wr => ∃ k : Nat, k ≤ s.size ∧ kv = .int .i64 k ∧ R = risingB (prevL l k) (l.drop k) ∧ Below w.heap.size w wr) (fun kv _ => s.size - (intOf kv).toNat)
  case atStart => exact ⟨0, Nat.zero_le _, rfl, by rw [← HR.out]; rfl, Below.refl _ _⟩
  case round =>
    obtain ⟨k, hk, rfl, hrise, hbel⟩ := hrel
    have Hrise := Lib.hid hrise
    have Hbel := Lib.hid hbel
    clear hrise hbel
    by_cases hlt : k < s.size
    · have hki : (k : Int) < (s.size : Int) := by omega
      have hcc : (s[k]'hlt).toNat = l.getD k 0 := (Hget.out k hlt).symm
      have Hst : Hid (R = (decide (97 ≤ l.getD k 0) && decide (l.getD k 0 ≤ 122) && decide (prevL l k < l.getD k 0) && risingB (l.getD k 0) (l.drop (k + 1)))) := by
        show _ = _
        rw [Hrise.out]
        exact rising_drop (by rw [Hl.out]; exact hlt)
      have Hnext : Hid (prevL l (k + 1) = l.getD k 0) := by
        show _ = _
        unfold prevL
        rw [if_neg (by omega), Nat.add_sub_cancel]
      obtain ⟨c, hc⟩ : ∃ c, l.getD k 0 = c := ⟨_, rfl⟩
      rw [hc] at hcc Hst Hnext
      clear hc
      by_cases h1 : c < 97
      · have h1i : (c : Int) < 97 := by omega
        have h1b : decide ((c : Int) < 97) = true := decide_eq_true h1i
        have e : Hid (R = false) := by show _ = _; rw [Hst.out, decide_eq_false (show ¬ 97 ≤ c by omega)]; rfl
        clear h1
        go_wp2_with fail
        go_quiet (fail)
        go_wp2_with fail
        go_ret
        exact ⟨by rw [e.out]; rfl, below_drewN Hbel.out nq⟩
      · have h1i : ¬ (c : Int) < 97 := by omega
        have h1b : decide ((c : Int) < 97) = false := decide_eq_false h1i
        by_cases h2 : 122 < c
        · have h2i : (122 : Int) < (c : Int) := by omega
          have h2b : decide ((122 : Int) < (c : Int)) = true := decide_eq_true h2i
          have e : Hid (R = false) := by show _ = _; rw [Hst.out, decide_eq_false (show ¬ c ≤ 122 by omega), Bool.and_false]; rfl
          clear h1 h2
          go_wp2_with fail
          go_quiet (fail)
          go_wp2_with fail
          go_ret
          exact ⟨by rw [e.out]; rfl, below_drewN Hbel.out nq⟩
        · have h2i : ¬ (122 : Int) < (c : Int) := by omega
          have h2b : decide ((122 : Int) < (c : Int)) = false := decide_eq_false h2i
          by_cases hk0 : k = 0
          · subst hk0
            have e : Hid (R = risingB (prevL l (0 + 1)) (l.drop (0 + 1))) := by
              show _ = _
              rw [Hnext.out, Hst.out, decide_eq_true (show 97 ≤ c by omega), decide_eq_true (show c ≤ 122 by omega), decide_eq_true (show prevL l 0 < c by show 0 < c; omega)]
              rfl
            clear h1 h2 Hst
            go_wp2_with fail
            go_quiet (fail)
            go_wp2_with fail
            go_roundw
            case rel => exact ⟨1, by omega, by go_num, e.out, below_drewN Hbel.out nq⟩
            case measure => simp [intOf]; omega
          · obtain ⟨j, rfl⟩ : ∃ j, k = j + 1 := ⟨k - 1, by omega⟩
            have hj : j < s.size := by omega
            have hji : (j : Int) < (s.size : Int) := by omega
            have hjw : IntKind.i64.wrap (((j + 1 : Nat) : Int) - 1) = (j : Int) := (IntWalk.i64_in _ (by omega)).trans (by omega)
            have hcp : (s[j]'hj).toNat = l.getD j 0 := (Hget.out j hj).symm
            have Hp : Hid (prevL l (j + 1) = l.getD j 0) := by
              show _ = _
              unfold prevL
              rw [if_neg (by omega), Nat.add_sub_cancel]
            obtain ⟨p, hp⟩ : ∃ p, l.getD j 0 = p := ⟨_, rfl⟩
            rw [hp] at hcp Hp
            clear hp
            have hpos : (0 : Int) < ((j + 1 : Nat) : Int) := by omega
            have hposb : decide ((0 : Int) < ((j + 1 : Nat) : Int)) = true := decide_eq_true hpos
            by_cases h3 : c ≤ p
            · have h3i : (c : Int) ≤ (p : Int) := by omega
              have h3b : decide ((c : Int) ≤ (p : Int)) = true := decide_eq_true h3i
              have e : Hid (R = false) := by show _ = _; rw [Hst.out, Hp.out, decide_eq_false (show ¬ p < c by omega), Bool.and_false]; rfl
              clear h1 h2 h3
              go_wp2_with fail
              go_quiet (fail)
              go_wp2_with fail
              go_ret
              exact ⟨by rw [e.out]; rfl, below_drewN Hbel.out nq⟩
            · have h3i : ¬ (c : Int) ≤ (p : Int) := by omega
              have h3b : decide ((c : Int) ≤ (p : Int)) = false := decide_eq_false h3i
              have e : Hid (R = risingB (prevL l (j + 1 + 1)) (l.drop (j + 1 + 1))) := by
                show _ = _
                rw [Hnext.out, Hst.out, Hp.out, decide_eq_true (show 97 ≤ c by omega), decide_eq_true (show c ≤ 122 by omega), decide_eq_true (show p < c by omega)]
                rfl
              clear h1 h2 h3 Hst
              go_wp2_with fail
              go_quiet (fail)
              go_wp2_with fail
              go_roundw
              case rel => exact ⟨j + 1 + 1, by omega, by go_num, e.out, below_drewN Hbel.out nq⟩
              case measure => simp [intOf]; omega
    · obtain rfl : k = s.size := by omega
      have e : Hid (R = true) := by
        show _ = _
        rw [Hrise.out, List.drop_of_length_le (by rw [Hl.out]; exact Nat.le_refl _)]
        rfl
      go_wp2_with fail
      go_ret
      exact ⟨by rw [e.out]; rfl, Hbel.out⟩

/-- How often a number stands in a list that grows. -/
theorem count_take {l : List Nat} {k : Nat} (y : Nat) (h : k < l.length) : (l.take (k + 1)).count y = (l.take k).count y + (if l.getD k 0 = y then 1 else 0) := by
  rw [take_snoc l k h, List.count_append, List.count_singleton]
  by_cases e : l.getD k 0 = y
  · rw [if_pos e, if_pos (by simpa using e)]
  · rw [if_neg e, if_neg (by simpa using e)]

set_option maxRecDepth 100000 in
set_option maxHeartbeats 2000000 in
theorem rsum_any (s : ByteArray) (c : Nat) (w : World) (hc : 97 ≤ c ∧ c ≤ 122) (hsz : s.size ≤ 1000000) :
    Calls Tryz.prog 14 #[.string s, .int .u8 c] w fun e w' => e = .returned (.int .i64 (((lettersOf s).count c : Int) - ((lettersOf s).count (inv c) : Int))) ∧ Below w.heap.size w w' := by
  have hl := lettersOf_length s
  obtain ⟨l, hL⟩ : ∃ l, lettersOf s = l := ⟨_, rfl⟩
  have Hget := Lib.hid (fun k (h : k < s.size) => lettersOf_get s k h)
  rw [hL] at hl Hget ⊢
  have hlt : Lt c := by unfold Lt; omega
  have Hoth := Lib.hid (fun W => rother_any c hlt W)
  have hne : inv c ≠ c := inv_ne c
  have hd : inv c ≤ 122 := by unfold inv; rw [if_pos hc.1]; omega
  generalize inv c = d at *
  obtain ⟨A, hA⟩ : ∃ A : Nat → Nat, ∀ k, A k = (l.take k).count c := ⟨_, fun _ => rfl⟩
  obtain ⟨B, hB⟩ : ∃ B : Nat → Nat, ∀ k, B k = (l.take k).count d := ⟨_, fun _ => rfl⟩
  have hA0 : A 0 = 0 := hA 0
  have hB0 : B 0 = 0 := hB 0
  have HA := Lib.hid (fun k (h : k < s.size) => show A (k + 1) = A k + (if l.getD k 0 = c then 1 else 0) by rw [hA, hA]; exact count_take c (by omega))
  have HB := Lib.hid (fun k (h : k < s.size) => show B (k + 1) = B k + (if l.getD k 0 = d then 1 else 0) by rw [hB, hB]; exact count_take d (by omega))
  have HAb := Lib.hid (fun k => show A k ≤ k by rw [hA]; exact Nat.le_trans List.count_le_length (by rw [List.length_take]; omega))
  have HBb := Lib.hid (fun k => show B k ≤ k by rw [hB]; exact Nat.le_trans List.count_le_length (by rw [List.length_take]; omega))
  have HAe : Hid (A s.size = l.count c) := by show _ = _; rw [hA, List.take_of_length_le (by omega)]
  have HBe : Hid (B s.size = l.count d) := by show _ = _; rw [hB, List.take_of_length_le (by omega)]
  clear hl hL hA hB hlt
  go_enter Tryz.func14, Tryz.ntmps14
  go_wp2_with fail
  go_loopw [5, 6] (fun nv kv wr => ∃ k : Nat, k ≤ s.size ∧ nv = .int .i64 ((A k : Int) - (B k : Int)) ∧ kv = .int .i64 k ∧ Below w.heap.size w wr) (fun _ kv _ => s.size - (intOf kv).toNat)
  case atStart => exact ⟨0, Nat.zero_le _, by rw [hA0, hB0]; rfl, rfl, Below.refl _ _⟩
  case round =>
    clear hA0 hB0
    obtain ⟨k, hk, rfl, rfl, hbel⟩ := hrel
    have Hbel := Lib.hid hbel
    clear hbel
    by_cases hlt : k < s.size
    · have hki : (k : Int) < (s.size : Int) := by omega
      have hcc : (s[k]'hlt).toNat = l.getD k 0 := (Hget.out k hlt).symm
      have Hs1 := Lib.hid (HA.out k hlt)
      have Hs2 := Lib.hid (HB.out k hlt)
      have hab := HAb.out k
      have hbb := HBb.out k
      obtain ⟨x, hx⟩ : ∃ x, l.getD k 0 = x := ⟨_, rfl⟩
      rw [hx] at hcc Hs1 Hs2
      obtain ⟨a, ha⟩ : ∃ a, A k = a := ⟨_, rfl⟩
      obtain ⟨b, hb⟩ : ∃ b, B k = b := ⟨_, rfl⟩
      rw [ha] at hab Hs1 ⊢
      rw [hb] at hbb Hs2 ⊢
      clear hx ha hb
      by_cases h1 : x = c
      · subst h1
        have e1 : A (k + 1) = a + 1 := by rw [Hs1.out, if_pos rfl]
        have e2 : B (k + 1) = b := by rw [Hs2.out, if_neg (fun e => hne e.symm)]; rfl
        have hw1 : IntKind.i64.wrap ((a : Int) - (b : Int) + 1) = (a : Int) - (b : Int) + 1 := IntWalk.i64_in _ (by omega)
        have E1 := Lib.hid e1
        have E2 := Lib.hid e2
        clear e1 e2 Hs1 Hs2 hne
        go_wp2_with fail
        go_roundw
        case rel => exact ⟨k + 1, by omega, by rw [E1.out, E2.out]; go_num, by go_num, Hbel.out⟩
        case measure => simp [intOf]; omega
      · have h1b : ((x : Int) == (c : Int)) = false := by
          rw [beq_eq_false_iff_ne]
          intro e
          exact h1 (by omega)
        by_cases h2 : x = d
        · subst h2
          have e1 : A (k + 1) = a := by rw [Hs1.out, if_neg h1]; rfl
          have e2 : B (k + 1) = b + 1 := by rw [Hs2.out, if_pos rfl]
          have hw1 : IntKind.i64.wrap ((a : Int) - (b : Int) - 1) = (a : Int) - (b : Int) - 1 := IntWalk.i64_in _ (by omega)
          have E1 := Lib.hid e1
          have E2 := Lib.hid e2
          clear e1 e2 Hs1 Hs2 hne h1
          go_wp2_with fail
          go_quiet ((go_at_call 26; exact Calls.quiet_of_same (Hoth.out _)))
          go_wp2_with fail
          go_roundw
          case rel => exact ⟨k + 1, by omega, by rw [E1.out, E2.out]; go_num, by go_num, below_drewN Hbel.out nq⟩
          case measure => simp [intOf]; omega
        · have h2b : ((x : Int) == (d : Int)) = false := by
            rw [beq_eq_false_iff_ne]
            intro e
            exact h2 (by omega)
          have e1 : A (k + 1) = a := by rw [Hs1.out, if_neg h1]; rfl
          have e2 : B (k + 1) = b := by rw [Hs2.out, if_neg h2]; rfl
          have E1 := Lib.hid e1
          have E2 := Lib.hid e2
          clear e1 e2 Hs1 Hs2 hne h1 h2
          go_wp2_with fail
          go_quiet ((go_at_call 26; exact Calls.quiet_of_same (Hoth.out _)))
          go_wp2_with fail
          go_roundw
          case rel => exact ⟨k + 1, by omega, by rw [E1.out, E2.out], by go_num, below_drewN Hbel.out nq⟩
          case measure => simp [intOf]; omega
    · obtain rfl : k = s.size := by omega
      have e1 := HAe.out
      have e2 := HBe.out
      rw [e1, e2]
      clear e1 e2
      go_wp2_with fail
      go_ret
      exact ⟨rfl, Hbel.out⟩

/-- How often a byte stands in a string. -/
theorem count_bytes (b : UInt8) : ∀ l : List UInt8, (l.map fun x => x.toNat).count b.toNat = l.count b
  | [] => rfl
  | x :: l => by
    rw [List.map_cons, List.count_cons, List.count_cons, count_bytes b l]
    by_cases h : x = b
    · subst h; simp
    · have : ¬ x.toNat = b.toNat := fun e => h (UInt8.toNat_inj.1 e)
      simp [h, this]
theorem count_string (s : ByteArray) (b : UInt8) : Lib.countByte s.data.toList b = (lettersOf s).count b.toNat := (count_bytes b _).symm

set_option maxRecDepth 100000 in
theorem falls_bad (s q : ByteArray) (w : World) (hsz : s.size ≤ 9223372036854775807) (hc : checkN (lettersOf s) ≠ 0) :
    Calls Tryz.prog 8 #[.string s, .string q] w fun e w' => e = .returned (.tuple #[.bool false, .int .i64 (checkN (lettersOf s))]) ∧ Below w.heap.size w w' := by
  have Hchk := Lib.hid (check_any s w hsz)
  obtain ⟨z, hz⟩ : ∃ z : Int, z = (checkN (lettersOf s) : Nat) := ⟨_, rfl⟩
  have hz0 : ¬ z = 0 := by omega
  have hzb : (z == 0) = false := by simpa using hz0
  rw [← hz] at Hchk ⊢
  clear hz hc
  go_enter Tryz.func8, Tryz.ntmps8
  go_wp2_with (go_at_call 5; refine Hchk.out.mono ?_; clear Hchk; rintro e w1 ⟨rfl, hb1⟩)
  go_ret2
  exact ⟨rfl, hb1⟩

set_option maxRecDepth 100000 in
theorem sum_bad (s q : ByteArray) (w : World) (hsz : s.size ≤ 9223372036854775807) (hc : checkN (lettersOf s) ≠ 0) :
    Calls Tryz.prog 9 #[.string s, .string q] w fun e w' => e = .returned (.tuple #[.int .i64 0, .int .i64 (checkN (lettersOf s))]) ∧ Below w.heap.size w w' := by
  have Hchk := Lib.hid (check_any s w hsz)
  obtain ⟨z, hz⟩ : ∃ z : Int, z = (checkN (lettersOf s) : Nat) := ⟨_, rfl⟩
  have hz0 : ¬ z = 0 := by omega
  have hzb : (z == 0) = false := by simpa using hz0
  rw [← hz] at Hchk ⊢
  clear hz hc
  go_enter Tryz.func9, Tryz.ntmps9
  go_wp2_with (go_at_call 5; refine Hchk.out.mono ?_; clear Hchk; rintro e w1 ⟨rfl, hb1⟩)
  go_ret2
  exact ⟨rfl, hb1⟩

set_option maxRecDepth 100000 in
set_option maxHeartbeats 1000000 in
theorem falls_noset (s q : ByteArray) (w : World) (hsz : s.size ≤ 9223372036854775807) (hqz : q.size ≤ 9223372036854775807) (hc : checkN (lettersOf s) = 0) (hq : risingB 0 (lettersOf q) = false) :
    Calls Tryz.prog 8 #[.string s, .string q] w fun e w' => e = .returned (.tuple #[.bool false, .int .i64 1]) ∧ Below w.heap.size w w' := by
  have Hchk := Lib.hid (check_any s w hsz)
  rw [hc] at Hchk
  have Hparse := Lib.hid (fun W => parseNails_any q W hqz)
  unfold RetParse at Hparse
  rw [hq] at Hparse
  generalize setOf (lettersOf q) = S at *
  have hnewL : ∀ (V : World) (k : Nat), V.heap.size = k → Blk (V.alloc (.cells (nailC (fun _ => false)) 49)) k 49 (nailC (fun _ => false)) := fun V k e => e ▸ Blk.new V _ _
  rw [zero_agg] at hnewL
  have Hsz0 : Hid ((#[.bool false, .bool false, .bool false, .bool false, .bool false, .bool false, .bool false, .bool false, .bool false, .bool false, .bool false, .bool false, .bool false, .bool false, .bool false, .bool false, .bool false, .bool false, .bool false, .bool false, .bool false, .bool false, .bool false, .bool false, .bool false, .bool false] : Array Value).size = (nailC S).size) := by show _ = _; rw [nailC_size]; rfl
  clear hc hq
  go_enter Tryz.func8, Tryz.ntmps8
  go_upto_region 5 with (first
    | (go_at_call 5; refine Hchk.out.mono ?_; rintro e w1 ⟨rfl, hb1⟩)
    | (go_at_call 22; refine (Hparse.out _).mono ?_; rintro e w2 ⟨rfl, hb2⟩)
    | (refine wpList_plain rfl fun _ hK => wp_store_row 49 _ _ rfl _ (nailC S) rfl rfl 49 _ (hnewL _ _ rfl) (nailC_info _) Hsz0.out (nailC_one _) (hK _ _ ?_)))
  rw [World.setRow_alloc_new]
  have hbel : Below w.heap.size w (w2.alloc (.cells (nailC S) 49)) := (hb1.trans (hb2.mono hb1.size)).alloc (Nat.le_trans hb1.size hb2.size) _
  generalize w2.heap.size = gS at *
  generalize w2.alloc (.cells (nailC S) 49) = W3 at *
  go_wp2_with fail
  go_ret2
  exact ⟨rfl, hbel⟩

/-- Whether a string is one small letter. -/
def oneNail (q : ByteArray) : Bool := decide (q.size = 1) && decide (97 ≤ (lettersOf q).getD 0 0) && decide ((lettersOf q).getD 0 0 ≤ 122)

set_option maxRecDepth 100000 in
set_option maxHeartbeats 1000000 in
theorem sum_noset (s q : ByteArray) (w : World) (hsz : s.size ≤ 9223372036854775807) (hc : checkN (lettersOf s) = 0) (hq : oneNail q = false) :
    Calls Tryz.prog 9 #[.string s, .string q] w fun e w' => e = .returned (.tuple #[.int .i64 0, .int .i64 1]) ∧ Below w.heap.size w w' := by
  have Hchk := Lib.hid (check_any s w hsz)
  rw [hc] at Hchk
  unfold oneNail at hq
  clear hc
  by_cases h1 : q.size = 1
  · have h0 : 0 < q.size := by omega
    have hcc : (q[0]'h0).toNat = (lettersOf q).getD 0 0 := (lettersOf_get q 0 h0).symm
    generalize (lettersOf q).getD 0 0 = c at *
    have e : (decide (97 ≤ c) && decide (c ≤ 122)) = false := by rw [decide_eq_true h1, Bool.true_and] at hq; exact hq
    have Hn := Lib.hid (fun W => isNail_any c W)
    rw [e] at Hn
    have hc256 : c < 256 := by rw [← hcc]; exact UInt8.toNat_lt _
    have hcw : IntKind.i32.wrap (c : Int) = (c : Int) := by rw [IntKind.wrap_i32]; omega
    clear hq e
    go_enter Tryz.func9, Tryz.ntmps9
    go_wp2_with (first
      | (go_at_call 5; refine Hchk.out.mono ?_; clear Hchk; rintro e w1 ⟨rfl, hb1⟩)
      | (go_at_call 19; refine (Hn.out _).mono ?_; clear Hn; rintro e w2 ⟨rfl, rfl⟩))
    go_ret2
    exact ⟨rfl, hb1⟩
  · have h1b : (((q.size : Nat) : Int) == 1) = false := by
      rw [beq_eq_false_iff_ne]
      intro e
      exact h1 (by omega)
    clear hq
    go_enter Tryz.func9, Tryz.ntmps9
    go_wp2_with (go_at_call 5; refine Hchk.out.mono ?_; clear Hchk; rintro e w1 ⟨rfl, hb1⟩)
    go_ret2
    exact ⟨rfl, hb1⟩

theorem one_byte {q : ByteArray} (h : q.size = 1) : ∃ b : UInt8, q = ⟨#[b]⟩ := by
  obtain ⟨⟨l⟩⟩ := q
  match l, h with
  | [b], _ => exact ⟨b, rfl⟩

set_option maxRecDepth 100000 in
set_option maxHeartbeats 1000000 in
theorem sum_any (s q : ByteArray) (w : World) (hc : checkN (lettersOf s) = 0) (hq : oneNail q = true) :
    Calls Tryz.prog 9 #[.string s, .string q] w fun e w' => e = .returned (.tuple #[.int .i64 (((lettersOf s).count ((lettersOf q).getD 0 0) : Int) - ((lettersOf s).count (inv ((lettersOf q).getD 0 0)) : Int)), .int .i64 0]) ∧ Below w.heap.size w w' := by
  obtain ⟨hword, hlen⟩ := checkN_zero hc
  have hl := lettersOf_length s
  have Hchk := Lib.hid (check_any s w (by omega))
  rw [hc] at Hchk
  unfold oneNail at hq
  simp only [Bool.and_eq_true, decide_eq_true_eq] at hq
  obtain ⟨⟨h1, h2⟩, h3⟩ := hq
  obtain ⟨b, rfl⟩ := one_byte h1
  have e0 : (lettersOf ⟨#[b]⟩).getD 0 0 = b.toNat := rfl
  rw [e0] at h2 h3 ⊢
  have Hn := Lib.hid (fun W => isNail_any b.toNat W)
  rw [decide_eq_true h2, decide_eq_true h3, Bool.and_self] at Hn
  have hlow : Lib.isLowerB b = true := by rw [Lib.isLowerB_int]; simp only [Bool.and_eq_true, decide_eq_true_eq]; omega
  have hup : (Lib.upperB b).toNat = inv b.toNat := by
    have := Lib.upperB_int b hlow
    unfold inv
    rw [if_pos h2]
    omega
  have HC1 := Lib.hid (fun W => Tryz.strings_Count_one s b W)
  have HC2 := Lib.hid (fun W => Tryz.strings_Count_one s (Lib.upperB b) W)
  rw [count_string] at HC1 HC2
  rw [hup] at HC2
  have HU : Hid (∀ W, Calls Tryz.prog 25 #[.string ⟨#[b]⟩] W fun e w' => e = .returned (.string ⟨#[Lib.upperB b]⟩) ∧ Below W.heap.size W w') := fun W =>
    Tryz.strings_ToUpper_ascii ⟨#[b]⟩ W (by show 1 ≤ _; omega) (fun j y hj => by
      rcases j with _ | j
      · obtain rfl : b = y := by simpa using hj
        omega
      · simp at hj)
  have hm1 : (lettersOf s).count b.toNat ≤ 30000 := Nat.le_trans List.count_le_length hlen
  have hm2 : (lettersOf s).count (inv b.toNat) ≤ 30000 := Nat.le_trans List.count_le_length hlen
  generalize (lettersOf s).count b.toNat = n1 at *
  generalize (lettersOf s).count (inv b.toNat) = n2 at *
  have hw : IntKind.i64.wrap ((n1 : Int) - (n2 : Int)) = (n1 : Int) - (n2 : Int) := IntWalk.i64_in _ (by omega)
  have h0 : 0 < (⟨#[b]⟩ : ByteArray).size := by show 0 < 1; omega
  have hs1 : (⟨#[b]⟩ : ByteArray).size = 1 := rfl
  have hcc : ((⟨#[b]⟩ : ByteArray)[0]'h0).toNat = b.toNat := rfl
  have hcw : IntKind.i32.wrap (b.toNat : Int) = (b.toNat : Int) := by rw [IntKind.wrap_i32]; omega
  generalize b.toNat = c at *
  generalize (⟨#[b]⟩ : ByteArray) = q at *
  generalize (⟨#[Lib.upperB b]⟩ : ByteArray) = q2 at *
  clear hword hlen hl hc e0 hlow hup h2 h3
  go_enter Tryz.func9, Tryz.ntmps9
  go_wp2_with (first
    | (go_at_call 5; refine Hchk.out.mono ?_; clear Hchk; rintro e w1 ⟨rfl, hb1⟩)
    | (go_at_call 19; refine (Hn.out _).mono ?_; clear Hn; rintro e w2 ⟨rfl, rfl⟩)
    | (go_at_call 24; refine (HC1.out _).mono ?_; clear HC1; rintro e w3 ⟨rfl, rfl⟩)
    | (go_at_call 25; refine (HU.out _).mono ?_; clear HU; rintro e w4 ⟨rfl, hb4⟩)
    | (go_at_call 24; refine (HC2.out _).mono ?_; clear HC2; rintro e w5 ⟨rfl, rfl⟩))
  go_ret2
  exact ⟨rfl, hb1.trans (hb4.mono hb1.size)⟩

end Go.Proofs.YtkdalgdckgmccaaGreatDoor
