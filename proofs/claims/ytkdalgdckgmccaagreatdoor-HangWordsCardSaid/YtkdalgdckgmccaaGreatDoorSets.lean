/-
  The walk of Sets: the falling sets of a word.
-/
import Derived.Test.YtkdalgdckgmccaaGreatDoorSorted
import Derived.Test.YtkdalgdckgmccaaGreatDoorCheck
import Derived.OwnWalk
namespace Go.Proofs.YtkdalgdckgmccaaGreatDoor
open Go.RowKit Go.Shelf

/-- The falling sets of letters, counted in so many steps. -/
def setsB (l : List Nat) (N : Nat) : List (List UInt8) := namesB (leastL (fun T => fallsL T (redL l)) (subsF (nailsL l) N fun _ => false))

/-- What Sets returns of a word with few nails. -/
def RetSets (l : List Nat) (N : Nat) (w : World) (e : Ending) (w' : World) : Prop := ∃ v, e = .returned (.tuple #[v, .int .i64 0]) ∧ OwnStrs w.heap.size w' v (setsB l N) ∧ Below w.heap.size w w'

theorem leastL_length' (hp : (Nat → Bool) → Bool) (S : Nat → Bool) (N : Nat) : (leastL hp (subsF S N fun _ => false)).length ≤ N := by
  refine Nat.le_trans (leastL_length _ _) ?_
  have : ∀ (N : Nat) (T : Nat → Bool), (subsF S N T).length ≤ N := by
    intro N
    induction N with
    | zero => intro T; exact Nat.le_refl _
    | succ N ih =>
      intro T
      rw [subsF_succ, List.length_cons]
      split
      · simp
      · have := ih (nextN S T)
        omega
  exact this N _

set_option maxRecDepth 100000 in
set_option maxHeartbeats 2000000 in
theorem sets_any (s : ByteArray) (N : Nat) (w : World) (hsz : s.size ≤ 1000000000) (hc : checkN (lettersOf s) = 0) (hfew : (nameL (nailsL (lettersOf s))).length ≤ 10) (hN : doneF (nailsL (lettersOf s)) N (fun _ => false) = true) (hNb : N ≤ 1000000) :
    Calls Tryz.prog 29 #[.string s] w (RetSets (lettersOf s) N w) := by
  obtain ⟨hword, hlen⟩ := checkN_zero hc
  have hl := lettersOf_length s
  have Hchk := Lib.hid (check_any s w (by omega))
  rw [hc] at Hchk
  have Hnails := Lib.hid (fun W => nailsOf_any s W hword)
  have Hmany := Lib.hid (fun W => tooMany_any (nailsL (lettersOf s)) W)
  have em : decide (10 < (nameL (nailsL (lettersOf s))).length) = false := decide_eq_false (by omega)
  rw [em] at Hmany
  have Hfall := Lib.hid (fun W => falling_any s W hword (by omega))
  have hrl : lettersOf (strL (redL (lettersOf s))) = redL (lettersOf s) := letters_strL (red_word hword).lt256
  have hrw : IsWord (lettersOf (strL (redL (lettersOf s)))) := by rw [hrl]; exact red_word hword
  have hrs : (strL (redL (lettersOf s))).size ≤ 1000000 := by rw [strL_size]; have := redL_length (lettersOf s); omega
  have Hask : Hid (∀ (W : World) (gf : Nat), Blk W gf 9 #[.string (strL (redL (lettersOf s)))] → Asks 34 #[.pointer (some ⟨gf, 0, none⟩)] (fun T => fallsL T (redL (lettersOf s))) W) := by
    show ∀ _, _
    intro W gf hb V T hV
    have h1 := falling1_any gf (strL (redL (lettersOf s))) T V ((hV.block gf hb.lt).trans hb) hrw hrs
    rw [hrl] at h1
    exact h1
  have Hleast := Lib.hid (fun (W : World) (gf : Nat) (hb : Blk W gf 9 #[.string (strL (redL (lettersOf s)))]) => leastSubsets_any (nailsL (lettersOf s)) N 34 #[.pointer (some ⟨gf, 0, none⟩)] _ W hN hNb (enters_of Tryz.func34 (by kernel_rfl) rfl) (Hask.out W gf hb))
  have hlN := leastL_length' (fun T => fallsL T (redL (lettersOf s))) (nailsL (lettersOf s)) N
  have Hret : Hid (setsB (lettersOf s) N = namesB (leastL (fun T => fallsL T (redL (lettersOf s))) (subsF (nailsL (lettersOf s)) N fun _ => false))) := rfl
  clear hc hword hlen hl em hrl hrw hrs hN hfew Hask
  generalize leastL (fun T => fallsL T (redL (lettersOf s))) (subsF (nailsL (lettersOf s)) N fun _ => false) = L at *
  generalize hset : nailsL (lettersOf s) = S at *
  clear hset
  generalize strL (redL (lettersOf s)) = fs at *
  unfold RetSets
  rw [Hret.out]
  clear Hret
  have hnewL : ∀ (V : World) (k : Nat), V.heap.size = k → Blk (V.alloc (.cells (nailC (fun _ => false)) 49)) k 49 (nailC (fun _ => false)) := fun V k e => e ▸ Blk.new V _ _
  rw [zero_agg] at hnewL
  have Hsz0 : Hid ((#[.bool false, .bool false, .bool false, .bool false, .bool false, .bool false, .bool false, .bool false, .bool false, .bool false, .bool false, .bool false, .bool false, .bool false, .bool false, .bool false, .bool false, .bool false, .bool false, .bool false, .bool false, .bool false, .bool false, .bool false, .bool false, .bool false] : Array Value).size = (nailC S).size) := by show _ = _; rw [nailC_size]; rfl
  go_enter Tryz.func29, Tryz.ntmps29
  go_upto_region 5 with (first
    | (go_at_call 5; refine Hchk.out.mono ?_; rintro e w1 ⟨rfl, hb1⟩)
    | (go_at_call 44; refine (Hnails.out _).mono ?_; rintro e w2 ⟨rfl, hb2⟩)
    | (refine wpList_plain rfl fun _ hK => wp_store_row 49 _ _ rfl _ (nailC S) rfl rfl 49 _ (hnewL _ _ rfl) (nailC_info _) Hsz0.out (nailC_one _) (hK _ _ ?_)))
  rw [World.setRow_alloc_new]
  have hbS := Blk.new w2 49 (nailC S)
  have hbel : Below w.heap.size w (w2.alloc (.cells (nailC S) 49)) := (hb1.trans (hb2.mono hb1.size)).alloc (Nat.le_trans hb1.size hb2.size) _
  generalize w2.heap.size = gS at *
  generalize w2.alloc (.cells (nailC S) 49) = W3 at *
  go_upto_region 7 with (first
    | (refine wpList_load_row rfl 49 _ rfl gS rfl 49 (nailC S) (0, 0) _ hbS Tryz.underlying49 rfl (nailC_info S) ?_)
    | (go_at_call 45; refine (Hmany.out _).mono ?_; rintro e w4 ⟨rfl, hb4⟩))
  have hbS4 : Blk w4 gS 49 (nailC S) := hbS.below hb4 hbS.lt
  have hbel4 : Below w.heap.size w w4 := hbel.trans (hb4.mono hbel.size)
  have Hg4 := Lib.hid (Nat.le_trans hbel.size hb4.size)
  refine wp_region_held_drew (S := fun w' => w'.rangeAt gS 0 (nailC S).toList) (by kernel_rfl) (range_blk hbS4) (fun hHeld => ?_)
  refine wpAnyH_take (i := 0) rfl (by kernel_rfl) (by kernel_rfl) (by kernel_rfl) (fun _ _ _ h => h) (yieldsIf_load_mid (by rfl) 49 _ rfl gS 0 rfl _ _ (fun w h => h) Tryz.underlying49 rfl (nailC_list S)) hHeld ?_
  change wpAnyH _ _ _ _ _ _ _ { tmps := #[Value.string s, undef, Value.slice none 0 0, Value.int IntKind.i64 0, Value.int IntKind.i64 0, Value.pointer (some ⟨gS, 0, none⟩), Value.string s, Value.int IntKind.i64 0, Value.int IntKind.i64 0, Value.bool false, undef, Value.string s, Value.agg (nailC S), Value.agg (nailC S), Value.bool false, Value.agg (nailC S), undef, undef, undef, undef], defers := [] } _
  refine wpAnyH_take (i := 1) (oi := { dst := some 16, op := .move (.tmp 0), type := 9, pos := "sets.go:24", after := #[], guard := none }) (v := .string s) rfl (by kernel_rfl) (by kernel_rfl) (by kernel_rfl) (fun _ _ _ h => h) (Or.inl ⟨by rfl, fun W _ => by go_simp⟩) hHeld ?_
  change wpAnyH _ _ _ _ _ _ _ { tmps := #[Value.string s, undef, Value.slice none 0 0, Value.int IntKind.i64 0, Value.int IntKind.i64 0, Value.pointer (some ⟨gS, 0, none⟩), Value.string s, Value.int IntKind.i64 0, Value.int IntKind.i64 0, Value.bool false, undef, Value.string s, Value.agg (nailC S), Value.agg (nailC S), Value.bool false, Value.agg (nailC S), Value.string s, undef, undef, undef], defers := [] } _
  have hbS4' : Blk w4.drew gS 49 (nailC S) := hbS4
  have hbel4' : Below w.heap.size w w4.drew := hbel4.drew
  generalize w4.drew = W5 at *
  -- falling
  refine wpAnyH_ready (rs := [2]) (by kernel_rfl) (by simp) (AllReadyH.cons rfl (fun K' hK => ?_) AllReadyH.nil)
  rw [if_pos (by rfl)]
  change Oper.wp _ { dst := some 17, op := .call { callee := .value (.func 23), args := #[.tmp 16], argTypes := #[9] }, type := 52, pos := "sets.go:24", after := _, guard := none } _ _ _ _
  go_simp
  refine (Hfall.out _).mono ?_
  rintro e w5 ⟨gf, rfl, hgf, hbf, hb5⟩
  dsimp only
  have hbS5 := hbS4'.below hb5 hbS4'.lt
  refine hK.out _ _ (range_blk hbS5) (fun hHeld => ?_)
  change wpAnyH _ _ _ _ _ _ _ { tmps := #[Value.string s, undef, Value.slice none 0 0, Value.int IntKind.i64 0, Value.int IntKind.i64 0, Value.pointer (some ⟨gS, 0, none⟩), Value.string s, Value.int IntKind.i64 0, Value.int IntKind.i64 0, Value.bool false, undef, Value.string s, Value.agg (nailC S), Value.agg (nailC S), Value.bool false, Value.agg (nailC S), Value.string s, Value.func (Fn.func 34) #[] #[.pointer (some ⟨gf, 0, none⟩)], undef, undef], defers := [] } _
  -- leastSubsets
  refine wpAnyH_ready (rs := [3]) (by kernel_rfl) (by simp) (AllReadyH.cons rfl (fun K' hK => ?_) AllReadyH.nil)
  rw [if_pos (by rfl)]
  change Oper.wp _ { dst := some 18, op := .call { callee := .value (.func 47), args := #[.tmp 15, .tmp 17], argTypes := #[49, 52] }, type := 79, pos := "sets.go:24", after := _, guard := none } _ _ _ _
  go_simp
  refine (Hleast.out w5 gf hbf).mono ?_
  rintro e w6 ⟨v6, rfl, hown6, hb6⟩
  dsimp only
  obtain ⟨A6, c6, rfl, hrow6⟩ := hown6.row
  have hbS6 := hbS5.below hb6 hbS5.lt
  refine hK.out _ _ (range_blk hbS6) (fun hHeld => ?_)
  change wpAnyH _ _ _ _ _ _ _ { tmps := #[Value.string s, undef, Value.slice none 0 0, Value.int IntKind.i64 0, Value.int IntKind.i64 0, Value.pointer (some ⟨gS, 0, none⟩), Value.string s, Value.int IntKind.i64 0, Value.int IntKind.i64 0, Value.bool false, undef, Value.string s, Value.agg (nailC S), Value.agg (nailC S), Value.bool false, Value.agg (nailC S), Value.string s, Value.func (Fn.func 34) #[] #[.pointer (some ⟨gf, 0, none⟩)], Value.slice A6 L.length c6, undef], defers := [] } _
  have hbel6 : Below w.heap.size w w6 := (hbel4'.trans (hb5.mono hbel4'.size)).trans (hb6.mono (Nat.le_trans hbel4'.size hb5.size))
  -- names
  refine wpAnyH_ready (rs := [4]) (by kernel_rfl) (by simp) (AllReadyH.cons rfl (fun K' hK => ?_) AllReadyH.nil)
  rw [if_pos (by rfl)]
  change Oper.wp _ { dst := some 19, op := .call { callee := .value (.func 46), args := #[.tmp 18], argTypes := #[79] }, type := 36, pos := "sets.go:24", after := _, guard := none } _ _ _ _
  go_simp
  refine (names_any A6 c6 L.length L w6 hrow6 (Nat.le_trans hlN hNb)).mono ?_
  rintro e w7 ⟨v7, rfl, hown7, hb7⟩
  dsimp only
  have hbS7 := hbS6.below hb7 hbS6.lt
  refine hK.out _ _ (range_blk hbS7) (fun hHeld => ?_)
  change wpAnyH _ _ _ _ _ _ _ { tmps := #[Value.string s, undef, Value.slice none 0 0, Value.int IntKind.i64 0, Value.int IntKind.i64 0, Value.pointer (some ⟨gS, 0, none⟩), Value.string s, Value.int IntKind.i64 0, Value.int IntKind.i64 0, Value.bool false, undef, Value.string s, Value.agg (nailC S), Value.agg (nailC S), Value.bool false, Value.agg (nailC S), Value.string s, Value.func (Fn.func 34) #[] #[.pointer (some ⟨gf, 0, none⟩)], Value.slice A6 L.length c6, v7], defers := [] } _
  refine wpAnyH_ready (rs := [5]) (by kernel_rfl) (by simp) (AllReadyH.cons rfl (fun K' hK => ?_) AllReadyH.nil)
  rw [if_pos (by rfl)]
  change Oper.wp _ { dst := some 2, op := .assign (.tmp 19), type := 36, pos := "sets.go:24", after := _, guard := none } _ _ _ _
  go_simp
  refine hK.out _ _ hHeld (fun hHeld => ?_)
  change wpAnyH _ _ _ _ _ _ _ { tmps := #[Value.string s, undef, v7, Value.int IntKind.i64 0, Value.int IntKind.i64 0, Value.pointer (some ⟨gS, 0, none⟩), Value.string s, Value.int IntKind.i64 0, Value.int IntKind.i64 0, Value.bool false, undef, Value.string s, Value.agg (nailC S), Value.agg (nailC S), Value.bool false, Value.agg (nailC S), Value.string s, Value.func (Fn.func 34) #[] #[.pointer (some ⟨gf, 0, none⟩)], Value.slice A6 L.length c6, v7], defers := [] } _
  refine wpAnyH_ready (rs := [6]) (by kernel_rfl) (by simp) (AllReadyH.cons rfl (fun K' hK => ?_) AllReadyH.nil)
  rw [if_pos (by rfl)]
  change Oper.wp _ { dst := some 3, op := .assign (.const (.int .i64 0)), type := 23, pos := "sets.go:24", after := _, guard := none } _ _ _ _
  go_simp
  refine hK.out _ _ hHeld (fun hHeld => ?_)
  refine wpAnyH_done (by kernel_rfl) ?_ _
  go_wp2
  go_ret2
  exact ⟨v7, rfl, own_mono hown7 hbel6.size, hbel6.trans (hb7.mono hbel6.size)⟩

end Go.Proofs.YtkdalgdckgmccaaGreatDoor
