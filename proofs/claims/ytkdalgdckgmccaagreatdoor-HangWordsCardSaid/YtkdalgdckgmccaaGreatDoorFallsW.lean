/-
  The walk of Falls: whether a word falls with a set of nails.
-/
import Derived.Test.YtkdalgdckgmccaaGreatDoorSets
namespace Go.Proofs.YtkdalgdckgmccaaGreatDoor
open Go.RowKit Go.Shelf

set_option maxRecDepth 100000 in
set_option maxHeartbeats 2000000 in
theorem falls_any (s q : ByteArray) (w : World) (hsz : s.size ≤ 1000000000) (hqz : q.size ≤ 1000000000) (hc : checkN (lettersOf s) = 0) (hq : risingB 0 (lettersOf q) = true) :
    Calls Tryz.prog 8 #[.string s, .string q] w fun e w' => e = .returned (.tuple #[.bool (fallsL (nailsL (lettersOf q)) (redL (lettersOf s))), .int .i64 0]) ∧ Below w.heap.size w w' := by
  obtain ⟨hword, hlen⟩ := checkN_zero hc
  have hl := lettersOf_length s
  have Hchk := Lib.hid (check_any s w (by omega))
  rw [hc] at Hchk
  have Hparse := Lib.hid (fun W => parseNails_any q W (by omega))
  have hset : setOf (lettersOf q) = nailsL (lettersOf q) := by unfold setOf; rw [if_pos hq]
  unfold RetParse at Hparse
  rw [hset, hq] at Hparse
  have Hfall := Lib.hid (fun W => falling_any s W hword (by omega))
  have hrl : lettersOf (strL (redL (lettersOf s))) = redL (lettersOf s) := letters_strL (red_word hword).lt256
  have hrw : IsWord (lettersOf (strL (redL (lettersOf s)))) := by rw [hrl]; exact red_word hword
  have hrs : (strL (redL (lettersOf s))).size ≤ 1000000 := by rw [strL_size]; have := redL_length (lettersOf s); omega
  have Hask : Hid (∀ (W : World) (gf : Nat) (T : Nat → Bool), Blk W gf 9 #[.string (strL (redL (lettersOf s)))] → Calls Tryz.prog 34 #[.agg (nailC T), .pointer (some ⟨gf, 0, none⟩)] W fun e W' => e = .returned (.bool (fallsL T (redL (lettersOf s)))) ∧ Below W.heap.size W W') := by
    show ∀ _, _
    intro W gf T hb
    have h1 := falling1_any gf (strL (redL (lettersOf s))) T W hb hrw hrs
    rw [hrl] at h1
    exact h1
  clear hc hword hlen hl hrl hrw hrs hset hq
  generalize strL (redL (lettersOf s)) = fs at *
  generalize redL (lettersOf s) = rl at *
  generalize nailsL (lettersOf q) = S at *
  have hnewL : ∀ (V : World) (k : Nat), V.heap.size = k → Blk (V.alloc (.cells (nailC (fun _ => false)) 49)) k 49 (nailC (fun _ => false)) := fun V k e => e ▸ Blk.new V _ _
  rw [zero_agg] at hnewL
  have Hsz0 : Hid ((#[.bool false, .bool false, .bool false, .bool false, .bool false, .bool false, .bool false, .bool false, .bool false, .bool false, .bool false, .bool false, .bool false, .bool false, .bool false, .bool false, .bool false, .bool false, .bool false, .bool false, .bool false, .bool false, .bool false, .bool false, .bool false, .bool false] : Array Value).size = (nailC S).size) := by show _ = _; rw [nailC_size]; rfl
  go_enter Tryz.func8, Tryz.ntmps8
  go_upto_region 5 with (first
    | (go_at_call 5; refine Hchk.out.mono ?_; rintro e w1 ⟨rfl, hb1⟩)
    | (go_at_call 22; refine (Hparse.out _).mono ?_; rintro e w2 ⟨rfl, hb2⟩)
    | (refine wpList_plain rfl fun _ hK => wp_store_row 49 _ _ rfl _ (nailC S) rfl rfl 49 _ (hnewL _ _ rfl) (nailC_info _) Hsz0.out (nailC_one _) (hK _ _ ?_)))
  rw [World.setRow_alloc_new]
  have hbS := Blk.new w2 49 (nailC S)
  have hbel : Below w.heap.size w (w2.alloc (.cells (nailC S) 49)) := (hb1.trans (hb2.mono hb1.size)).alloc (Nat.le_trans hb1.size hb2.size) _
  generalize w2.heap.size = gS at *
  generalize w2.alloc (.cells (nailC S) 49) = W3 at *
  go_upto_region 7 with fail
  refine wp_region_held_drew (S := fun w' => w'.rangeAt gS 0 (nailC S).toList) (by kernel_rfl) (range_blk hbS) (fun hHeld => ?_)
  refine wpAnyH_take (i := 2) rfl (by kernel_rfl) (by kernel_rfl) (by kernel_rfl) (fun _ _ _ h => h) (yieldsIf_load_mid (by rfl) 49 _ rfl gS 0 rfl _ _ (fun w h => h) Tryz.underlying49 rfl (nailC_list S)) hHeld ?_
  refine wpAnyH_take (i := 0) (oi := { dst := some 21, op := .move (.tmp 0), type := 9, pos := "hang.go:58", after := #[], guard := none }) (v := .string s) rfl (by kernel_rfl) (by kernel_rfl) (by kernel_rfl) (fun _ _ _ h => h) (Or.inl ⟨by rfl, fun W _ => by go_simp⟩) hHeld ?_
  change wpAnyH _ _ _ _ _ _ _ { tmps := #[Value.string s, Value.string q, undef, undef, Value.bool false, Value.int IntKind.i64 0, Value.int IntKind.i64 0, Value.pointer (some ⟨gS, 0, none⟩), Value.bool true, Value.string s, Value.int IntKind.i64 0, Value.int IntKind.i64 0, Value.bool false, undef, Value.tuple #[Value.agg (nailC S), Value.bool true], Value.string q, Value.tuple #[Value.agg (nailC S), Value.bool true], Value.agg (nailC S), Value.bool true, Value.bool true, Value.bool false, Value.string s, undef, Value.agg (nailC S), undef], defers := [] } _
  have hbS4 : Blk W3.drew gS 49 (nailC S) := hbS
  have hbel4 : Below w.heap.size w W3.drew := hbel.drew
  generalize W3.drew = W5 at *
  refine wpAnyH_ready (rs := [1]) (by kernel_rfl) (by simp) (AllReadyH.cons rfl (fun K' hK => ?_) AllReadyH.nil)
  rw [if_pos (by rfl)]
  change Oper.wp _ { dst := some 22, op := .call { callee := .value (.func 23), args := #[.tmp 21], argTypes := #[9] }, type := 52, pos := "hang.go:58", after := _, guard := none } _ _ _ _
  go_simp
  refine (Hfall.out _).mono ?_
  rintro e w5 ⟨gf, rfl, hgf, hbf, hb5⟩
  dsimp only
  have hbS5 := hbS4.below hb5 hbS4.lt
  refine hK.out _ _ (range_blk hbS5) (fun hHeld => ?_)
  change wpAnyH _ _ _ _ _ _ _ { tmps := #[Value.string s, Value.string q, undef, undef, Value.bool false, Value.int IntKind.i64 0, Value.int IntKind.i64 0, Value.pointer (some ⟨gS, 0, none⟩), Value.bool true, Value.string s, Value.int IntKind.i64 0, Value.int IntKind.i64 0, Value.bool false, undef, Value.tuple #[Value.agg (nailC S), Value.bool true], Value.string q, Value.tuple #[Value.agg (nailC S), Value.bool true], Value.agg (nailC S), Value.bool true, Value.bool true, Value.bool false, Value.string s, Value.func (Fn.func 34) #[] #[.pointer (some ⟨gf, 0, none⟩)], Value.agg (nailC S), undef], defers := [] } _
  refine wpAnyH_ready (rs := [3]) (by kernel_rfl) (by simp) (AllReadyH.cons rfl (fun K' hK => ?_) AllReadyH.nil)
  rw [if_pos (by rfl)]
  change Oper.wp _ { dst := some 24, op := .call { callee := .value (.tmp 22), args := #[.tmp 23], argTypes := #[49] }, type := 4, pos := "hang.go:58", after := _, guard := none } _ _ _ _
  go_simp
  refine (Hask.out w5 gf S hbf).mono ?_
  rintro e w6 ⟨rfl, hb6⟩
  dsimp only
  have hbS6 := hbS5.below hb6 hbS5.lt
  refine hK.out _ _ (range_blk hbS6) (fun hHeld => ?_)
  change wpAnyH _ _ _ _ _ _ _ { tmps := #[Value.string s, Value.string q, undef, undef, Value.bool false, Value.int IntKind.i64 0, Value.int IntKind.i64 0, Value.pointer (some ⟨gS, 0, none⟩), Value.bool true, Value.string s, Value.int IntKind.i64 0, Value.int IntKind.i64 0, Value.bool false, undef, Value.tuple #[Value.agg (nailC S), Value.bool true], Value.string q, Value.tuple #[Value.agg (nailC S), Value.bool true], Value.agg (nailC S), Value.bool true, Value.bool true, Value.bool false, Value.string s, Value.func (Fn.func 34) #[] #[.pointer (some ⟨gf, 0, none⟩)], Value.agg (nailC S), Value.bool (fallsL S rl)], defers := [] } _
  have hbel6 : Below w.heap.size w w6 := (hbel4.trans (hb5.mono hbel4.size)).trans (hb6.mono (Nat.le_trans hbel4.size hb5.size))
  refine wpAnyH_ready (rs := [4]) (by kernel_rfl) (by simp) (AllReadyH.cons rfl (fun K' hK => ?_) AllReadyH.nil)
  rw [if_pos (by rfl)]
  change Oper.wp _ { dst := some 4, op := .assign (.tmp 24), type := 4, pos := "hang.go:58", after := _, guard := none } _ _ _ _
  go_simp
  refine hK.out _ _ hHeld (fun hHeld => ?_)
  change wpAnyH _ _ _ _ _ _ _ { tmps := #[Value.string s, Value.string q, undef, undef, Value.bool (fallsL S rl), Value.int IntKind.i64 0, Value.int IntKind.i64 0, Value.pointer (some ⟨gS, 0, none⟩), Value.bool true, Value.string s, Value.int IntKind.i64 0, Value.int IntKind.i64 0, Value.bool false, undef, Value.tuple #[Value.agg (nailC S), Value.bool true], Value.string q, Value.tuple #[Value.agg (nailC S), Value.bool true], Value.agg (nailC S), Value.bool true, Value.bool true, Value.bool false, Value.string s, Value.func (Fn.func 34) #[] #[.pointer (some ⟨gf, 0, none⟩)], Value.agg (nailC S), Value.bool (fallsL S rl)], defers := [] } _
  refine wpAnyH_ready (rs := [5]) (by kernel_rfl) (by simp) (AllReadyH.cons rfl (fun K' hK => ?_) AllReadyH.nil)
  rw [if_pos (by rfl)]
  change Oper.wp _ { dst := some 5, op := .assign (.const (.int .i64 0)), type := 23, pos := "hang.go:58", after := _, guard := none } _ _ _ _
  go_simp
  refine hK.out _ _ hHeld (fun hHeld => ?_)
  refine wpAnyH_done (by kernel_rfl) ?_ _
  go_wp2
  go_ret2
  exact ⟨rfl, hbel6⟩

end Go.Proofs.YtkdalgdckgmccaaGreatDoor
