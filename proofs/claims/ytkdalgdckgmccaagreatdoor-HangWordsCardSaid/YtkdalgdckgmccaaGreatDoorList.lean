/-
  The walks of parseList and parseSome over names of sets.
-/
import Derived.Test.YtkdalgdckgmccaaGreatDoorDual
namespace Go.Proofs.YtkdalgdckgmccaaGreatDoor
open Go.RowKit Go.Shelf

/-- A slice of strings. -/
def StrS (w : World) (A : Option Addr) (n : Nat) (ss : List ByteArray) : Prop :=
  ss.length = n ∧ (0 < n → ∃ b off, A = some ⟨b, off, none⟩ ∧ b < w.heap.size ∧ ∀ i, i < n → w.cell? ⟨b, off + i, none⟩ = some (.string (ss.getD i ByteArray.empty)))
theorem StrS.below {w w' : World} {A : Option Addr} {n : Nat} {ss : List ByteArray} (h : StrS w A n ss) (hb : Below w.heap.size w w') : StrS w' A n ss :=
  ⟨h.1, fun h0 => by
    obtain ⟨b, off, e, hlt, hc⟩ := h.2 h0
    exact ⟨b, off, e, Nat.lt_of_lt_of_le hlt hb.size, fun i hi => (hb.cell (p := ⟨b, off + i, none⟩) hlt).trans (hc i hi)⟩⟩

/-- Names of sets, each at most so long. -/
def Named (ss : List ByteArray) : Prop := ∀ s ∈ ss, s.size ≤ 1000000000 ∧ risingB 0 (lettersOf s) = true
/-- The sets that are named. -/
def setsOf (ss : List ByteArray) : List (Nat → Bool) := ss.map fun s => nailsL (lettersOf s)

set_option maxRecDepth 100000 in
set_option maxHeartbeats 2000000 in
theorem parseList_any (A : Option Addr) (n c : Nat) (ss : List ByteArray) (w : World) (hS : StrS w A n ss) (hn : n ≤ 100) (hnam : Named ss) :
    Calls Tryz.prog 68 #[.slice A n c] w fun e w' => ∃ v, e = .returned (.tuple #[v, .int .i64 0]) ∧ OwnSets w.heap.size w' v (setsOf ss) ∧ Below w.heap.size w w' := by
  obtain ⟨ie, hie, hiz, his, hib⟩ := info_parts info_set
  have hnsm : ¬ 1 * ie.size > 2 ^ 24 := by rw [his]; decide
  have hnz : ¬ 1 * ie.size = 0 := by rw [his]; decide
  have hzs26 : (Value.agg (nailC fun _ => false)).cells.size = 26 := by show (nailC fun _ => false).size = 26; exact nailC_size _
  have HS := Lib.hid hS
  have Hn := Lib.hid hS.1
  have Hnam := Lib.hid hnam
  clear hS hnam
  generalize hg : w.heap.size = g at *
  have Hg := Lib.hid hg
  clear hg
  go_enter Tryz.func68, Tryz.ntmps68
  go_wp2_with fail
  go_loopw [4, 14] (fun v iv wr => ∃ i : Nat, i ≤ n ∧ iv = .int .i64 i ∧ wr.ownsRow g 49 26 v i (flatC (setsOf (ss.take i))) ∧ Below g w wr) (fun _ iv _ => n - (intOf iv).toNat)
  case atStart => exact ⟨0, Nat.zero_le _, rfl, ⟨rfl, .inl ⟨rfl, rfl⟩⟩, Below.refl _ _⟩
  case round =>
    obtain ⟨i, hi, rfl, hown, hbel⟩ := hrel
    by_cases hlt : i < n
    · obtain ⟨b, off, rfl, hbs, hcl⟩ := (HS.out.below (w' := wr) (by rw [Hg.out]; exact hbel)).2 (by omega)
      have hci := hcl i hlt
      have hsl : ss.getD i ByteArray.empty ∈ ss := by
        rw [List.getD_eq_getElem?_getD, List.getElem?_eq_getElem (by have := Hn.out; omega)]
        exact List.getElem_mem _
      have Htake : Hid (ss.take (i + 1) = ss.take i ++ [ss.getD i ByteArray.empty]) := by
        show _ = _
        rw [List.take_succ_eq_append_getElem (by have := Hn.out; omega), List.getD_eq_getElem?_getD, List.getElem?_eq_getElem (by have := Hn.out; omega)]; rfl
      obtain ⟨hz, hr⟩ := Hnam.out _ hsl
      generalize ss.getD i ByteArray.empty = s at *
      have hp := parseNails_any s wr (by omega)
      unfold RetParse at hp
      rw [show setOf (lettersOf s) = nailsL (lettersOf s) by unfold setOf; rw [if_pos hr], hr] at hp
      have Hp := Lib.hid hp
      have Hsn : Hid (setsOf (ss.take (i + 1)) = setsOf (ss.take i) ++ [nailsL (lettersOf s)]) := by
        show _ = _
        rw [Htake.out]
        unfold setsOf
        rw [List.map_append]; rfl
      have hlist := nailC_list (nailsL (lettersOf s))
      generalize nailsL (lettersOf s) = S at *
      generalize setsOf (ss.take i) = out at *
      have hnewL : ∀ (V : World) (k : Nat), V.heap.size = k → Blk (V.alloc (.cells (nailC (fun _ => false)) 49)) k 49 (nailC (fun _ => false)) := fun V k e => e ▸ Blk.new V _ _
      rw [zero_agg] at hnewL
      have Hsz0 : Hid ((#[.bool false, .bool false, .bool false, .bool false, .bool false, .bool false, .bool false, .bool false, .bool false, .bool false, .bool false, .bool false, .bool false, .bool false, .bool false, .bool false, .bool false, .bool false, .bool false, .bool false, .bool false, .bool false, .bool false, .bool false, .bool false, .bool false] : Array Value).size = (nailC S).size) := by show _ = _; rw [nailC_size]; rfl
      have hgle : g ≤ wr.heap.size := by have := hbel.size; have := Hg.out; omega
      clear hp hr hz hsl hcl
      go_upto_region 8 with (first
        | (go_at_call 22; refine Hp.out.mono ?_; rintro e w2 ⟨rfl, hb2⟩)
        | (refine wpList_plain rfl fun _ hK => wp_store_row 49 _ _ rfl _ (nailC S) rfl rfl 49 _ (hnewL _ _ rfl) (nailC_info _) Hsz0.out (nailC_one _) (hK _ _ ?_)))
      rw [World.setRow_alloc_new]
      have hnew := Blk.new w2 49 (nailC S)
      have hbel1 : Below g w (w2.alloc (.cells (nailC S) 49)) := (hbel.trans (hb2.mono hgle)).alloc (Nat.le_trans hgle hb2.size) _
      have hown1 := (own_keep hown hb2).alloc (.cells (nailC S) 49)
      have hgle1 : g ≤ (w2.alloc (.cells (nailC S) 49)).heap.size := by rw [World.size_alloc]; have := hb2.size; omega
      generalize w2.heap.size = gn at *
      generalize w2.alloc (.cells (nailC S) 49) = W1 at *
      clear hnewL hown hbel
      go_wp2_with (first
        | (refine wpList_load_row rfl 49 _ rfl gn rfl 49 (nailC S) (0, 0) _ hnew Tryz.underlying49 rfl (nailC_info S) ?_)
        | (refine wpList_buildSlice rfl 79 49 1 _ rfl _ ie _ Tryz.underlying79 hie hiz hnsm hnz (fill_one' his _ _ rfl) ?_)
        | (at_builtin; refine wpList_append_lies _ rfl _ _ 79 rfl g 49 ie (.agg (nailC fun _ => false)) 26 26 Tryz.underlying79 hie hiz his hib hzs26 (by decide) _ i (flatC out) rfl (hown1.alloc _) ⟨W1.heap.size, 0, none⟩ 1 1 (nailC S).toList rfl ?c0 ?c1 ?c2 ?c3 ?c4 ?c5 ?c6 (W1.heap.size + 1) (size_new'' _ _) ?_))
      case c0 => rw [Array.length_toList, nailC_size]
      case c1 => exact World.news_of_block (Blk.new W1 _ _)
      case c2 =>
        intro u hu
        exact (Array.all_eq_true_iff_forall_mem.1 (nailC_one S)) u (by simpa using hu)
      case c3 => exact Nat.one_pos
      case c4 => unfold maxLen; omega
      case c5 => omega
      case c6 => rw [World.size_alloc]; omega
      intro gr cr w3 hown3 hgrow3 hat3 hlt3
      have hbel3 : Below g w w3 := by
        refine hbel1.trans (((Below.refl g W1).alloc hgle1 _).grown hgrow3 (by rw [World.size_alloc]; omega) fun k e => ?_)
        exact (hown1.lt k e).1
      go_wp2_with fail
      go_roundw
      case rel => exact ⟨i + 1, by omega, by go_num, by rw [Hsn.out, ← flatC_snoc]; exact hown3, hbel3⟩
      case measure => simp [intOf]; omega
    · obtain rfl : i = n := by omega
      rw [List.take_of_length_le (by have := Hn.out; omega)] at hown
      go_wp2
      go_ret2
      refine ⟨_, rfl, ?_, hbel⟩
      have hl : (setsOf ss).length = i := by unfold setsOf; rw [List.length_map, Hn.out]
      unfold OwnSets
      rw [hl]
      exact hown

set_option maxRecDepth 100000 in
theorem parseSome_any (A : Option Addr) (n c : Nat) (ss : List ByteArray) (w : World) (hS : StrS w A n ss) (hn : n ≤ 100) (h0 : 0 < n) (hnam : Named ss) :
    Calls Tryz.prog 48 #[.slice A n c] w fun e w' => ∃ v, e = .returned (.tuple #[v, .int .i64 0]) ∧ OwnSets w.heap.size w' v (setsOf ss) ∧ Below w.heap.size w w' := by
  have Hp := Lib.hid (parseList_any A n c ss w hS hn hnam)
  have Hlen : Hid ((setsOf ss).length = n) := by show _ = _; unfold setsOf; rw [List.length_map, hS.1]
  clear hS hnam
  go_enter Tryz.func48, Tryz.ntmps48
  go_wp2_with (go_at_call 68; refine Hp.out.mono ?_; clear Hp; rintro e w2 ⟨v, rfl, hown, hb2⟩; obtain ⟨A2, c2, rfl, hrow⟩ := hown.row; rw [Hlen.out])
  go_ret2
  refine ⟨_, rfl, ?_, hb2⟩
  have h := hown
  rw [Hlen.out] at h
  exact h

end Go.Proofs.YtkdalgdckgmccaaGreatDoor
