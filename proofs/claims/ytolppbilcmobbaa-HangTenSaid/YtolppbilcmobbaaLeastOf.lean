/-
  The walks of leastOf and of the exported Least and Dual: the reduced list of sets, and the dual of a list.
-/
import Derived.Test.YtolppbilcmobbaaMin
namespace Go.Proofs.Ytolppbilcmobbaa
open Go.RowKit Go.Shelf

set_option maxRecDepth 100000 in
theorem contains_same (A : Option Addr) (cap n : Nat) (Ss : List (Nat → Bool)) (T : Nat → Bool) (w : World) (hS : RowS w A n Ss) (hn1 : n ≤ 1000000000) :
    Calls Try.prog 67 #[.slice A n cap, .agg (nailC T)] w fun e w' => e = .returned (.bool (Ss.any fun S => eqN T S)) ∧ Below w.heap.size w w' := by
  have hb0 := Blk.new w 73 (nailC T)
  have hbel := below_new' w (.cells (nailC T) 73)
  have H := Lib.hid (fun W (hW : Below w.heap.size w W) => index_same A cap n Ss T W (hS.below hW) hn1)
  clear hS
  go_enter Try.func67, Try.ntmps67
  go_upto_region 1 with fail
  generalize w.alloc (.cells (nailC T) 73) = W0 at *
  generalize hg : w.heap.size = g at *
  go_wp2_with (first
    | (refine wpList_load_row rfl 73 _ rfl g rfl 73 (nailC T) (0, 0) _ hb0 Try.underlying73 rfl (nailC_info T) ?_)
    | (go_at_call 84; refine (H.out _ hbel).mono ?_; clear H; rintro e w2 ⟨i, rfl, hi1, hi2, hi3, hb2⟩))
  go_ret
  exact ⟨rfl, by rw [hg]; exact hbel.trans (hb2.mono (by have := hbel.size; omega))⟩

theorem minStep_yes {Ss out : List (Nat → Bool)} {S : Nat → Bool} (h1 : (Ss.any fun T => !eqN S T && subN S T) = false) (h2 : (out.any fun T => eqN S T) = false) : minStep Ss out S = out ++ [S] := by
  unfold minStep; rw [h1, h2]; rfl
theorem minStep_no1 {Ss out : List (Nat → Bool)} {S : Nat → Bool} (h1 : (Ss.any fun T => !eqN S T && subN S T) = true) : minStep Ss out S = out := by
  unfold minStep; rw [h1]; rfl
theorem minStep_no2 {Ss out : List (Nat → Bool)} {S : Nat → Bool} (h1 : (Ss.any fun T => !eqN S T && subN S T) = false) (h2 : (out.any fun T => eqN S T) = true) : minStep Ss out S = out := by
  unfold minStep; rw [h1, h2]; rfl

set_option maxRecDepth 100000 in
set_option maxHeartbeats 2000000 in
theorem leastOf_any (A : Option Addr) (n c : Nat) (Ss : List (Nat → Bool)) (w : World) (hS : RowS w A n Ss) (hn1 : n ≤ 1000000) :
    Calls Try.prog 66 #[.slice A n c] w fun e w' => ∃ v, e = .returned v ∧ OwnSets w.heap.size w' v (minL Ss) ∧ Below w.heap.size w w' := by
  obtain ⟨ie, hie, hiz, his, hib⟩ := info_parts info_set
  have hnsm : ¬ 1 * ie.size > 2 ^ 24 := by rw [his]; decide
  have hnz : ¬ 1 * ie.size = 0 := by rw [his]; decide
  have hzs26 : (Value.agg (nailC fun _ => false)).cells.size = 26 := by kernel_rfl
  have HS := Lib.hid hS
  have Hn := Lib.hid hS.1
  generalize hg : w.heap.size = g at *
  have Hg := Lib.hid hg
  clear hS hg
  go_enter Try.func66, Try.ntmps66
  go_wp2_with fail
  go_loopw [3, 9] (fun v iv wr => ∃ i : Nat, i ≤ n ∧ iv = .int .i64 i ∧ OwnSets g wr v (minTo Ss (Ss.take i)) ∧ Below g w wr) (fun _ iv _ => n - (intOf iv).toNat)
  case atStart => exact ⟨0, Nat.zero_le _, rfl, ⟨rfl, .inl ⟨rfl, rfl⟩⟩, Below.refl _ _⟩
  case round =>
    obtain ⟨i, hi2, rfl, hown, hbel⟩ := hrel
    by_cases hlt : i < n
    · have HS' := Lib.hid (HS.out.below (w' := wr) (by rw [Hg.out]; exact hbel))
      obtain ⟨b, off, rfl, hrow⟩ := HS'.out.2 (by omega)
      have hrange := hrow.range (i := i) (by have := Hn.out; omega)
      have Hsn : Hid (minTo Ss (Ss.take (i + 1)) = minStep Ss (minTo Ss (Ss.take i)) (Ss.getD i fun _ => false)) := by
        show _ = _
        rw [row_take (Ss := Ss) (i := i) (by have := Hn.out; omega), minTo_snoc]
      have hml : (minTo Ss (Ss.take i)).length ≤ i := Nat.le_trans (minTo_length _ _) (by rw [List.length_take]; omega)
      generalize minTo Ss (Ss.take i) = out at *
      generalize Ss.getD i (fun _ => false) = S at *
      have hlist := nailC_list S
      have hnewE : Blk (wr.alloc (.cells (nailC (fun _ => false)) 73)) wr.heap.size 73 (nailC (fun _ => false)) := Blk.new _ _ _
      rw [zero_agg] at hnewE
      go_upto_region 5 with (first
        | (refine wpList_load_mid rfl 73 _ rfl b (off + i * 26) rfl (nailC S).toList _ hrange Try.underlying73 rfl hlist ?_)
        | (refine wpList_plain rfl fun _ hK => wp_store_row 73 _ _ rfl wr.heap.size (nailC S) rfl rfl 73 _ hnewE (nailC_info _) ?h1 (nailC_one _) (hK _ _ ?_)))
      case h1 => rw [nailC_size]; rfl
      rw [World.setRow_alloc_new]
      have hnew := Blk.new wr 73 (nailC S)
      have hgle : g ≤ wr.heap.size := by have := hbel.size; have := Hg.out; omega
      have hb1 := below_new' wr (.cells (nailC S) 73)
      have hbel1 : Below g w (wr.alloc (.cells (nailC S) 73)) := hbel.trans (hb1.mono hgle)
      have hown1 : OwnSets g (wr.alloc (.cells (nailC S) 73)) u3 out := own_keep hown hb1
      have hgle1 : g ≤ (wr.alloc (.cells (nailC S) 73)).heap.size := by rw [World.size_alloc]; omega
      have hS1 := HS'.out.below hb1
      generalize hgn : wr.heap.size = gn at *
      generalize wr.alloc (.cells (nailC S) 73) = W1 at *
      clear hnewE hrange hrow hbel hown hgn hb1
      have Hab := Lib.hid (contains_above (some ⟨b, off, none⟩) c n gn Ss S W1 hS1 (by omega) hnew)
      obtain ⟨A3, c3, rfl, hrow3⟩ := hown1.row
      have Hsame := Lib.hid (fun (V : World) (hV : Below W1.heap.size W1 V) => contains_same A3 c3 out.length out S V (hrow3.below hV) (by omega))
      have Hyes := Lib.hid (fun h1 h2 => Hsn.out.trans (minStep_yes (Ss := Ss) (out := out) (S := S) h1 h2))
      have Hno1 := Lib.hid (fun h1 => Hsn.out.trans (minStep_no1 (Ss := Ss) (out := out) (S := S) h1))
      have Hno2 := Lib.hid (fun h1 h2 => Hsn.out.trans (minStep_no2 (Ss := Ss) (out := out) (S := S) h1 h2))
      have Hown := Lib.hid (fun (V : World) (hV : Below W1.heap.size W1 V) => (own_keep hown1 hV : OwnSets g V _ out))
      have Hbel := Lib.hid (fun (V : World) (hV : Below W1.heap.size W1 V) => hbel1.trans (hV.mono hgle1))
      have Hnew := Lib.hid hnew
      have Hgle := Lib.hid hgle1
      clear hrow3 hown1 hbel1 hS1 Hsn hnew hgle hgle1
      generalize (Ss.any fun T => !eqN S T && subN S T) = a at *
      generalize (out.any fun T => eqN S T) = d at *
      cases a
      · cases d
        · go_wp2_with (first
            | (go_at_call 73; refine Hab.out.mono ?_; clear Hab; rintro e w2 ⟨rfl, hb2⟩; have hnew2 := Hnew.out.below hb2 Hnew.out.lt)
            | (refine wpList_load_row_g (by rfl) 73 _ rfl gn rfl 73 (nailC S) (0, 0) _ hnew2 Try.underlying73 rfl (nailC_info S) ?_)
            | (go_at_call 67; refine (Hsame.out w2 hb2).mono ?_; clear Hsame; rintro e w3 ⟨rfl, hb3⟩; have hnew3 := hnew2.below hb3 hnew2.lt; have hb13 := hb2.trans (hb3.mono hb2.size); have hown3 := Hown.out w3 hb13)
            | (refine wpList_load_row rfl 73 _ rfl gn rfl 73 (nailC S) (0, 0) _ hnew3 Try.underlying73 rfl (nailC_info S) ?_)
            | (refine wpList_buildSlice rfl 77 73 1 _ rfl _ ie _ Try.underlying77 hie hiz hnsm hnz (fill_one' his _ _ rfl) ?_)
            | (at_builtin; refine wpList_append_lies _ rfl _ _ 77 rfl g 73 ie (.agg (nailC fun _ => false)) 26 26 Try.underlying77 hie hiz his hib hzs26 (by decide) _ out.length (flatC out) rfl (hown3.alloc _) ⟨w3.heap.size, 0, none⟩ 1 1 (nailC S).toList rfl ?c0 ?c1 ?c2 ?c3 ?c4 ?c5 ?c6 (w3.heap.size + 1) (size_new'' _ _) ?_))
          case c0 => rw [Array.length_toList, nailC_size]
          case c1 => exact World.news_of_block (Blk.new w3 _ _)
          case c2 =>
            intro u hu
            exact (Array.all_eq_true_iff_forall_mem.1 (nailC_one S)) u (by simpa using hu)
          case c3 => exact Nat.one_pos
          case c4 => unfold maxLen; omega
          case c5 => omega
          case c6 => rw [World.size_alloc]; have := hb13.size; have := Hgle.out; omega
          intro gr cr w4 hown4 hgrow4 hat4 hlt4
          have hgle3 : g ≤ w3.heap.size := Nat.le_trans Hgle.out hb13.size
          have hbel4 : Below g w w4 := by
            refine (Hbel.out w3 hb13).trans (((Below.refl g w3).alloc hgle3 _).grown hgrow4 (by rw [World.size_alloc]; omega) fun k e => ?_)
            exact (hown3.lt k e).1
          go_wp2_with fail
          go_roundw
          case rel => exact ⟨i + 1, by omega, by go_num, by rw [Hyes.out trivial trivial]; unfold OwnSets; rw [← flatC_snoc, List.length_append]; exact hown4, hbel4⟩
          case measure => simp [intOf]; omega
        · go_wp2_with (first
            | (go_at_call 73; refine Hab.out.mono ?_; clear Hab; rintro e w2 ⟨rfl, hb2⟩; have hnew2 := Hnew.out.below hb2 Hnew.out.lt)
            | (refine wpList_load_row_g (by rfl) 73 _ rfl gn rfl 73 (nailC S) (0, 0) _ hnew2 Try.underlying73 rfl (nailC_info S) ?_)
            | (go_at_call 67; refine (Hsame.out w2 hb2).mono ?_; clear Hsame; rintro e w3 ⟨rfl, hb3⟩; have hb13 := hb2.trans (hb3.mono hb2.size)))
          go_roundw
          case rel => exact ⟨i + 1, by omega, by go_num, by rw [Hno2.out trivial trivial]; exact Hown.out w3 hb13, Hbel.out w3 hb13⟩
          case measure => simp [intOf]; omega
      · go_wp2_with (go_at_call 73; refine Hab.out.mono ?_; clear Hab; rintro e w2 ⟨rfl, hb2⟩)
        go_roundw
        case rel => exact ⟨i + 1, by omega, by go_num, by rw [Hno1.out trivial]; exact Hown.out w2 hb2, Hbel.out w2 hb2⟩
        case measure => simp [intOf]; omega
    · obtain rfl : i = n := by omega
      rw [List.take_of_length_le (by have := Hn.out; omega)] at hown
      go_wp2_with fail
      go_ret
      exact ⟨_, rfl, hown, hbel⟩

end Go.Proofs.Ytolppbilcmobbaa
