/-
  The walk of PermCounts.
-/
import Derived.Test.YtknicageehomkaaCntM
import Derived.Test.YtknicageehomkaaUnr
import Derived.Deep.DeepCutAuto
namespace Go.Proofs.Ytknicageehomkaa
open Go.RowKit

theorem unr_in (k r : Nat) (w : World) (h1 : 1 ≤ k) (h2 : k ≤ 5) (hr : r < facN k) :
    Calls Try.prog 40 #[.int .i64 k, .int .i64 r] w fun e w' => ∃ g, e = .returned (.tuple #[.slice (some ⟨g, 0, none⟩) k k, .int .i64 0]) ∧ Sl .i64 w' (some ⟨g, 0, none⟩) k (unrL k r) ∧ Below w.heap.size w w' := by
  have hf := facN_small k (by omega)
  refine (unrank_any k r w h1 (by omega) (by omega)).mono fun e w' h => ?_
  rcases h with ⟨_, g, he, hg, hblk, hbel⟩ | ⟨h, _⟩
  · have hl : (outL (digL k r)).length = k := unrL_length k r
    rw [hl] at he
    exact ⟨g, he, Sl.of_blk hblk hl (by omega), hbel⟩
  · omega

set_option maxRecDepth 100000 in
set_option maxHeartbeats 4000000 in
theorem permCounts_walk (z : Int) (_hz1 : -9223372036854775808 ≤ z) (_hz2 : z ≤ 9223372036854775807) (w : World) :
    Calls Try.prog 10 #[.int .i64 z] w fun e w' => e = .returned (.bool true) ∧ Below w.heap.size w w' := by
  obtain ⟨u, hu⟩ := wrap_u64 z
  have e2 : (u : Int) % (5 : Int) = ((u % 5 : Nat) : Int) := by simp
  have e6 : (u : Int).tmod (5 : Int) = ((u % 5 : Nat) : Int) := by rw [Int.tmod_eq_emod_of_nonneg (by omega)]; exact e2
  obtain ⟨c, hc⟩ : ∃ c, c = u % 5 := ⟨_, rfl⟩
  have hc5 : c < 5 := by rw [hc]; exact Nat.mod_lt _ (by omega)
  rw [← hc] at e2 e6
  clear hc
  have e5 : IntKind.i64.wrap ((c : Nat) : Int) = (c : Nat) := IntWalk.i64_in _ (by omega)
  go_enter Try.func10, Try.ntmps10
  go_upto_region 1 with fail
  go_cut [3] (fun s wx => s = .int .i64 (c + 1 : Nat) ∧ wx = w)
  case first =>
    go_wp2_with fail
    go_meet
    exact ⟨by go_num, rfl⟩
  case rest =>
    obtain ⟨rfl, rfl⟩ := hcut
    obtain ⟨K, hK⟩ : ∃ K, K = c + 1 := ⟨_, rfl⟩
    rw [← hK]
    have hK1 : 1 ≤ K := by omega
    have hK5 : K ≤ 5 := by omega
    clear hK e2 e6 e5 hu hc5
    have hfs := facN_small K (by omega)
    have Hfac := Lib.hid (fun W => rfactorial_any K W (by omega))
    have Hunr := Lib.hid (fun r W (hr : r < facN K) => unr_in K r W hK1 hK5 hr)
    have Hcnt := Lib.hid (fun r (hr : r < facN K) => cnt_facts hK1 hK5 hr)
    have Hends := Lib.hid (cnt_ends hK1 hK5)
    generalize hF : facN K = F at *
    have HF := Lib.hid hF
    clear hF
    go_wp2_with fail
    go_loopw [4, 5, 6] (fun bv sv i wr => ∃ r : Nat, r ≤ F ∧ i = .int .i64 r ∧ bv = .int .i64 (baxCnt K r : Nat) ∧ sv = .int .i64 (sepCnt K r : Nat) ∧ Below wc.heap.size wc wr) (fun _ _ i _ => F - (intOf i).toNat)
    case atStart => exact ⟨0, Nat.zero_le _, rfl, rfl, rfl, Below.refl _ _⟩
    case round =>
      obtain ⟨r, hr, rfl, rfl, rfl, hbel⟩ := hrel
      have hbc := baxCnt_le K r
      have hsc := sepCnt_le K r
      by_cases hlt : r < F
      · have hp := (Hcnt.out r hlt).1
        have hrk := (Hcnt.out r hlt).2
        have hpl := unrL_length K r
        have Hbn := Lib.hid (show baxCnt K (r + 1) = baxCnt K r + if noneB (unrL K r) = true then 1 else 0 from rfl)
        have Hsn := Lib.hid (show sepCnt K (r + 1) = sepCnt K r + if simpT K (treeF K (unrL K r)) = true then 0 else 1 from rfl)
        have hsm := small_treeF K K (unrL K r) (by omega) (by omega)
        have Hp := Lib.hid hp
        have Hrk := Lib.hid hrk
        have Hpl := Lib.hid hpl
        have Hsm := Lib.hid hsm
        have Hunr2 := Lib.hid (fun W => Hunr.out r W hlt)
        clear hp hrk hpl hsm
        generalize unrL K r = P at *
        generalize baxCnt K r = bc at *
        generalize sepCnt K r = sc at *
        go_wp2_with (go_at_call 41; refine (Hfac.out _).mono ?_; rintro e w' ⟨rfl, rfl⟩)
        refine (Hunr2.out _).mono ?_
        rintro e w1 ⟨g, rfl, hS1, hb1⟩
        have hb1' := hbel.trans (hb1.mono hbel.size)
        clear hb1
        go_wp2_with fail
        have hcR := rank_any g 0 K K P w1 hS1 Hp.out (by omega) hK1
        rw [Hrk.out] at hcR
        refine hcR.mono ?_
        rintro e w2 ⟨rfl, hb2⟩
        have hS2 := hS1.below hb2
        have hb2' := hb1'.trans (hb2.mono hb1'.size)
        clear hb2 hcR hS1 hb1'
        go_wp2_with fail
        refine (baxter_uni g 0 K K P w2 hS2 Hp.out (by omega) hK1).mono ?_
        rintro e w3 ⟨A3, m3, ok, l3, rfl, -, hB3, hb3⟩
        have Hok := Lib.hid (baxIs_none hB3)
        have hS3 := hS2.below hb3
        have hb3' := hb2'.trans (hb3.mono hb2'.size)
        clear hb3 hB3 hS2 hb2'
        rw [← Hok.out] at Hbn
        go_wp2_with fail
        have hcB := blocksT_any g 0 K K P w3 hS3 Hp.out (by omega) hK1 (Nat.le_refl _) (by omega)
        unfold RetBlocksT at hcB
        rw [Hpl.out] at hcB
        refine hcB.mono ?_
        rintro e w4 ⟨pa, pn, pc, A4, n4, c4, rfl, hT4, hb4⟩
        have hb4' := hb3'.trans (hb4.mono hb3'.size)
        have hT5 : TreeIn (w4.alloc (.cells #[.int .i64 ((treeF K P).kind : Nat), .slice pa pn pc, .slice A4 n4 c4] 43)) w3.heap.size w4.heap.size K (treeF K P) (.slice pa pn pc) (.slice A4 n4 c4) := TreeIn.keep (w := w4) (fun g _ h2 => Below.heap_alloc _ _ _ h2) _ _ _ _ hT4
        have hbox := Blk.new w4 43 #[.int .i64 ((treeF K P).kind : Nat), .slice pa pn pc, .slice A4 n4 c4]
        obtain ⟨k0, k1, k2, -, -, -⟩ := blk_three hbox
        have hsz5 : w4.heap.size ≤ (w4.alloc (.cells #[.int .i64 ((treeF K P).kind : Nat), .slice pa pn pc, .slice A4 n4 c4] 43)).heap.size := by simp
        have Hsimp := Lib.hid (simple_any K (treeF K P) pa pn pc A4 n4 c4 _ _ _ hT5 hsz5 Hsm.out)
        have HbX := Lib.hid (hb4'.alloc hb4'.size (.cells #[.int .i64 ((treeF K P).kind : Nat), .slice pa pn pc, .slice A4 n4 c4] 43))
        clear hT4 hT5 hbox hsz5 hb4 hb4' hcB hS3 hb3'
        generalize simpT K (treeF K P) = sb at *
        generalize (treeF K P).kind = tk at *
        have hbc63 : bc ≤ r := hbc
        cases ok <;> cases sb
        all_goals
          go_wp2_with (go_at_call 62; refine Hsimp.out.mono ?_; rintro e w6 ⟨rfl, hb6⟩)
          have hbF := HbX.out.trans (hb6.mono HbX.out.size)
          go_roundw
          case rel => exact ⟨r + 1, by omega, by go_num, by rw [Hbn.out]; first | rfl | go_num, by rw [Hsn.out]; first | rfl | go_num, hbF⟩
          case measure => simp [intOf]; omega
      · obtain rfl : r = F := by omega
        have Hb := Lib.hid (fun W => baxters_yes K W hK1 (by omega))
        have Hs := Lib.hid (fun W => separables_yes K W hK1 (by omega))
        rw [Hends.out.1, Hends.out.2]
        generalize baxN K = bx at *
        generalize (sepL (K - 1)).getD (K - 1) 0 = sx at *
        go_wp2_with (first
          | (go_at_call 41; refine (Hfac.out _).mono ?_; rintro e w' ⟨rfl, rfl⟩)
          | (go_at_call 58; refine (Hb.out _).mono ?_; rintro e w5 ⟨rfl, hb5⟩)
          | (go_at_call 59; refine (Hs.out _).mono ?_; rintro e w6 ⟨rfl, hb6⟩)
          | (go_at_call 23; refine (awake_any _).mono ?_; rintro e w7 ⟨rfl, hb7⟩))
        go_ret
        have q1 := hbel.trans (hb5.mono hbel.size)
        have q2 := q1.trans (hb6.mono q1.size)
        exact ⟨rfl, q2.trans (hb7.mono q2.size)⟩

end Go.Proofs.Ytknicageehomkaa
