/-
  The walk of like: a permutation of as many elements as asked for.
  The walk of PermOrders.
-/
import Derived.Test.YtcklgdcjedikoaaRaw
import Derived.Test.YtcklgdcjedikoaaOrdM
import Derived.Test.YtcklgdcjedikoaaAwake
import Derived.Test.YtcklgdcjedikoaaOrders
namespace Go.Proofs.Ytcklgdcjedikoaa
open Go.RowKit

theorem ints_of_zl {w : World} {A : Option Addr} {n : Nat} {zs : List Int} (h : Zl w A n zs) : Ints w A n := by
  obtain ⟨h1, h2, h3, h4⟩ := h
  refine ⟨by omega, fun hn => ?_⟩
  obtain ⟨b, off, e, hs, hc⟩ := h4 hn
  refine ⟨b, off, e, hs, fun i hi => ⟨zs.getD i 0, ?_⟩⟩
  have hi' : i < zs.length := by omega
  have hmem : zs.getD i 0 ∈ zs := by
    rw [List.getD_eq_getElem?_getD, List.getElem?_eq_getElem hi']
    exact List.getElem_mem hi'
  exact ⟨(h3 _ hmem).1, (h3 _ hmem).2, hc i hi⟩

/-- How long a slice is. -/
def lenOf' : Value → Nat
  | .slice _ n _ => n
  | _ => 0

set_option maxRecDepth 100000 in
set_option maxHeartbeats 2000000 in
theorem like_any (A : Option Addr) (n cap m : Nat) (zs : List Int) (w : World) (hR : Rl w A n zs) (hcap : n ≤ cap) (hm1 : 1 ≤ m) (hm : m ≤ 60) :
    Calls Try.prog 43 #[.slice A n cap, .int .i64 m] w (RetPermC m w) := by
  obtain ⟨i0, hi, hz0, hz1, hz2⟩ := info_parts info_int'
  have hl := hR.1
  have hmax := hR.2.1
  obtain ⟨c, hc⟩ : ∃ c, c = min n m := ⟨_, rfl⟩
  have hmn : min (n : Int) (m : Int) = (c : Int) := by omega
  have hcn : c ≤ n := by omega
  have hcm : c ≤ m := by omega
  have Hbd := Lib.hid (show ∀ z ∈ zs.take c, -9223372036854775808 ≤ z ∧ z ≤ 9223372036854775807 from fun z hz => hR.2.2.1 z (List.mem_of_mem_take hz))
  have HR := Lib.hid hR
  clear hR
  go_enter Try.func43, Try.ntmps43
  go_upto_region 2 with fail
  go_cut [5] (fun ov wx => ∃ ys : List Int, (∀ z ∈ ys, -9223372036854775808 ≤ z ∧ z ≤ 9223372036854775807) ∧ wx.ownsRow w.heap.size 3 1 ov c (ys.map (Value.int .i64)) ∧ Below w.heap.size w wx)
  case first =>
    rcases Nat.eq_zero_or_pos n with h0 | h0
    · subst h0
      obtain rfl : c = 0 := by omega
      have hmin : min (0 : Int) (m : Int) = 0 := by omega
      clear hmn hc
      have hrun := fun W => run_append_none (P := Try.prog) (t := 22) (ty := 22) (e := 3) i0 (.int .i64 0) Try.underlying22 hi hz0 A cap W
      clear hl
      go_wp2_with (at_builtin; refine wpList_append_run rfl rfl rfl rfl (hrun _) ?_)
      all_goals
        go_meet
        exact ⟨[], fun z hz => absurd hz (by simp), World.ownsRow_nil _ _ _ _, Below.refl _ _⟩
    · obtain ⟨b, off, rfl, hs, -⟩ := HR.out.2.2.2 h0
      have Hn := Lib.hid (HR.out.cellsAt c hcn)
      have hq1 : ((zs.take c).map (Value.int .i64)).length = c * 1 := by rw [List.length_map, List.length_take]; omega
      have hq2 : 0 + c ≤ maxLen := by unfold maxLen; omega
      have hq3 : (0 + c) * 8 ≤ 140737488355328 := by omega
      clear hl hc
      go_wp2_with (at_builtin; refine wpList_append_own _ rfl _ _ 22 rfl w.heap.size 3 i0 (.int .i64 0) 1 8 Try.underlying22 hi hz0 hz1 hz2 rfl (by decide) (.slice none 0 0) 0 [] rfl (World.ownsRow_nil _ _ _ _) ⟨b, off, none⟩ c cap ((zs.take c).map (Value.int .i64)) rfl hq1 Hn.out (one_of_ints _) hq2 hq3 (Nat.le_refl _) ?_)
      intro v' w' hown hgrow _
      rw [← List.map_take] at hown
      have hb : Below w.heap.size w w' := (Below.refl _ _).grown hgrow (Nat.le_refl _) (fun k e => by cases e)
      clear hgrow
      go_wp2
      go_meet
      exact ⟨_, Hbd.out, by simpa using hown, hb⟩
  case rest =>
    obtain ⟨ys, hbd, hown, hbel⟩ := hcut
    clear hc hmn hcn hl hcap
    go_wp2
    go_loopw [5] (fun ov wr => ∃ (k : Nat) (ys : List Int), k ≤ m ∧ (∀ z ∈ ys, -9223372036854775808 ≤ z ∧ z ≤ 9223372036854775807) ∧ wr.ownsRow w.heap.size 3 1 ov k (ys.map (Value.int .i64)) ∧ Below w.heap.size w wr) (fun ov _ => m - lenOf' ov)
    case atStart => exact ⟨c, ys, hcm, hbd, hown, hbel⟩
    case round =>
      clear hown hbel hbd
      obtain ⟨k, xs, hk, hbd, hown, hbel⟩ := hrel
      obtain ⟨A', c', rfl⟩ := own_slice' hown
      by_cases hlt : k < m
      · have hsz := hbel.size
        have hdiv : (k : Int).tdiv 2 = ((k / 2 : Nat) : Int) := by simp
        have hwr : IntKind.i64.wrap ((k : Int).tdiv 2) = ((k / 2 : Nat) : Int) := by rw [hdiv]; exact IntWalk.i64_in _ (by omega)
        have hw2 : IntKind.i64.wrap (((k / 2 : Nat)) : Int) = ((k / 2 : Nat) : Int) := IntWalk.i64_in _ (by omega)
        have h63 : k + 1 ≤ maxLen := by unfold maxLen; omega
        have h47 : (k + 1) * 8 ≤ 140737488355328 := by omega
        have Hbd' := Lib.hid (show ∀ z ∈ xs ++ [((k / 2 : Nat) : Int)], -9223372036854775808 ≤ z ∧ z ≤ 9223372036854775807 from fun z hz => by
          rcases List.mem_append.1 hz with hz | hz
          · exact hbd z hz
          · simp at hz; omega)
        have Hbel := Lib.hid hbel
        have Hown := Lib.hid hown
        clear hbd hbel hown
        obtain ⟨q, hq⟩ : ∃ q, q = k / 2 := ⟨_, rfl⟩
        rw [← hq] at hdiv hwr hw2 Hbd'
        clear hq
        go_wp2_with (at_builtin; refine wpList_append_own _ rfl _ _ 22 rfl w.heap.size 3 i0 (.int .i64 0) 1 8 Try.underlying22 hi hz0 hz1 hz2 rfl (by decide) _ _ _ rfl (Hown.out.alloc _) ⟨wr.heap.size, 0, none⟩ 1 1 [.int .i64 (q : Nat)] rfl rfl (cell_one_new _ _ _) (one_cell _ rfl) h63 h47 (alloc_size_le _ _ hsz) ?_)
        intro v2 w2 hown2 hgrow2 _
        have hb2 := Hbel.out.trans (own_below Hown.out hsz hgrow2)
        obtain ⟨g2, c2, rfl⟩ := own_pos hown2 (by omega)
        go_wp2
        go_roundw
        case rel => exact ⟨k + 1, _, by omega, Hbd'.out, by simpa using hown2, hb2⟩
        case measure => simp [lenOf']; omega
      · obtain rfl : k = m := by omega
        obtain ⟨A2, c2, e2, hz⟩ := own_zl hown hbd (by omega)
        injection e2 with e2 _ e3
        subst e2 e3
        have HT := Lib.hid (tame_cap A' k c' k wr (ints_of_zl hz) (by omega))
        rw [show tameLen k k = k by unfold tameLen; omega] at HT
        clear hown hz hbd
        go_wp2_with fail
        refine HT.out.mono ?_
        rintro e w3 ⟨g, cp, p, rfl, hs, hp, hg, hcp, hb⟩
        have hb' := hbel.trans (hb.mono hbel.size)
        clear HT
        go_wp2
        go_ret
        exact ⟨g, cp, p, rfl, hs, hp, Nat.le_trans hbel.size hg, hcp, hb'⟩

end Go.Proofs.Ytcklgdcjedikoaa

namespace Go.Proofs.Ytcklgdcjedikoaa
open Go.RowKit

theorem same_yes (A B : Option Addr) (n m : Nat) (a b : List Nat) (w : World) (ha : Sl .i64 w A n a) (hb : Sl .i64 w B m b) (hab : a = b) (ca cb : Nat) :
    Calls Try.prog 33 #[.slice A n ca, .slice B m cb] w fun e w' => e = .returned (.bool true) ∧ Drew w w' :=
  (same_any A B n m ca cb a b w ha hb).mono fun _ _ ⟨h1, h2⟩ => ⟨by rw [h1, decide_eq_true hab], h2⟩

set_option maxRecDepth 100000 in
set_option maxHeartbeats 4000000 in
theorem permOrders_walk (A : Option Addr) (n cap : Nat) (A' : Option Addr) (n' cap' : Nat) (zs : List Int) (w : World) (h : Ints w A n) (h' : Rl w A' n' zs) (hcap : n' ≤ cap') :
    Calls Try.prog 5 #[.slice A n cap, .slice A' n' cap'] w fun e w' => e = .returned (.bool true) ∧ Below w.heap.size w w' := by
  have hN1 : 1 ≤ tameLen n 12 := by unfold tameLen; omega
  have hN2 : tameLen n 12 ≤ 12 := by unfold tameLen; omega
  have Htame := Lib.hid (tame_cap A n cap 12 w h (by omega))
  have Hlike := Lib.hid (fun m W (hW : Below w.heap.size w W) => like_any A' n' cap' m zs W (h'.below hW) hcap)
  generalize tameLen n 12 = N at *
  clear h h' hcap
  go_enter Try.func5, Try.ntmps5
  go_wp2_with fail
  refine Htame.out.mono ?_
  rintro e w1 ⟨gp, cp, p, rfl, hS, hp, hgp, hcp, hb1⟩
  have hlen := hS.len
  clear Htame hgp hcp
  go_wp2_with fail
  refine (Hlike.out N w1 hb1 hN1 (by omega)).mono ?_
  rintro e w2 ⟨gq, cq, q, rfl, hT, hq, hgq, hcq, hb2⟩
  have hqen := hT.len
  have Hb2 := Lib.hid (hb1.trans (hb2.mono hb1.size))
  have hS2 := hS.below hb2
  have hn : N ≤ 60 := by omega
  have h0 : 0 < N := hN1
  clear Hlike hS hb1 hb2 hgq hcq
  have hpq : q.length = p.length := by omega
  have HA := Lib.hid (fun W (hW : Below w2.heap.size w2 W) => After_any gp 0 N cp gq 0 cq p q W (hS2.below hW) (hT.below hW) hp hq hn h0)
  have HW := Lib.hid (fun W (hW : Below w2.heap.size w2 W) => Weak_any gp 0 N cp gq 0 cq p q W (hS2.below hW) (hT.below hW) hp hq hn h0)
  have HS := Lib.hid (fun W (hW : Below w2.heap.size w2 W) => Strong_any gp 0 N cp gq 0 cq p q W (hS2.below hW) (hT.below hW) hp hq hn h0)
  have HJ := Lib.hid (fun W (hW : Below w2.heap.size w2 W) => Join_any gp 0 N cp gq 0 cq p q W (hS2.below hW) (hT.below hW) hp hq hn h0)
  have HM := Lib.hid (fun W (hW : Below w2.heap.size w2 W) => Meet_any gp 0 N cp gq 0 cq p q W (hS2.below hW) (hT.below hW) hp hq hn h0)
  have RA := Lib.hid (fun W (hW : Below w2.heap.size w2 W) => rafter_any gp 0 N cp gq 0 cq p q W (hS2.below hW) (hT.below hW) hq hn h0)
  have RW := Lib.hid (fun W (hW : Below w2.heap.size w2 W) => rweak_any gp 0 N cp gq 0 cq p q W (hS2.below hW) (hT.below hW) hp hq hn h0)
  have RS := Lib.hid (fun W (hW : Below w2.heap.size w2 W) => rstrong_any gp 0 N cp gq 0 cq p q W (hS2.below hW) (hT.below hW) hn h0)
  have RJ := Lib.hid (fun W (hW : Below w2.heap.size w2 W) => rjoin_any gp 0 N cp gq 0 cq p q W (hS2.below hW) (hT.below hW) hp hq hn h0)
  have RM := Lib.hid (fun W (hW : Below w2.heap.size w2 W) => rmeet_any gp 0 N cp gq 0 cq p q W (hS2.below hW) (hT.below hW) hp hq hn h0)
  rw [show subB N (invM p) (invM q) = weakB p q by rw [weak_same hp hq hpq (by omega), hlen]] at RW
  rw [← after_same hpq] at RA
  rw [← strong_same hp] at RS
  rw [← join_same hp hq hpq] at RJ
  rw [← meet_same hp hq hpq] at RM
  have lA : (afterL p q).length ≤ 60 := by rw [afterL_length]; omega
  have lJ : (joinL p q).length ≤ 60 := by rw [joinL_length]; omega
  have lM : (meetL p q).length ≤ 60 := by unfold meetL; rw [List.length_reverse, joinL_length, List.length_reverse]; omega
  generalize afterL p q = aL at *
  generalize joinL p q = jL at *
  generalize meetL p q = mL at *
  generalize weakB p q = wB at *
  generalize strongB p q = sB at *
  have hwB : (wB == wB) = true := by simp
  have hsB : (sB == sB) = true := by simp
  clear hS2 hT hp hq hpq hlen hqen hN1 hN2 hn h0
  go_wp2_with fail
  refine (HA.out w2 (Below.refl _ _)).mono ?_
  rintro e w3 ⟨gA, cA, rfl, -, sA, b3⟩
  clear HA
  go_wp2_with fail
  refine (HW.out w3 b3).mono ?_
  rintro e w4 ⟨rfl, hb⟩
  have sA := sA.below hb
  have b4 := b3.trans (hb.mono b3.size)
  clear HW hb b3
  go_wp2_with fail
  refine (HS.out w4 b4).mono ?_
  rintro e w5 ⟨rfl, hb⟩
  have sA := sA.below hb
  have b5 := b4.trans (hb.mono b4.size)
  clear HS hb b4
  go_wp2_with fail
  refine (HJ.out w5 b5).mono ?_
  rintro e w6 ⟨gJ, cJ, rfl, -, sJ, hb⟩
  have sA := sA.below hb
  have b6 := b5.trans (hb.mono b5.size)
  clear HJ hb b5
  go_wp2_with fail
  refine (HM.out w6 b6).mono ?_
  rintro e w7 ⟨gM, cM, rfl, -, sM, hb⟩
  have sA := sA.below hb
  have sJ := sJ.below hb
  have b7 := b6.trans (hb.mono b6.size)
  clear HM hb b6
  go_wp2_with fail
  refine (RA.out w7 b7).mono ?_
  intro e w8 hr
  obtain ⟨g8, c8, rfl, -, s8, hb⟩ := hr.sl lA
  have Hsame := Lib.hid (same_yes _ _ _ _ _ _ w8 (sA.below hb) s8 rfl cA c8)
  have sJ := sJ.below hb
  have sM := sM.below hb
  have b8 := b7.trans (hb.mono b7.size)
  clear RA hb b7 hr sA s8
  go_wp2_with (go_at_call 33; refine Hsame.out.mono ?_; rintro e w9 ⟨rfl, q9, rfl⟩)
  have sJ := sJ.drewN q9
  have sM := sM.drewN q9
  have b9 := below_drewN b8 q9
  generalize w8.drewN q9 = w9 at *
  clear Hsame b8
  refine (RW.out w9 b9).mono ?_
  rintro e w10 ⟨rfl, hb⟩
  have sJ := sJ.below hb
  have sM := sM.below hb
  have b10 := b9.trans (hb.mono b9.size)
  clear RW hb b9
  go_wp2_with fail
  refine (RS.out w10 b10).mono ?_
  rintro e w11 ⟨rfl, rfl⟩
  clear RS
  go_wp2_with fail
  refine (RJ.out w10 b10).mono ?_
  intro e w12 hr
  obtain ⟨g12, c12, rfl, -, s12, hb⟩ := hr.sl lJ
  have Hsame := Lib.hid (same_yes _ _ _ _ _ _ w12 (sJ.below hb) s12 rfl cJ c12)
  have sM := sM.below hb
  have b12 := b10.trans (hb.mono b10.size)
  clear RJ hb b10 hr sJ s12
  go_wp2_with (go_at_call 33; refine Hsame.out.mono ?_; rintro e w13 ⟨rfl, q13, rfl⟩)
  have sM := sM.drewN q13
  have b13 := below_drewN b12 q13
  generalize w12.drewN q13 = w13 at *
  clear Hsame b12
  refine (RM.out w13 b13).mono ?_
  intro e w14 hr
  obtain ⟨g14, c14, rfl, -, s14, hb⟩ := hr.sl lM
  have Hsame := Lib.hid (same_yes _ _ _ _ _ _ w14 (sM.below hb) s14 rfl cM c14)
  have b14 := b13.trans (hb.mono b13.size)
  clear RM hb b13 hr sM s14
  go_wp2_with (go_at_call 33; refine Hsame.out.mono ?_; rintro e w15 ⟨rfl, q15, rfl⟩)
  have b15 := below_drewN b14 q15
  generalize w14.drewN q15 = w15 at *
  clear Hsame b14
  refine (awake_any _).mono ?_
  rintro e w16 ⟨rfl, hb⟩
  have b16 := Hb2.out.trans (b15.mono Hb2.out.size)
  clear b15
  go_wp2
  go_ret
  exact ⟨rfl, b16.trans (hb.mono b16.size)⟩

end Go.Proofs.Ytcklgdcjedikoaa
