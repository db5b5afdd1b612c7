/-
  The walk of PermKnuth.
-/
import Derived.Test.YtcklgdcjedikoaaKnuS
import Derived.Test.YtcklgdcjedikoaaExt
import Derived.Test.YtcklgdcjedikoaaAwake
import Derived.Test.YtcklgdcjedikoaaTame
import Derived.Test.YtcklgdcjedikoaaPBaxters
namespace Go.Proofs.Ytcklgdcjedikoaa
open Go.RowKit

theorem mem_perm {p : List Nat} (hp : IsPerm p) (h0 : 0 < p.length) : ∀ v, v < p.length → v ∈ p := fun v hv => by
  have hg := gapless_perm hp h0
  have h1 := minL_perm hp h0
  have h2 := hg.max
  exact hg.mem (by omega) (by omega)

theorem knuth_facts {p : List Nat} (hp : IsPerm p) (h0 : 0 < p.length) {ok : Bool} {l : List Nat} (hB : BaxIs p ok l) :
    sortsB p = !(occ p [1, 2, 0]).isSome ∧ simpT p.length (treeF p.length p) = ((occ p [1, 3, 0, 2]).isSome || (occ p [2, 0, 3, 1]).isSome) ∧ (simpT p.length (treeF p.length p) = true ∨ ok = true) := by
  have hd := perm_nodup hp
  have h1 := sorts_iff hp (mem_perm hp h0)
  rw [← occ_120 hd] at h1
  have h2 := simp_iff p.length p (Nat.le_refl _) h0 hd p.length p.length (Nat.le_refl _) (Nat.le_refl _)
  refine ⟨?_, ?_, ?_⟩
  · rw [Bool.eq_iff_iff, h1]
    simp
  · rw [Bool.eq_iff_iff, h2, Bool.or_eq_true, occ_1302 hd, occ_2031 hd]
    rfl
  · by_cases hs : simpT p.length (treeF p.length p) = true
    · exact .inl hs
    · right
      have hn := none_of_no (fun h => hs (h2.2 h))
      rcases hB with ⟨_, a, j, b, hf, _⟩ | ⟨h, _⟩
      · exact (hf.not_none hn).elim
      · exact h

/-- What Find returns, in one form. -/
theorem find_uni (b off n cap b' off' n' cap' : Nat) (p q : List Nat) (w : World) (hS : Sl .i64 w (some ⟨b, off, none⟩) n p) (hT : Sl .i64 w (some ⟨b', off', none⟩) n' q) (hp : IsPerm p) (hq : IsPerm q) (hn : n ≤ 60) (h0 : 0 < n) (hn' : n' ≤ 6) (h0' : 0 < n') :
    Calls Try.prog 22 #[.slice (some ⟨b, off, none⟩) n cap, .slice (some ⟨b', off', none⟩) n' cap'] w fun e w' => ∃ A m c, e = .returned (.tuple #[.slice A m c, .bool (occ p q).isSome, .int .i64 0]) ∧ Sl .i64 w' A m ((occ p q).getD []) ∧ Below w.heap.size w w' :=
  (find_any b off n cap b' off' n' cap' p q w hS hT hp hq hn h0 hn' h0').mono fun e w' ⟨h, hb⟩ => by
    rcases h with ⟨ho, he⟩ | ⟨r, g, c, ho, he, hs⟩
    · rw [ho]; exact ⟨_, _, _, he, Sl.nil, hb⟩
    · rw [ho]; exact ⟨_, _, _, he, hs, hb⟩

theorem lit_at (W : World) (l : List Nat) (hl : l.length ≤ 1000) (a : Nat) (ha : W.heap.size = a) : Sl .i64 (W.alloc (.cells (cellsOf .i64 l) 3)) (some ⟨a, 0, none⟩) l.length l := by
  subst ha
  exact Sl.of_blk (Blk.new W 3 (cellsOf .i64 l)) rfl (by omega)

theorem perm120 : IsPerm [1, 2, 0] := isPerm_of (by decide)
theorem perm2031 : IsPerm [2, 0, 3, 1] := isPerm_of (by decide)

set_option maxRecDepth 100000 in
set_option maxHeartbeats 4000000 in
theorem permKnuth_walk (A : Option Addr) (n cap : Nat) (w : World) (h : Ints w A n) :
    Calls Try.prog 11 #[.slice A n cap] w fun e w' => e = .returned (.bool true) ∧ Below w.heap.size w w' := by
  have hN1 : 1 ≤ tameLen n 16 := by unfold tameLen; omega
  have hN2 : tameLen n 16 ≤ 60 := by unfold tameLen; omega
  have Htame := Lib.hid (tame_cap A n cap 16 w h (by omega))
  generalize tameLen n 16 = N at *
  go_enter Try.func11, Try.ntmps11
  go_wp2_with fail
  refine Htame.out.mono ?_
  rintro e w1 ⟨gp, cp, p, rfl, hS, hp, hgp, hcp, hb1⟩
  have hlen := hS.len
  subst hlen
  clear Htame
  have Hp := Lib.hid hp
  clear hp
  go_wp2_with fail
  refine (sort_any gp 0 p.length cp p w1 hS Hp.out hN2 hN1 hcp.1 hcp.2).mono ?_
  rintro e w2 ⟨rfl, hb2⟩
  have hS2 := hS.below hb2
  have hb2' := hb1.trans (hb2.mono hb1.size)
  clear hS hb1 hb2
  generalize hso : sortsB p = so
  have Hso := Lib.hid hso
  clear hso
  generalize sortStr p = sstr
  go_wp2_with fail
  have hq0 := below_new' w2 (.cells #[.int .i64 1, .int .i64 2, .int .i64 0] 3)
  refine (find_uni gp 0 p.length cp w2.heap.size 0 3 3 p [1, 2, 0] _ (hS2.below hq0) (lit_at w2 [1, 2, 0] (by decide) _ rfl) Hp.out perm120 hN2 hN1 (by omega) (by omega)).mono ?_
  rintro e w3 ⟨A3, m3, c3, rfl, -, hb3⟩
  have hb3 := hq0.trans (hb3.mono hq0.size)
  have hS3 := hS2.below hb3
  have hb3' := hb2'.trans (hb3.mono hb2'.size)
  clear hS2 hb3 hb2' hq0
  generalize hoa : (occ p [1, 2, 0]).isSome = oa
  have Hoa := Lib.hid hoa
  clear hoa
  go_wp2_with fail
  have hq0 := below_new' w3 (.cells #[.int .i64 1, .int .i64 3, .int .i64 0, .int .i64 2] 3)
  refine (find_uni gp 0 p.length cp w3.heap.size 0 4 4 p [1, 3, 0, 2] _ (hS3.below hq0) (lit_at w3 [1, 3, 0, 2] (by decide) _ rfl) Hp.out perm1302 hN2 hN1 (by omega) (by omega)).mono ?_
  rintro e w4 ⟨A4, m4, c4, rfl, -, hb4⟩
  have hb4 := hq0.trans (hb4.mono hq0.size)
  have hS4 := hS3.below hb4
  have hb4' := hb3'.trans (hb4.mono hb3'.size)
  clear hS3 hb4 hb3' hq0
  generalize hob : (occ p [1, 3, 0, 2]).isSome = ob
  have Hob := Lib.hid hob
  clear hob
  go_wp2_with fail
  have hq0 := below_new' w4 (.cells #[.int .i64 2, .int .i64 0, .int .i64 3, .int .i64 1] 3)
  refine (find_uni gp 0 p.length cp w4.heap.size 0 4 4 p [2, 0, 3, 1] _ (hS4.below hq0) (lit_at w4 [2, 0, 3, 1] (by decide) _ rfl) Hp.out perm2031 hN2 hN1 (by omega) (by omega)).mono ?_
  rintro e w5 ⟨A5, m5, c5, rfl, -, hb5⟩
  have hb5 := hq0.trans (hb5.mono hq0.size)
  have hS5 := hS4.below hb5
  have hb5' := hb4'.trans (hb5.mono hb4'.size)
  clear hS4 hb5 hb4' hq0
  generalize hoc : (occ p [2, 0, 3, 1]).isSome = oc
  have Hoc := Lib.hid hoc
  clear hoc
  go_wp2_with fail
  refine (blocksT_any gp 0 p.length cp p w5 hS5 Hp.out hN2 hN1 hcp.1 hcp.2).mono ?_
  rintro e w6 ⟨pa, pn, pc, A6, n6, c6, rfl, hT6, hb6⟩
  have hS6 := hS5.below hb6
  have hb6' := hb5'.trans (hb6.mono hb5'.size)
  have hsm := small_treeF p.length p.length p hN1 hN2
  have hbox := Blk.new w6 43 #[.int .i64 ((treeF p.length p).kind : Nat), .slice pa pn pc, .slice A6 n6 c6]
  have hbn := below_new' w6 (.cells #[.int .i64 ((treeF p.length p).kind : Nat), .slice pa pn pc, .slice A6 n6 c6] 43)
  have hT7 := TreeIn.keep (w := w6) (w' := w6.alloc (.cells #[.int .i64 ((treeF p.length p).kind : Nat), .slice pa pn pc, .slice A6 n6 c6] 43)) (fun g _ h2 => Below.heap_alloc _ _ _ h2) _ _ _ _ hT6
  clear hT6 hb6 hS5 hb5'
  go_wp2_with fail
  have hb7' := hb6'.trans (hbn.mono hb6'.size)
  refine (baxter_uni gp 0 p.length cp p _ (hS6.below hbn) Hp.out hN2 hN1).mono ?_
  rintro e w8 ⟨A8, m8, ok, l8, rfl, -, hB8, hb8⟩
  have hf := knuth_facts Hp.out hN1 hB8
  rw [Hso.out, Hoa.out, Hob.out, Hoc.out] at hf
  have hb8' := hb7'.trans (hb8.mono hb7'.size)
  have hT8 := hT7.keep (w' := w8) (fun g _ h2 => hb8.block g (by have := hbn.size; omega))
  have hblk8 : ∀ W, Below w8.heap.size w8 W → Blk W w6.heap.size 43 #[.int .i64 ((treeF p.length p).kind : Nat), .slice pa pn pc, .slice A6 n6 c6] := fun W hW =>
    (hW.block _ (by have := hb8.size; have := hbox.lt; omega)).trans ((hb8.block _ hbox.lt).trans hbox)
  have Hsimp := Lib.hid (fun W (hW : Below w8.heap.size w8 W) => simple_any p.length (treeF p.length p) pa pn pc A6 n6 c6 _ _ W (hT8.keep (w' := W) (fun g _ h2 => hW.block g (by have := hb8.size; have := hbn.size; omega))) (by have := hW.size; have := hb8.size; have := hbn.size; omega) hsm)
  have Hbel := Lib.hid hb8'
  have Hblk := Lib.hid hblk8
  obtain ⟨k0, k1, k2, -, -, -⟩ := blk_three (hblk8 w8 (Below.refl _ _))
  clear hT7 hT8 hblk8 hb8 hb8' hb7' hb6' hbn hbox hS6 hsm hB8 Hso Hoa Hob Hoc hgp hcp
  obtain ⟨hf1, hf2, hf3⟩ := hf
  generalize simpT p.length (treeF p.length p) = sb at *
  generalize (treeF p.length p).kind = tk at *
  subst hf1 hf2
  rcases hf3 with hf3 | rfl
  all_goals
    cases oa <;> cases ob <;> cases oc
  all_goals
    try (exact Bool.noConfusion hf3)
  all_goals
    try clear hf3
  all_goals
    go_wp2_with (first
      | (go_at_call 62; refine (Hsimp.out w8 (Below.refl _ _)).mono ?_; rintro e w9 ⟨rfl, hb9⟩; obtain ⟨q0, q1, q2, -, -, -⟩ := blk_three (Hblk.out w9 hb9))
      | (go_at_call 62; refine (Hsimp.out w9 hb9).mono ?_; rintro e w10 ⟨rfl, hb10⟩)
      | (go_at_call 23; refine (awake_any _).mono ?_; rintro e w11 ⟨rfl, hb11⟩))
    go_ret
    have hb9' := Hbel.out.trans (hb9.mono Hbel.out.size)
    have hb10' := hb9'.trans (hb10.mono hb9'.size)
    exact ⟨rfl, hb10'.trans (hb11.mono hb10'.size)⟩

end Go.Proofs.Ytcklgdcjedikoaa
