/-
  FracMakes: for every two numbers the statement's function returns true, and its arguments read as before. No condition but what the card lists of the program's own tables. Ahead of it: the walk of the statement's function.
-/
import Derived.Test.YtgdonbnolebhbaaGreatDoorAwk
import Derived.Test.YtgdonbnolebhbaaGreatDoorRfH
import Derived.Test.YtgdonbnolebhbaaGreatDoorCards
import Derived.Test.YtgdonbnolebhbaaGreatDoorTie
import Derived.WalkKit
import Derived.ProofKit
import Derived.OpenShut
import Derived.ChangeOld
import Derived.HandedShaped
import Derived.Below
import Derived.LaidMore
import Derived.Lay
import Derived.SevenTiedAt
import Derived.Lib.LaidTab
import Derived.Lib.LaidU8
set_option linter.unusedVariables false
namespace Go.Proofs.YtgdonbnolebhbaaGreatDoor
open Go.RowKit

theorem limbs_i64 {x : Nat} (h : x ≤ 9223372036854775808) : limbs x ≤ 3 := limbs_le_three (by omega)
theorem decQ_int (m : Int) : decQ (m : Rat) = decZ m := by
  unfold decQ
  rw [Rat.num_intCast, Rat.den_intCast, if_pos rfl, List.append_nil]
theorem denN_le (d : Nat) : denN d ≤ d := by unfold denN; split <;> omega
theorem ratio_small (m n : Int) (hn0 : n ≠ 0) (hm : m.natAbs ≤ 9223372036854775808) (hn : n.natAbs ≤ 9223372036854775808) :
    ((m : Rat) * (n : Rat)⁻¹).num.natAbs ≤ 9223372036854775808 ∧ ((m : Rat) * (n : Rat)⁻¹).den ≤ 9223372036854775808 := by
  obtain ⟨h1, h2⟩ := ratio_parts m n hn0
  rw [h1, h2]
  have ha := Nat.div_le_self m.natAbs (Nat.gcd m.natAbs n.natAbs)
  have hb := Nat.div_le_self n.natAbs (Nat.gcd m.natAbs n.natAbs)
  have := qZ_abs m (Nat.gcd m.natAbs n.natAbs)
  refine ⟨?_, by omega⟩
  split
  · rw [Int.natAbs_neg, this]; omega
  · rw [this]; omega

set_option maxRecDepth 100000 in
set_option maxHeartbeats 3200000 in
theorem fracMakes_walk (m n : Int) (tt : TypeId) (fr : Nat × Nat) (w : World) (hg : w.heap[1]? = some (.cells gapC tt fr)) (hm : -9223372036854775808 ≤ m ∧ m ≤ 9223372036854775807) (hn : -9223372036854775808 ≤ n ∧ n ≤ 9223372036854775807) :
    Calls Tryz.prog 3 #[.int .i64 m, .int .i64 n] w (fun e w' => e = .returned (.bool true) ∧ Below w.heap.size w w') := by
  have l1 : 1 < w.heap.size := (Array.getElem?_eq_some_iff.1 hg).1
  have hma : m.natAbs ≤ 9223372036854775808 := by omega
  have hna : n.natAbs ≤ 9223372036854775808 := by omega
  have hml : limbs m.natAbs ≤ 3 := limbs_i64 hma
  have hnl : limbs n.natAbs ≤ 3 := limbs_i64 hna
  have Haw := Lib.hid (fun X (hX : Below w.heap.size w X) => awake_any tt fr X ((hX.block 1 l1).trans hg))
  have Hwh := Lib.hid (fun X => whole_any m X hm.1 hm.2)
  have Hom := Lib.hid (fun X => rof_any m X hm.1 hm.2)
  have Hon := Lib.hid (fun X => rof_any n X hn.1 hn.2)
  have Hfo := Lib.hid (fun X => of_any m (m : Rat) ⟨Rat.num_intCast m, Rat.den_intCast m⟩ X hm.1 hm.2)
  obtain ⟨r, hr⟩ : ∃ r, (m : Rat) * (n : Rat)⁻¹ = r := ⟨_, rfl⟩
  have hmk := fun X => make_any m n X hm hn
  simp only [hr] at hmk
  have Hmk := Lib.hid hmk
  have Hlw := Lib.hid (fun A B (a b b' : Nat) X (h : Dg X A a m.natAbs) (k : Nd X B b b' m.natAbs) => lawWhole_any m A B a b b' X h k (by rw [← h.len]; omega) (by rw [← k.len]; omega))
  have Hqs := Lib.hid (fun A B (a b : Nat) X (h : Rg X A a B b (m : Rat)) => show Calls Tryz.prog 8 #[ratV (m : Rat) A a B b] X (fun e w' => e = .returned (.string (strL (decZ m))) ∧ Below X.heap.size X w') from by
    have := ratString_any (m : Rat) A B a b X h (by rw [← h.num.len, Rat.num_intCast]; omega) (by rw [← h.den.len, Rat.den_intCast]; decide)
    rwa [decQ_int] at this)
  have Hzs := Lib.hid (fun A (a a' : Nat) X (h : Nd X A a a' m.natAbs) => rstring_any m A a a' X h (by rw [← h.len]; omega))
  clear hg hm hn hmk
  have Hra0 := Lib.hid (fun A B (a b c d : Nat) X (h : Nd X A a c m.natAbs) (k : Nd X B b d n.natAbs) (hn0 : n ≠ 0) => rratio_any m n A B a b c d X h k hn0 (by rw [← h.len]; omega) (by rw [← k.len]; omega))
  rw [hr] at Hra0
  have Hrs := Lib.hid (fun hn0 => ratio_small m n hn0 hma hna)
  rw [hr] at Hrs
  clear hr
  generalize (m : Rat) = q0 at *
  generalize strL (decZ m) = sm at *
  go_enter Tryz.func3, Tryz.ntmps3
  go_wp2_with fail
  refine (Hwh.out _).mono ?_
  rintro e w1 ⟨A, a, rfl, hd1, hb1⟩
  go_wp2_with fail
  refine (Hom.out _).mono ?_
  rintro e w2 ⟨B, b, b', rfl, hN2, hb2⟩
  have Hlw1 := Lib.hid (Hlw.out A B a b b' w2 (hd1.below hb2) hN2)
  clear Hlw hd1 Hwh hN2
  go_wp2_with fail
  refine Hlw1.out.mono ?_
  rintro e w3 ⟨rfl, hb3⟩
  go_wp2_with fail
  refine (Hfo.out _).mono ?_
  rintro e w4 ⟨C, c, D, d, rfl, hr4, hb4⟩
  have Hqs1 := Lib.hid (Hqs.out C D c d w4 hr4)
  clear Hqs Hfo Hlw1
  go_wp2_with fail
  refine Hqs1.out.mono ?_
  rintro e w5 ⟨rfl, hb5⟩
  go_wp2_with fail
  refine (Hom.out _).mono ?_
  rintro e w6 ⟨E, e1, e2, rfl, hN6, hb6⟩
  have Hzs1 := Lib.hid (Hzs.out E e1 e2 w6 hN6)
  clear Hzs hN6 hr4 Hqs1
  go_wp2_with fail
  refine Hzs1.out.mono ?_
  rintro e w7 ⟨rfl, hb7⟩
  clear Hzs1
  have hB7 : Below w.heap.size w w7 := (((((hb1.and hb2).and hb3).and hb4).and hb5).and hb6).and hb7
  clear hb1 hb2 hb3 hb4 hb5 hb6 hb7
  go_upto_region 3 with fail
  have Hmk1 := Lib.hid (Hmk.out w7)
  clear Hmk
  by_cases hn0 : n = 0
  · rw [if_pos hn0] at Hmk1
    subst hn0
    go_wp2_with fail
    refine Hmk1.out.mono ?_
    rintro e w8 ⟨F, f, G, g, rfl, hr8, hb8⟩
    have hsg := fun X (hX : Below w8.heap.size w8 X) => ratSign_any F G f g 0 X (hr8.below hX)
    unfold ratV at *
    rw [show decide ((0 : Rat).num < 0) = false by decide, show (0 : Rat).num.sign = 0 by decide] at hsg
    rw [show decide ((0 : Rat).num < 0) = false by decide]
    have Hsg := Lib.hid hsg
    clear hsg
    go_upto_region 4 with fail
    obtain ⟨W1, hW1⟩ : ∃ W1, W1 = w8.alloc (.cells #[.bool false, .slice F f f, .slice G g g] 34) := ⟨_, rfl⟩
    have hk1 : Blk W1 w8.heap.size 34 #[.bool false, .slice F f f, .slice G g g] := by rw [hW1]; exact Blk.new _ _ _
    have hb1' : Below w8.heap.size w8 W1 := by rw [hW1]; exact below_new _ _
    have Hsg1 := Lib.hid (Hsg.out _ hb1')
    obtain ⟨c0, c1, c2, -, -, -⟩ := hk1.three
    rw [← hW1]
    clear hW1 Hsg
    go_wp2_with fail
    refine Hsg1.out.mono ?_
    rintro e w9 ⟨rfl, hb9⟩
    have Haw1 := Lib.hid (Haw.out w9 (((hB7.and hb8).and hb1').and hb9))
    go_wp2_with fail
    refine Haw1.out.mono ?_
    rintro e w10 ⟨rfl, hb10⟩
    go_wp2_with fail
    go_ret
    exact ⟨rfl, (((hB7.and hb8).and hb1').and hb9).and hb10⟩
  · rw [if_neg hn0] at Hmk1
    obtain ⟨hs1, hs2⟩ := Hrs.out hn0
    have hl1 := limbs_i64 hs1
    have hl2 := limbs_i64 hs2
    have hl3 : limbs (denN r.den) ≤ 3 := limbs_i64 (Nat.le_trans (denN_le _) hs2)
    have Hra := Lib.hid (fun A B a b c d X h k => Hra0.out A B a b c d X h k hn0)
    have Hn0 := Lib.hid hn0
    clear hs1 hs2 hn0 Hrs Hra0
    go_wp2_with fail
    refine Hmk1.out.mono ?_
    rintro e w8 ⟨F, f, G, g, rfl, hr8, hb8⟩
    have hf : f ≤ 3 := by rw [← hr8.num.len]; exact hl1
    have hg : g ≤ 3 := by rw [← hr8.den.len]; exact hl3
    have Hsi := Lib.hid (fun A' B' (n' c' m' d' : Nat) X (hX : Below w8.heap.size w8 X) (k : Nd X A' n' c' r.num.natAbs) (k' : Nd X B' m' d' r.den) => is_any r F G f g A' B' n' c' m' d' X (hr8.below hX) k k' (by omega) (by omega) (by rw [← k.len]; omega) (by rw [← k'.len]; omega))
    unfold ratV at *
    go_upto_region 4 with fail
    obtain ⟨W1, hW1⟩ : ∃ W1, W1 = w8.alloc (.cells #[.bool (decide (r.num < 0)), .slice F f f, .slice G g g] 34) := ⟨_, rfl⟩
    have hk1 : Blk W1 w8.heap.size 34 #[.bool (decide (r.num < 0)), .slice F f f, .slice G g g] := by rw [hW1]; exact Blk.new _ _ _
    have hb1' : Below w8.heap.size w8 W1 := by rw [hW1]; exact below_new _ _
    rw [← hW1]
    obtain ⟨gM, hgM⟩ : ∃ gM, w8.heap.size = gM := ⟨_, rfl⟩
    have Hcell := Lib.hid (fun X (hX : Below W1.heap.size W1 X) => show X.cell? ⟨gM, 0, none⟩ = some (.bool (decide (r.num < 0))) ∧ X.cell? ⟨gM, 1, none⟩ = some (.slice F f f) ∧ X.cell? ⟨gM, 2, none⟩ = some (.slice G g g) from by
      have := hk1.keep hX
      rw [hgM] at this
      exact ⟨this.cell 0, this.cell 1, this.cell 2⟩)
    have HB8 := Lib.hid ((hB7.and hb8).and hb1')
    have Hsi1 := Lib.hid (fun A' B' (n' c' m' d' : Nat) X (hX : Below W1.heap.size W1 X) => Hsi.out A' B' n' c' m' d' X (hb1'.and hX))
    have hB := Below.refl W1.heap.size W1
    obtain ⟨c0, c1, c2⟩ := Hcell.out _ hB
    rw [hgM]
    clear hW1 hk1 hgM hB7 hb8 hr8 Hsi Hmk1 hb1'
    have hn0 := Hn0.out
    go_upto_region 6 with fail
    clear hn0
    unfold RetZ at *
    generalize decide (r.num < 0) = br at *
    go_region_held3 (fun w' => w'.cell? ⟨gM, 0, none⟩ = some (.bool br) ∧ w'.cell? ⟨gM, 1, none⟩ = some (.slice F f f) ∧ w'.cell? ⟨gM, 2, none⟩ = some (.slice G g g))
      (first | exact Hcell.out _ hB | exact Hcell.out _ (Below.drew hB))
      (first
      | (go_at_call_of 6 (Value.int IntKind.i64 n); refine (Hon.out _).mono ?_; rintro e w10 ⟨K, k, k', rfl, hNn, hb10⟩; have hNm := Nd.below hNm hb10; have hB := Below.and hB hb10)
      | (go_at_call_of 6 (Value.int IntKind.i64 m); refine (Hom.out _).mono ?_; rintro e w9 ⟨J, j, j', rfl, hNm, hb9⟩; (first | (have hB := Below.and (Below.drew hB) hb9) | (have hB := Below.and hB hb9)))
      | (go_at_call 14; refine (Hra.out _ _ _ _ _ _ _ hNm hNn).mono ?_; rintro e w11 ⟨M, mm, mc, N, nn, nc, rfl, hM, hN, hb11⟩; have hB := Below.and hB hb11)
      | (go_at_call 13; refine (Hsi1.out _ _ _ _ _ _ _ hB hM hN).mono ?_; rintro e w12 ⟨rfl, hb12⟩; have hB := Below.and hB hb12)
      | (go_at_call 12; refine (Haw.out _ (HB8.out.and hB)).mono ?_; rintro e w13 ⟨rfl, hb13⟩; have hB := Below.and hB hb13))
    all_goals
      go_wp2_with fail
      go_ret
      exact ⟨rfl, HB8.out.and hB⟩
end Go.Proofs.YtgdonbnolebhbaaGreatDoor

namespace Go.Proofs.YtgdonbnolebhbaaGreatDoor.fracMakes
open Go.ChangeShapes Go.WideShapes Go.ChangeAt Go.RowKit

theorem own_knob : ownKnob Tryz.prog.godebug = none := by kernel_rfl
theorem laid_out : laidOutB Tryz.prog = true := by kernel_rfl
def gaps : List Int := [11, 33, 123, 137, 171, 251, 263, 291, 363, 369, 387, 399, 431, 461, 471, 497, 513, 537, 557, 581, 591, 629, 641, 669]
theorem gaps_data : (Rows.laid_rabbet_frac_primeGaps : DataW Unit) = Lib.tabData .u64 gaps := by kernel_rfl
theorem gaps_cells : (gaps.map fun z => Value.int .u64 z).toArray = gapC := by kernel_rfl
theorem gaps_at {W : World} (hL : laidMetH Tryz.prog Rows.fracMakesRow.laid W) : ∃ tt fr, W.heap[1]? = some (.cells gapC tt fr) := by
  rw [MakeChecks.laidMetH_plain _ _ _ (by kernel_rfl)] at hL
  obtain ⟨g, t, cs, fuel, p, hg, hty, hvar, hd⟩ := Lib.laidMet.reads (n := "rabbet/frac.primeGaps") (d := Rows.laid_rabbet_frac_primeGaps) hL (.tail _ (.tail _ (.head _)))
  have hg1 : Tryz.prog.globalNamed "rabbet/frac.primeGaps" = some 1 := by kernel_rfl
  have ht1 : (Tryz.prog.globals[1]?).map (·.type) = some 148 := by kernel_rfl
  obtain rfl := Option.some.inj (hg1.symm.trans hg)
  obtain rfl := Option.some.inj (ht1.symm.trans hty)
  rw [gaps_data] at hd
  have hcs := Lib.cells_of_tab Tryz.underlying148 Tryz.underlying50 (by kernel_rfl) (by kernel_rfl) hd
  have hc : cs = gapC := by rw [← gaps_cells, ← hcs]
  subst hc
  unfold World.var? at hvar
  rw [hg1] at hvar
  simp only [Option.bind_some] at hvar
  split at hvar
  · rename_i cs tt fr he
    obtain rfl := Option.some.inj hvar
    exact ⟨tt, fr, he⟩
  · cases hvar
theorem i64_bounds {z : Int} (h : (Lit.int .i64 z).wf = true) : -9223372036854775808 ≤ z ∧ z ≤ 9223372036854775807 := by
  simpa [Lit.wf, IntKind.min, IntKind.max, IntKind.signed, IntKind.bits] using h

set_option maxRecDepth 100000 in
set_option maxHeartbeats 400000 in
theorem lifted (os : Os) (started : os.Started) (H : Type) (enc : TypeId × Value → H) :
    ReturnsInHanded {} Tryz.checked os 3 .any (fun w args => (Rows.fracMakesSpec.pre enc Tryz.prog Tryz.f3 Rows.fracMakesRow.domain false w args ∧ laidMetH Tryz.prog Rows.fracMakesRow.laid w) ∧ sizedMet enc Tryz.prog Tryz.f3 (OpenSpec.ofChange Rows.fracMakesSpec) false w args)
      (Rows.fracMakesSpec.post enc Tryz.prog Tryz.f3 false true false false) := by
  refine returnsInHanded_of_calls (C := Tryz.checked) own_knob started (by kernel_rfl)
    (ChangeSpec.witness_shaped (enc := enc) (C := Tryz.checked) (os := os) (X := fun w _ => laidMetH Tryz.prog Rows.fracMakesRow.laid w) false (World.laidAll Tryz.prog os Rows.fracMakesRow.laid) #[.int .i64 0, .int .i64 0] 8 (World.laidAll_os _ _ _)
      (World.shaped_of_ZipB (by kernel_rfl) (by kernel_rfl)) (by kernel_rfl) (by kernel_rfl) (by kernel_rfl)
      (by rw [MakeChecks.laidMetH_plain _ _ _ (by kernel_rfl)]; exact laidMet_laidAll _ (by kernel_rfl) (by kernel_rfl))) ?_
  intro w tape i _ hsh _ hok hpre _
  obtain ⟨_, _, _, fn, hfn, _, _, _, _, hval0⟩ := hok
  obtain rfl : fn = Tryz.f3 := Option.some.inj (hfn.symm.trans Tryz.func3)
  obtain ⟨⟨⟨ds, gs, before, hw, _⟩, hL⟩, _⟩ := hpre
  have hW := DataW.Whole.of_heap (w' := w.forCall tape i) (by rfl) hw
  obtain ⟨tt, fr, hg0⟩ := gaps_at hL
  have hg : (w.forCall tape i).heap[1]? = some (.cells gapC tt fr) := hg0
  generalize w.forCall tape i = W at *
  generalize i.args = args at *
  suffices hmain : Calls Tryz.prog 3 args W fun e W' => ∃ v, e = .returned v ∧ Rows.fracMakesSpec.post enc Tryz.prog Tryz.f3 false true false false W args v W' by
    refine hmain.mono fun e W' ⟨v, he, hp⟩ => ?_
    subst he
    exact ChangeSpec.post_blind hp
  have hval : ∀ (j : Nat) t v, Tryz.f3.params[j]? = some t → args[j]? = some v → Value.okWide Tryz.prog W .any w.heap.size t v := hval0
  have hW' := hW
  obtain ⟨p, q, hA0, hV, rfl, hfz, hnd⟩ := hW
  have hA : DataW.TrodAll enc Tryz.prog W 0 (fun _ => true) true Tryz.f3.params.toList args.toList ds p := hA0
  rw [Tryz.params3] at hA hval
  obtain ⟨v0, vs0, d0, ds0, p0, q0, hargs, rfl, rfl, h0, r0⟩ := trodAll_cons hA
  obtain ⟨v1, vs1, d1, ds1, p1, q1, rfl, rfl, rfl, h1, r1⟩ := trodAll_cons r0
  obtain ⟨rfl, rfl, rfl⟩ := trodAll_nil r1
  obtain rfl : args = #[v0, v1] := by cases args; simp_all
  obtain ⟨rfl, rfl⟩ := trodVars_none hV
  obtain ⟨m, rfl, rfl, rfl, w0⟩ := open_int Tryz.underlying2 (hval 0 2 v0 rfl rfl) h0
  obtain ⟨n, rfl, rfl, rfl, w1⟩ := open_int Tryz.underlying2 (hval 1 2 v1 rfl rfl) h1
  clear hA0 hval0
  refine (fracMakes_walk m n tt fr W hg (i64_bounds w0) (i64_bounds w1)).mono fun e W' ⟨he, bel⟩ => ?_
  subst he
  exact ⟨_, rfl, _, _, _, [], _, [], hW', trodAll_mk1 (shut_bool Tryz.underlying4 _), (trodAll_cons_mk (shut_int Tryz.underlying2 w0) (trodAll_cons_mk (shut_int Tryz.underlying2 w1) trodAll_mk0)), rfl, bel.frame _, fun h => by cases h⟩

theorem over : Rows.FracMakesSaid :=
  OpenClaim.holds_of_wide 3 Tryz.f3 rfl rfl rfl rfl rfl rfl rfl ⟨rfl, rfl, rfl, rfl, rfl⟩ rfl rfl rfl rfl rfl (by kernel_rfl) Tryz.func3 (by kernel_rfl)
    (of_decide_eq_true (by kernel_rfl)) (by unfold Func.isWrapper; first | (rw [if_pos (by decide +kernel)]; kernel_rfl) | (rw [if_neg (by decide +kernel)]; exact ⟨rfl, rfl⟩))
    (fun os started H enc _ => lifted os started H enc)

theorem card : Rows.FracMakesCardSaid :=
  Claim7.holds_tied_plain_at .later [] [.data, .data, .data] true (true, "b91f2cf659a1fbc26d2c5baab006a522806c5b96b477906524ebeed3d3324dd1") false over (fun _ h => by cases h) (by kernel_rfl) (fun _ h => by cases h) fracMakes_row_tie rfl ⟨rfl, rfl⟩ (by kernel_rfl) rfl
    (fun f fn hf hfn => by
      obtain rfl : f = 3 := Option.some.inj ((show Tryz.prog.funcNamed "rabbet/rabbetlaw01.FracMakes" = some 3 by kernel_rfl).symm.trans hf) |>.symm
      obtain rfl : fn = Tryz.f3 := (Option.some.inj (Tryz.func3.symm.trans hfn)).symm
      exact ⟨by kernel_rfl, fun j t ht => by
        rw [Tryz.params3] at ht
        have hm : t ∈ [2] := by
          have := Array.mem_of_getElem? ht
          simpa using this
        have hall : ([2].all fun u => !Tryz.prog.wantsStandIn u) = true := by kernel_rfl
        exact (show Tryz.prog.wantsStandIn t = false by simpa using List.all_eq_true.1 hall t hm)⟩)
    (by kernel_rfl)
end Go.Proofs.YtgdonbnolebhbaaGreatDoor.fracMakes

namespace Go.Proofs.YtgdonbnolebhbaaGreatDoor
theorem fracMakes_proved : Rows.FracMakesCardSaid := fracMakes.card
#print axioms fracMakes_proved
end Go.Proofs.YtgdonbnolebhbaaGreatDoor
