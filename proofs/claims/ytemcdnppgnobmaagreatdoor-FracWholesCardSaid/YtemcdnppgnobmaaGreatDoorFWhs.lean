/-
  FracWholes: for every two strings the statement's function returns true, and its arguments read as before. No condition but what the card lists of the program's own tables.
-/
import Derived.Test.YtemcdnppgnobmaaGreatDoorCards
import Derived.Test.YtemcdnppgnobmaaGreatDoorTie
import Derived.Test.YtemcdnppgnobmaaGreatDoorWhs
import Derived.WalkKit
import Derived.ProofKit
import Derived.OpenShut
import Derived.ShutString
import Derived.ChangeOld
import Derived.HandedShaped
import Derived.Handed
import Derived.Below
import Derived.LaidMore
import Derived.Lay
import Derived.SevenTiedAt
import Derived.Lib.LaidTab
import Derived.Lib.LaidU8
namespace Go.Proofs.YtemcdnppgnobmaaGreatDoor.fracWholes
open Go.ChangeShapes Go.WideShapes Go.ChangeAt Go.RowKit
open Go.ChangeMaps (open_string shut_string)
set_option linter.unusedVariables false

theorem own_knob : ownKnob Tryz.prog.godebug = none := by kernel_rfl
theorem laid_out : laidOutB Tryz.prog = true := by kernel_rfl
def gaps : List Int := [11, 33, 123, 137, 171, 251, 263, 291, 363, 369, 387, 399, 431, 461, 471, 497, 513, 537, 557, 581, 591, 629, 641, 669]
theorem gaps_data : (Rows.laid_rabbet_frac_primeGaps : DataW Unit) = Lib.tabData .u64 gaps := by kernel_rfl
theorem gaps_cells : (gaps.map fun z => Value.int .u64 z).toArray = gapC := by kernel_rfl
theorem gaps_at {W : World} (hL : laidMetH Tryz.prog Rows.fracWholesRow.laid W) : ∃ tt fr, W.heap[1]? = some (.cells gapC tt fr) := by
  rw [MakeChecks.laidMetH_plain _ _ _ (by kernel_rfl)] at hL
  obtain ⟨g, t, cs, fuel, p, hg, hty, hvar, hd⟩ := Lib.laidMet.reads (n := "rabbet/frac.primeGaps") (d := Rows.laid_rabbet_frac_primeGaps) hL (.tail _ (.tail _ (.head _)))
  have hg1 : Tryz.prog.globalNamed "rabbet/frac.primeGaps" = some 1 := by kernel_rfl
  have ht1 : (Tryz.prog.globals[1]?).map (·.type) = some 163 := by kernel_rfl
  obtain rfl := Option.some.inj (hg1.symm.trans hg)
  obtain rfl := Option.some.inj (ht1.symm.trans hty)
  rw [gaps_data] at hd
  have hcs := Lib.cells_of_tab Tryz.underlying163 Tryz.underlying81 (by kernel_rfl) (by kernel_rfl) hd
  have hc : cs = gapC := by rw [← gaps_cells, ← hcs]
  subst hc
  unfold World.var? at hvar
  rw [hg1] at hvar
  simp only [Option.bind_some] at hvar
  split at hvar
  · rename_i cs tt fr he
    obtain rfl := Option.some.inj hvar
    exact ⟨tt, fr, he⟩
  · cases hvar
set_option maxRecDepth 100000 in
set_option maxHeartbeats 400000 in
theorem lifted (os : Os) (started : os.Started) (H : Type) (enc : TypeId × Value → H) :
    ReturnsInHanded {} Tryz.checked os 3 .any (fun w args => (Rows.fracWholesSpec.pre enc Tryz.prog Tryz.f3 Rows.fracWholesRow.domain false w args ∧ laidMetH Tryz.prog Rows.fracWholesRow.laid w) ∧ sizedMet enc Tryz.prog Tryz.f3 (OpenSpec.ofChange Rows.fracWholesSpec) false w args)
      (Rows.fracWholesSpec.post enc Tryz.prog Tryz.f3 false true false false) := by
  refine returnsInHanded_of_calls (C := Tryz.checked) own_knob started (by kernel_rfl)
    (ChangeSpec.witness_shaped (enc := enc) (C := Tryz.checked) (os := os) (X := fun w _ => laidMetH Tryz.prog Rows.fracWholesRow.laid w) false (World.laidAll Tryz.prog os Rows.fracWholesRow.laid) #[.string ⟨#[]⟩, .string ⟨#[]⟩] 8 (World.laidAll_os _ _ _)
      (World.shaped_of_ZipB (by kernel_rfl) (by kernel_rfl)) (by kernel_rfl) (by kernel_rfl) (by kernel_rfl)
      (by rw [MakeChecks.laidMetH_plain _ _ _ (by kernel_rfl)]; exact laidMet_laidAll _ (by kernel_rfl) (by kernel_rfl))) ?_
  intro w tape i _ hsh _ hok hpre _
  obtain ⟨_, _, _, fn, hfn, _, _, _, _, hval0⟩ := hok
  obtain rfl : fn = Tryz.f3 := Option.some.inj (hfn.symm.trans Tryz.func3)
  obtain ⟨⟨⟨ds, gs, before, hw, _⟩, hL⟩, hsz⟩ := hpre
  have hwt := hsz.weights hw
  have hW := DataW.Whole.of_heap (w' := w.forCall tape i) (by rfl) hw
  obtain ⟨tt, fr, hg0⟩ := gaps_at hL
  have hg : (w.forCall tape i).heap[1]? = some (.cells gapC tt fr) := hg0
  generalize w.forCall tape i = W at *
  generalize i.args = args at *
  suffices hmain : Calls Tryz.prog 3 args W fun e W' => ∃ v, e = .returned v ∧ Rows.fracWholesSpec.post enc Tryz.prog Tryz.f3 false true false false W args v W' by
    refine hmain.mono fun e W' ⟨v, he, hp⟩ => ?_
    subst he
    exact ChangeSpec.post_blind hp
  have hval : ∀ (j : Nat) t v, Tryz.f3.params[j]? = some t → args[j]? = some v → Value.okWide Tryz.prog W .any w.heap.size t v := hval0
  have hW' := hW
  obtain ⟨p, q, hA0, hV, rfl, hfz, hnd⟩ := hW
  have hA : DataW.TrodAll enc Tryz.prog W 0 (fun _ => true) true Tryz.f3.params.toList args.toList ds p := hA0
  rw [Tryz.params3] at hA hval
  obtain ⟨v0, vs0, d0, ds0, p0, q0, hargs, rfl, rfl, h0, r0⟩ := trodAll_cons hA
  obtain ⟨v1, vs1, d1, ds1, p1, q1, rfl, rfl, rfl, h1, r1⟩ := trodAll_cons r0
  obtain ⟨rfl, rfl, rfl⟩ := trodAll_nil r1
  obtain rfl : args = #[v0, v1] := by cases args; simp_all
  obtain ⟨rfl, rfl⟩ := trodVars_none hV
  have lt0 : ∀ x ∈ p0, x.block < W.heap.size := by obtain ⟨m, hm⟩ := h0; exact DataW.trod_lt m _ _ _ hm
  have lt1 : ∀ x ∈ p1, x.block < W.heap.size := by obtain ⟨m, hm⟩ := h1; exact DataW.trod_lt m _ _ _ hm
  obtain ⟨s0, e0, j0, k0, w0⟩ := open_string Tryz.underlying9 (hval 0 9 v0 rfl rfl) h0
  subst e0
  obtain ⟨s1, e1, j1, k1, w1⟩ := open_string Tryz.underlying9 (hval 1 9 v1 rfl rfl) h1
  subst e1
  clear hA0 hval0
  subst j0 j1
  rw [Tryz.params3] at hwt
  simp only [List.cons_append, List.nil_append, DataW.weightsEach, DataW.weights, List.all_cons, Bool.and_eq_true, decide_eq_true_eq] at hwt
  have hb0 : s0.size ≤ 140737488351232 := hwt.1
  have hb1 : s1.size ≤ 140737488351232 := hwt.2.1
  refine (fracWholes_walk s0 s1 tt fr W hg hb0 hb1).mono fun e W' ⟨he, bel⟩ => ?_
  subst he
  exact ⟨_, rfl, _, _, _, [], _, [], hW', trodAll_mk1 (shut_bool Tryz.underlying4 _), (trodAll_cons_mk (Below.trod laid_out (by kernel_rfl) (of_decide_eq_true (by kernel_rfl)) h0 bel lt0) (trodAll_cons_mk (Below.trod laid_out (by kernel_rfl) (of_decide_eq_true (by kernel_rfl)) h1 bel lt1) trodAll_mk0)), rfl, bel.frame _, fun h => by cases h⟩

theorem over : Rows.FracWholesSaid :=
  OpenClaim.holds_of_wide 3 Tryz.f3 rfl rfl rfl rfl rfl rfl rfl ⟨rfl, rfl, rfl, rfl, rfl⟩ rfl rfl rfl rfl rfl (by kernel_rfl) Tryz.func3 (by kernel_rfl)
    (of_decide_eq_true (by kernel_rfl)) (by unfold Func.isWrapper; first | (rw [if_pos (by decide +kernel)]; kernel_rfl) | (rw [if_neg (by decide +kernel)]; exact ⟨rfl, rfl⟩))
    (fun os started H enc _ => lifted os started H enc)

theorem card : Rows.FracWholesCardSaid :=
  Claim7.holds_tied_plain_at .later [] [.data, .data, .data] true (true, "619d332e3cd445c034a96733ea42a48a4c5db9318aeef3394d9327290e778c3f") false over (fun _ h => by cases h) (by kernel_rfl) (fun _ h => by cases h) fracWholes_row_tie rfl ⟨rfl, rfl⟩ (by kernel_rfl) rfl
    (fun f fn hf hfn => by
      obtain rfl : f = 3 := Option.some.inj ((show Tryz.prog.funcNamed "rabbet/rabbetlaw01.FracWholes" = some 3 by kernel_rfl).symm.trans hf) |>.symm
      obtain rfl : fn = Tryz.f3 := (Option.some.inj (Tryz.func3.symm.trans hfn)).symm
      exact ⟨by kernel_rfl, fun j t ht => by
        rw [Tryz.params3] at ht
        have hm : t ∈ [9] := by
          have := Array.mem_of_getElem? ht
          simpa using this
        have hall : ([9].all fun u => !Tryz.prog.wantsStandIn u) = true := by kernel_rfl
        exact (show Tryz.prog.wantsStandIn t = false by simpa using List.all_eq_true.1 hall t hm)⟩)
    (by kernel_rfl)
end Go.Proofs.YtemcdnppgnobmaaGreatDoor.fracWholes

namespace Go.Proofs.YtemcdnppgnobmaaGreatDoor
theorem fracWholes_proved : Rows.FracWholesCardSaid := fracWholes.card
#print axioms fracWholes_proved
end Go.Proofs.YtemcdnppgnobmaaGreatDoor
