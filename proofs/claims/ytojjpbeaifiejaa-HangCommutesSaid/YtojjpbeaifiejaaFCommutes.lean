/-
  HangCommutes: for all two strings and every three numbers the statement's function returns true, and its arguments read as before. No condition.
-/
import Derived.Test.YtojjpbeaifiejaaRow
import Derived.Test.YtojjpbeaifiejaaPComm
namespace Go.Proofs.Ytojjpbeaifiejaa.hangCommutes
open Go.ChangeShapes Go.WideShapes Go.ChangeAt Go.RowKit Go.Joins
open Go.ChangeMaps (open_string shut_string)
set_option linter.unusedVariables false

theorem cells_triple : Try.prog.cellsOf 63 = 3 := by kernel_rfl
theorem cells_int : Try.prog.cellsOf 3 = 1 := by kernel_rfl
theorem list3 {α : Type} (l : List α) (h : (⟨l⟩ : Array α).size = 3) : ∃ a b c, l = [a, b, c] := by
  match l, h with
  | [a, b, c], _ => exact ⟨a, b, c, rfl⟩

set_option maxRecDepth 100000 in
set_option maxHeartbeats 400000 in
theorem lifted (os : Os) (started : os.Started) (H : Type) (enc : TypeId × Value → H) :
    ReturnsInHanded {} Try.checked os 10 .any (Rows.hangCommutesSpec.pre6 enc Try.prog Try.f10 Rows.hangCommutesRow.domain false) (Rows.hangCommutesSpec.post enc Try.prog Try.f10 false true false false) := by
  refine returnsInHanded_of_change_shaped (C := Try.checked) own_knob started (by kernel_rfl) Try.func10
    (ChangeSpec.witness6 (enc := enc) (C := Try.checked) false ⟨#[], #[.string ⟨#[]⟩, .string ⟨#[]⟩, .agg #[.int .i64 0, .int .i64 0, .int .i64 0]], []⟩ 8 (by kernel_rfl) (by kernel_rfl) (by kernel_rfl) (by kernel_rfl)) ?_
  intro W base args ds gs before hval0 hW hcnd _ hsh _
  have hval : ∀ (j : Nat) t v, Try.f10.params[j]? = some t → args[j]? = some v → Value.okWide Try.prog W .any base t v := hval0
  have hW' := hW
  obtain ⟨p, q, hA0, hV, rfl, hfz, hnd⟩ := hW
  have hA : DataW.TrodAll enc Try.prog W 0 (fun _ => true) true Try.f10.params.toList args.toList ds p := hA0
  rw [Try.params10] at hA hval
  obtain ⟨v0, vs0, d0, ds0, p0, q0, hargs, rfl, rfl, h0, r0⟩ := trodAll_cons hA
  obtain ⟨v1, vs1, d1, ds1, p1, q1, rfl, rfl, rfl, h1, r1⟩ := trodAll_cons r0
  obtain ⟨v2, vs2, d2, ds2, p2, q2, rfl, rfl, rfl, h2, r2⟩ := trodAll_cons r1
  obtain ⟨rfl, rfl, rfl⟩ := trodAll_nil r2
  obtain rfl : args = #[v0, v1, v2] := by cases args; simp_all
  obtain ⟨rfl, rfl⟩ := trodVars_none hV
  have lt0 : ∀ x ∈ p0, x.block < W.heap.size := by obtain ⟨m, hm⟩ := h0; exact DataW.trod_lt m _ _ _ hm
  have lt1 : ∀ x ∈ p1, x.block < W.heap.size := by obtain ⟨m, hm⟩ := h1; exact DataW.trod_lt m _ _ _ hm
  obtain ⟨u, e0, _, _, wu⟩ := open_string Try.underlying9 (hval 0 9 v0 rfl rfl) h0
  subst e0
  obtain ⟨v, e1, _, _, wv⟩ := open_string Try.underlying9 (hval 1 9 v1 rfl rfl) h1
  subst e1
  have lt2 : ∀ x ∈ p2, x.block < W.heap.size := by obtain ⟨m, hm⟩ := h2; exact DataW.trod_lt m _ _ _ hm
  have hagg : ∃ b0 b1 b2, v2 = .agg #[.int .i64 b0, .int .i64 b1, .int .i64 b2] ∧ (-9223372036854775808 ≤ b0 ∧ b0 ≤ 9223372036854775807) ∧ (-9223372036854775808 ≤ b1 ∧ b1 ≤ 9223372036854775807) ∧ (-9223372036854775808 ≤ b2 ∧ b2 ≤ 9223372036854775807) := by
    obtain ⟨cs, rfl, hsz, _⟩ : ∃ cs, v2 = .agg cs ∧ cs.size = Try.prog.cellsOf 63 ∧ Row.okWide Try.prog W .any base 63 cs := by
      have := hval 2 63 v2 rfl rfl
      simpa [Value.okWide, Try.underlying63] using this
    rw [cells_triple] at hsz
    obtain ⟨l⟩ := cs
    obtain ⟨c0, c1, c2, rfl⟩ := list3 l hsz
    obtain ⟨fuel, hf⟩ := h2
    obtain ⟨xs, m, _, _, _, hxl, hxe⟩ := DataW.trod_array Try.underlying63 hf
    obtain ⟨a0, a1, a2, rfl⟩ := list3 xs hxl
    have y0 := hxe 0 (by omega)
    have y1 := hxe 1 (by omega)
    have y2 := hxe 2 (by omega)
    simp [Value.cells, cells_int] at y0 y1 y2
    obtain ⟨x0, e0, _, w0⟩ := DataW.trod_int Try.underlying3 y0
    obtain ⟨x1, e1, _, w1⟩ := DataW.trod_int Try.underlying3 y1
    obtain ⟨x2, e2, _, w2⟩ := DataW.trod_int Try.underlying3 y2
    simp at e0 e1 e2
    subst e0 e1 e2
    exact ⟨x0, x1, x2, rfl, i64_bounds w0, i64_bounds w1, i64_bounds w2⟩
  obtain ⟨b0, b1, b2, rfl, hb0, hb1, hb2⟩ := hagg
  obtain ⟨m, hm⟩ := Try.laysM185.s1_3 W hsh
  have hm : W.cell? ⟨0, 0, none⟩ = some (.int .i64 m) := hm
  have hw0 := kept_cell hm
  clear hA0 hval0
  refine (hangCommutes_walk u v b0 b1 b2 m W hb0 hb1 hb2 ⟨hm, hw0⟩).mono fun e W' ⟨he, bel⟩ => ?_
  subst he
  exact ⟨_, rfl, _, _, _, [], _, [], hW', trodAll_mk1 (shut_bool Try.underlying4 _), (trodAll_cons_mk (Below.trod laid_out (by kernel_rfl) (of_decide_eq_true (by kernel_rfl)) h0 bel lt0) (trodAll_cons_mk (Below.trod laid_out (by kernel_rfl) (of_decide_eq_true (by kernel_rfl)) h1 bel lt1) (trodAll_cons_mk (Below.trod laid_out (by kernel_rfl) (of_decide_eq_true (by kernel_rfl)) h2 bel lt2) trodAll_mk0))), rfl, bel.frame _, fun h => by cases h⟩

theorem over : Rows.hangCommutesRow.holds Try.pinned (OpenSpec.ofChange Rows.hangCommutesSpec) :=
  OpenClaim.holds_of_wide 10 Try.f10 rfl rfl rfl rfl rfl rfl rfl ⟨rfl, rfl, rfl, rfl, rfl⟩ rfl rfl rfl rfl rfl (by kernel_rfl) Try.func10 (by kernel_rfl)
    (of_decide_eq_true (by kernel_rfl)) (by unfold Func.isWrapper; first | (rw [if_pos (by decide +kernel)]; kernel_rfl) | (rw [if_neg (by decide +kernel)]; exact ⟨rfl, rfl⟩))
    (fun os started H enc _ => lifted os started H enc)
end Go.Proofs.Ytojjpbeaifiejaa.hangCommutes

namespace Go.Proofs.Ytojjpbeaifiejaa
theorem hangCommutes_proved : Rows.HangCommutesSaid := hangCommutes.over
#print axioms hangCommutes_proved
end Go.Proofs.Ytojjpbeaifiejaa
