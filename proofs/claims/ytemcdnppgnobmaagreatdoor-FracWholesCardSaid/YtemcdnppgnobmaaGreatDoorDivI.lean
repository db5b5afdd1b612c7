/-
  The walk of frac's Div of integers.
-/
import Derived.Test.YtemcdnppgnobmaaGreatDoorInt7
import Derived.Deep.DeepCutAuto
set_option linter.unusedVariables false
namespace Go.Proofs.YtemcdnppgnobmaaGreatDoor
open Go.RowKit

theorem div_pos_parts (y : Int) (Z : Nat) (hZ : 0 < Z) (Q R : Nat) (h : (y < 0 ∧ 0 < y.natAbs % Z ∧ Q = y.natAbs / Z + 1 ∧ R = Z - y.natAbs % Z) ∨ (¬ (y < 0 ∧ 0 < y.natAbs % Z) ∧ Q = y.natAbs / Z ∧ R = y.natAbs % Z)) :
    y / (Z : Int) = (if y < 0 then -(Q : Int) else Q) ∧ y % (Z : Int) = R := by
  have hm := Nat.mod_lt y.natAbs hZ
  have hd := Nat.div_add_mod y.natAbs Z
  have hd' : (Z : Int) * ((y.natAbs / Z : Nat) : Int) + ((y.natAbs % Z : Nat) : Int) = (y.natAbs : Nat) := by rw [← Int.natCast_mul, ← Int.natCast_add, hd]
  refine (Int.ediv_emod_unique (by omega)).2 ?_
  generalize y.natAbs / Z = q at *
  generalize y.natAbs % Z = r at *
  rcases h with ⟨hy, hr, hQ, hR⟩ | ⟨hc, hQ, hR⟩
  · subst hQ hR
    rw [if_pos hy, Int.natCast_add, Int.neg_add, Int.mul_add, Int.mul_neg]
    have : ((Z - r : Nat) : Int) = Z - r := by omega
    rw [this]
    refine ⟨?_, by omega, by omega⟩
    generalize (Z : Int) * (q : Int) = p at *
    have : (Z : Int) * -((1 : Nat) : Int) = -Z := by omega
    rw [this]
    omega
  · subst hQ hR
    by_cases hy : y < 0
    · have hr : R = 0 := by omega
      subst hr
      rw [if_pos hy, Int.mul_neg]
      generalize (Z : Int) * (Q : Int) = p at *
      exact ⟨by omega, by omega, by omega⟩
    · rw [if_neg hy]
      generalize (Z : Int) * (Q : Int) = p at *
      exact ⟨by omega, by omega, by omega⟩
theorem div_parts (y z : Int) (hz : z ≠ 0) (Q R : Nat) (h : (y < 0 ∧ 0 < y.natAbs % z.natAbs ∧ Q = y.natAbs / z.natAbs + 1 ∧ R = z.natAbs - y.natAbs % z.natAbs) ∨ (¬ (y < 0 ∧ 0 < y.natAbs % z.natAbs) ∧ Q = y.natAbs / z.natAbs ∧ R = y.natAbs % z.natAbs)) :
    y / z = (if (decide (y < 0) != decide (z < 0)) then -(Q : Int) else Q) ∧ y % z = R := by
  have hZ : 0 < z.natAbs := by omega
  obtain ⟨h1, h2⟩ := div_pos_parts y z.natAbs hZ Q R h
  rcases Int.lt_or_lt_of_ne hz with hn | hp
  · have e : z = -((z.natAbs : Nat) : Int) := by omega
    generalize z.natAbs = Z at *
    subst e
    rw [Int.ediv_neg, Int.emod_neg, h1, h2, decide_eq_true hn]
    refine ⟨?_, rfl⟩
    by_cases hy : y < 0
    · simp [hy]
    · simp [hy]
  · have e : z = ((z.natAbs : Nat) : Int) := by omega
    generalize z.natAbs = Z at *
    subst e
    rw [h1, h2, decide_eq_false (show ¬ ((Z : Int) < 0) by omega)]
    refine ⟨?_, rfl⟩
    by_cases hy : y < 0
    · simp [hy]
    · simp [hy]

theorem int_parts_free (b : Bool) (A : Option Addr) (n : Nat) : ∀ (i : Nat) (z : Int), (#[Value.bool b, Value.slice A n n] : Array Value)[i]? ≠ some (Value.int .u32 z) := by
  intro i z
  match i with
  | 0 => simp
  | 1 => simp
  | i + 2 => simp

/-- Two integers, and that there is no error. -/
def RetTwo (q r : Int) (w : World) (e : Ending) (w' : World) : Prop :=
  ∃ A n B m, e = .returned (.tuple #[intV q A n, intV r B m, .int .i64 0]) ∧ Dg w' A n q.natAbs ∧ Dg w' B m r.natAbs ∧ Below w.heap.size w w'

theorem four_new (w : World) (t t' t'' t3 : TypeId) (c c' c'' c3 : Array Value) : ∃ W, W = (((w.alloc (.cells c t)).alloc (.cells c' t')).alloc (.cells c'' t'')).alloc (.cells c3 t3) ∧
    Blk W w.heap.size t c ∧ Blk W (w.heap.size + 1) t' c' ∧ Blk W (w.heap.size + 1 + 1) t'' c'' ∧ Blk W (w.heap.size + 1 + 1 + 1) t3 c3 ∧ Below w.heap.size w W := by
  obtain ⟨W, hW, h0, h1, h2, hb⟩ := three_new w t t' t'' c c' c''
  refine ⟨W.alloc (.cells c3 t3), by rw [hW], h0.keep (below_new _ _), h1.keep (below_new _ _), h2.keep (below_new _ _), ?_, hb.more _⟩
  have := Blk.new W t3 c3
  rwa [show W.heap.size = w.heap.size + 1 + 1 + 1 by rw [hW]; simp] at this

/-- Two integers are stored into the cells of the results, and returned. -/
theorem ret_two_stored {fn : Func} {R : Ending → World → Prop} {a : Act} {w w1 : World} {s s' t g g' n m : Nat} {A B : Option Addr} {q r : Int} {b b' : Bool} {v : Value}
    (hf : fn.results = #[.cell s 25, .cell s' 25, .tmp t]) (h4 : a.tmps[s]? = some (.pointer (some ⟨g, 0, none⟩))) (h5 : a.tmps[s']? = some (.pointer (some ⟨g', 0, none⟩))) (h6 : a.tmps[t]? = some v) (hd : a.defers = [])
    (hb : Blk w1 g 25 intZ) (hb' : Blk w1 g' 25 intZ) (hq : Dg w1 A n q.natAbs) (hr : Dg w1 B m r.natAbs) (hbel : Below w.heap.size w w1) (hg : w.heap.size ≤ g) (hg' : w.heap.size ≤ g') (hne : g' ≠ g) (hz : b = decide (q < 0)) (hz' : b' = decide (r < 0))
    (hR : ∀ w', Dg w' A n q.natAbs → Dg w' B m r.natAbs → Below w.heap.size w w' → R (.returned (.tuple #[intV q A n, intV r B m, v])) w') :
    bodyPost Tryz.prog fn R .ret a ((((w1.setCell ⟨g, 0, none⟩ (.bool b)).setCell ⟨g, 1, none⟩ (.slice A n n)).setCell ⟨g', 0, none⟩ (.bool b')).setCell ⟨g', 1, none⟩ (.slice B m m)) := by
  have ho := ((Only.refl g w1).setCell 0 (.bool b)).setCell 1 (.slice A n n)
  have hk := Blk.set2 hb (.bool b) (.slice A n n)
  have hk' := ho.blk hne hb'
  have hq2 := hq.only ho hb intZ_free
  have hr2 := hr.only ho hb intZ_free
  have hb2 := hbel.trans (ho.below hg)
  generalize (w1.setCell ⟨g, 0, none⟩ (.bool b)).setCell ⟨g, 1, none⟩ (.slice A n n) = w2 at *
  have ho2 := ((Only.refl g' w2).setCell 0 (.bool b')).setCell 1 (.slice B m m)
  have hj' := Blk.set2 hk' (.bool b') (.slice B m m)
  have hj := ho2.blk (Ne.symm hne) hk
  have hq3 := hq2.only ho2 hk' intZ_free
  have hr3 := hr2.only ho2 hk' intZ_free
  have hb3 := hb2.trans (ho2.below hg')
  generalize (w2.setCell ⟨g', 0, none⟩ (.bool b')).setCell ⟨g', 1, none⟩ (.slice B m m) = w3 at *
  have c0 := hj.cell 0
  have c1 := hj.cell 1
  have d0 := hj'.cell 0
  have d1 := hj'.cell 1
  subst hz hz'
  exact bodyPost_ret (v := .tuple #[intV q A n, intV r B m, v]) (by simp [results, hf, go_sem, c0, c1, d0, d1, h4, h5, h6, intV]) hd (hR _ hq3 hr3 hb3)

set_option maxRecDepth 100000 in
set_option maxHeartbeats 1600000 in
theorem intDiv_any (A B : Option Addr) (n m : Nat) (y z : Int) (w : World) (h : Dg w A n y.natAbs) (k : Dg w B m z.natAbs) (hz : z ≠ 0) (hn9 : n ≤ 1000000000) (hm9 : m ≤ 1000000000) :
    Calls Tryz.prog 16 #[intV y A n, intV z B m] w (RetTwo (y / z) (y % z) w) := by
  obtain ⟨W, hW, hb0, hb1, hr0, hr1, hbel⟩ := four_new w 25 25 25 25 #[.bool (decide (y < 0)), .slice A n n] #[.bool (decide (z < 0)), .slice B m m] intZ intZ
  have hx := h.below hbel
  have hy := k.below hbel
  have hz0 : 0 < z.natAbs := by omega
  have hze := zero_any B m z W hy
  rw [decide_eq_false hz] at hze
  have Hze := Lib.hid hze
  have Hdv := Lib.hid (fun X (hX : Below W.heap.size W X) => divide_any A B n m m y.natAbs z.natAbs X (hx.below hX) (hy.below hX) hz0 (by omega))
  have Hparts := Lib.hid (div_parts y z hz)
  have Hy := Lib.hid hy
  have Hbel := Lib.hid hbel
  have HW := Lib.hid hW
  have Hhn := Lib.hid h.len
  have Hhm := Lib.hid k.len
  have hqle : y.natAbs / z.natAbs ≤ y.natAbs := Nat.div_le_self _ _
  have hrlt : y.natAbs % z.natAbs < z.natAbs := Nat.mod_lt _ hz0
  have Hlq := Lib.hid (show limbs (y.natAbs / z.natAbs) ≤ n by rw [← h.len]; exact limbs_mono hqle)
  have Hrl := Lib.hid hrlt
  obtain ⟨a0, a1, af0, af1⟩ := hb0.two
  obtain ⟨e0, e1, ef0, ef1⟩ := hb1.two
  clear hW hx hy hbel h k hze hqle hrlt
  unfold intZ at HW
  unfold intV at *
  have hsg : ∀ (Q R : Nat), (y < 0 ∧ 0 < y.natAbs % z.natAbs ∧ Q = y.natAbs / z.natAbs + 1 ∧ R = z.natAbs - y.natAbs % z.natAbs) ∨ (¬ (y < 0 ∧ 0 < y.natAbs % z.natAbs) ∧ Q = y.natAbs / z.natAbs ∧ R = y.natAbs % z.natAbs) →
      ∀ X AQ nQ AR nR, Dg X AQ nQ Q → Dg X AR nR R → (∀ nb, nb = (decide (y < 0) != decide (z < 0)) → Calls Tryz.prog 41 #[.bool nb, .slice AQ nQ nQ] X (fun e w' => e = .returned (intV (y / z) AQ nQ) ∧ Dg w' AQ nQ (y / z).natAbs ∧ Below X.heap.size X w')) ∧
      ∀ Y, Dg Y AR nR R → Calls Tryz.prog 41 #[.bool false, .slice AR nR nR] Y (fun e w' => e = .returned (intV (y % z) AR nR) ∧ Dg w' AR nR (y % z).natAbs ∧ Below Y.heap.size Y w') := by
    intro Q R hQR X AQ nQ AR nR hQ hR
    obtain ⟨p1, p2⟩ := Hparts.out Q R hQR
    refine ⟨fun nb hnb => by subst hnb; exact signed_any _ AQ nQ Q (y / z) X hQ p1, fun Y hY => signed_any false AR nR R (y % z) Y hY (by rw [p2]; rfl)⟩
  have Hsg := Lib.hid hsg
  clear hsg Hparts
  generalize hby : decide (y < 0) = b at *
  generalize hbz : decide (z < 0) = b' at *
  have Hby := Lib.hid hby
  clear hby hbz
  go_enter Tryz.func16, Tryz.ntmps16
  go_upto_region 1 with fail
  rw [← HW.out]
  clear HW
  go_wp2_with fail
  refine Hze.out.mono ?_
  rintro e w1 ⟨rfl, hb1'⟩
  have k0 := hb0.keep hb1'
  have k1 := hb1.keep hb1'
  clear a0 a1 af0 af1 e0 e1 ef0 ef1
  obtain ⟨a0, a1, af0, af1⟩ := k0.two
  obtain ⟨e0, e1, ef0, ef1⟩ := k1.two
  go_wp2_with fail
  refine (Hdv.out _ hb1').mono ?_
  rintro e w2 ⟨AQ, nQ, AR, nR, rfl, hdq, hdr, hb2, -, -⟩
  have hB2 := hb1'.and hb2
  have j0 := hb0.keep hB2
  have j1 := hb1.keep hB2
  clear a0 a1 af0 af1 e0 e1 ef0 ef1
  obtain ⟨a0, a1, af0, af1⟩ := j0.two
  obtain ⟨e0, e1, ef0, ef1⟩ := j1.two
  have hlr := hdr.len
  have hlq := hdq.len
  have Hlr := Lib.hid hlr
  have Hlq2 := Lib.hid hlq
  clear hlr hlq
  by_cases hc : y < 0 ∧ 0 < y.natAbs % z.natAbs
  · have hbt : b = true := by rw [← Hby.out]; exact decide_eq_true hc.1
    have hnR : 0 < nR := by
      rcases Nat.eq_zero_or_pos nR with h0 | h0
      · have := limbs_eq_zero (Hlr.out.trans h0); omega
      · exact h0
    have hnQ : nQ ≤ 1000000000 := by rw [← Hlq2.out]; exact Nat.le_trans Hlq.out hn9
    have Hc := Lib.hid hc
    have hax := fun X (hX : Below w2.heap.size w2 X) (A1 : Option Addr) (h1 : Dg X A1 1 1) => add_any AQ A1 nQ 1 nQ 1 (y.natAbs / z.natAbs) 1 X (hdq.below hX) h1 (by omega) (by omega)
    have hsx := fun X (hX : Below w2.heap.size w2 X) => subtract_any B AR m nR m nR z.natAbs (y.natAbs % z.natAbs) X ((Hy.out.below hB2).below hX) (hdr.below hX) (Nat.le_of_lt Hrl.out) (by omega)
    have Hax := Lib.hid hax
    have Hsx := Lib.hid hsx
    clear hax hsx hc
    subst hbt
    go_wp2_with fail
    refine (Hax.out _ (below_new _ _) _ (one_dg w2)).mono ?_
    rintro e w3 ⟨AQ', nQ', rfl, hdq', hb3, -⟩
    have hb3' := (below_new w2 (.cells #[.int .u32 1] 66)).and hb3
    have i0 := j0.keep hb3'
    have i1 := j1.keep hb3'
    clear a0 a1 af0 af1 e0 e1 ef0 ef1
    obtain ⟨a0, a1, af0, af1⟩ := i0.two
    obtain ⟨e0, e1, ef0, ef1⟩ := i1.two
    go_wp2_with fail
    refine (Hsx.out _ hb3').mono ?_
    rintro e w4 ⟨AR', nR', rfl, hdr', hb4, -⟩
    have l0 := i0.keep hb4
    have l1 := i1.keep hb4
    clear a0 a1 af0 af1 e0 e1 ef0 ef1
    obtain ⟨a0, a1, af0, af1⟩ := l0.two
    obtain ⟨e0, e1, ef0, ef1⟩ := l1.two
    have hdq4 := hdq'.below hb4
    have hB4 := hB2.and (hb3'.and hb4)
    obtain ⟨s1, s2⟩ := Hsg.out (y.natAbs / z.natAbs + 1) (z.natAbs - y.natAbs % z.natAbs) (Or.inl ⟨Hc.out.1, Hc.out.2, rfl, rfl⟩) w4 _ _ _ _ hdq4 hdr'
    have S1 := Lib.hid s1
    have S2 := Lib.hid s2
    clear s1 s2
    have r0 := hr0.keep hB4
    have r1 := hr1.keep hB4
    clear Hsg Hdv Hze
    go_wp2_with fail
    refine (S1.out _ ?_).mono ?_
    · cases b' <;> rfl
    rintro e w5 ⟨rfl, hq5, hb5⟩
    have hr5 := Dg.below hdr' hb5
    go_wp2_with fail
    refine (S2.out _ hr5).mono ?_
    rintro e w6 ⟨rfl, hr6, hb6⟩
    have hq6 := hq5.below hb6
    have u0 := r0.keep (hb5.and hb6)
    have u1 := r1.keep (hb5.and hb6)
    obtain ⟨p0, p1, p2, p3⟩ := u0.two
    obtain ⟨v0, v1, v2, v3⟩ := u1.two
    unfold intV
    have Hfin := Lib.hid (Hbel.out.and (Below.and hB4 (hb5.and hb6)))
    go_wp2_with fail
    exact ret_two_stored (q := y / z) (r := y % z) rfl rfl rfl rfl rfl u0 u1 hq6 hr6 Hfin.out (by omega) (by omega) (by omega) rfl rfl (fun w' h1 h2 h3 => ⟨_, _, _, _, rfl, h1, h2, h3⟩)
  · by_cases hy0 : y < 0
    · have hbt : b = true := by rw [← Hby.out]; exact decide_eq_true hy0
      have hr0' : y.natAbs % z.natAbs = 0 := by omega
      have hnR : nR = 0 := by rw [← Hlr.out, hr0']; rfl
      subst hnR
      have Hc := Lib.hid hc
      clear hc
      subst hbt
      obtain ⟨s1, s2⟩ := Hsg.out (y.natAbs / z.natAbs) (y.natAbs % z.natAbs) (Or.inr ⟨Hc.out, rfl, rfl⟩) w2 _ _ _ _ hdq hdr
      have S1 := Lib.hid s1
      have S2 := Lib.hid s2
      clear s1 s2
      have r0 := hr0.keep hB2
      have r1 := hr1.keep hB2
      clear Hsg Hdv Hze
      go_wp2_with fail
      refine (S1.out _ ?_).mono ?_
      · cases b' <;> rfl
      rintro e w5 ⟨rfl, hq5, hb5⟩
      have hr5 := Dg.below hdr hb5
      go_wp2_with fail
      refine (S2.out _ hr5).mono ?_
      rintro e w6 ⟨rfl, hr6, hb6⟩
      have hq6 := hq5.below hb6
      have u0 := r0.keep (hb5.and hb6)
      have u1 := r1.keep (hb5.and hb6)
      obtain ⟨p0, p1, p2, p3⟩ := u0.two
      obtain ⟨v0, v1, v2, v3⟩ := u1.two
      unfold intV
      have Hfin := Lib.hid (Hbel.out.and (Below.and hB2 (hb5.and hb6)))
      go_wp2_with fail
      exact ret_two_stored (q := y / z) (r := y % z) rfl rfl rfl rfl rfl u0 u1 hq6 hr6 Hfin.out (by omega) (by omega) (by omega) rfl rfl (fun w' h1 h2 h3 => ⟨_, _, _, _, rfl, h1, h2, h3⟩)
    · have hbt : b = false := by rw [← Hby.out]; exact decide_eq_false hy0
      have Hc := Lib.hid hc
      clear hc
      subst hbt
      obtain ⟨s1, s2⟩ := Hsg.out (y.natAbs / z.natAbs) (y.natAbs % z.natAbs) (Or.inr ⟨Hc.out, rfl, rfl⟩) w2 _ _ _ _ hdq hdr
      have S1 := Lib.hid s1
      have S2 := Lib.hid s2
      clear s1 s2
      have r0 := hr0.keep hB2
      have r1 := hr1.keep hB2
      clear Hsg Hdv Hze
      go_wp2_with fail
      refine (S1.out _ ?_).mono ?_
      · cases b' <;> rfl
      rintro e w5 ⟨rfl, hq5, hb5⟩
      have hr5 := Dg.below hdr hb5
      go_wp2_with fail
      refine (S2.out _ hr5).mono ?_
      rintro e w6 ⟨rfl, hr6, hb6⟩
      have hq6 := hq5.below hb6
      have u0 := r0.keep (hb5.and hb6)
      have u1 := r1.keep (hb5.and hb6)
      obtain ⟨p0, p1, p2, p3⟩ := u0.two
      obtain ⟨v0, v1, v2, v3⟩ := u1.two
      unfold intV
      have Hfin := Lib.hid (Hbel.out.and (Below.and hB2 (hb5.and hb6)))
      go_wp2_with fail
      exact ret_two_stored (q := y / z) (r := y % z) rfl rfl rfl rfl rfl u0 u1 hq6 hr6 Hfin.out (by omega) (by omega) (by omega) rfl rfl (fun w' h1 h2 h3 => ⟨_, _, _, _, rfl, h1, h2, h3⟩)
end Go.Proofs.YtemcdnppgnobmaaGreatDoor
