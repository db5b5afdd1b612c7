/-
  The walk of the reference's Div.
-/
import Derived.Test.YtemcdnppgnobmaaGreatDoorRfK
import Derived.Test.YtemcdnppgnobmaaGreatDoorDivI
set_option linter.unusedVariables false
namespace Go.Proofs.YtemcdnppgnobmaaGreatDoor
open Go.RowKit

/-- Two integers of the reference. -/
def RetTwoZ (q r : Int) (w : World) (e : Ending) (w' : World) : Prop :=
  ∃ A n c B m d, e = .returned (.tuple #[zV q A n c, zV r B m d]) ∧ Nd w' A n c q.natAbs ∧ Nd w' B m d r.natAbs ∧ Below w.heap.size w w'
theorem nd_one (X : World) : Nd (X.alloc (.cells #[.int .i64 1] 3)) (some ⟨X.heap.size, 0, none⟩) 1 1 1 :=
  ⟨Sl.of_blk (l := [1]) (Blk.new _ _ _) rfl (by omega), Nat.le_refl _⟩

/-- Two integers are stored into the cells of the results, and returned. -/
theorem ret_twoZ_stored {fn : Func} {R : Ending → World → Prop} {a : Act} {w w1 : World} {s s' g g' n m c d : Nat} {A B : Option Addr} {q r : Int} {b b' : Bool}
    (hf : fn.results = #[.cell s 29, .cell s' 29]) (h4 : a.tmps[s]? = some (.pointer (some ⟨g, 0, none⟩))) (h5 : a.tmps[s']? = some (.pointer (some ⟨g', 0, none⟩))) (hd : a.defers = [])
    (hb : Blk w1 g 29 intZ) (hb' : Blk w1 g' 29 intZ) (hq : Nd w1 A n c q.natAbs) (hr : Nd w1 B m d r.natAbs) (hbel : Below w.heap.size w w1) (hg : w.heap.size ≤ g) (hg' : w.heap.size ≤ g') (hne : g' ≠ g) (hz : b = decide (q < 0)) (hz' : b' = decide (r < 0))
    (hR : ∀ w', Nd w' A n c q.natAbs → Nd w' B m d r.natAbs → Below w.heap.size w w' → R (.returned (.tuple #[zV q A n c, zV r B m d])) w') :
    bodyPost Tryz.prog fn R .ret a ((((w1.setCell ⟨g, 0, none⟩ (.bool b)).setCell ⟨g, 1, none⟩ (.slice A n c)).setCell ⟨g', 0, none⟩ (.bool b')).setCell ⟨g', 1, none⟩ (.slice B m d)) := by
  have ho := ((Only.refl g w1).setCell 0 (.bool b)).setCell 1 (.slice A n c)
  have hk := Blk.set2 hb (.bool b) (.slice A n c)
  have hk' := ho.blk hne hb'
  have hq2 := hq.only ho hb (zz_free _ _ _ _)
  have hr2 := hr.only ho hb (zz_free _ _ _ _)
  have hb2 := hbel.trans (ho.below hg)
  generalize (w1.setCell ⟨g, 0, none⟩ (.bool b)).setCell ⟨g, 1, none⟩ (.slice A n c) = w2 at *
  have ho2 := ((Only.refl g' w2).setCell 0 (.bool b')).setCell 1 (.slice B m d)
  have hj' := Blk.set2 hk' (.bool b') (.slice B m d)
  have hj := ho2.blk (Ne.symm hne) hk
  have hq3 := hq2.only ho2 hk' (zz_free _ _ _ _)
  have hr3 := hr2.only ho2 hk' (zz_free _ _ _ _)
  have hb3 := hb2.trans (ho2.below hg')
  generalize (w2.setCell ⟨g', 0, none⟩ (.bool b')).setCell ⟨g', 1, none⟩ (.slice B m d) = w3 at *
  have c0 := hj.cell 0
  have c1 := hj.cell 1
  have d0 := hj'.cell 0
  have d1 := hj'.cell 1
  subst hz hz'
  exact bodyPost_ret (v := .tuple #[zV q A n c, zV r B m d]) (by simp [results, hf, go_sem, c0, c1, d0, d1, h4, h5, zV]) hd (hR _ hq3 hr3 hb3)


set_option maxRecDepth 100000 in
set_option maxHeartbeats 1600000 in
theorem rdivZ_any (y z : Int) (A B : Option Addr) (n m c d : Nat) (w : World) (h : Nd w A n c y.natAbs) (k : Nd w B m d z.natAbs) (hz : z ≠ 0) (hn9 : n ≤ 100000000) (hm9 : m ≤ 100000000) :
    Calls Tryz.prog 20 #[zV y A n c, zV z B m d] w (RetTwoZ (y / z) (y % z) w) := by
  obtain ⟨W, hW, hb0, hb1, hr0, hr1, hbel⟩ := four_new w 29 29 29 29 #[.bool (decide (y < 0)), .slice A n c] #[.bool (decide (z < 0)), .slice B m d] intZ intZ
  have hx := h.below hbel
  have hy := k.below hbel
  have hz0 : 0 < z.natAbs := by omega
  have Hdv := Lib.hid (rdivN_any A B n m c d y.natAbs z.natAbs W hx hy hz0 (by omega) (by omega))
  have Hparts := Lib.hid (div_parts y z hz)
  have Hy := Lib.hid hy
  have Hbel := Lib.hid hbel
  have HW := Lib.hid hW
  have hqle : y.natAbs / z.natAbs ≤ y.natAbs := Nat.div_le_self _ _
  have Hrl := Lib.hid (Nat.mod_lt y.natAbs hz0)
  have Hlq := Lib.hid (show limbs (y.natAbs / z.natAbs) ≤ n by rw [← h.len]; exact limbs_mono hqle)
  have Hcell := Lib.hid (fun X (hX : Below W.heap.size W X) => show X.cell? ⟨w.heap.size, 0, none⟩ = some (.bool (decide (y < 0))) ∧ X.cell? ⟨w.heap.size, 1, none⟩ = some (.slice A n c) ∧ X.cell? ⟨w.heap.size + 1, 0, none⟩ = some (.bool (decide (z < 0))) ∧ X.cell? ⟨w.heap.size + 1, 1, none⟩ = some (.slice B m d) from
    ⟨(hb0.keep hX).cell 0, (hb0.keep hX).cell 1, (hb1.keep hX).cell 0, (hb1.keep hX).cell 1⟩)
  have Hst := Lib.hid (fun X Y Z (hX : Below W.heap.size W X) (hY : Only (w.heap.size + 1 + 1) X Y) (hZ : Only (w.heap.size + 1 + 1 + 1) Y Z) => show Z.cell? ⟨w.heap.size, 0, none⟩ = some (.bool (decide (y < 0))) ∧ Z.cell? ⟨w.heap.size, 1, none⟩ = some (.slice A n c) ∧ Z.cell? ⟨w.heap.size + 1, 0, none⟩ = some (.bool (decide (z < 0))) ∧ Z.cell? ⟨w.heap.size + 1, 1, none⟩ = some (.slice B m d) from
    ⟨(hZ.blk (by omega) (hY.blk (by omega) (hb0.keep hX))).cell 0, (hZ.blk (by omega) (hY.blk (by omega) (hb0.keep hX))).cell 1, (hZ.blk (by omega) (hY.blk (by omega) (hb1.keep hX))).cell 0, (hZ.blk (by omega) (hY.blk (by omega) (hb1.keep hX))).cell 1⟩)
  have Hres := Lib.hid (fun X (hX : Below W.heap.size W X) => show Blk X (w.heap.size + 1 + 1) 29 intZ ∧ Blk X (w.heap.size + 1 + 1 + 1) 29 intZ from ⟨hr0.keep hX, hr1.keep hX⟩)
  have hB := Below.refl W.heap.size W
  obtain ⟨c0, c1, d0, d1⟩ := Hcell.out _ hB
  clear hW hx hy hbel h k hqle hb0 hb1 hr0 hr1
  unfold intZ at HW
  unfold zV at *
  have hin := fun (Q R : Nat) (hQR : (y < 0 ∧ 0 < y.natAbs % z.natAbs ∧ Q = y.natAbs / z.natAbs + 1 ∧ R = z.natAbs - y.natAbs % z.natAbs) ∨ (¬ (y < 0 ∧ 0 < y.natAbs % z.natAbs) ∧ Q = y.natAbs / z.natAbs ∧ R = y.natAbs % z.natAbs)) =>
    show (∀ nb, nb = (decide (y < 0) != decide (z < 0)) → ∀ X P p cp, Nd X P p cp Q → Calls Tryz.prog 34 #[.bool nb, .slice P p cp] X (fun e w' => e = .returned (zV (y / z) P p cp) ∧ Nd w' P p cp (y / z).natAbs ∧ Below X.heap.size X w')) ∧
      ∀ X P p cp, Nd X P p cp R → Calls Tryz.prog 34 #[.bool false, .slice P p cp] X (fun e w' => e = .returned (zV (y % z) P p cp) ∧ Nd w' P p cp (y % z).natAbs ∧ Below X.heap.size X w') from by
      obtain ⟨p1, p2⟩ := Hparts.out Q R hQR
      exact ⟨fun nb hnb X P p cp hP => by subst hnb; exact rint_any _ P p cp Q (y / z) X hP p1, fun X P p cp hP => rint_any false P p cp R (y % z) X hP (by rw [p2]; rfl)⟩
  have Hin := Lib.hid hin
  unfold zV at Hin
  clear hin Hparts
  generalize hq : y / z = q at *
  generalize hr : y % z = r at *
  generalize hby : decide (y < 0) = b at *
  generalize hbz : decide (z < 0) = b' at *
  have Hby := Lib.hid hby
  clear hby hbz hq hr
  go_enter Tryz.func20, Tryz.ntmps20
  go_upto_region 1 with fail
  rw [← HW.out]
  clear HW
  go_wp2_with fail
  refine Hdv.out.mono ?_
  rintro e w2 ⟨AQ, nq, cq, AR, nr, cr, rfl, hdq, hdr, hb2⟩
  clear c0 c1 d0 d1 Hdv
  obtain ⟨c0, c1, d0, d1⟩ := Hcell.out _ hb2
  have Hlr := Lib.hid hdr.len
  have Hlq2 := Lib.hid hdq.len
  by_cases hc : y < 0 ∧ 0 < y.natAbs % z.natAbs
  · have hbt : b = true := by rw [← Hby.out]; exact decide_eq_true hc.1
    have hnr : 0 < nr := by
      rcases Nat.eq_zero_or_pos nr with h0 | h0
      · have := limbs_eq_zero (Hlr.out.trans h0); omega
      · exact h0
    have hnq : nq ≤ 100000000 := by rw [← Hlq2.out]; exact Nat.le_trans Hlq.out hn9
    have Hax := Lib.hid (fun X (hX : Below w2.heap.size w2 X) A1 (h1 : Nd X A1 1 1 1) => raddN_any AQ A1 nq 1 cq 1 (y.natAbs / z.natAbs) 1 X (hdq.below hX) h1 (by omega) (by omega))
    have Hsx := Lib.hid (fun X (hX : Below w2.heap.size w2 X) => rsubN_any B AR m nr d cr z.natAbs (y.natAbs % z.natAbs) X ((Hy.out.below hb2).below hX) (hdr.below hX) (Nat.le_of_lt Hrl.out) (by omega))
    have Hq1 := Lib.hid (Hin.out _ _ (Or.inl ⟨hc.1, hc.2, rfl, rfl⟩))
    have Hcell2 := Lib.hid (fun X (hX : Below w2.heap.size w2 X) => Hcell.out X (hb2.and hX))
    have Hres2 := Lib.hid (fun X (hX : Below w2.heap.size w2 X) => Hres.out X (hb2.and hX))
    have Hst2 := Lib.hid (fun X Y Z (hX : Below w2.heap.size w2 X) hY hZ => Hst.out X Y Z (hb2.and hX) hY hZ)
    have HB2 := Lib.hid (Hbel.out.and hb2)
    clear hc Hin Hcell Hres hdq hdr hb2 hB Hst
    subst hbt
    have hB := Below.refl w2.heap.size w2
    go_upto_region 4 with fail
    go_region_held3 (fun w' => w'.cell? ⟨w.heap.size, 0, none⟩ = some (.bool true) ∧ w'.cell? ⟨w.heap.size, 1, none⟩ = some (.slice A n c) ∧ w'.cell? ⟨w.heap.size + 1, 0, none⟩ = some (.bool b') ∧ w'.cell? ⟨w.heap.size + 1, 1, none⟩ = some (.slice B m d))
      (first | exact Hcell2.out _ hB | exact Hcell2.out _ (Below.drew hB) | exact Hcell2.out _ (Below.more hB _) | exact Hcell2.out _ (Below.drew (Below.more hB _)) | exact Hcell2.out _ (Below.more (Below.drew hB) _) | exact Hst2.out _ _ _ hB (Only.setCell (Only.setCell (Only.refl _ _) 0 _) 1 _) (Only.refl _ _) | exact Hst2.out _ _ _ hB (Only.setCell (Only.setCell (Only.refl _ _) 0 _) 1 _) (Only.setCell (Only.setCell (Only.refl _ _) 0 _) 1 _))
      (first
      | (go_at_call 35; refine (Hax.out _ (Below.more (Below.drew hB) _) _ (nd_one _)).mono ?_; rintro e w3 ⟨P, p, cp, rfl, hP, hb3, -⟩; have hB := Below.and (Below.more (Below.drew hB) _) hb3)
      | (go_at_call 37; refine (Hsx.out _ hB).mono ?_; rintro e w5 ⟨S, s, cs, rfl, hS, hb5, -⟩; have hB := Below.and hB hb5; have hq4 := Nd.below hq4 hb5)
      | (go_at_call_of 34 (Value.slice S s cs); refine (Hq1.out.2 _ _ _ _ hS).mono ?_; rintro e w6 ⟨rfl, hr6, hb6⟩; have hB := Below.and hB hb6; have hq6 := Nd.below hq4 hb6; obtain ⟨u0, u1⟩ := Hres2.out _ hB; obtain ⟨p0, p1, p2, p3⟩ := Blk.two u0; obtain ⟨v0, v1, v2, v3⟩ := Blk.two u1)
      | (go_at_call_of 34 (Value.slice P p cp); refine (Hq1.out.1 _ ?_ _ _ _ _ hP).mono ?_; (cases b' <;> rfl); rintro e w4 ⟨rfl, hq4, hb4⟩; have hB := Below.and hB hb4))
    all_goals
      go_wp2_with fail
      exact ret_twoZ_stored (q := q) (r := r) rfl rfl rfl rfl u0 u1 hq6 hr6 (HB2.out.and hB) (by omega) (by omega) (by omega) rfl rfl (fun w' h1 h2 h3 => ⟨_, _, _, _, _, _, rfl, h1, h2, h3⟩)
  · have Hq1 := Lib.hid (Hin.out _ _ (Or.inr ⟨hc, rfl, rfl⟩))
    have Hres2 := Lib.hid (fun X (hX : Below w2.heap.size w2 X) => Hres.out X (hb2.and hX))
    have HB2 := Lib.hid (Hbel.out.and hb2)
    have hcase : (b = true ∧ nr = 0) ∨ b = false := by
      by_cases hy0 : y < 0
      · left
        refine ⟨by rw [← Hby.out]; exact decide_eq_true hy0, ?_⟩
        have hr0' : y.natAbs % z.natAbs = 0 := by omega
        rw [← Hlr.out, hr0']; rfl
      · right
        rw [← Hby.out]; exact decide_eq_false hy0
    clear hc Hin Hcell Hres
    rcases hcase with ⟨hbt, hn0⟩ | hbt
    · subst hbt hn0
      go_wp2_with fail
      refine (Hq1.out.1 _ ?_ _ _ _ _ hdq).mono ?_
      · cases b' <;> rfl
      rintro e w5 ⟨rfl, hq5, hb5⟩
      go_wp2_with fail
      refine (Hq1.out.2 _ _ _ _ (hdr.below hb5)).mono ?_
      rintro e w6 ⟨rfl, hr6, hb6⟩
      have hq6 := hq5.below hb6
      obtain ⟨u0, u1⟩ := Hres2.out _ (hb5.and hb6)
      obtain ⟨p0, p1, p2, p3⟩ := Blk.two u0
      obtain ⟨v0, v1, v2, v3⟩ := Blk.two u1
      go_wp2_with fail
      exact ret_twoZ_stored (q := q) (r := r) rfl rfl rfl rfl u0 u1 hq6 hr6 (HB2.out.and (hb5.and hb6)) (by omega) (by omega) (by omega) rfl rfl (fun w' h1 h2 h3 => ⟨_, _, _, _, _, _, rfl, h1, h2, h3⟩)
    · subst hbt
      go_wp2_with fail
      refine (Hq1.out.1 _ ?_ _ _ _ _ hdq).mono ?_
      · cases b' <;> rfl
      rintro e w5 ⟨rfl, hq5, hb5⟩
      go_wp2_with fail
      refine (Hq1.out.2 _ _ _ _ (hdr.below hb5)).mono ?_
      rintro e w6 ⟨rfl, hr6, hb6⟩
      have hq6 := hq5.below hb6
      obtain ⟨u0, u1⟩ := Hres2.out _ (hb5.and hb6)
      obtain ⟨p0, p1, p2, p3⟩ := Blk.two u0
      obtain ⟨v0, v1, v2, v3⟩ := Blk.two u1
      go_wp2_with fail
      exact ret_twoZ_stored (q := q) (r := r) rfl rfl rfl rfl u0 u1 hq6 hr6 (HB2.out.and (hb5.and hb6)) (by omega) (by omega) (by omega) rfl rfl (fun w' h1 h2 h3 => ⟨_, _, _, _, _, _, rfl, h1, h2, h3⟩)
end Go.Proofs.YtemcdnppgnobmaaGreatDoor
