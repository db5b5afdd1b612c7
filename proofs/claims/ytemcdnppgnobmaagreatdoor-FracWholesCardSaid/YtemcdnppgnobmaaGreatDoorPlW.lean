/-
  The walk of frac's plus of fractions.
-/
import Derived.Test.YtemcdnppgnobmaaGreatDoorInt7
set_option linter.unusedVariables false
namespace Go.Proofs.YtemcdnppgnobmaaGreatDoor
open Go.RowKit

/-- A fresh integer's block, behind world X. -/
def Fz (X Y : World) (g : Nat) : Prop := Blk Y g 25 intZ ∧ X.heap.size ≤ g
theorem Fz.new {X Y : World} (h : Below X.heap.size X Y) : Fz X (Y.alloc (.cells intZ 25)) Y.heap.size := ⟨Blk.new _ _ _, h.size⟩
theorem Fz.drew {X Y : World} {g : Nat} (h : Fz X Y g) : Fz X Y.drew g := h
theorem Fz.keep {X Y Z : World} {g : Nat} (h : Fz X Y g) (hb : Below Y.heap.size Y Z) : Fz X Z g := ⟨h.1.keep hb, h.2⟩

/-- An integer in a block of its own. -/
def Ib (X : World) (z : Int) (v : Value) (Y : World) : Prop :=
  ∃ g L l, v = .pointer (some ⟨g, 0, none⟩) ∧ Blk Y g 25 #[.bool (decide (z < 0)), .slice L l l] ∧ Dg Y L l z.natAbs ∧ Below X.heap.size X Y
theorem Ib.store {X Y : World} {z : Int} {g l : Nat} {L : Option Addr} (hz : Fz X Y g) (hd : Dg Y L l z.natAbs) (hb : Below X.heap.size X Y) :
    Ib X z (.pointer (some ⟨g, 0, none⟩)) ((Y.setCell ⟨g, 0, none⟩ (.bool (decide (z < 0)))).setCell ⟨g, 1, none⟩ (.slice L l l)) := by
  have ho := ((Only.refl g Y).setCell 0 (.bool (decide (z < 0)))).setCell 1 (.slice L l l)
  exact ⟨g, L, l, rfl, Blk.set2 hz.1 _ _, hd.only ho hz.1 intZ_free, hb.trans (ho.below hz.2)⟩
theorem Ib.stored {X Y : World} {z : Int} {l : Nat} {L : Option Addr} (hd : Dg Y L l z.natAbs) (hb : Below X.heap.size X Y) :
    Ib X z (.pointer (some ⟨Y.heap.size, 0, none⟩)) (Y.alloc (.cells #[.bool (decide (z < 0)), .slice L l l] 25)) :=
  ⟨Y.heap.size, L, l, rfl, Blk.new _ _ _, hd.below (below_new _ _), hb.more _⟩

set_option maxRecDepth 100000 in
set_option maxHeartbeats 3200000 in
theorem ratPlus_any (A B C D : Option Addr) (n m c d : Nat) (r s : Rat) (w : World) (h : Rg w A n B m r) (k : Rg w C c D d s) (hn : n ≤ 100000000) (hm : m ≤ 100000000) (hc : c ≤ 100000000) (hd : d ≤ 100000000) :
    Calls Tryz.prog 76 #[ratV r A n B m, ratV s C c D d] w (RetRat (r + s) w) := by
  obtain ⟨W, hW, hb0, hb1, hres, hbel⟩ := three_new w 68 68 68 #[.bool (decide (r.num < 0)), .slice A n n, .slice B m m] #[.bool (decide (s.num < 0)), .slice C c c, .slice D d d] #[.bool false, .slice none 0 0, .slice none 0 0]
  have hT : T2 w r s A B C D n m c d W := ⟨hb0, hb1, hres, h.below hbel, k.below hbel, hbel⟩
  have hmr : m = 0 ↔ r.den = 1 := by
    have := h.den.len
    unfold denN at this
    split at this
    · next e => exact ⟨fun _ => e, fun _ => this.symm⟩
    · next e => exact ⟨fun e0 => absurd (limbs_eq_zero (this.trans e0)) r.den_nz, fun e1 => absurd e1 e⟩
  have hds : d = 0 ↔ s.den = 1 := by
    have := k.den.len
    unfold denN at this
    split at this
    · next e => exact ⟨fun _ => e, fun _ => this.symm⟩
    · next e => exact ⟨fun e0 => absurd (limbs_eq_zero (this.trans e0)) s.den_nz, fun e1 => absurd e1 e⟩
  have Hmr := Lib.hid hmr
  have Hds := Lib.hid hds
  have HW := Lib.hid hW
  have Hk := Lib.hid k
  have Hh := Lib.hid h
  clear hmr hds hW hb0 hb1 hres hbel h k
  obtain ⟨c0, c1, c2, d0, d1, d2⟩ := hT.cells
  by_cases h0 : m = 0 ∧ d = 0
  · obtain ⟨rfl, rfl⟩ := h0
    have e1 := Hmr.out.1 rfl
    have e2 := Hds.out.1 rfl
    have hpl := plus_any A C n c r.num s.num W hT.r0.num hT.r1.num (by omega) (by omega)
    have hnum : (r + s).num = r.num + s.num := by
      rw [Rat.num_add, e1, e2]; simp
    have hden : (r + s).den = 1 := by
      rw [Rat.den_add, e1, e2]; simp
    have Hpl := Lib.hid hpl
    have Hnum := Lib.hid hnum
    have Hden := Lib.hid hden
    clear hpl hnum hden e1 e2 Hmr Hds
    unfold ratV intV at *
    generalize hrs : r + s = x at *
    clear hrs
    go_enter Tryz.func76, Tryz.ntmps76
    go_upto_region 1 with fail
    rw [← HW.out]
    clear HW
    go_wp2_with fail
    refine Hpl.out.mono ?_
    rintro e w1 ⟨L, l, rfl, hL, hb1⟩
    rw [← Hnum.out] at hL
    have hT1 := hT.keep hb1
    have hrr : Rg w1 L l none 0 x := ⟨hL, by rw [Hden.out]; exact Sl.nil⟩
    obtain ⟨z0, z1, z2, y0, y1, y2⟩ := hT1.b2.three
    unfold intV
    rw [← Hnum.out]
    clear c0 c1 c2 d0 d1 d2
    go_wp2_with fail
    refine ret_rat_stored (r := x) (A := L) (n := l) (B := none) (m := 0) rfl rfl rfl hT1.b2 hrr hT1.bel (by omega) rfl ?_
    exact fun w' h1 h2 => ⟨L, l, none, 0, rfl, h1, h2⟩
  · have hl1 : ∀ X, T2 w r s A B C D n m c d X → Calls Tryz.prog 96 #[ratV r A n B m] X (RetVal r.den X) := fun X hX => lower_any A B n m r X hX.r0
    have hl2 : ∀ X, T2 w r s A B C D n m c d X → Calls Tryz.prog 96 #[ratV s C c D d] X (RetVal s.den X) := fun X hX => lower_any C D c d s X hX.r1
    have Hl1 := Lib.hid hl1
    have Hl2 := Lib.hid hl2
    clear hl1 hl2
    unfold ratV at *
    have h0' := Lib.hid h0
    clear h0
    go_enter Tryz.func76, Tryz.ntmps76
    go_upto_region 1 with fail
    rw [← HW.out]
    clear HW
    go_cut [19] (fun s19 wx => s19 = .bool false ∧ T2 w r s A B C D n m c d wx)
    case first =>
      by_cases hm0 : m = 0
      · subst hm0
        have hdd : ((d : Int) == 0) = false := by rw [beq_eq_false_iff_ne]; have := h0'.out; omega
        go_wp2_with fail
        go_meet
        exact ⟨rfl, hT⟩
      · have hmm : ((m : Int) == 0) = false := by rw [beq_eq_false_iff_ne]; omega
        go_wp2_with fail
        go_meet
        exact ⟨rfl, hT⟩
    case rest =>
      obtain ⟨rfl, hT⟩ := hcut
      clear c0 c1 c2 d0 d1 d2
      obtain ⟨c0, c1, c2, d0, d1, d2⟩ := hT.cells
      go_upto_region 3 with fail
      go_cut [5, 6] (fun s5 s6 wx => ∃ La la Lb lb, s5 = .slice La la la ∧ s6 = .slice Lb lb lb ∧ Dg wx La la r.den ∧ Dg wx Lb lb s.den ∧ T2 w r s A B C D n m c d wx)
      case first =>
        go_region_held3 (fun w' => w'.cell? ⟨w.heap.size, 0, none⟩ = some (.bool (decide (r.num < 0))) ∧ w'.cell? ⟨w.heap.size, 1, none⟩ = some (.slice A n n) ∧ w'.cell? ⟨w.heap.size, 2, none⟩ = some (.slice B m m) ∧
            w'.cell? ⟨w.heap.size + 1, 0, none⟩ = some (.bool (decide (s.num < 0))) ∧ w'.cell? ⟨w.heap.size + 1, 1, none⟩ = some (.slice C c c) ∧ w'.cell? ⟨w.heap.size + 1, 2, none⟩ = some (.slice D d d))
          (first | exact T2.cells hT | exact T2.cells (T2.drew hT) | exact T2.cells hT2 | exact T2.cells hT3)
          (first
          | (go_at_call_of 96 (Value.slice A n n); refine (Hl1.out _ (T2.drew hT)).mono ?_; rintro e w2 ⟨La, la, rfl, hla, hb2⟩; have hT2 := T2.keep (T2.drew hT) hb2)
          | (go_at_call_of 96 (Value.slice C c c); refine (Hl2.out _ hT2).mono ?_; rintro e w3 ⟨Lb, lb, rfl, hlb, hb3⟩; have hT3 := T2.keep hT2 hb3; have hla3 := Dg.below hla hb3))
        all_goals
          go_wp2_with fail
          go_meet
          exact ⟨La, la, Lb, lb, rfl, rfl, hla3, hlb, hT3⟩
      case rest =>
        obtain ⟨La, la, Lb, lb, rfl, rfl, hla, hlb, hT3⟩ := hcut
        clear hT c0 c1 c2 d0 d1 d2
        have hla' : la ≤ m + 1 := len_lower hT3.r0.den hla
        have hlb' : lb ≤ d + 1 := len_lower hT3.r1.den hlb
        have hg0 : 0 < Nat.gcd r.den s.den := Nat.gcd_pos_of_pos_left _ r.den_pos
        have hgc := gcd_any La Lb la lb r.den s.den wc hla hlb (by omega) (by omega)
        obtain ⟨g, hge⟩ : ∃ g, g = Nat.gcd r.den s.den := ⟨_, rfl⟩
        obtain ⟨a, hae⟩ : ∃ a, a = r.den / g := ⟨_, rfl⟩
        obtain ⟨b, hbe⟩ : ∃ b, b = s.den / g := ⟨_, rfl⟩
        obtain ⟨num, hne⟩ : ∃ num, num = r.num * b + s.num * a := ⟨_, rfl⟩
        obtain ⟨pn, pd⟩ := plus_parts r s g a b num hge hae hbe hne
        rw [← hge] at hgc hg0
        have Hgc := Lib.hid hgc
        have Hpn := Lib.hid pn
        have Hpd := Lib.hid pd
        have Hge := Lib.hid hge
        have Hae := Lib.hid hae
        have Hbe := Lib.hid hbe
        have Hne := Lib.hid hne
        have Hda := Lib.hid (fun X G g' (hG : Dg X G g' g) (hX : Dg X La la r.den) => divide_any La G la g' g' r.den g X hX hG hg0 (by omega))
        have Hdb := Lib.hid (fun X G g' (hG : Dg X G g' g) (hX : Dg X Lb lb s.den) => divide_any Lb G lb g' g' s.den g X hX hG hg0 (by omega))
        have Hg0 := Lib.hid hg0
        clear hgc pn pd hge hae hbe hne hg0
        go_wp2_with fail
        refine Hgc.out.mono ?_
        rintro e w4 ⟨G, g', rfl, hG4, hb4⟩
        have hla4 := hla.below hb4
        have hlb4 := hlb.below hb4
        go_wp2_with fail
        refine (Hda.out _ _ _ hG4 hla4).mono ?_
        rintro e w5 ⟨Aa, na, Ra, nra, rfl, ha5, -, hb5, -, -⟩
        have hG5 := hG4.below hb5
        have hlb5 := hlb4.below hb5
        go_wp2_with fail
        refine (Hdb.out _ _ _ hG5 hlb5).mono ?_
        rintro e w6 ⟨Ab, nb, Rb', nrb, rfl, hb6d, -, hb6, -, -⟩
        rw [← Hae.out] at ha5
        rw [← Hbe.out] at hb6d
        have ha6 := ha5.below hb6
        have hG6 := hG5.below hb6
        have hT6 := hT3.keep ((hb4.and hb5).and hb6)
        have hna : na ≤ la := by
          have h1 := ha6.len
          have h2 := hla.len
          rw [← h1, ← h2, Hae.out]
          exact limbs_mono (Nat.div_le_self _ _)
        have hnb : nb ≤ lb := by
          have h1 := hb6d.len
          have h2 := hlb.len
          rw [← h1, ← h2, Hbe.out]
          exact limbs_mono (Nat.div_le_self _ _)
        have hg' : g' ≤ la := by
          have h1 := hG6.len
          have h2 := hla.len
          rw [← h1, ← h2, Hge.out]
          exact limbs_mono (Nat.gcd_le_left _ r.den_pos)
        clear Hgc Hda Hdb hla hlb hla4 hlb4 hG4 hG5 hlb5 ha5 hb4 hb5 hb6 hT3 Hl2
        have hcells : ∀ X, Below w6.heap.size w6 X → X.cell? ⟨w.heap.size, 0, none⟩ = some (.bool (decide (r.num < 0))) ∧ X.cell? ⟨w.heap.size, 1, none⟩ = some (.slice A n n) ∧ X.cell? ⟨w.heap.size + 1, 0, none⟩ = some (.bool (decide (s.num < 0))) ∧ X.cell? ⟨w.heap.size + 1, 1, none⟩ = some (.slice C c c) := by
          intro X hX
          obtain ⟨x0, x1, -, y0, y1, -⟩ := (hT6.keep hX).cells
          exact ⟨x0, x1, y0, y1⟩
        have dneg : ∀ x : Nat, decide ((x : Int) < 0) = false := fun x => decide_eq_false (by omega)
        have hs1 : ∀ X, Below w6.heap.size w6 X → Calls Tryz.prog 41 #[.bool false, .slice Ab nb nb] X (fun e w' => e = .returned (.agg #[.bool false, .slice Ab nb nb]) ∧ Below X.heap.size X w') := fun X hX =>
          (signed_any false Ab nb b b X (hb6d.below hX) rfl).mono (fun _ _ ⟨h1, _, h3⟩ => ⟨by rw [h1]; unfold intV; rw [dneg], h3⟩)
        have hs2 : ∀ X, Below w6.heap.size w6 X → Calls Tryz.prog 41 #[.bool false, .slice Aa na na] X (fun e w' => e = .returned (.agg #[.bool false, .slice Aa na na]) ∧ Below X.heap.size X w') := fun X hX =>
          (signed_any false Aa na a a X (ha6.below hX) rfl).mono (fun _ _ ⟨h1, _, h3⟩ => ⟨by rw [h1]; unfold intV; rw [dneg], h3⟩)
        have ht1 : ∀ X, Below w6.heap.size w6 X → Calls Tryz.prog 32 #[.agg #[.bool (decide (r.num < 0)), .slice A n n], .agg #[.bool false, .slice Ab nb nb]] X (RetInt (r.num * b) X) := by
          intro X hX
          have := times_any A Ab n nb r.num (b : Int) X (hT6.r0.num.below hX) (hb6d.below hX) (by omega) (by omega)
          unfold intV at this
          rwa [dneg] at this
        have ht2 : ∀ X, Below w6.heap.size w6 X → Calls Tryz.prog 32 #[.agg #[.bool (decide (s.num < 0)), .slice C c c], .agg #[.bool false, .slice Aa na na]] X (RetInt (s.num * a) X) := by
          intro X hX
          have := times_any C Aa c na s.num (a : Int) X (hT6.r1.num.below hX) (ha6.below hX) (by omega) (by omega)
          unfold intV at this
          rwa [dneg] at this
        have hpl : ∀ X L1 l1 L2 l2, Dg X L1 l1 (r.num * b).natAbs → Dg X L2 l2 (s.num * a).natAbs → Calls Tryz.prog 27 #[.agg #[.bool (decide (r.num * b < 0)), .slice L1 l1 l1], .agg #[.bool (decide (s.num * a < 0)), .slice L2 l2 l2]] X (RetInt num X) := by
          intro X L1 l1 L2 l2 h1 h2
          have k1 : l1 ≤ n + nb := by
            rw [← h1.len, ← hT6.r0.num.len, ← hb6d.len, Int.natAbs_mul]
            exact limbs_mul_le _ _
          have k2 : l2 ≤ c + na := by
            rw [← h2.len, ← hT6.r1.num.len, ← ha6.len, Int.natAbs_mul]
            exact limbs_mul_le _ _
          rw [Hne.out]
          exact plus_any L1 L2 l1 l2 _ _ X h1 h2 (by omega) (by omega)
        have Hcells := Lib.hid hcells
        have Hs1 := Lib.hid hs1
        have Hs2 := Lib.hid hs2
        have Ht1 := Lib.hid ht1
        have Ht2 := Lib.hid ht2
        have Hpl := Lib.hid hpl
        obtain ⟨c0, c1, d0, d1⟩ := hcells _ (Below.refl _ _)
        have hB := Below.refl w6.heap.size w6
        clear hcells hs1 hs2 ht1 ht2 hpl dneg
        have Hne' := Hne
        clear Hne
        obtain ⟨p1, hp1⟩ : ∃ p1, r.num * b = p1 := ⟨_, rfl⟩
        obtain ⟨p2, hp2⟩ : ∃ p2, s.num * a = p2 := ⟨_, rfl⟩
        rw [hp1] at Ht1 Hpl
        rw [hp2] at Ht2 Hpl
        clear hp1 hp2
        unfold intV at *
        go_upto_region 7 with fail
        go_cut [8] (fun s8 wx => Ib w6 num s8 wx)
        case first =>
          go_region_held3 (fun w' => w'.cell? ⟨w.heap.size, 0, none⟩ = some (.bool (decide (r.num < 0))) ∧ w'.cell? ⟨w.heap.size, 1, none⟩ = some (.slice A n n) ∧ w'.cell? ⟨w.heap.size + 1, 0, none⟩ = some (.bool (decide (s.num < 0))) ∧ w'.cell? ⟨w.heap.size + 1, 1, none⟩ = some (.slice C c c))
            (first | exact Hcells.out _ hB | exact Hcells.out _ (Below.drew hB) | exact Hcells.out _ (Below.drew (Below.more hB _)) | exact Hcells.out _ (Below.more hB _) | exact Hcells.out _ (Below.trans hB (Only.below (Only.setCell (Only.setCell (Only.refl _ _) 0 _) 1 _) hz.2)))
            (first
            | (go_at_call_of 41 (Value.slice Ab nb nb); refine (Hs1.out _ ?_).mono ?_; (first | exact Below.drew hB | exact Below.drew (Below.more hB _) | exact hB | exact Below.more hB _); rintro e wa ⟨rfl, hba⟩; (first | (have hz := Fz.keep hz hba) | (have hz := Fz.keep (Fz.drew (Fz.new hB)) hba) | (have hz := Fz.keep (Fz.new hB) hba) | skip); (first | (have hB := Below.and (Below.drew hB) hba) | (have hB := Below.and (Below.drew (Below.more hB _)) hba) | (have hB := Below.and hB hba) | (have hB := Below.and (Below.more hB _) hba)))
            | (go_at_call_of 32 (Value.slice Ab nb nb); refine (Ht1.out _ ?_).mono ?_; (first | exact Below.drew hB | exact Below.drew (Below.more hB _) | exact hB | exact Below.more hB _); rintro e wb ⟨L1, l1, rfl, hd1, hbb⟩; unfold intV; (first | (have hz := Fz.keep hz hbb) | (have hz := Fz.keep (Fz.drew (Fz.new hB)) hbb) | (have hz := Fz.keep (Fz.new hB) hbb) | skip); (first | (have hB := Below.and (Below.drew hB) hbb) | (have hB := Below.and (Below.drew (Below.more hB _)) hbb) | (have hB := Below.and hB hbb) | (have hB := Below.and (Below.more hB _) hbb)))
            | (go_at_call_of 41 (Value.slice Aa na na); refine (Hs2.out _ ?_).mono ?_; (first | exact Below.drew hB | exact Below.drew (Below.more hB _) | exact hB | exact Below.more hB _); rintro e wd ⟨rfl, hbd⟩; (first | (have hz := Fz.keep hz hbd) | (have hz := Fz.keep (Fz.drew (Fz.new hB)) hbd) | (have hz := Fz.keep (Fz.new hB) hbd) | skip); (first | (have hd1 := Dg.below hd1 hbd) | (have hd1 := Dg.below (Dg.below hd1 (below_new _ _)) hbd)); (first | (have hB := Below.and (Below.drew hB) hbd) | (have hB := Below.and (Below.drew (Below.more hB _)) hbd) | (have hB := Below.and hB hbd) | (have hB := Below.and (Below.more hB _) hbd)))
            | (go_at_call_of 32 (Value.slice Aa na na); refine (Ht2.out _ ?_).mono ?_; (first | exact Below.drew hB | exact Below.drew (Below.more hB _) | exact hB | exact Below.more hB _); rintro e we ⟨L2, l2, rfl, hd2, hbe⟩; unfold intV; (first | (have hz := Fz.keep hz hbe) | (have hz := Fz.keep (Fz.drew (Fz.new hB)) hbe) | (have hz := Fz.keep (Fz.new hB) hbe) | skip); (first | (have hd1 := Dg.below hd1 hbe) | (have hd1 := Dg.below (Dg.below hd1 (below_new _ _)) hbe)); (first | (have hB := Below.and (Below.drew hB) hbe) | (have hB := Below.and (Below.drew (Below.more hB _)) hbe) | (have hB := Below.and hB hbe) | (have hB := Below.and (Below.more hB _) hbe)))
            | (go_at_call 27; refine (Hpl.out _ L1 l1 L2 l2 ?_ ?_).mono ?_; (first | exact hd1 | exact Dg.below hd1 (below_new _ _)); (first | exact hd2 | exact Dg.below hd2 (below_new _ _)); rintro e wf ⟨L3, l3, rfl, hd3, hbf⟩; unfold intV; (first | (have hz := Fz.keep hz hbf) | (have hz := Fz.keep (Fz.drew (Fz.new hB)) hbf) | (have hz := Fz.keep (Fz.new hB) hbf) | skip); (first | (have hB := Below.and (Below.drew hB) hbf) | (have hB := Below.and (Below.drew (Below.more hB _)) hbf) | (have hB := Below.and hB hbf) | (have hB := Below.and (Below.more hB _) hbf)); try (obtain ⟨z0, z1, z2, z3⟩ := hz.1.two)))
          all_goals
            go_wp2_with fail
            go_meet
            first | exact Ib.store hz hd3 hB | exact Ib.stored hd3 hB
        case rest =>
          obtain ⟨g8, L, l, rfl, hb8, hL, hB8⟩ := hcut
          clear hB c0 c1 d0 d1 Hcells Hs1 Hs2 Ht1 Ht2 Hpl
          have hT8 := hT6.keep hB8
          have ha8 := ha6.below hB8
          have hb8' := hb6d.below hB8
          have hG8 := hG6.below hB8
          have hll : l ≤ n + nb + (c + na) + 1 := by
            rw [← hL.len, Hne'.out]
            refine Nat.le_trans (limbs_mono (Int.natAbs_add_le _ _)) (Nat.le_trans (limbs_add_le _ _) ?_)
            rw [Int.natAbs_mul, Int.natAbs_mul, Int.natAbs_natCast, Int.natAbs_natCast]
            have q1 := limbs_mul_le r.num.natAbs b
            have q2 := limbs_mul_le s.num.natAbs a
            rw [hT6.r0.num.len, hb6d.len] at q1
            rw [hT6.r1.num.len, ha6.len] at q2
            omega
          obtain ⟨x, hx⟩ : ∃ x, x = Rat.normalize num g (by have := Hg0.out; omega) := ⟨_, rfl⟩
          have hxn : x.num = num / (Nat.gcd num.natAbs g : Nat) := by rw [hx]; exact Rat.num_normalize _
          have hxd : x.den = g / Nat.gcd num.natAbs g := by rw [hx]; exact Rat.den_normalize _
          have hrd := reduced_any L G l g' g num x wc hL hG8 Hg0.out (by omega) (by omega) hxn hxd
          have hrsn : (r + s).num = x.num := by rw [Hpn.out, hxn]
          have hrsd : (r + s).den = a * b * x.den := by rw [Hpd.out, hxd]
          have hxdl : limbs x.den ≤ g' := by
            rw [hxd, ← hG8.len]
            exact limbs_mono (Nat.div_le_self _ _)
          have Hrd := Lib.hid hrd
          have Hrsn := Lib.hid hrsn
          have Hrsd := Lib.hid hrsd
          have Hxdl := Lib.hid hxdl
          clear hrd hrsn hrsd hxn hxd hx Hpn Hpd hxdl
          obtain ⟨c0, c1, -, -⟩ := hb8.two
          have hnat : x.num.natAbs = x.num.natAbs := rfl
          unfold intV at Hrd
          go_upto_region 8 with fail
          go_upto_region 9 with (go_at_call 99; refine Hrd.out.mono ?_; rintro e w9 ⟨E, e', F, f, rfl, hxr, hb9⟩; unfold ratV)
          obtain ⟨W9, hW9⟩ : ∃ W9, W9 = w9.alloc (.cells #[.bool (decide (x.num < 0)), .slice E e' e', .slice F f f] 68) := ⟨_, rfl⟩
          have hk9 : Blk W9 w9.heap.size 68 (ratC x E e' F f) := by rw [hW9]; exact Blk.new _ _ _
          have hbl9 : Below wc.heap.size wc W9 := by rw [hW9]; exact hb9.more _
          have hxr9 : Rg W9 E e' F f x := by rw [hW9]; exact hxr.below (below_new _ _)
          have hg9 : w.heap.size + 1 + 1 < w9.heap.size := by have := hb9.size; have := hT8.lt; omega
          rw [← hW9]
          have hT9 := hT8.keep hbl9
          have ha9 := ha8.below hbl9
          have hb9' := hb8'.below hbl9
          obtain ⟨g9, hg9e⟩ : ∃ g9, w9.heap.size = g9 := ⟨_, rfl⟩
          rw [hg9e] at hk9 hg9 ⊢
          clear hW9 hbl9 hb9 hxr hT8 ha8 hb8' hG8 hb8 hL c0 c1 hg9e hT6 hb6d ha6 hG6 hB8 hnat
          have hcells : ∀ X, Below W9.heap.size W9 X → X.cell? ⟨g9, 0, none⟩ = some (.bool (decide (x.num < 0))) ∧ X.cell? ⟨g9, 1, none⟩ = some (.slice E e' e') ∧ X.cell? ⟨g9, 2, none⟩ = some (.slice F f f) :=
            fun X hX => ⟨(hk9.keep hX).cell 0, (hk9.keep hX).cell 1, (hk9.keep hX).cell 2⟩
          have hst : ∀ X Y, Below W9.heap.size W9 X → Only (w.heap.size + 1 + 1) X Y → Y.cell? ⟨g9, 0, none⟩ = some (.bool (decide (x.num < 0))) ∧ Y.cell? ⟨g9, 1, none⟩ = some (.slice E e' e') ∧ Y.cell? ⟨g9, 2, none⟩ = some (.slice F f f) := by
            intro X Y hX hY
            have hk := hY.blk (show g9 ≠ w.heap.size + 1 + 1 by omega) (hk9.keep hX)
            exact ⟨hk.cell 0, hk.cell 1, hk.cell 2⟩
          have Hst := Lib.hid hst
          clear hst
          have hmu1 := fun X (hX : Below W9.heap.size W9 X) => multiply_any Aa Ab na nb na nb a b X (ha9.below hX) (hb9'.below hX) (by omega) (by omega)
          have hlo := fun X (hX : Below W9.heap.size W9 X) => lower_any E F e' f x X (hxr9.below hX)
          have hmu2 : ∀ X L4 l4 L5 l5, Dg X L4 l4 (a * b) → Dg X L5 l5 x.den → Calls Tryz.prog 61 #[.slice L4 l4 l4, .slice L5 l5 l5] X (RetDg (a * b * x.den) X) := by
            intro X L4 l4 L5 l5 h1 h2
            have k1 : l4 ≤ na + nb := by
              rw [← h1.len, ← ha9.len, ← hb9'.len]
              exact limbs_mul_le _ _
            have k2 : l5 ≤ g' := by rw [← h2.len]; exact Hxdl.out
            exact multiply_any L4 L5 l4 l5 l4 l5 _ _ X h1 h2 (by omega) (by omega)
          have hlw : ∀ X L6 l6, Below W9.heap.size W9 X → Dg X L6 l6 (a * b * x.den) → Calls Tryz.prog 95 #[.agg #[.bool (decide (x.num < 0)), .slice E e' e'], .slice L6 l6 l6] X (RetRat (r + s) X) := by
            intro X L6 l6 hX h2
            exact lowest_any E L6 e' l6 _ _ (r + s) X (hxr9.num.below hX) h2 Hrsn.out Hrsd.out
          have Hcells := Lib.hid hcells
          have Hmu1 := Lib.hid hmu1
          have Hlo := Lib.hid hlo
          have Hmu2 := Lib.hid hmu2
          have Hlw := Lib.hid hlw
          obtain ⟨c0, c1, c2⟩ := hcells _ (Below.refl _ _)
          have hB := Below.refl W9.heap.size W9
          clear hcells hmu1 hlo hmu2 hlw Hrsn Hrsd
          unfold ratV at Hlo
          have hn1 : g9 ≠ w.heap.size + 1 + 1 := by omega
          generalize hxy : a * b * x.den = xd at *
          clear hxy
          generalize hrs : r + s = q at *
          clear hrs
          go_region_held3 (fun w' => w'.cell? ⟨g9, 0, none⟩ = some (.bool (decide (x.num < 0))) ∧ w'.cell? ⟨g9, 1, none⟩ = some (.slice E e' e') ∧ w'.cell? ⟨g9, 2, none⟩ = some (.slice F f f))
            (first | exact Hcells.out _ hB | exact Hcells.out _ (Below.drew hB) | exact Hst.out _ _ hB (Only.setCell (Only.setCell (Only.setCell (Only.refl _ _) 0 _) 1 _) 2 _))
            (first
            | (go_at_call_of 61 (Value.slice Aa na na); refine (Hmu1.out _ ?_).mono ?_; (first | exact Below.drew hB | exact hB); rintro e wa ⟨L4, l4, rfl, hd4, hba, -⟩; (first | (have hB := Below.and (Below.drew hB) hba) | (have hB := Below.and hB hba)))
            | (go_at_call 96; refine (Hlo.out _ ?_).mono ?_; (first | exact Below.drew hB | exact hB); rintro e wb ⟨L5, l5, rfl, hd5, hbb⟩; have hd4 := Dg.below hd4 hbb; (first | (have hB := Below.and (Below.drew hB) hbb) | (have hB := Below.and hB hbb)))
            | (go_at_call_of 61 (Value.slice L4 l4 l4); refine (Hmu2.out _ L4 l4 L5 l5 hd4 hd5).mono ?_; rintro e wd ⟨L6, l6, rfl, hd6, hbd, -⟩; (first | (have hB := Below.and (Below.drew hB) hbd) | (have hB := Below.and hB hbd)))
            | (go_at_call 95; refine (Hlw.out _ L6 l6 hB hd6).mono ?_; rintro e we ⟨L7, l7, L8, l8, rfl, hrr, hbe⟩; unfold ratV; (first | (have hB := Below.and (Below.drew hB) hbe) | (have hB := Below.and hB hbe)); have hT10 := T2.keep hT9 hB; obtain ⟨z0, z1, z2, y0, y1, y2⟩ := hT10.b2.three; obtain ⟨c0', c1', c2'⟩ := Hcells.out _ hB))
          all_goals
            go_wp2_with fail
            refine ret_rat_stored (r := q) (A := L7) (n := l7) (B := L8) (m := l8) rfl rfl rfl hT10.b2 hrr hT10.bel (by omega) rfl ?_
            exact fun w' h1 h2 => ⟨L7, l7, L8, l8, rfl, h1, h2⟩
end Go.Proofs.YtemcdnppgnobmaaGreatDoor
