/-
  The mathematics of frac's plus of fractions: common factors of the denominators are taken out before.
  The walk of frac's minus of integers.
-/
import Derived.Test.YtemcdnppgnobmaaGreatDoorRat4
import Derived.Test.YtemcdnppgnobmaaGreatDoorInt6
set_option linter.unusedVariables false
namespace Go.Proofs.YtemcdnppgnobmaaGreatDoor

theorem sum_coprime (x y : Int) (a b : Nat) (hab : Nat.Coprime a b) (hx : Nat.Coprime x.natAbs a) : Nat.Coprime (x * b + y * a).natAbs a := by
  have h1 := Nat.gcd_dvd_left (x * b + y * a).natAbs a
  have h2 := Nat.gcd_dvd_right (x * b + y * a).natAbs a
  generalize hd : Nat.gcd (x * b + y * a).natAbs a = d at h1 h2
  have h3 : (d : Int) ∣ x * b + y * a := Int.ofNat_dvd_left.2 h1
  have h4 : (d : Int) ∣ y * a := Int.dvd_mul_of_dvd_right (Int.ofNat_dvd.2 h2)
  have h5 : (d : Int) ∣ x * b := by
    have := Int.dvd_sub h3 h4
    rwa [Int.add_sub_cancel] at this
  have h6 : d ∣ x.natAbs * b := by
    have := Int.ofNat_dvd_left.1 h5
    rwa [Int.natAbs_mul, Int.natAbs_natCast] at this
  have h7 : Nat.Coprime d b := Nat.Coprime.coprime_dvd_left h2 hab
  have h8 : d ∣ x.natAbs := Nat.Coprime.dvd_of_dvd_mul_right h7 h6
  have h9 : d ∣ Nat.gcd x.natAbs a := Nat.dvd_gcd h8 h2
  rw [hx] at h9
  show Nat.gcd _ _ = 1
  rw [hd]
  exact Nat.dvd_one.1 h9

theorem plus_parts (r s : Rat) (g a b : Nat) (num : Int) (hg : g = Nat.gcd r.den s.den) (ha : a = r.den / g) (hb : b = s.den / g) (hn : num = r.num * b + s.num * a) :
    (r + s).num = num / (Nat.gcd num.natAbs g : Nat) ∧ (r + s).den = a * b * (g / Nat.gcd num.natAbs g) := by
  have hg0 : 0 < g := hg ▸ Nat.gcd_pos_of_pos_left _ r.den_pos
  have hdr : r.den = g * a := by rw [ha, Nat.mul_div_cancel' (hg ▸ Nat.gcd_dvd_left _ _)]
  have hds : s.den = g * b := by rw [hb, Nat.mul_div_cancel' (hg ▸ Nat.gcd_dvd_right _ _)]
  have hab : Nat.Coprime a b := by rw [ha, hb, hg]; exact Nat.coprime_div_gcd_div_gcd (hg ▸ hg0)
  have hra : Nat.Coprime r.num.natAbs a := Nat.Coprime.coprime_dvd_right ⟨g, by rw [hdr, Nat.mul_comm]⟩ r.reduced
  have hsb : Nat.Coprime s.num.natAbs b := Nat.Coprime.coprime_dvd_right ⟨g, by rw [hds, Nat.mul_comm]⟩ s.reduced
  have hN : r.num * (s.den : Int) + s.num * (r.den : Int) = g * num := by
    rw [hn, hdr, hds, Int.natCast_mul, Int.natCast_mul, Int.mul_add]
    simp only [Int.mul_left_comm]
  have hc : Nat.Coprime num.natAbs (a * b) := by
    refine Nat.Coprime.mul_right ?_ ?_
    · rw [hn]; exact sum_coprime _ _ a b hab hra
    · rw [hn, Int.add_comm]; exact sum_coprime _ _ b a hab.symm hsb
  have hG : Nat.gcd (r.num * (s.den : Int) + s.num * (r.den : Int)).natAbs (r.den * s.den) = g * Nat.gcd num.natAbs g := by
    rw [hN, Int.natAbs_mul, Int.natAbs_natCast, hdr, hds, show g * a * (g * b) = g * (g * (a * b)) by simp only [Nat.mul_left_comm, Nat.mul_comm], Nat.gcd_mul_left]
    rw [Nat.Coprime.gcd_mul_right_cancel_right g hc.symm]
  have hh := Nat.gcd_dvd_right num.natAbs g
  refine ⟨?_, ?_⟩
  · rw [Rat.num_add, hG, hN, Int.natCast_mul, Int.mul_ediv_mul_of_pos _ _ (by omega)]
  · rw [Rat.den_add, hG, hdr, hds, show g * a * (g * b) = g * (a * b * g) by simp only [Nat.mul_left_comm, Nat.mul_comm], Nat.mul_div_mul_left _ _ hg0, Nat.mul_div_assoc _ hh]
end Go.Proofs.YtemcdnppgnobmaaGreatDoor

namespace Go.Proofs.YtemcdnppgnobmaaGreatDoor
open Go.RowKit

set_option maxRecDepth 100000 in
set_option maxHeartbeats 800000 in
theorem minus_any (A B : Option Addr) (n m : Nat) (y z : Int) (w : World) (h : Dg w A n y.natAbs) (k : Dg w B m z.natAbs) (hn9 : n ≤ 100000000000) (hm9 : m ≤ 100000000000) :
    Calls Tryz.prog 30 #[intV y A n, intV z B m] w (RetInt (y - z) w) := by
  obtain ⟨W, hW, hb0, hb1, hres, hbel⟩ := three_new w 25 25 25 #[.bool (decide (y < 0)), .slice A n n] #[.bool (decide (z < 0)), .slice B m m] #[.bool false, .slice none 0 0]
  have hT : I2 w y z A B n m W := ⟨hb0, hb1, hres, h.below hbel, k.below hbel, hbel⟩
  have hm := fun X (hX : I2 w y z A B n m X) => neg_any B m z X hX.r1
  have hp := fun X (hX : I2 w y z A B n m X) (hd : Dg X B m (-z).natAbs) => plus_any A B n m y (-z) X hX.r0 hd hn9 hm9
  have he : y + -z = y - z := rfl
  have Hm := Lib.hid hm
  have Hp := Lib.hid hp
  have HW := Lib.hid hW
  clear hm hp hbel h k hW hb0 hb1 hres
  rw [← he]
  clear he
  generalize y + -z = q at *
  unfold intV
  unfold intV at Hm Hp
  generalize decide (-z < 0) = bz at Hm Hp
  obtain ⟨c0, c1, d0, d1⟩ := hT.cells
  go_enter Tryz.func30, Tryz.ntmps30
  go_upto_region 1 with fail
  rw [← HW.out]
  clear HW
  go_region_held3 (fun w' => w'.cell? ⟨w.heap.size, 0, none⟩ = some (.bool (decide (y < 0))) ∧ w'.cell? ⟨w.heap.size, 1, none⟩ = some (.slice A n n) ∧ w'.cell? ⟨w.heap.size + 1, 0, none⟩ = some (.bool (decide (z < 0))) ∧ w'.cell? ⟨w.heap.size + 1, 1, none⟩ = some (.slice B m m))
    (first | exact I2.cells hT | exact I2.cells (I2.drew hT) | exact I2.cells hT2 | exact I2.cells hT3 | exact I2.cellsOnly hT3 (((Only.refl _ w3).setCell 0 _).setCell 1 _))
    (first
    | (go_at_call 60; refine (Hm.out _ ?_).mono ?_; exact I2.drew hT; rintro e w2 ⟨rfl, hd2, hb2⟩; have hT2 := I2.keep (I2.drew hT) hb2)
    | (go_at_call 27; refine (Hp.out _ hT2 hd2).mono ?_; rintro e w3 ⟨C, c, rfl, hd3, hb3⟩; have hT3 := I2.keep hT2 hb3; unfold intV; obtain ⟨r0, r1, s0, s1⟩ := hT3.b2.two))
  go_wp2_with fail
  exact ret_int_stored rfl rfl rfl hT3.b2 hd3 hT3.bel (by omega) rfl (fun w' h1 h2 => ⟨C, c, rfl, h1, h2⟩)
end Go.Proofs.YtemcdnppgnobmaaGreatDoor
