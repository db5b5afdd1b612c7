/-
  The walk of the reference's Ratio.
-/
import Derived.Test.YtgdonbnolebhbaaGreatDoorRfF
import Derived.Test.YtgdonbnolebhbaaGreatDoorMake1
set_option linter.unusedVariables false
namespace Go.Proofs.YtgdonbnolebhbaaGreatDoor
open Go.RowKit

theorem qZ_pos (a : Int) (g : Nat) : qZ a (g : Int) = if a < 0 then -((a.natAbs / g : Nat) : Int) else ((a.natAbs / g : Nat) : Int) := by
  unfold qZ
  rw [show decide (((g : Nat) : Int) < 0) = false from decide_eq_false (by omega), Int.natAbs_natCast]
  by_cases h : a < 0 <;> simp [h]
theorem div_neg_exact (m g : Nat) (h : g ∣ m) : (-(m : Int)) / (g : Int) = -((m / g : Nat) : Int) := by
  rw [Int.neg_ediv_of_dvd (Int.ofNat_dvd.2 h)]
  rfl
theorem ratio_num (a b : Int) (hi : ((b : Rat)⁻¹).num = if b < 0 then -1 else 1) (hd : ((b : Rat)⁻¹).den = b.natAbs) :
    ((a : Rat) * (b : Rat)⁻¹).num = (if b < 0 then -(qZ a (Nat.gcd a.natAbs b.natAbs : Nat)) else qZ a (Nat.gcd a.natAbs b.natAbs : Nat)) ∧ ((a : Rat) * (b : Rat)⁻¹).den = b.natAbs / Nat.gcd a.natAbs b.natAbs := by
  have hg : Nat.gcd (a * ((b : Rat)⁻¹).num).natAbs ((a : Rat).den * ((b : Rat)⁻¹).den) = Nat.gcd a.natAbs b.natAbs := by
    rw [hi, hd, Rat.den_intCast, Nat.one_mul, Int.natAbs_mul]
    split <;> simp
  have hdv : Nat.gcd a.natAbs b.natAbs ∣ a.natAbs := Nat.gcd_dvd_left _ _
  constructor
  · rw [Rat.num_mul, Rat.num_intCast, hg, hi, qZ_pos]
    generalize Nat.gcd a.natAbs b.natAbs = g at *
    rcases Int.lt_or_le a 0 with ha | ha
    · have e : a = -((a.natAbs : Nat) : Int) := by omega
      rw [if_pos ha]
      by_cases hb0 : b < 0
      · rw [if_pos hb0, if_pos hb0]
        generalize a.natAbs = m at *
        subst e
        rw [show -(m : Int) * -1 = (m : Nat) by omega, Int.neg_neg]
        rfl
      · rw [if_neg hb0, if_neg hb0]
        generalize a.natAbs = m at *
        subst e
        rw [Int.mul_one]
        exact div_neg_exact m g hdv
    · have e : a = ((a.natAbs : Nat) : Int) := by omega
      rw [if_neg (show ¬ a < 0 by omega)]
      by_cases hb0 : b < 0
      · rw [if_pos hb0, if_pos hb0]
        generalize a.natAbs = m at *
        subst e
        rw [show (m : Int) * -1 = -(m : Int) by omega]
        exact div_neg_exact m g hdv
      · rw [if_neg hb0, if_neg hb0]
        generalize a.natAbs = m at *
        subst e
        rw [Int.mul_one]
        rfl
  · rw [Rat.den_mul, Rat.num_intCast, hg, hd, Rat.den_intCast, Nat.one_mul]

theorem ratio_parts (a b : Int) (hb : b ≠ 0) : ((a : Rat) * (b : Rat)⁻¹).num = (if b < 0 then -(qZ a (Nat.gcd a.natAbs b.natAbs : Nat)) else qZ a (Nat.gcd a.natAbs b.natAbs : Nat)) ∧ ((a : Rat) * (b : Rat)⁻¹).den = b.natAbs / Nat.gcd a.natAbs b.natAbs := by
  obtain ⟨h1, h2⟩ := inv_parts (b : Rat) (by simpa using hb)
  rw [Rat.num_intCast, Rat.den_intCast] at h1
  rw [Rat.num_intCast] at h2
  refine ratio_num a b ?_ h2
  rw [h1]
  by_cases h : b < 0 <;> simp [h]
theorem qZ_abs (a : Int) (g : Nat) : (qZ a (g : Int)).natAbs = a.natAbs / g := by
  rw [qZ_pos]
  by_cases h : a < 0
  · rw [if_pos h, Int.natAbs_neg, Int.natAbs_natCast]
  · rw [if_neg h, Int.natAbs_natCast]
theorem qZ_neg (a : Int) (g : Nat) (hg : g ∣ a.natAbs) (hg0 : 0 < g) : decide (qZ a (g : Int) < 0) = decide (a < 0) := by
  rw [qZ_pos, decide_eq_decide]
  obtain ⟨k, hk⟩ := hg
  have hq : a.natAbs / g = k := by rw [hk, Nat.mul_div_cancel_left _ hg0]
  rw [hq]
  by_cases h : a < 0
  · rw [if_pos h]
    have : 0 < k := by
      rcases Nat.eq_zero_or_pos k with e | e
      · subst e; omega
      · exact e
    omega
  · rw [if_neg h]
    omega

/-- A pack: blocks of integers of the reference, made behind X, and digits. -/
structure Pk (X : World) (L : List (Nat × Bool × Option Addr × Nat × Nat)) (M : List (Option Addr × Nat × Nat × Nat)) (Y : World) : Prop where
  blk : ∀ b ∈ L, Blk Y b.1 31 #[.bool b.2.1, .slice b.2.2.1 b.2.2.2.1 b.2.2.2.2] ∧ X.heap.size ≤ b.1
  ne : L.Pairwise (fun a b => a.1 ≠ b.1)
  dig : ∀ m ∈ M, Nd Y m.1 m.2.1 m.2.2.1 m.2.2.2
  bel : Below X.heap.size X Y
theorem Pk.nil (X : World) : Pk X [] [] X := ⟨fun _ h => absurd h (List.not_mem_nil), List.Pairwise.nil, fun _ h => absurd h (List.not_mem_nil), Below.refl _ _⟩
section
variable {X Y Y' : World} {L : List (Nat × Bool × Option Addr × Nat × Nat)} {M : List (Option Addr × Nat × Nat × Nat)} {g n c n' c' x : Nat} {b b' : Bool} {A A' : Option Addr} {p : Nat × Bool × Option Addr × Nat × Nat}
theorem Pk.keep (h : Pk X L M Y) (hb : Below Y.heap.size Y Y') : Pk X L M Y' :=
  ⟨fun q hq => ⟨(h.blk q hq).1.keep hb, (h.blk q hq).2⟩, h.ne, fun m hm => (h.dig m hm).below hb, h.bel.and hb⟩
theorem Pk.drew (h : Pk X L M Y) : Pk X L M Y.drew := h.keep (Below.refl _ _).drew
theorem Pk.alloc (h : Pk X L M Y) : Pk X ((Y.heap.size, b, A, n, c) :: L) M (Y.alloc (.cells #[.bool b, .slice A n c] 31)) := by
  have k := h.keep (below_new Y (.cells #[.bool b, .slice A n c] 31))
  refine ⟨fun q hq => ?_, List.Pairwise.cons (fun q hq => ?_) h.ne, k.dig, k.bel⟩
  · rcases List.mem_cons.1 hq with rfl | e
    · exact ⟨Blk.new _ _ _, h.bel.size⟩
    · exact k.blk q e
  · have := (h.blk q hq).1.lt
    simp only
    omega
theorem Pk.alloc2 (h : Pk X L M Y) : Pk X ((Y.heap.size + 1, b', A', n', c') :: (Y.heap.size, b, A, n, c) :: L) M ((Y.alloc (.cells #[.bool b, .slice A n c] 31)).alloc (.cells #[.bool b', .slice A' n' c'] 31)) := by
  have k := (h.alloc (b := b) (A := A) (n := n) (c := c)).alloc (b := b') (A := A') (n := n') (c := c')
  rwa [size_new] at k
theorem Pk.add (h : Pk X L M Y) (hn : Nd Y A n c x) : Pk X L ((A, n, c, x) :: M) Y :=
  ⟨h.blk, h.ne, fun m hm => by rcases List.mem_cons.1 hm with rfl | e; exact hn; exact h.dig m e, h.bel⟩
theorem Pk.step {G : Prop} (h : Pk X L M Y) (hb : Below Y.heap.size Y Y') (hn : Nd Y' A n c x) (k : Pk X L ((A, n, c, x) :: M) Y' → G) : G := k ((h.keep hb).add hn)
theorem Pk.s1 (h : Pk X ((g, b, A, n, c) :: L) M Y) : Pk X ((g, b', A', n', c') :: L) M ((Y.setCell ⟨g, 0, none⟩ (.bool b')).setCell ⟨g, 1, none⟩ (.slice A' n' c')) := by
  have ho := ((Only.refl g Y).setCell 0 (.bool b')).setCell 1 (.slice A' n' c')
  obtain ⟨hk, hl⟩ := h.blk _ (List.mem_cons_self ..)
  have hne := h.ne
  rw [List.pairwise_cons] at hne
  refine ⟨fun q hq => ?_, List.Pairwise.cons (fun q hq => hne.1 q hq) hne.2, fun m hm => (h.dig m hm).only ho hk (zz_free _ _ _ _), h.bel.trans (ho.below hl)⟩
  rcases List.mem_cons.1 hq with rfl | e
  · exact ⟨Blk.set2 hk _ _, hl⟩
  · exact ⟨ho.blk (Ne.symm (hne.1 q e)) (h.blk q (List.mem_cons_of_mem _ e)).1, (h.blk q (List.mem_cons_of_mem _ e)).2⟩
theorem Pk.swap {p q : Nat × Bool × Option Addr × Nat × Nat} (h : Pk X (p :: q :: L) M Y) : Pk X (q :: p :: L) M Y := by
  have hne := h.ne
  rw [List.pairwise_cons, List.pairwise_cons] at hne
  refine ⟨fun r hr => h.blk r ?_, List.Pairwise.cons (fun r hr => ?_) (List.Pairwise.cons (fun r hr => hne.1 r (List.mem_cons_of_mem _ hr)) hne.2.2), h.dig, h.bel⟩
  · rcases List.mem_cons.1 hr with rfl | e
    · exact List.mem_cons_of_mem _ (List.mem_cons_self ..)
    · rcases List.mem_cons.1 e with rfl | e
      · exact List.mem_cons_self ..
      · exact List.mem_cons_of_mem _ (List.mem_cons_of_mem _ e)
  · rcases List.mem_cons.1 hr with rfl | e
    · exact Ne.symm (hne.1 q (List.mem_cons_self ..))
    · exact hne.2.1 r e
theorem Pk.s2 (h : Pk X (p :: (g, b, A, n, c) :: L) M Y) : Pk X (p :: (g, b', A', n', c') :: L) M ((Y.setCell ⟨g, 0, none⟩ (.bool b')).setCell ⟨g, 1, none⟩ (.slice A' n' c')) :=
  h.swap.s1.swap
theorem Pk.c1 (h : Pk X ((g, b, A, n, c) :: L) M Y) : Y.cell? ⟨g, 0, none⟩ = some (.bool b) ∧ Y.cell? ⟨g, 1, none⟩ = some (.slice A n c) ∧ Y.frozen? ⟨g, 0, none⟩ = false ∧ Y.frozen? ⟨g, 1, none⟩ = false :=
  (h.blk _ (List.mem_cons_self ..)).1.zz
theorem Pk.c2 (h : Pk X ((g, b, A, n, c) :: (x, b', A', n', c') :: L) M Y) : (Y.cell? ⟨x, 0, none⟩ = some (.bool b') ∧ Y.cell? ⟨x, 1, none⟩ = some (.slice A' n' c') ∧ Y.frozen? ⟨x, 0, none⟩ = false ∧ Y.frozen? ⟨x, 1, none⟩ = false) ∧ g ≠ x ∧ x ≠ g := by
  have hne := h.ne
  rw [List.pairwise_cons] at hne
  exact ⟨h.swap.c1, hne.1 _ (List.mem_cons_self ..), Ne.symm (hne.1 _ (List.mem_cons_self ..))⟩
theorem Pk.l1 (h : Pk X ((g, b, A, n, c) :: L) M Y) : g < Y.heap.size := (h.blk _ (List.mem_cons_self ..)).1.lt
end

/-- Two integers, each in a block of its own. -/
def RP (X : World) (zn zd : Int) (v v' : Value) (Y : World) : Prop :=
  ∃ g A n c g' B m d, v = .pointer (some ⟨g, 0, none⟩) ∧ v' = .pointer (some ⟨g', 0, none⟩) ∧ g ≠ g' ∧ Blk Y g 31 #[.bool (decide (zn < 0)), .slice A n c] ∧ Blk Y g' 31 #[.bool (decide (zd < 0)), .slice B m d] ∧
    Nd Y A n c zn.natAbs ∧ Nd Y B m d zd.natAbs ∧ X.heap.size ≤ g ∧ X.heap.size ≤ g' ∧ Below X.heap.size X Y

theorem qq_free (b b' : Bool) (A A' : Option Addr) (n c n' c' : Nat) : ∀ (i : Nat) (z : Int), (#[Value.bool b, Value.slice A n c, Value.bool b', Value.slice A' n' c'] : Array Value)[i]? ≠ some (Value.int .i64 z) := by
  intro i z
  match i with
  | 0 | 1 | 2 | 3 => simp
  | i + 4 => simp

/-- A fraction of the reference is stored into the cell of the result, which is then returned. -/
theorem ret_q_stored {fn : Func} {R : Ending → World → Prop} {a : Act} {w w1 : World} {s g n c n' c' x x' : Nat} {A A' : Option Addr} {b b' : Bool}
    (hf : fn.results = #[.cell s 45]) (h4 : a.tmps[s]? = some (.pointer (some ⟨g, 0, none⟩))) (hd : a.defers = [])
    (hb : Blk w1 g 45 #[.bool false, .slice none 0 0, .bool false, .slice none 0 0]) (hn : Nd w1 A n c x) (hn' : Nd w1 A' n' c' x') (hbel : Below w.heap.size w w1) (hg : w.heap.size ≤ g)
    (hR : ∀ w', Nd w' A n c x → Nd w' A' n' c' x' → Below w.heap.size w w' → R (.returned (.agg #[.bool b, .slice A n c, .bool b', .slice A' n' c'])) w') :
    bodyPost Tryz.prog fn R .ret a ((((w1.setCell ⟨g, 0, none⟩ (.bool b)).setCell ⟨g, 1, none⟩ (.slice A n c)).setCell ⟨g, 2, none⟩ (.bool b')).setCell ⟨g, 3, none⟩ (.slice A' n' c')) := by
  have ho := ((((Only.refl g w1).setCell 0 (.bool b)).setCell 1 (.slice A n c)).setCell 2 (.bool b')).setCell 3 (.slice A' n' c')
  have hb4 := (((hb.store 0 (.bool b)).store 1 (.slice A n c)).store 2 (.bool b')).store 3 (.slice A' n' c')
  have c0 := hb4.cell 0
  have c1 := hb4.cell 1
  have c2 := hb4.cell 2
  have c3 := hb4.cell 3
  have hr := hR _ (hn.only ho hb (qq_free _ _ _ _ _ _ _ _)) (hn'.only ho hb (qq_free _ _ _ _ _ _ _ _)) (hbel.trans (ho.below hg))
  generalize (((w1.setCell ⟨g, 0, none⟩ (.bool b)).setCell ⟨g, 1, none⟩ (.slice A n c)).setCell ⟨g, 2, none⟩ (.bool b')).setCell ⟨g, 3, none⟩ (.slice A' n' c') = w6 at *
  exact bodyPost_ret (v := .agg #[.bool b, .slice A n c, .bool b', .slice A' n' c']) (by simp at c0 c1 c2 c3; simp [results, hf, go_sem, c0, c1, c2, c3, h4]) hd hr

section
variable {X Y : World} {zn zd : Int} {g g' n c m d : Nat} {A B : Option Addr} {M : List (Option Addr × Nat × Nat × Nat)}
theorem RP.of1 (h : Pk X ((g, decide (zn < 0), A, n, c) :: (g', decide (zd < 0), B, m, d) :: []) ((B, m, d, zd.natAbs) :: (A, n, c, zn.natAbs) :: M) Y) : RP X zn zd (.pointer (some ⟨g, 0, none⟩)) (.pointer (some ⟨g', 0, none⟩)) Y :=
  ⟨g, A, n, c, g', B, m, d, rfl, rfl, h.c2.2.1, (h.blk _ (List.mem_cons_self ..)).1, (h.blk _ (List.mem_cons_of_mem _ (List.mem_cons_self ..))).1, h.dig _ (List.mem_cons_of_mem _ (List.mem_cons_self ..)), h.dig _ (List.mem_cons_self ..), (h.blk _ (List.mem_cons_self ..)).2, (h.blk _ (List.mem_cons_of_mem _ (List.mem_cons_self ..))).2, h.bel⟩
theorem RP.of2 (h : Pk X ((g', decide (zd < 0), B, m, d) :: (g, decide (zn < 0), A, n, c) :: []) ((B, m, d, zd.natAbs) :: (A, n, c, zn.natAbs) :: M) Y) : RP X zn zd (.pointer (some ⟨g, 0, none⟩)) (.pointer (some ⟨g', 0, none⟩)) Y := RP.of1 h.swap
end

set_option maxRecDepth 100000 in
set_option maxHeartbeats 3200000 in
theorem rratio_any (y z : Int) (A B : Option Addr) (n m c d : Nat) (w : World) (h : Nd w A n c y.natAbs) (k : Nd w B m d z.natAbs) (hz : z ≠ 0) (hn9 : n ≤ 1000000000) (hm9 : m ≤ 1000000000) :
    Calls Tryz.prog 14 #[zV y A n c, zV z B m d] w (fun e w' => ∃ N nn cn D nd cd, e = .returned (.agg #[.bool (decide (((y : Rat) * (z : Rat)⁻¹).num < 0)), .slice N nn cn, .bool false, .slice D nd cd]) ∧
      Nd w' N nn cn ((y : Rat) * (z : Rat)⁻¹).num.natAbs ∧ Nd w' D nd cd ((y : Rat) * (z : Rat)⁻¹).den ∧ Below w.heap.size w w') := by
  obtain ⟨W, hW, hb0, hb1, hb2, hbel⟩ := three_new w 31 31 45 #[.bool (decide (y < 0)), .slice A n c] #[.bool (decide (z < 0)), .slice B m d] #[.bool false, .slice none 0 0, .bool false, .slice none 0 0]
  have hx := h.below hbel
  have hy := k.below hbel
  obtain ⟨g, hg⟩ : ∃ g, g = Nat.gcd y.natAbs z.natAbs := ⟨_, rfl⟩
  have hg0 : 0 < g := by rw [hg]; exact Nat.gcd_pos_of_pos_right _ (by omega)
  have Hgc := Lib.hid (rgcd_any y z A B n m c d W hx hy hn9 hm9)
  rw [← hg] at Hgc
  have hgl : limbs g ≤ m := by
    rw [← hy.len, hg]
    exact limbs_mono (Nat.gcd_le_right _ (by omega))
  obtain ⟨pn, pd⟩ := ratio_parts y z hz
  rw [← hg] at pn pd
  have hgn : decide (((g : Nat) : Int) < 0) = false := decide_eq_false (by omega)
  have hdy : g ∣ y.natAbs := by rw [hg]; exact Nat.gcd_dvd_left _ _
  have hdz : g ∣ z.natAbs := by rw [hg]; exact Nat.gcd_dvd_right _ _
  have Hqz := Lib.hid (qZ_neg z g hdz hg0)
  have Hqy := Lib.hid (qZ_abs y g)
  have Hqd := Lib.hid (qZ_abs z g)
  have HW := Lib.hid hW
  have Hbel := Lib.hid hbel
  have Hpn := Lib.hid pn
  have Hpd := Lib.hid pd
  have Hz := Lib.hid hz
  obtain ⟨c0, c1, f0, f1⟩ := hb0.zz
  obtain ⟨d0, d1, e0, e1⟩ := hb1.zz
  clear hW hbel h k hg pn pd hdy hdz hz
  unfold zV RetZ zV at *
  generalize (y : Rat) * (z : Rat)⁻¹ = r at *
  go_enter Tryz.func14, Tryz.ntmps14
  go_upto_region 1 with fail
  rw [← HW.out]
  clear HW
  go_upto_region 2 with (go_at_call 27; refine Hgc.out.mono ?_; rintro e w1 ⟨G, gn, cg, rfl, hG, hbg⟩)
  try rw [hgn]
  obtain ⟨W1, hW1⟩ : ∃ W1, W1 = w1.alloc (.cells #[.bool false, .slice G gn cg] 31) := ⟨_, rfl⟩
  have hbW1 : Below W.heap.size W W1 := by rw [hW1]; exact hbg.more _
  have hkg : Blk W1 w1.heap.size 31 #[.bool false, .slice G gn cg] := by rw [hW1]; exact Blk.new _ _ _
  have hG1 : Nd W1 G gn cg g := by rw [hW1]; exact hG.below (below_new _ _)
  rw [← hW1]
  obtain ⟨gg, hgg⟩ : ∃ gg, w1.heap.size = gg := ⟨_, rfl⟩
  have hggl : w.heap.size + 1 + 1 < gg := by rw [← hgg]; have := hbg.size; have := hb2.lt; omega
  rw [hgg] at hkg ⊢
  have k0 := hb0.keep hbW1
  have k1 := hb1.keep hbW1
  have k2 := hb2.keep hbW1
  have hx1 := hx.below hbW1
  have hy1 := hy.below hbW1
  have hgl2 : gn ≤ m := by rw [← hG1.len]; exact hgl
  have Hq1 := Lib.hid (fun X (hX : Below W1.heap.size W1 X) => rquo_any y (g : Int) A G n gn c cg X (hx1.below hX) (hG1.below hX) (by omega) hn9 (by omega))
  have Hq2 := Lib.hid (fun X (hX : Below W1.heap.size W1 X) => rquo_any z (g : Int) B G m gn d cg X (hy1.below hX) (hG1.below hX) (by omega) hm9 (by omega))
  have Hcells := Lib.hid (fun X (hX : Below W1.heap.size W1 X) => show X.cell? ⟨w.heap.size, 0, none⟩ = some (.bool (decide (y < 0))) ∧ X.cell? ⟨w.heap.size, 1, none⟩ = some (.slice A n c) ∧ X.cell? ⟨w.heap.size + 1, 0, none⟩ = some (.bool (decide (z < 0))) ∧ X.cell? ⟨w.heap.size + 1, 1, none⟩ = some (.slice B m d) ∧ X.cell? ⟨gg, 0, none⟩ = some (.bool false) ∧ X.cell? ⟨gg, 1, none⟩ = some (.slice G gn cg) from
    ⟨(k0.keep hX).cell 0, (k0.keep hX).cell 1, (k1.keep hX).cell 0, (k1.keep hX).cell 1, (hkg.keep hX).cell 0, (hkg.keep hX).cell 1⟩)
  have HbW1 := Lib.hid (Hbel.out.and hbW1)
  clear hW1 hbW1 hbg hG hgg hG1 hx1 hy1 hx hy hb0 hb1 hb2 Hgc hkg c0 c1 d0 d1 f0 f1 e0 e1 hgl
  unfold zV RetZ zV at Hq1 Hq2
  rw [hgn] at Hq1 Hq2
  obtain ⟨c0, c1, d0, d1, g0, g1⟩ := Hcells.out _ (Below.refl _ _)
  have hK := Pk.nil W1
  generalize hzn : qZ y (g : Int) = zn at *
  generalize hzd : qZ z (g : Int) = zd at *
  clear hzn hzd
  go_cut [6, 7] (RP W1 zn zd)
  case first =>
    go_region_held3 (fun w' => w'.cell? ⟨w.heap.size, 0, none⟩ = some (.bool (decide (y < 0))) ∧ w'.cell? ⟨w.heap.size, 1, none⟩ = some (.slice A n c) ∧ w'.cell? ⟨w.heap.size + 1, 0, none⟩ = some (.bool (decide (z < 0))) ∧ w'.cell? ⟨w.heap.size + 1, 1, none⟩ = some (.slice B m d) ∧ w'.cell? ⟨gg, 0, none⟩ = some (.bool false) ∧ w'.cell? ⟨gg, 1, none⟩ = some (.slice G gn cg))
      (first | ((apply Hcells.out; apply Pk.bel); (focus (first | ((repeat (first | with_reducible apply Pk.drew | with_reducible apply Pk.alloc2 | with_reducible apply Pk.alloc)); with_reducible exact hK) | ((repeat (first | with_reducible apply Pk.drew | with_reducible apply Pk.alloc2 | with_reducible apply Pk.alloc)); with_reducible apply Pk.s1; (repeat (first | with_reducible apply Pk.drew | with_reducible apply Pk.alloc2 | with_reducible apply Pk.alloc)); with_reducible exact hK) | ((repeat (first | with_reducible apply Pk.drew | with_reducible apply Pk.alloc2 | with_reducible apply Pk.alloc)); with_reducible apply Pk.s2; (repeat (first | with_reducible apply Pk.drew | with_reducible apply Pk.alloc2 | with_reducible apply Pk.alloc)); with_reducible exact hK) | ((repeat (first | with_reducible apply Pk.drew | with_reducible apply Pk.alloc2 | with_reducible apply Pk.alloc)); with_reducible apply Pk.s1; (repeat (first | with_reducible apply Pk.drew | with_reducible apply Pk.alloc2 | with_reducible apply Pk.alloc)); with_reducible apply Pk.s2; (repeat (first | with_reducible apply Pk.drew | with_reducible apply Pk.alloc2 | with_reducible apply Pk.alloc)); with_reducible exact hK) | ((repeat (first | with_reducible apply Pk.drew | with_reducible apply Pk.alloc2 | with_reducible apply Pk.alloc)); with_reducible apply Pk.s2; (repeat (first | with_reducible apply Pk.drew | with_reducible apply Pk.alloc2 | with_reducible apply Pk.alloc)); with_reducible apply Pk.s1; (repeat (first | with_reducible apply Pk.drew | with_reducible apply Pk.alloc2 | with_reducible apply Pk.alloc)); with_reducible exact hK) | ((repeat (first | with_reducible apply Pk.drew | with_reducible apply Pk.alloc2 | with_reducible apply Pk.alloc)); with_reducible apply Pk.s1; (repeat (first | with_reducible apply Pk.drew | with_reducible apply Pk.alloc2 | with_reducible apply Pk.alloc)); with_reducible apply Pk.s1; (repeat (first | with_reducible apply Pk.drew | with_reducible apply Pk.alloc2 | with_reducible apply Pk.alloc)); with_reducible exact hK) | ((repeat (first | with_reducible apply Pk.drew | with_reducible apply Pk.alloc2 | with_reducible apply Pk.alloc)); with_reducible apply Pk.s2; (repeat (first | with_reducible apply Pk.drew | with_reducible apply Pk.alloc2 | with_reducible apply Pk.alloc)); with_reducible apply Pk.s2; (repeat (first | with_reducible apply Pk.drew | with_reducible apply Pk.alloc2 | with_reducible apply Pk.alloc)); with_reducible exact hK)))))
      (first
      | (go_at_call_of 28 (Value.slice A n c); refine Calls.mono (Hq1.out _ ?_) ?_; apply Pk.bel; (focus (first | ((repeat (first | with_reducible apply Pk.drew | with_reducible apply Pk.alloc2 | with_reducible apply Pk.alloc)); with_reducible exact hK) | ((repeat (first | with_reducible apply Pk.drew | with_reducible apply Pk.alloc2 | with_reducible apply Pk.alloc)); with_reducible apply Pk.s1; (repeat (first | with_reducible apply Pk.drew | with_reducible apply Pk.alloc2 | with_reducible apply Pk.alloc)); with_reducible exact hK) | ((repeat (first | with_reducible apply Pk.drew | with_reducible apply Pk.alloc2 | with_reducible apply Pk.alloc)); with_reducible apply Pk.s2; (repeat (first | with_reducible apply Pk.drew | with_reducible apply Pk.alloc2 | with_reducible apply Pk.alloc)); with_reducible exact hK) | ((repeat (first | with_reducible apply Pk.drew | with_reducible apply Pk.alloc2 | with_reducible apply Pk.alloc)); with_reducible apply Pk.s1; (repeat (first | with_reducible apply Pk.drew | with_reducible apply Pk.alloc2 | with_reducible apply Pk.alloc)); with_reducible apply Pk.s2; (repeat (first | with_reducible apply Pk.drew | with_reducible apply Pk.alloc2 | with_reducible apply Pk.alloc)); with_reducible exact hK) | ((repeat (first | with_reducible apply Pk.drew | with_reducible apply Pk.alloc2 | with_reducible apply Pk.alloc)); with_reducible apply Pk.s2; (repeat (first | with_reducible apply Pk.drew | with_reducible apply Pk.alloc2 | with_reducible apply Pk.alloc)); with_reducible apply Pk.s1; (repeat (first | with_reducible apply Pk.drew | with_reducible apply Pk.alloc2 | with_reducible apply Pk.alloc)); with_reducible exact hK) | ((repeat (first | with_reducible apply Pk.drew | with_reducible apply Pk.alloc2 | with_reducible apply Pk.alloc)); with_reducible apply Pk.s1; (repeat (first | with_reducible apply Pk.drew | with_reducible apply Pk.alloc2 | with_reducible apply Pk.alloc)); with_reducible apply Pk.s1; (repeat (first | with_reducible apply Pk.drew | with_reducible apply Pk.alloc2 | with_reducible apply Pk.alloc)); with_reducible exact hK) | ((repeat (first | with_reducible apply Pk.drew | with_reducible apply Pk.alloc2 | with_reducible apply Pk.alloc)); with_reducible apply Pk.s2; (repeat (first | with_reducible apply Pk.drew | with_reducible apply Pk.alloc2 | with_reducible apply Pk.alloc)); with_reducible apply Pk.s2; (repeat (first | with_reducible apply Pk.drew | with_reducible apply Pk.alloc2 | with_reducible apply Pk.alloc)); with_reducible exact hK))); rintro e w2 ⟨N1, n2, c2, rfl, hN, hbq⟩; apply Pk.step (hb := hbq) (hn := hN); (focus (first | ((repeat (first | with_reducible apply Pk.drew | with_reducible apply Pk.alloc2 | with_reducible apply Pk.alloc)); with_reducible exact hK) | ((repeat (first | with_reducible apply Pk.drew | with_reducible apply Pk.alloc2 | with_reducible apply Pk.alloc)); with_reducible apply Pk.s1; (repeat (first | with_reducible apply Pk.drew | with_reducible apply Pk.alloc2 | with_reducible apply Pk.alloc)); with_reducible exact hK) | ((repeat (first | with_reducible apply Pk.drew | with_reducible apply Pk.alloc2 | with_reducible apply Pk.alloc)); with_reducible apply Pk.s2; (repeat (first | with_reducible apply Pk.drew | with_reducible apply Pk.alloc2 | with_reducible apply Pk.alloc)); with_reducible exact hK) | ((repeat (first | with_reducible apply Pk.drew | with_reducible apply Pk.alloc2 | with_reducible apply Pk.alloc)); with_reducible apply Pk.s1; (repeat (first | with_reducible apply Pk.drew | with_reducible apply Pk.alloc2 | with_reducible apply Pk.alloc)); with_reducible apply Pk.s2; (repeat (first | with_reducible apply Pk.drew | with_reducible apply Pk.alloc2 | with_reducible apply Pk.alloc)); with_reducible exact hK) | ((repeat (first | with_reducible apply Pk.drew | with_reducible apply Pk.alloc2 | with_reducible apply Pk.alloc)); with_reducible apply Pk.s2; (repeat (first | with_reducible apply Pk.drew | with_reducible apply Pk.alloc2 | with_reducible apply Pk.alloc)); with_reducible apply Pk.s1; (repeat (first | with_reducible apply Pk.drew | with_reducible apply Pk.alloc2 | with_reducible apply Pk.alloc)); with_reducible exact hK) | ((repeat (first | with_reducible apply Pk.drew | with_reducible apply Pk.alloc2 | with_reducible apply Pk.alloc)); with_reducible apply Pk.s1; (repeat (first | with_reducible apply Pk.drew | with_reducible apply Pk.alloc2 | with_reducible apply Pk.alloc)); with_reducible apply Pk.s1; (repeat (first | with_reducible apply Pk.drew | with_reducible apply Pk.alloc2 | with_reducible apply Pk.alloc)); with_reducible exact hK) | ((repeat (first | with_reducible apply Pk.drew | with_reducible apply Pk.alloc2 | with_reducible apply Pk.alloc)); with_reducible apply Pk.s2; (repeat (first | with_reducible apply Pk.drew | with_reducible apply Pk.alloc2 | with_reducible apply Pk.alloc)); with_reducible apply Pk.s2; (repeat (first | with_reducible apply Pk.drew | with_reducible apply Pk.alloc2 | with_reducible apply Pk.alloc)); with_reducible exact hK))); intro hK; (try (simp only [World.size_alloc] at hK)); (try (obtain ⟨z0, z1, z2, z3⟩ := hK.c1)); (try (obtain ⟨⟨y0, y1, y2, y3⟩, hne, hne'⟩ := hK.c2)); (try (have hl1 := Nat.ne_of_lt hK.l1; have hl1' := Nat.ne_of_gt hK.l1)); (try (obtain ⟨⟨x0, x1, x2, x3⟩, -, -⟩ := Pk.c2 (Pk.alloc (b := false) (A := none) (n := 0) (c := 0) hK))))
      | (go_at_call_of 28 (Value.slice B m d); refine Calls.mono (Hq2.out _ ?_) ?_; apply Pk.bel; (focus (first | ((repeat (first | with_reducible apply Pk.drew | with_reducible apply Pk.alloc2 | with_reducible apply Pk.alloc)); with_reducible exact hK) | ((repeat (first | with_reducible apply Pk.drew | with_reducible apply Pk.alloc2 | with_reducible apply Pk.alloc)); with_reducible apply Pk.s1; (repeat (first | with_reducible apply Pk.drew | with_reducible apply Pk.alloc2 | with_reducible apply Pk.alloc)); with_reducible exact hK) | ((repeat (first | with_reducible apply Pk.drew | with_reducible apply Pk.alloc2 | with_reducible apply Pk.alloc)); with_reducible apply Pk.s2; (repeat (first | with_reducible apply Pk.drew | with_reducible apply Pk.alloc2 | with_reducible apply Pk.alloc)); with_reducible exact hK) | ((repeat (first | with_reducible apply Pk.drew | with_reducible apply Pk.alloc2 | with_reducible apply Pk.alloc)); with_reducible apply Pk.s1; (repeat (first | with_reducible apply Pk.drew | with_reducible apply Pk.alloc2 | with_reducible apply Pk.alloc)); with_reducible apply Pk.s2; (repeat (first | with_reducible apply Pk.drew | with_reducible apply Pk.alloc2 | with_reducible apply Pk.alloc)); with_reducible exact hK) | ((repeat (first | with_reducible apply Pk.drew | with_reducible apply Pk.alloc2 | with_reducible apply Pk.alloc)); with_reducible apply Pk.s2; (repeat (first | with_reducible apply Pk.drew | with_reducible apply Pk.alloc2 | with_reducible apply Pk.alloc)); with_reducible apply Pk.s1; (repeat (first | with_reducible apply Pk.drew | with_reducible apply Pk.alloc2 | with_reducible apply Pk.alloc)); with_reducible exact hK) | ((repeat (first | with_reducible apply Pk.drew | with_reducible apply Pk.alloc2 | with_reducible apply Pk.alloc)); with_reducible apply Pk.s1; (repeat (first | with_reducible apply Pk.drew | with_reducible apply Pk.alloc2 | with_reducible apply Pk.alloc)); with_reducible apply Pk.s1; (repeat (first | with_reducible apply Pk.drew | with_reducible apply Pk.alloc2 | with_reducible apply Pk.alloc)); with_reducible exact hK) | ((repeat (first | with_reducible apply Pk.drew | with_reducible apply Pk.alloc2 | with_reducible apply Pk.alloc)); with_reducible apply Pk.s2; (repeat (first | with_reducible apply Pk.drew | with_reducible apply Pk.alloc2 | with_reducible apply Pk.alloc)); with_reducible apply Pk.s2; (repeat (first | with_reducible apply Pk.drew | with_reducible apply Pk.alloc2 | with_reducible apply Pk.alloc)); with_reducible exact hK))); rintro e w3 ⟨D1, n3, c3, rfl, hD, hbr⟩; apply Pk.step (hb := hbr) (hn := hD); (focus (first | ((repeat (first | with_reducible apply Pk.drew | with_reducible apply Pk.alloc2 | with_reducible apply Pk.alloc)); with_reducible exact hK) | ((repeat (first | with_reducible apply Pk.drew | with_reducible apply Pk.alloc2 | with_reducible apply Pk.alloc)); with_reducible apply Pk.s1; (repeat (first | with_reducible apply Pk.drew | with_reducible apply Pk.alloc2 | with_reducible apply Pk.alloc)); with_reducible exact hK) | ((repeat (first | with_reducible apply Pk.drew | with_reducible apply Pk.alloc2 | with_reducible apply Pk.alloc)); with_reducible apply Pk.s2; (repeat (first | with_reducible apply Pk.drew | with_reducible apply Pk.alloc2 | with_reducible apply Pk.alloc)); with_reducible exact hK) | ((repeat (first | with_reducible apply Pk.drew | with_reducible apply Pk.alloc2 | with_reducible apply Pk.alloc)); with_reducible apply Pk.s1; (repeat (first | with_reducible apply Pk.drew | with_reducible apply Pk.alloc2 | with_reducible apply Pk.alloc)); with_reducible apply Pk.s2; (repeat (first | with_reducible apply Pk.drew | with_reducible apply Pk.alloc2 | with_reducible apply Pk.alloc)); with_reducible exact hK) | ((repeat (first | with_reducible apply Pk.drew | with_reducible apply Pk.alloc2 | with_reducible apply Pk.alloc)); with_reducible apply Pk.s2; (repeat (first | with_reducible apply Pk.drew | with_reducible apply Pk.alloc2 | with_reducible apply Pk.alloc)); with_reducible apply Pk.s1; (repeat (first | with_reducible apply Pk.drew | with_reducible apply Pk.alloc2 | with_reducible apply Pk.alloc)); with_reducible exact hK) | ((repeat (first | with_reducible apply Pk.drew | with_reducible apply Pk.alloc2 | with_reducible apply Pk.alloc)); with_reducible apply Pk.s1; (repeat (first | with_reducible apply Pk.drew | with_reducible apply Pk.alloc2 | with_reducible apply Pk.alloc)); with_reducible apply Pk.s1; (repeat (first | with_reducible apply Pk.drew | with_reducible apply Pk.alloc2 | with_reducible apply Pk.alloc)); with_reducible exact hK) | ((repeat (first | with_reducible apply Pk.drew | with_reducible apply Pk.alloc2 | with_reducible apply Pk.alloc)); with_reducible apply Pk.s2; (repeat (first | with_reducible apply Pk.drew | with_reducible apply Pk.alloc2 | with_reducible apply Pk.alloc)); with_reducible apply Pk.s2; (repeat (first | with_reducible apply Pk.drew | with_reducible apply Pk.alloc2 | with_reducible apply Pk.alloc)); with_reducible exact hK))); intro hK; (try (simp only [World.size_alloc] at hK)); (try (obtain ⟨z0, z1, z2, z3⟩ := hK.c1)); (try (obtain ⟨⟨y0, y1, y2, y3⟩, hne, hne'⟩ := hK.c2)); (try (have hl1 := Nat.ne_of_lt hK.l1; have hl1' := Nat.ne_of_gt hK.l1)); (try (obtain ⟨⟨x0, x1, x2, x3⟩, -, -⟩ := Pk.c2 (Pk.alloc (b := false) (A := none) (n := 0) (c := 0) hK))); (try (obtain ⟨⟨v0, v1, v2, v3⟩, -, -⟩ := Pk.c2 (Pk.alloc (b := decide (zn < 0)) (A := N1) (n := n2) (c := c2) hK)))))
    all_goals
      go_wp2_with fail
      go_meet
      first | (apply RP.of1 (M := []); (focus (first | ((repeat (first | with_reducible apply Pk.drew | with_reducible apply Pk.alloc2 | with_reducible apply Pk.alloc)); with_reducible exact hK) | ((repeat (first | with_reducible apply Pk.drew | with_reducible apply Pk.alloc2 | with_reducible apply Pk.alloc)); with_reducible apply Pk.s1; (repeat (first | with_reducible apply Pk.drew | with_reducible apply Pk.alloc2 | with_reducible apply Pk.alloc)); with_reducible exact hK) | ((repeat (first | with_reducible apply Pk.drew | with_reducible apply Pk.alloc2 | with_reducible apply Pk.alloc)); with_reducible apply Pk.s2; (repeat (first | with_reducible apply Pk.drew | with_reducible apply Pk.alloc2 | with_reducible apply Pk.alloc)); with_reducible exact hK) | ((repeat (first | with_reducible apply Pk.drew | with_reducible apply Pk.alloc2 | with_reducible apply Pk.alloc)); with_reducible apply Pk.s1; (repeat (first | with_reducible apply Pk.drew | with_reducible apply Pk.alloc2 | with_reducible apply Pk.alloc)); with_reducible apply Pk.s2; (repeat (first | with_reducible apply Pk.drew | with_reducible apply Pk.alloc2 | with_reducible apply Pk.alloc)); with_reducible exact hK) | ((repeat (first | with_reducible apply Pk.drew | with_reducible apply Pk.alloc2 | with_reducible apply Pk.alloc)); with_reducible apply Pk.s2; (repeat (first | with_reducible apply Pk.drew | with_reducible apply Pk.alloc2 | with_reducible apply Pk.alloc)); with_reducible apply Pk.s1; (repeat (first | with_reducible apply Pk.drew | with_reducible apply Pk.alloc2 | with_reducible apply Pk.alloc)); with_reducible exact hK) | ((repeat (first | with_reducible apply Pk.drew | with_reducible apply Pk.alloc2 | with_reducible apply Pk.alloc)); with_reducible apply Pk.s1; (repeat (first | with_reducible apply Pk.drew | with_reducible apply Pk.alloc2 | with_reducible apply Pk.alloc)); with_reducible apply Pk.s1; (repeat (first | with_reducible apply Pk.drew | with_reducible apply Pk.alloc2 | with_reducible apply Pk.alloc)); with_reducible exact hK) | ((repeat (first | with_reducible apply Pk.drew | with_reducible apply Pk.alloc2 | with_reducible apply Pk.alloc)); with_reducible apply Pk.s2; (repeat (first | with_reducible apply Pk.drew | with_reducible apply Pk.alloc2 | with_reducible apply Pk.alloc)); with_reducible apply Pk.s2; (repeat (first | with_reducible apply Pk.drew | with_reducible apply Pk.alloc2 | with_reducible apply Pk.alloc)); with_reducible exact hK))); done) | (apply RP.of2 (M := []); (focus (first | ((repeat (first | with_reducible apply Pk.drew | with_reducible apply Pk.alloc2 | with_reducible apply Pk.alloc)); with_reducible exact hK) | ((repeat (first | with_reducible apply Pk.drew | with_reducible apply Pk.alloc2 | with_reducible apply Pk.alloc)); with_reducible apply Pk.s1; (repeat (first | with_reducible apply Pk.drew | with_reducible apply Pk.alloc2 | with_reducible apply Pk.alloc)); with_reducible exact hK) | ((repeat (first | with_reducible apply Pk.drew | with_reducible apply Pk.alloc2 | with_reducible apply Pk.alloc)); with_reducible apply Pk.s2; (repeat (first | with_reducible apply Pk.drew | with_reducible apply Pk.alloc2 | with_reducible apply Pk.alloc)); with_reducible exact hK) | ((repeat (first | with_reducible apply Pk.drew | with_reducible apply Pk.alloc2 | with_reducible apply Pk.alloc)); with_reducible apply Pk.s1; (repeat (first | with_reducible apply Pk.drew | with_reducible apply Pk.alloc2 | with_reducible apply Pk.alloc)); with_reducible apply Pk.s2; (repeat (first | with_reducible apply Pk.drew | with_reducible apply Pk.alloc2 | with_reducible apply Pk.alloc)); with_reducible exact hK) | ((repeat (first | with_reducible apply Pk.drew | with_reducible apply Pk.alloc2 | with_reducible apply Pk.alloc)); with_reducible apply Pk.s2; (repeat (first | with_reducible apply Pk.drew | with_reducible apply Pk.alloc2 | with_reducible apply Pk.alloc)); with_reducible apply Pk.s1; (repeat (first | with_reducible apply Pk.drew | with_reducible apply Pk.alloc2 | with_reducible apply Pk.alloc)); with_reducible exact hK) | ((repeat (first | with_reducible apply Pk.drew | with_reducible apply Pk.alloc2 | with_reducible apply Pk.alloc)); with_reducible apply Pk.s1; (repeat (first | with_reducible apply Pk.drew | with_reducible apply Pk.alloc2 | with_reducible apply Pk.alloc)); with_reducible apply Pk.s1; (repeat (first | with_reducible apply Pk.drew | with_reducible apply Pk.alloc2 | with_reducible apply Pk.alloc)); with_reducible exact hK) | ((repeat (first | with_reducible apply Pk.drew | with_reducible apply Pk.alloc2 | with_reducible apply Pk.alloc)); with_reducible apply Pk.s2; (repeat (first | with_reducible apply Pk.drew | with_reducible apply Pk.alloc2 | with_reducible apply Pk.alloc)); with_reducible apply Pk.s2; (repeat (first | with_reducible apply Pk.drew | with_reducible apply Pk.alloc2 | with_reducible apply Pk.alloc)); with_reducible exact hK))); done)
  case rest =>
    obtain ⟨gN, N1, n2, c2, gD, D1, n3, c3, rfl, rfl, hne, hnb, hdb, hnn, hdn, lN, lD, hbc⟩ := hcut
    clear c0 c1 d0 d1 g0 g1 hK Hq1 Hq2 Hcells
    have hneq : gD ≠ gN := Ne.symm hne
    have lk := k2.lt
    have hN2 : gN ≠ w.heap.size + 1 + 1 := by omega
    have hD2 : gD ≠ w.heap.size + 1 + 1 := by omega
    have hN2' : w.heap.size + 1 + 1 ≠ gN := by omega
    have hD2' : w.heap.size + 1 + 1 ≠ gD := by omega
    have hqz := Hqz.out
    by_cases hz : z < 0
    · rw [decide_eq_true hz] at hqz
      have hrn : r.num = -zn := by rw [Hpn.out, if_pos hz]
      have hrd : r.den = (-zd).natAbs := by rw [Hpd.out, Int.natAbs_neg, Hqd.out]
      have Hrn := Lib.hid hrn
      have Hrd := Lib.hid hrd
      have Hn1 := Lib.hid (fun X hX => rneg_any zn N1 n2 c2 X hX)
      have Hn2 := Lib.hid (fun X hX => rneg_any zd D1 n3 c3 X hX)
      have hdneg : decide (-zd < 0) = false := by
        have := of_decide_eq_true hqz
        exact decide_eq_false (by omega)
      unfold zV at Hn1 Hn2
      rw [hdneg] at Hn2
      rw [hqz] at Hn2 hdb
      have Hz2 := Lib.hid hz
      clear hrn hrd hqz hz
      obtain ⟨z0, z1, z2, z3⟩ := hnb.zz
      obtain ⟨y0, y1, y2, y3⟩ := hdb.zz
      go_upto_region 4 with fail
      go_cut [] (fun wx => Blk wx gN 31 #[.bool (decide (-zn < 0)), .slice N1 n2 c2] ∧ Blk wx gD 31 #[.bool false, .slice D1 n3 c3] ∧ Nd wx N1 n2 c2 (-zn).natAbs ∧ Nd wx D1 n3 c3 (-zd).natAbs ∧ Below W1.heap.size W1 wx)
      case first =>
        have hnn' := hnn.below (Below.drew (Below.refl wc.heap.size wc))
        have hdn' := hdn.below (Below.drew (Below.refl wc.heap.size wc))
        go_region_law (first
          | (go_simp; go_at_call_of 29 (Value.slice N1 n2 c2); refine (Hn1.out _ ?_).mono ?_; exact hnn'; rintro e w4 ⟨rfl, hx4, hb4⟩; have hdn4 := Nd.below hdn' hb4; have hnb4 := Blk.keep (w := World.drew wc) hnb hb4; have hdb4 := Blk.keep (w := World.drew wc) hdb hb4; obtain ⟨z0, z1, z2, z3⟩ := hnb4.zz; obtain ⟨y0, y1, y2, y3⟩ := hdb4.zz)
          | (go_simp; go_at_call_of 29 (Value.slice D1 n3 c3); refine (Hn2.out _ ?_).mono ?_; exact hdn4; rintro e w5 ⟨rfl, hx5, hb5⟩; have hnb5 := Blk.keep hnb4 hb5; have hdb5 := Blk.keep hdb4 hb5; obtain ⟨z0, z1, z2, z3⟩ := hnb5.zz; obtain ⟨y0, y1, y2, y3⟩ := hdb5.zz))
        all_goals
          have hx45 := hx4.below hb5
          have hbb := hbc.and ((Below.drew (Below.refl wc.heap.size wc)).and (hb4.and hb5))
          have o1 := ((Only.refl gN w5).setCell 0 (.bool (decide (-zn < 0)))).setCell 1 (.slice N1 n2 c2)
          have s1 := Blk.set2 hnb5 (.bool (decide (-zn < 0))) (.slice N1 n2 c2)
          have s1d := o1.blk hneq hdb5
          have x1 := hx45.only o1 hnb5 (zz_free _ _ _ _)
          have x2 := hx5.only o1 hnb5 (zz_free _ _ _ _)
          have bb1 := hbb.trans (o1.below lN)
          have hsim : decide (0 < zn) = decide (-zn < 0) := decide_eq_decide.2 (by omega)
          have Hp := Lib.hid (show ∀ wy, wy = (w5.setCell ⟨gN, 0, none⟩ (.bool (decide (-zn < 0)))).setCell ⟨gN, 1, none⟩ (.slice N1 n2 c2) → ∀ wz, wz = (wy.setCell ⟨gD, 0, none⟩ (.bool false)).setCell ⟨gD, 1, none⟩ (.slice D1 n3 c3) →
              Blk wz gN 31 #[.bool (decide (-zn < 0)), .slice N1 n2 c2] ∧ Blk wz gD 31 #[.bool false, .slice D1 n3 c3] ∧ Nd wz N1 n2 c2 (-zn).natAbs ∧ Nd wz D1 n3 c3 (-zd).natAbs ∧ Below W1.heap.size W1 wz from by
            rintro wy rfl wz rfl
            have o2 := ((Only.refl gD ((w5.setCell ⟨gN, 0, none⟩ (.bool (decide (-zn < 0)))).setCell ⟨gN, 1, none⟩ (.slice N1 n2 c2))).setCell 0 (.bool false)).setCell 1 (.slice D1 n3 c3)
            exact ⟨o2.blk hne s1, Blk.set2 s1d _ _, x1.only o2 s1d (zz_free _ _ _ _), x2.only o2 s1d (zz_free _ _ _ _), bb1.trans (o2.below lD)⟩)
          clear o1 s1 s1d x1 x2 bb1 hx45 hbb hx5 hx4
          go_wp2_with fail
          go_meet
          first | exact Hp.out _ rfl _ rfl | (rw [hsim]; exact Hp.out _ rfl _ rfl)
      case rest =>
        clear hnb hdb hnn hdn hbc z0 z1 z2 z3 y0 y1 y2 y3
        obtain ⟨hnb, hdb, hnn, hdn, hbc⟩ := hcut
        obtain ⟨z0, z1, z2, z3⟩ := hnb.zz
        obtain ⟨y0, y1, y2, y3⟩ := hdb.zz
        have hrc := k2.keep hbc
        obtain ⟨q0, q1, q2, q3, p0, p1, p2, p3⟩ : wc.cell? ⟨w.heap.size + 1 + 1, 0, none⟩ = some (.bool false) ∧ wc.cell? ⟨w.heap.size + 1 + 1, 1, none⟩ = some (.slice none 0 0) ∧ wc.cell? ⟨w.heap.size + 1 + 1, 2, none⟩ = some (.bool false) ∧ wc.cell? ⟨w.heap.size + 1 + 1, 3, none⟩ = some (.slice none 0 0) ∧ wc.frozen? ⟨w.heap.size + 1 + 1, 0, none⟩ = false ∧ wc.frozen? ⟨w.heap.size + 1 + 1, 1, none⟩ = false ∧ wc.frozen? ⟨w.heap.size + 1 + 1, 2, none⟩ = false ∧ wc.frozen? ⟨w.heap.size + 1 + 1, 3, none⟩ = false :=
          ⟨hrc.cell 0, hrc.cell 1, hrc.cell 2, hrc.cell 3, hrc.free 0, hrc.free 1, hrc.free 2, hrc.free 3⟩
        have Hfin := Lib.hid (HbW1.out.and hbc)
        go_wp2_with fail
        refine ret_q_stored rfl rfl rfl hrc hnn hdn Hfin.out (by omega) ?_
        intro w' h1 h2 h3
        refine ⟨_, _, _, _, _, _, ?_, by rw [Hrn.out]; exact h1, by rw [Hrd.out]; exact h2, h3⟩
        rw [Hrn.out]
        first | rfl | (rw [show decide (0 < zn) = decide (-zn < 0) from decide_eq_decide.2 (by omega)])
    · rw [decide_eq_false hz] at hqz
      have hrn : r.num = zn := by rw [Hpn.out, if_neg hz]
      have hrd : r.den = zd.natAbs := by rw [Hpd.out, Hqd.out]
      have Hrn := Lib.hid hrn
      have Hrd := Lib.hid hrd
      rw [hqz] at hdb
      clear hrn hrd hqz
      obtain ⟨z0, z1, z2, z3⟩ := hnb.zz
      obtain ⟨y0, y1, y2, y3⟩ := hdb.zz
      have hrc := k2.keep hbc
      obtain ⟨q0, q1, q2, q3, p0, p1, p2, p3⟩ : wc.cell? ⟨w.heap.size + 1 + 1, 0, none⟩ = some (.bool false) ∧ wc.cell? ⟨w.heap.size + 1 + 1, 1, none⟩ = some (.slice none 0 0) ∧ wc.cell? ⟨w.heap.size + 1 + 1, 2, none⟩ = some (.bool false) ∧ wc.cell? ⟨w.heap.size + 1 + 1, 3, none⟩ = some (.slice none 0 0) ∧ wc.frozen? ⟨w.heap.size + 1 + 1, 0, none⟩ = false ∧ wc.frozen? ⟨w.heap.size + 1 + 1, 1, none⟩ = false ∧ wc.frozen? ⟨w.heap.size + 1 + 1, 2, none⟩ = false ∧ wc.frozen? ⟨w.heap.size + 1 + 1, 3, none⟩ = false :=
        ⟨hrc.cell 0, hrc.cell 1, hrc.cell 2, hrc.cell 3, hrc.free 0, hrc.free 1, hrc.free 2, hrc.free 3⟩
      have Hfin := Lib.hid (HbW1.out.and hbc)
      go_wp2_with fail
      refine ret_q_stored rfl rfl rfl hrc hnn hdn Hfin.out (by omega) ?_
      intro w' h1 h2 h3
      refine ⟨_, _, _, _, _, _, ?_, by rw [Hrn.out]; exact h1, by rw [Hrd.out]; exact h2, h3⟩
      rw [Hrn.out]
end Go.Proofs.YtgdonbnolebhbaaGreatDoor
