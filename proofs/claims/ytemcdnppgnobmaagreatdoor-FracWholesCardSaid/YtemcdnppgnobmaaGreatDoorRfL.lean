/-
  The walk of the reference's Parse, of any string: that it returns an integer of no more digits, or none.
-/
import Derived.Test.YtemcdnppgnobmaaGreatDoorRfC
import Derived.Test.YtemcdnppgnobmaaGreatDoorRdN
set_option linter.unusedVariables false
namespace Go.Proofs.YtemcdnppgnobmaaGreatDoor
open Go.RowKit

/-- Within the loop: t letters are read. -/
def RPar (w0 : World) (L : Nat) (m limb unit i : Value) (wr : World) : Prop :=
  ∃ t e q k : Nat, t ≤ L ∧ i = .int .i64 ((L : Int) - 1 - t) ∧ e < 9 ∧ unit = .int .i64 (10 ^ e : Nat) ∧ limb = .int .i64 q ∧ q < 10 ^ e ∧ t = 9 * k + e ∧ ∃ xs, wr.ownsRow w0.heap.size 3 1 m k (nums .i64 xs) ∧ Low xs ∧ Below w0.heap.size w0 wr

/-- What Parse returns. -/
def RetParse (L : Nat) (w : World) (e : Ending) (w' : World) : Prop :=
  (e = .returned (.tuple #[zV 0 none 0 0, .bool false]) ∧ Below w.heap.size w w') ∨
    ∃ z A n c, e = .returned (.tuple #[zV z A n c, .bool true]) ∧ Nd w' A n c z.natAbs ∧ n ≤ L + 1 ∧ Below w.heap.size w w'

theorem ten_le (e : Nat) (h : e < 9) : 10 ^ e ≤ 100000000 := by
  have : 10 ^ e ≤ 10 ^ 8 := Nat.pow_le_pow_right (by omega) (by omega)
  exact this
theorem ten_lt (e : Nat) (h : e < 8) : 10 ^ e ≤ 10000000 := by
  have : 10 ^ e ≤ 10 ^ 7 := Nat.pow_le_pow_right (by omega) (by omega)
  exact this

/-- No integer and false are returned, and a zero lies in the result's cell. -/
theorem ret_parse_none {fn : Func} {R : Ending → World → Prop} {a : Act} {w w1 : World} {s t g : Nat}
    (hf : fn.results = #[.cell s 29, .tmp t]) (h4 : a.tmps[s]? = some (.pointer (some ⟨g, 0, none⟩))) (h5 : a.tmps[t]? = some (.bool false)) (hd : a.defers = [])
    (hb : Blk w1 g 29 intZ) (hbel : Below w.heap.size w w1) (hg : w.heap.size ≤ g)
    (hR : ∀ w', Below w.heap.size w w' → R (.returned (.tuple #[zV 0 none 0 0, .bool false])) w') :
    bodyPost Tryz.prog fn R .ret a ((w1.setCell ⟨g, 0, none⟩ (.bool false)).setCell ⟨g, 1, none⟩ (.slice none 0 0)) := by
  have ho := ((Only.refl g w1).setCell 0 (.bool false)).setCell 1 (.slice none 0 0)
  have hbb := Blk.set2 hb (.bool false) (.slice none 0 0)
  have c0 := hbb.cell 0
  have c1 := hbb.cell 1
  have hbe := hbel.trans (ho.below hg)
  generalize (w1.setCell ⟨g, 0, none⟩ (.bool false)).setCell ⟨g, 1, none⟩ (.slice none 0 0) = w6 at *
  exact bodyPost_ret (v := .tuple #[zV 0 none 0 0, .bool false]) (by simp [results, hf, go_sem, c0, c1, h4, h5, zV]) hd (hR _ hbe)
theorem ret_parse_some {fn : Func} {R : Ending → World → Prop} {a : Act} {w w1 : World} {s t g n c : Nat} {A : Option Addr} {z : Int}
    (hf : fn.results = #[.cell s 29, .tmp t]) (h4 : a.tmps[s]? = some (.pointer (some ⟨g, 0, none⟩))) (h5 : a.tmps[t]? = some (.bool true)) (hd : a.defers = [])
    (hb : Blk w1 g 29 intZ) (hdg : Nd w1 A n c z.natAbs) (hbel : Below w.heap.size w w1) (hg : w.heap.size ≤ g)
    (hR : ∀ w', Nd w' A n c z.natAbs → Below w.heap.size w w' → R (.returned (.tuple #[zV z A n c, .bool true])) w') :
    bodyPost Tryz.prog fn R .ret a ((w1.setCell ⟨g, 0, none⟩ (.bool (decide (z < 0)))).setCell ⟨g, 1, none⟩ (.slice A n c)) := by
  have ho := ((Only.refl g w1).setCell 0 (.bool (decide (z < 0)))).setCell 1 (.slice A n c)
  have hbb := Blk.set2 hb (.bool (decide (z < 0))) (.slice A n c)
  have c0 := hbb.cell 0
  have c1 := hbb.cell 1
  have hrg := hdg.only ho hb (zz_free _ _ _ _)
  have hbe := hbel.trans (ho.below hg)
  generalize (w1.setCell ⟨g, 0, none⟩ (.bool (decide (z < 0)))).setCell ⟨g, 1, none⟩ (.slice A n c) = w6 at *
  exact bodyPost_ret (v := .tuple #[zV z A n c, .bool true]) (by simp [results, hf, go_sem, c0, c1, h4, h5, zV]) hd (hR _ hrg hbe)

/-- Parse, from the loop on, of the letters s behind the sign. -/
theorem u8_at (s : ByteArray) (i : Nat) (h : i < s.size) : (s[i]'h).toNat < 256 := UInt8.toNat_lt _

set_option maxRecDepth 100000 in
set_option maxHeartbeats 1600000 in
theorem rparse_any (s0 : ByteArray) (w : World) (hs : s0.size ≤ 140737488351232) :
    Calls Tryz.prog 21 #[.string s0] w (RetParse s0.size w) := by
  obtain ⟨L0, hL0⟩ : ∃ L0, s0.size = L0 := ⟨_, rfl⟩
  rw [hL0]
  obtain ⟨i0, hi, hz0, hz1, hz2⟩ := info_parts info_in
  obtain ⟨W, hW⟩ : ∃ W, W = w.alloc (.cells intZ 29) := ⟨_, rfl⟩
  have hres : Blk W w.heap.size 29 intZ := by rw [hW]; exact Blk.new _ _ _
  have hbel : Below w.heap.size w W := by rw [hW]; exact below_new _ _
  have HW := Lib.hid hW
  have Hres := Lib.hid hres
  have Hbel := Lib.hid hbel
  clear hW hres hbel
  unfold intZ at HW
  go_enter Tryz.func21, Tryz.ntmps21
  go_upto_region 1 with fail
  rw [← HW.out]
  clear HW
  go_cut [4] (fun b wx => ∃ (neg : Bool), b = .bool neg ∧ (neg = true → 0 < s0.size) ∧ wx = W)
  case first =>
    by_cases h0 : 0 < s0.size
    · obtain ⟨c, hc⟩ : ∃ c, (s0[0]'h0).toNat = c := ⟨_, rfl⟩
      have hc8 := u8_at s0 0 h0
      rw [hc] at hc8
      by_cases hc45 : c = 45
      · subst hc45
        go_wp2_with fail
        go_meet
        exact ⟨_, rfl, fun _ => h0, rfl⟩
      · go_wp2_with fail
        go_meet
        exact ⟨_, rfl, fun _ => h0, rfl⟩
    · have h0' : s0.size = 0 := by omega
      go_wp2_with fail
      go_meet
      exact ⟨_, rfl, fun e => (by cases e), rfl⟩
  case rest =>
   obtain ⟨neg, rfl, hneg, hwx⟩ := hcut
   subst hwx
   cases neg
   · obtain ⟨s, rfl⟩ : ∃ s : ByteArray, s = s0 := ⟨_, rfl⟩
     have hs1 : s.size ≤ L0 := by omega
     clear hneg hL0
     go_upto_region 4 with fail
     have hl : s.toList.length = s.size := by rw [ByteArray.toList_eq]; rfl
     have Hlt := Lib.hid (show w.heap.size < wc.heap.size from Hres.out.lt)
     obtain ⟨z0, z1, y0, y1⟩ := Hres.out.two
     by_cases hs0 : s.size = 0
     · have hE : s.toList = [] := List.eq_nil_of_length_eq_zero (by omega)
       go_wp2_with fail
       refine ret_parse_none rfl rfl rfl rfl Hres.out Hbel.out (Nat.le_refl _) ?_
       exact fun w' h => Or.inl ⟨rfl, h⟩
     · have h0 : 0 < s.size := by omega
       have hE : (s.toList == []) = false := by
         rw [beq_eq_false_iff_ne]
         intro e
         rw [e] at hl
         simp at hl
         omega
       obtain ⟨c0, hc0⟩ : ∃ c0, (s[0]'h0).toNat = c0 := ⟨_, rfl⟩
       have hc08 := u8_at s 0 h0
       rw [hc0] at hc08
       by_cases h48 : c0 = 48
       · subst h48
         by_cases h1 : 1 < s.size
         · go_wp2_with fail
           refine ret_parse_none rfl rfl rfl rfl Hres.out Hbel.out (Nat.le_refl _) ?_
           exact fun w' h => Or.inl ⟨rfl, h⟩
         · have hB0 := Below.refl wc.heap.size wc
           go_upto_region 9 with fail
           clear hE hl hc0 hc08
           go_loopw [5, 6, 7, 8] (RPar wc s.size) (fun _ _ _ i _ => (intOf i + 1).toNat)
           case atStart =>
             exact ⟨0, 0, 0, 0, by omega, congrArg (Value.int .i64) (by omega), by omega, rfl, rfl, by decide, by omega, [], World.ownsRow_nil _ _ _ _, Low.nil, hB0⟩
           case round =>
             obtain ⟨t, e, q, k, ht, rfl, he, rfl, rfl, hq, hk0, xs, hown, hlow, hbel⟩ := hrel
             have hk : 9 * k ≤ s.size := by omega
             have Hk0 := Lib.hid hk0
             clear hk0
             have Hlen := Lib.hid (own_len hown)
             have hszw := hbel.size
             have hr := Hres.out.below hbel (by have := Hlt.out; exact this)
             obtain ⟨z0, z1, y0, y1⟩ := hr.two
             have hBw := Lib.hid (Hbel.out.and hbel)
             by_cases htL : t < s.size
             · obtain ⟨p, hp⟩ : ∃ p : Nat, p = s.size - 1 - t := ⟨_, rfl⟩
               have hpi : (s.size : Int) - 1 - t = p := by omega
               have hps : p < s.size := by omega
               have Hp := Lib.hid hp
               rw [hpi]
               clear hp hpi
               obtain ⟨c, hc⟩ : ∃ c, (s[p]'hps).toNat = c := ⟨_, rfl⟩
               have hc8 := u8_at s p hps
               rw [hc] at hc8
               by_cases hcl : c < 48
               · go_wp2_with fail
                 refine ret_parse_none rfl rfl rfl rfl hr hBw.out (Nat.le_refl _) ?_
                 exact fun w' h => Or.inl ⟨rfl, h⟩
               · by_cases hcg : 57 < c
                 · go_wp2_with fail
                   refine ret_parse_none rfl rfl rfl rfl hr hBw.out (Nat.le_refl _) ?_
                   exact fun w' h => Or.inl ⟨rfl, h⟩
                 · have hu1 := ten_le e he
                   by_cases he8 : e = 8
                   · subst he8
                     rw [show (10 : Nat) ^ 8 = 100000000 from rfl] at hq ⊢
                     have h1 : (q : Int) + 100000000 * ((c : Int) - 48) < 1000000000 := by omega
                     have h2 : 0 ≤ (q : Int) + 100000000 * ((c : Int) - 48) := by omega
                     clear hu1
                     go_wp2_with (at_builtin; refine wpList_append_own _ rfl _ _ 27 rfl wc.heap.size 3 i0 (.int .i64 0) 1 8 Tryz.underlying27 hi hz0 hz1 hz2 rfl (by decide) _ _ _ rfl (hown.alloc _) ⟨wr.heap.size, 0, none⟩ 1 1 [.int .i64 ((q : Int) + 100000000 * ((c : Int) - 48))] rfl rfl ?a1x ?a2x ?a3x ?a4x ?a5x ?_)
                     case a1x => exact cell_one_new _ _ _
                     case a2x => exact one_ofs _ rfl
                     case a3x => unfold maxLen; omega
                     case a4x => omega
                     case a5x => simp; omega
                     intro v' w1 hown' hgrow _
                     have hb' := hbel.trans (own_below hown hszw hgrow)
                     go_wp2_with fail
                     go_roundw
                     case rel =>
                       exact ⟨t + 1, 0, 0, k + 1, by omega, congrArg (Value.int .i64) (by have := Hp.out; omega), by omega, rfl, rfl, by decide, by have := Hk0.out; omega, xs ++ [q + 100000000 * (c - 48)], own_more hown' (congrArg (Value.int .i64) (by omega)), hlow.snoc (by show _ < 1000000000; omega), hb'⟩
                     case measure => simp [intOf] <;> omega
                   · have hu2 := ten_lt e (by omega)
                     have hpow : (10 : Nat) ^ (e + 1) = 10 * 10 ^ e := by rw [Nat.pow_succ, Nat.mul_comm]
                     have Hpow := Lib.hid hpow
                     have Hq := Lib.hid hq
                     generalize hu : (10 : Nat) ^ e = u at *
                     have Hu := Lib.hid hu
                     have h1 : (u : Int) * ((c : Int) - 48) ≤ 90000000 := by
                       have := Int.mul_le_mul (show (u : Int) ≤ 10000000 by omega) (show (c : Int) - 48 ≤ 9 by omega) (by omega) (by omega)
                       exact this
                     have h2 : 0 ≤ (u : Int) * ((c : Int) - 48) := Int.mul_nonneg (by omega) (by omega)
                     have h3 : (u : Int) * ((c : Int) - 48) ≤ (u : Int) * 9 := Int.mul_le_mul_of_nonneg_left (by omega) (by omega)
                     have hqi : (q : Int) < u := by omega
                     obtain ⟨m, hm⟩ : ∃ m : Int, (u : Int) * ((c : Int) - 48) = m := ⟨_, rfl⟩
                     rw [hm] at h1 h2 h3
                     clear hpow hu hu1
                     go_wp2_with fail
                     go_roundw
                     case rel =>
                       exact ⟨t + 1, e + 1, (q + m.toNat), k, by omega, congrArg (Value.int .i64) (by have := Hp.out; omega), by omega, congrArg (Value.int .i64) (by have := Hpow.out; omega), congrArg (Value.int .i64) (by omega), by have := Hpow.out; omega, by have := Hk0.out; omega, xs, hown, hlow, hbel⟩
                     case measure => simp [intOf] <;> omega
             · obtain rfl : t = s.size := by omega
               have hqi : (q : Int) < 1000000000 := by have := ten_le e he; omega
               have hq9 : q < 1000000000 := by omega
               clear hq
               by_cases hq0 : q = 0
               · subst hq0
                 obtain ⟨A1, c1, rfl, hc1, hs1', hf1⟩ := own_row hown (by omega)
                 go_wp2_with fail
                 refine (rtrim_any A1 c1 k xs _ hs1' hlow hc1).mono ?_
                 rintro e w1 ⟨m1, rfl, hd1, hb1, hm1⟩
                 obtain ⟨z, hz⟩ : ∃ z : Int, z = if false then -(ofL xs : Int) else (ofL xs : Int) := ⟨_, rfl⟩
                 have Hin := Lib.hid (rint_any false A1 m1 c1 _ z w1 hd1 hz)
                 have hB1 := hBw.out.and hb1.below
                 have hr1 := hr.keep hb1.below
                 unfold zV at Hin
                 clear hz
                 go_wp2_with fail
                 refine Hin.out.mono ?_
                 rintro e w2 ⟨rfl, hd2, hb2⟩
                 have hr2 := hr1.keep hb2
                 clear z0 z1 y0 y1
                 obtain ⟨z0, z1, y0, y1⟩ := hr2.two
                 go_wp2_with fail
                 refine ret_parse_some (z := z) rfl rfl rfl rfl hr2 hd2 (hB1.and hb2) (Nat.le_refl _) ?_
                 exact fun w' h1 h2 => Or.inr ⟨z, A1, m1, c1, rfl, h1, by omega, h2⟩
               · have hqp : (0 : Int) < q := by omega
                 have Hq9 := Lib.hid hq9
                 have Hk := Lib.hid hk
                 clear hq0 hq9 hqi ht htL hk he hs0 h0
                 try clear h48
                 go_upto_region 18 with fail
                 go_upto_region 19 with fail
                 have hq9 := Hq9.out
                 have hk := Hk.out
                 go_wp2_with (at_builtin; refine wpList_append_own _ rfl _ _ 27 rfl wc.heap.size 3 i0 (.int .i64 0) 1 8 Tryz.underlying27 hi hz0 hz1 hz2 rfl (by decide) _ _ _ rfl (hown.alloc _) ⟨wr.heap.size, 0, none⟩ 1 1 [.int .i64 (q : Nat)] rfl rfl ?b1x ?b2x ?b3x ?b4x ?b5x ?_)
                 case b1x => exact cell_one_new _ _ _
                 case b2x => exact one_ofs _ rfl
                 case b3x => unfold maxLen; omega
                 case b4x => omega
                 case b5x => simp; omega
                 intro v' w1 hown' hgrow _
                 have hb' := hbel.trans (own_below hown hszw hgrow)
                 have hr' := Hres.out.below hb' (by have := Hlt.out; exact this)
                 have hBw' := Lib.hid (Hbel.out.and hb')
                 obtain ⟨A1, c1, rfl, hc1, hs1', hf1⟩ := own_row (own_more hown' rfl) (by omega)
                 clear z0 z1 y0 y1
                 go_wp2_with fail
                 refine (rtrim_any A1 c1 (k + 1) (xs ++ [q]) _ hs1' (hlow.snoc hq9) hc1).mono ?_
                 rintro e w2 ⟨m1, rfl, hd1, hb1, hm1⟩
                 obtain ⟨z, hz⟩ : ∃ z : Int, z = if false then -(ofL (xs ++ [q]) : Int) else (ofL (xs ++ [q]) : Int) := ⟨_, rfl⟩
                 have Hin := Lib.hid (rint_any false A1 m1 c1 _ z w2 hd1 hz)
                 have hB1 := hBw'.out.and hb1.below
                 have hr1 := hr'.keep hb1.below
                 unfold zV at Hin
                 clear hz
                 go_wp2_with fail
                 refine Hin.out.mono ?_
                 rintro e w3 ⟨rfl, hd2, hb2⟩
                 have hr2 := hr1.keep hb2
                 obtain ⟨z0, z1, y0, y1⟩ := hr2.two
                 go_wp2_with fail
                 refine ret_parse_some (z := z) rfl rfl rfl rfl hr2 hd2 (hB1.and hb2) (Nat.le_refl _) ?_
                 exact fun w' h1 h2 => Or.inr ⟨z, A1, m1, c1, rfl, h1, by omega, h2⟩
       · have hB0 := Below.refl wc.heap.size wc
         go_upto_region 9 with fail
         clear hE hl hc0 hc08
         go_loopw [5, 6, 7, 8] (RPar wc s.size) (fun _ _ _ i _ => (intOf i + 1).toNat)
         case atStart =>
           exact ⟨0, 0, 0, 0, by omega, congrArg (Value.int .i64) (by omega), by omega, rfl, rfl, by decide, by omega, [], World.ownsRow_nil _ _ _ _, Low.nil, hB0⟩
         case round =>
           obtain ⟨t, e, q, k, ht, rfl, he, rfl, rfl, hq, hk0, xs, hown, hlow, hbel⟩ := hrel
           have hk : 9 * k ≤ s.size := by omega
           have Hk0 := Lib.hid hk0
           clear hk0
           have Hlen := Lib.hid (own_len hown)
           have hszw := hbel.size
           have hr := Hres.out.below hbel (by have := Hlt.out; exact this)
           obtain ⟨z0, z1, y0, y1⟩ := hr.two
           have hBw := Lib.hid (Hbel.out.and hbel)
           by_cases htL : t < s.size
           · obtain ⟨p, hp⟩ : ∃ p : Nat, p = s.size - 1 - t := ⟨_, rfl⟩
             have hpi : (s.size : Int) - 1 - t = p := by omega
             have hps : p < s.size := by omega
             have Hp := Lib.hid hp
             rw [hpi]
             clear hp hpi
             obtain ⟨c, hc⟩ : ∃ c, (s[p]'hps).toNat = c := ⟨_, rfl⟩
             have hc8 := u8_at s p hps
             rw [hc] at hc8
             by_cases hcl : c < 48
             · go_wp2_with fail
               refine ret_parse_none rfl rfl rfl rfl hr hBw.out (Nat.le_refl _) ?_
               exact fun w' h => Or.inl ⟨rfl, h⟩
             · by_cases hcg : 57 < c
               · go_wp2_with fail
                 refine ret_parse_none rfl rfl rfl rfl hr hBw.out (Nat.le_refl _) ?_
                 exact fun w' h => Or.inl ⟨rfl, h⟩
               · have hu1 := ten_le e he
                 by_cases he8 : e = 8
                 · subst he8
                   rw [show (10 : Nat) ^ 8 = 100000000 from rfl] at hq ⊢
                   have h1 : (q : Int) + 100000000 * ((c : Int) - 48) < 1000000000 := by omega
                   have h2 : 0 ≤ (q : Int) + 100000000 * ((c : Int) - 48) := by omega
                   clear hu1
                   go_wp2_with (at_builtin; refine wpList_append_own _ rfl _ _ 27 rfl wc.heap.size 3 i0 (.int .i64 0) 1 8 Tryz.underlying27 hi hz0 hz1 hz2 rfl (by decide) _ _ _ rfl (hown.alloc _) ⟨wr.heap.size, 0, none⟩ 1 1 [.int .i64 ((q : Int) + 100000000 * ((c : Int) - 48))] rfl rfl ?a1y ?a2y ?a3y ?a4y ?a5y ?_)
                   case a1y => exact cell_one_new _ _ _
                   case a2y => exact one_ofs _ rfl
                   case a3y => unfold maxLen; omega
                   case a4y => omega
                   case a5y => simp; omega
                   intro v' w1 hown' hgrow _
                   have hb' := hbel.trans (own_below hown hszw hgrow)
                   go_wp2_with fail
                   go_roundw
                   case rel =>
                     exact ⟨t + 1, 0, 0, k + 1, by omega, congrArg (Value.int .i64) (by have := Hp.out; omega), by omega, rfl, rfl, by decide, by have := Hk0.out; omega, xs ++ [q + 100000000 * (c - 48)], own_more hown' (congrArg (Value.int .i64) (by omega)), hlow.snoc (by show _ < 1000000000; omega), hb'⟩
                   case measure => simp [intOf] <;> omega
                 · have hu2 := ten_lt e (by omega)
                   have hpow : (10 : Nat) ^ (e + 1) = 10 * 10 ^ e := by rw [Nat.pow_succ, Nat.mul_comm]
                   have Hpow := Lib.hid hpow
                   have Hq := Lib.hid hq
                   generalize hu : (10 : Nat) ^ e = u at *
                   have Hu := Lib.hid hu
                   have h1 : (u : Int) * ((c : Int) - 48) ≤ 90000000 := by
                     have := Int.mul_le_mul (show (u : Int) ≤ 10000000 by omega) (show (c : Int) - 48 ≤ 9 by omega) (by omega) (by omega)
                     exact this
                   have h2 : 0 ≤ (u : Int) * ((c : Int) - 48) := Int.mul_nonneg (by omega) (by omega)
                   have h3 : (u : Int) * ((c : Int) - 48) ≤ (u : Int) * 9 := Int.mul_le_mul_of_nonneg_left (by omega) (by omega)
                   have hqi : (q : Int) < u := by omega
                   obtain ⟨m, hm⟩ : ∃ m : Int, (u : Int) * ((c : Int) - 48) = m := ⟨_, rfl⟩
                   rw [hm] at h1 h2 h3
                   clear hpow hu hu1
                   go_wp2_with fail
                   go_roundw
                   case rel =>
                     exact ⟨t + 1, e + 1, (q + m.toNat), k, by omega, congrArg (Value.int .i64) (by have := Hp.out; omega), by omega, congrArg (Value.int .i64) (by have := Hpow.out; omega), congrArg (Value.int .i64) (by omega), by have := Hpow.out; omega, by have := Hk0.out; omega, xs, hown, hlow, hbel⟩
                   case measure => simp [intOf] <;> omega
           · obtain rfl : t = s.size := by omega
             have hqi : (q : Int) < 1000000000 := by have := ten_le e he; omega
             have hq9 : q < 1000000000 := by omega
             clear hq
             by_cases hq0 : q = 0
             · subst hq0
               obtain ⟨A1, c1, rfl, hc1, hs1', hf1⟩ := own_row hown (by omega)
               go_wp2_with fail
               refine (rtrim_any A1 c1 k xs _ hs1' hlow hc1).mono ?_
               rintro e w1 ⟨m1, rfl, hd1, hb1, hm1⟩
               obtain ⟨z, hz⟩ : ∃ z : Int, z = if false then -(ofL xs : Int) else (ofL xs : Int) := ⟨_, rfl⟩
               have Hin := Lib.hid (rint_any false A1 m1 c1 _ z w1 hd1 hz)
               have hB1 := hBw.out.and hb1.below
               have hr1 := hr.keep hb1.below
               unfold zV at Hin
               clear hz
               go_wp2_with fail
               refine Hin.out.mono ?_
               rintro e w2 ⟨rfl, hd2, hb2⟩
               have hr2 := hr1.keep hb2
               clear z0 z1 y0 y1
               obtain ⟨z0, z1, y0, y1⟩ := hr2.two
               go_wp2_with fail
               refine ret_parse_some (z := z) rfl rfl rfl rfl hr2 hd2 (hB1.and hb2) (Nat.le_refl _) ?_
               exact fun w' h1 h2 => Or.inr ⟨z, A1, m1, c1, rfl, h1, by omega, h2⟩
             · have hqp : (0 : Int) < q := by omega
               have Hq9 := Lib.hid hq9
               have Hk := Lib.hid hk
               clear hq0 hq9 hqi ht htL hk he hs0 h0
               try clear h48
               go_upto_region 18 with fail
               go_upto_region 19 with fail
               have hq9 := Hq9.out
               have hk := Hk.out
               go_wp2_with (at_builtin; refine wpList_append_own _ rfl _ _ 27 rfl wc.heap.size 3 i0 (.int .i64 0) 1 8 Tryz.underlying27 hi hz0 hz1 hz2 rfl (by decide) _ _ _ rfl (hown.alloc _) ⟨wr.heap.size, 0, none⟩ 1 1 [.int .i64 (q : Nat)] rfl rfl ?b1y ?b2y ?b3y ?b4y ?b5y ?_)
               case b1y => exact cell_one_new _ _ _
               case b2y => exact one_ofs _ rfl
               case b3y => unfold maxLen; omega
               case b4y => omega
               case b5y => simp; omega
               intro v' w1 hown' hgrow _
               have hb' := hbel.trans (own_below hown hszw hgrow)
               have hr' := Hres.out.below hb' (by have := Hlt.out; exact this)
               have hBw' := Lib.hid (Hbel.out.and hb')
               obtain ⟨A1, c1, rfl, hc1, hs1', hf1⟩ := own_row (own_more hown' rfl) (by omega)
               clear z0 z1 y0 y1
               go_wp2_with fail
               refine (rtrim_any A1 c1 (k + 1) (xs ++ [q]) _ hs1' (hlow.snoc hq9) hc1).mono ?_
               rintro e w2 ⟨m1, rfl, hd1, hb1, hm1⟩
               obtain ⟨z, hz⟩ : ∃ z : Int, z = if false then -(ofL (xs ++ [q]) : Int) else (ofL (xs ++ [q]) : Int) := ⟨_, rfl⟩
               have Hin := Lib.hid (rint_any false A1 m1 c1 _ z w2 hd1 hz)
               have hB1 := hBw'.out.and hb1.below
               have hr1 := hr'.keep hb1.below
               unfold zV at Hin
               clear hz
               go_wp2_with fail
               refine Hin.out.mono ?_
               rintro e w3 ⟨rfl, hd2, hb2⟩
               have hr2 := hr1.keep hb2
               obtain ⟨z0, z1, y0, y1⟩ := hr2.two
               go_wp2_with fail
               refine ret_parse_some (z := z) rfl rfl rfl rfl hr2 hd2 (hB1.and hb2) (Nat.le_refl _) ?_
               exact fun w' h1 h2 => Or.inr ⟨z, A1, m1, c1, rfl, h1, by omega, h2⟩
   · have h0 := hneg rfl
     obtain ⟨s, hse⟩ : ∃ s : ByteArray, s = s0.extract 1 s0.size := ⟨_, rfl⟩
     have hs1 : s.size ≤ L0 := by rw [hse, ByteArray.size_extract]; omega
     go_upto_region 4 with fail
     rw [hL0] at hse
     rw [← hse]
     clear hse hneg h0
     have hs' : s.size ≤ 140737488351232 := by omega
     clear hL0 hs
     have hl : s.toList.length = s.size := by rw [ByteArray.toList_eq]; rfl
     have Hlt := Lib.hid (show w.heap.size < wc.heap.size from Hres.out.lt)
     obtain ⟨z0, z1, y0, y1⟩ := Hres.out.two
     by_cases hs0 : s.size = 0
     · have hE : s.toList = [] := List.eq_nil_of_length_eq_zero (by omega)
       go_wp2_with fail
       refine ret_parse_none rfl rfl rfl rfl Hres.out Hbel.out (Nat.le_refl _) ?_
       exact fun w' h => Or.inl ⟨rfl, h⟩
     · have h0 : 0 < s.size := by omega
       have hE : (s.toList == []) = false := by
         rw [beq_eq_false_iff_ne]
         intro e
         rw [e] at hl
         simp at hl
         omega
       obtain ⟨c0, hc0⟩ : ∃ c0, (s[0]'h0).toNat = c0 := ⟨_, rfl⟩
       have hc08 := u8_at s 0 h0
       rw [hc0] at hc08
       by_cases h48 : c0 = 48
       · subst h48
         by_cases h1 : 1 < s.size
         · go_wp2_with fail
           refine ret_parse_none rfl rfl rfl rfl Hres.out Hbel.out (Nat.le_refl _) ?_
           exact fun w' h => Or.inl ⟨rfl, h⟩
         · go_wp2_with fail
           refine ret_parse_none rfl rfl rfl rfl Hres.out Hbel.out (Nat.le_refl _) ?_
           exact fun w' h => Or.inl ⟨rfl, h⟩
       · have hB0 := Below.refl wc.heap.size wc
         go_upto_region 9 with fail
         clear hE hl hc0 hc08
         go_loopw [5, 6, 7, 8] (RPar wc s.size) (fun _ _ _ i _ => (intOf i + 1).toNat)
         case atStart =>
           exact ⟨0, 0, 0, 0, by omega, congrArg (Value.int .i64) (by omega), by omega, rfl, rfl, by decide, by omega, [], World.ownsRow_nil _ _ _ _, Low.nil, hB0⟩
         case round =>
           obtain ⟨t, e, q, k, ht, rfl, he, rfl, rfl, hq, hk0, xs, hown, hlow, hbel⟩ := hrel
           have hk : 9 * k ≤ s.size := by omega
           have Hk0 := Lib.hid hk0
           clear hk0
           have Hlen := Lib.hid (own_len hown)
           have hszw := hbel.size
           have hr := Hres.out.below hbel (by have := Hlt.out; exact this)
           obtain ⟨z0, z1, y0, y1⟩ := hr.two
           have hBw := Lib.hid (Hbel.out.and hbel)
           by_cases htL : t < s.size
           · obtain ⟨p, hp⟩ : ∃ p : Nat, p = s.size - 1 - t := ⟨_, rfl⟩
             have hpi : (s.size : Int) - 1 - t = p := by omega
             have hps : p < s.size := by omega
             have Hp := Lib.hid hp
             rw [hpi]
             clear hp hpi
             obtain ⟨c, hc⟩ : ∃ c, (s[p]'hps).toNat = c := ⟨_, rfl⟩
             have hc8 := u8_at s p hps
             rw [hc] at hc8
             by_cases hcl : c < 48
             · go_wp2_with fail
               refine ret_parse_none rfl rfl rfl rfl hr hBw.out (Nat.le_refl _) ?_
               exact fun w' h => Or.inl ⟨rfl, h⟩
             · by_cases hcg : 57 < c
               · go_wp2_with fail
                 refine ret_parse_none rfl rfl rfl rfl hr hBw.out (Nat.le_refl _) ?_
                 exact fun w' h => Or.inl ⟨rfl, h⟩
               · have hu1 := ten_le e he
                 by_cases he8 : e = 8
                 · subst he8
                   rw [show (10 : Nat) ^ 8 = 100000000 from rfl] at hq ⊢
                   have h1 : (q : Int) + 100000000 * ((c : Int) - 48) < 1000000000 := by omega
                   have h2 : 0 ≤ (q : Int) + 100000000 * ((c : Int) - 48) := by omega
                   clear hu1
                   go_wp2_with (at_builtin; refine wpList_append_own _ rfl _ _ 27 rfl wc.heap.size 3 i0 (.int .i64 0) 1 8 Tryz.underlying27 hi hz0 hz1 hz2 rfl (by decide) _ _ _ rfl (hown.alloc _) ⟨wr.heap.size, 0, none⟩ 1 1 [.int .i64 ((q : Int) + 100000000 * ((c : Int) - 48))] rfl rfl ?a1z ?a2z ?a3z ?a4z ?a5z ?_)
                   case a1z => exact cell_one_new _ _ _
                   case a2z => exact one_ofs _ rfl
                   case a3z => unfold maxLen; omega
                   case a4z => omega
                   case a5z => simp; omega
                   intro v' w1 hown' hgrow _
                   have hb' := hbel.trans (own_below hown hszw hgrow)
                   go_wp2_with fail
                   go_roundw
                   case rel =>
                     exact ⟨t + 1, 0, 0, k + 1, by omega, congrArg (Value.int .i64) (by have := Hp.out; omega), by omega, rfl, rfl, by decide, by have := Hk0.out; omega, xs ++ [q + 100000000 * (c - 48)], own_more hown' (congrArg (Value.int .i64) (by omega)), hlow.snoc (by show _ < 1000000000; omega), hb'⟩
                   case measure => simp [intOf] <;> omega
                 · have hu2 := ten_lt e (by omega)
                   have hpow : (10 : Nat) ^ (e + 1) = 10 * 10 ^ e := by rw [Nat.pow_succ, Nat.mul_comm]
                   have Hpow := Lib.hid hpow
                   have Hq := Lib.hid hq
                   generalize hu : (10 : Nat) ^ e = u at *
                   have Hu := Lib.hid hu
                   have h1 : (u : Int) * ((c : Int) - 48) ≤ 90000000 := by
                     have := Int.mul_le_mul (show (u : Int) ≤ 10000000 by omega) (show (c : Int) - 48 ≤ 9 by omega) (by omega) (by omega)
                     exact this
                   have h2 : 0 ≤ (u : Int) * ((c : Int) - 48) := Int.mul_nonneg (by omega) (by omega)
                   have h3 : (u : Int) * ((c : Int) - 48) ≤ (u : Int) * 9 := Int.mul_le_mul_of_nonneg_left (by omega) (by omega)
                   have hqi : (q : Int) < u := by omega
                   obtain ⟨m, hm⟩ : ∃ m : Int, (u : Int) * ((c : Int) - 48) = m := ⟨_, rfl⟩
                   rw [hm] at h1 h2 h3
                   clear hpow hu hu1
                   go_wp2_with fail
                   go_roundw
                   case rel =>
                     exact ⟨t + 1, e + 1, (q + m.toNat), k, by omega, congrArg (Value.int .i64) (by have := Hp.out; omega), by omega, congrArg (Value.int .i64) (by have := Hpow.out; omega), congrArg (Value.int .i64) (by omega), by have := Hpow.out; omega, by have := Hk0.out; omega, xs, hown, hlow, hbel⟩
                   case measure => simp [intOf] <;> omega
           · obtain rfl : t = s.size := by omega
             have hqi : (q : Int) < 1000000000 := by have := ten_le e he; omega
             have hq9 : q < 1000000000 := by omega
             clear hq
             by_cases hq0 : q = 0
             · subst hq0
               obtain ⟨A1, c1, rfl, hc1, hs1', hf1⟩ := own_row hown (by omega)
               go_wp2_with fail
               refine (rtrim_any A1 c1 k xs _ hs1' hlow hc1).mono ?_
               rintro e w1 ⟨m1, rfl, hd1, hb1, hm1⟩
               obtain ⟨z, hz⟩ : ∃ z : Int, z = if true then -(ofL xs : Int) else (ofL xs : Int) := ⟨_, rfl⟩
               have Hin := Lib.hid (rint_any true A1 m1 c1 _ z w1 hd1 hz)
               have hB1 := hBw.out.and hb1.below
               have hr1 := hr.keep hb1.below
               unfold zV at Hin
               clear hz
               go_wp2_with fail
               refine Hin.out.mono ?_
               rintro e w2 ⟨rfl, hd2, hb2⟩
               have hr2 := hr1.keep hb2
               clear z0 z1 y0 y1
               obtain ⟨z0, z1, y0, y1⟩ := hr2.two
               go_wp2_with fail
               refine ret_parse_some (z := z) rfl rfl rfl rfl hr2 hd2 (hB1.and hb2) (Nat.le_refl _) ?_
               exact fun w' h1 h2 => Or.inr ⟨z, A1, m1, c1, rfl, h1, by omega, h2⟩
             · have hqp : (0 : Int) < q := by omega
               have Hq9 := Lib.hid hq9
               have Hk := Lib.hid hk
               clear hq0 hq9 hqi ht htL hk he hs0 h0
               try clear h48
               go_upto_region 18 with fail
               go_upto_region 19 with fail
               have hq9 := Hq9.out
               have hk := Hk.out
               go_wp2_with (at_builtin; refine wpList_append_own _ rfl _ _ 27 rfl wc.heap.size 3 i0 (.int .i64 0) 1 8 Tryz.underlying27 hi hz0 hz1 hz2 rfl (by decide) _ _ _ rfl (hown.alloc _) ⟨wr.heap.size, 0, none⟩ 1 1 [.int .i64 (q : Nat)] rfl rfl ?b1z ?b2z ?b3z ?b4z ?b5z ?_)
               case b1z => exact cell_one_new _ _ _
               case b2z => exact one_ofs _ rfl
               case b3z => unfold maxLen; omega
               case b4z => omega
               case b5z => simp; omega
               intro v' w1 hown' hgrow _
               have hb' := hbel.trans (own_below hown hszw hgrow)
               have hr' := Hres.out.below hb' (by have := Hlt.out; exact this)
               have hBw' := Lib.hid (Hbel.out.and hb')
               obtain ⟨A1, c1, rfl, hc1, hs1', hf1⟩ := own_row (own_more hown' rfl) (by omega)
               clear z0 z1 y0 y1
               go_wp2_with fail
               refine (rtrim_any A1 c1 (k + 1) (xs ++ [q]) _ hs1' (hlow.snoc hq9) hc1).mono ?_
               rintro e w2 ⟨m1, rfl, hd1, hb1, hm1⟩
               obtain ⟨z, hz⟩ : ∃ z : Int, z = if true then -(ofL (xs ++ [q]) : Int) else (ofL (xs ++ [q]) : Int) := ⟨_, rfl⟩
               have Hin := Lib.hid (rint_any true A1 m1 c1 _ z w2 hd1 hz)
               have hB1 := hBw'.out.and hb1.below
               have hr1 := hr'.keep hb1.below
               unfold zV at Hin
               clear hz
               go_wp2_with fail
               refine Hin.out.mono ?_
               rintro e w3 ⟨rfl, hd2, hb2⟩
               have hr2 := hr1.keep hb2
               obtain ⟨z0, z1, y0, y1⟩ := hr2.two
               go_wp2_with fail
               refine ret_parse_some (z := z) rfl rfl rfl rfl hr2 hd2 (hB1.and hb2) (Nat.le_refl _) ?_
               exact fun w' h1 h2 => Or.inr ⟨z, A1, m1, c1, rfl, h1, by omega, h2⟩
end Go.Proofs.YtemcdnppgnobmaaGreatDoor
