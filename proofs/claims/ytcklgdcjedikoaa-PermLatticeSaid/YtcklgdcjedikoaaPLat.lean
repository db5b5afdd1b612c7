/-
  The walk of PermLattice.
-/
import Derived.Test.YtcklgdcjedikoaaLatM
import Derived.Test.YtcklgdcjedikoaaPOrders
import Derived.Deep.DeepMust
namespace Go.Proofs.Ytcklgdcjedikoaa
open Go.RowKit

set_option maxRecDepth 100000 in
theorem before_any (A B : Option Addr) (n ca cb : Nat) (a b : List Nat) (w : World) (ha : Sl .i64 w A n a) (hb : Sl .i64 w B n b)
    (hbef : ∀ i, i < n → (∀ k, k < i → a.getD k 0 = b.getD k 0) → a.getD i 0 ≠ b.getD i 0 → a.getD i 0 < b.getD i 0) :
    Calls Try.prog 63 #[.slice A n ca, .slice B n cb] w fun e w' => e = .returned (.bool true) ∧ Drew w w' := by
  have hmax := ha.max
  have Hbef := Lib.hid hbef
  clear hbef
  go_enter Try.func63, Try.ntmps63
  go_wp2
  go_loopw [5] (fun i wr => Drew w wr ∧ ∃ k : Nat, k ≤ n ∧ i = .int .i64 k ∧ ∀ j, j < k → a.getD j 0 = b.getD j 0) (fun i _ => n - (intOf i).toNat)
  case atStart => exact ⟨⟨0, rfl⟩, 0, Nat.zero_le _, rfl, fun j hj => absurd hj (Nat.not_lt_zero _)⟩
  case round =>
    obtain ⟨⟨q, rfl⟩, k, hk, rfl, hz⟩ := hrel
    have Hz := Lib.hid hz
    clear hz
    by_cases hlt : k < n
    · obtain ⟨b1, o1, rfl, -, hc1⟩ := ha.at (by omega)
      obtain ⟨b2, o2, rfl, -, hc2⟩ := hb.at (by omega)
      have hca := hc1 k hlt
      have hcb := hc2 k hlt
      clear hc1 hc2 ha hb
      have Hk := Lib.hid (Hbef.out k hlt Hz.out)
      by_cases hxy : a.getD k 0 = b.getD k 0
      · have Hz' := Lib.hid (show ∀ j, j < k + 1 → a.getD j 0 = b.getD j 0 from fun j hj => by
          rcases Nat.lt_or_ge j k with h | h
          · exact Hz.out j h
          · obtain rfl : j = k := by omega
            exact hxy)
        clear Hk Hbef Hz
        generalize a.getD k 0 = x at *
        generalize b.getD k 0 = y at *
        subst hxy
        go_wp2
        go_quiet (fail)
        go_wp2
        go_roundw
        case rel => exact ⟨(by exact ⟨_, rfl⟩), k + 1, by omega, by go_num, Hz'.out⟩
        case measure => simp [intOf]; omega
      · have hlt' := Hk.out hxy
        clear Hk Hbef Hz
        generalize a.getD k 0 = x at *
        generalize b.getD k 0 = y at *
        have hne : ((x : Int) != (y : Int)) = true := by rw [bne_iff_ne]; omega
        have hd : Hid (decide (x < y) = true) := by
          show decide (x < y) = true
          rw [decide_eq_true_iff]
          omega
        clear hxy hlt'
        go_wp2
        go_quiet (fail)
        go_wp2
        go_quiet (fail)
        go_wp2
        go_ret
        exact ⟨ret_bool hd.out, by repeat (first | exact Drew.refl _ | refine Drew.drewN ?_ _)⟩
    · obtain rfl : k = n := by omega
      go_wp2
      go_ret
      exact ⟨rfl, q, rfl⟩

/-- Whether a permutation is one of Baxter's: as Baxter says it. -/
theorem baxter_flag (b off n cap : Nat) (p : List Nat) (w : World) (hS : Sl .i64 w (some ⟨b, off, none⟩) n p) (hp : IsPerm p) (hn : n ≤ 60) (h0 : 0 < n) :
    Calls Try.prog 30 #[.slice (some ⟨b, off, none⟩) n cap] w fun e w' =>
      ∃ A m ok, e = .returned (.tuple #[.slice A m m, .bool ok, .int .i64 0]) ∧ (ok = true ↔ None' p) ∧ Below w.heap.size w w' :=
  (baxter_any b off n cap p w hS hp hn h0).mono fun _ _ ⟨h, hb⟩ => by
    rcases h with ⟨a, j, b, g, hf, he, hs⟩ | ⟨hn, he⟩
    · refine ⟨_, _, _, he, ⟨fun h => (by cases h), fun h => ?_⟩, hb⟩
      exact absurd h hf.not_none
    · exact ⟨_, _, _, he, ⟨fun _ => hn, fun _ => rfl⟩, hb⟩

theorem RetNewOk.n {l : List Nat} {w w' : World} {e : Ending} (h : RetNewOk l w e w') {n : Nat} (hl : l.length = n) : ∃ g c, e = .returned (.tuple #[.slice (some ⟨g, 0, none⟩) n c, .int .i64 0]) ∧ Sl .i64 w' (some ⟨g, 0, none⟩) n l ∧ Below w.heap.size w w' := by
  subst hl
  obtain ⟨g, c, h1, -, h2, h3⟩ := h
  exact ⟨g, c, h1, h2, h3⟩
theorem RetRowE.n {l : List Nat} {w w' : World} {e : Ending} (h : RetRowE l w e w') {n : Nat} (hl : l.length = n) (hn : n ≤ 60) : ∃ g c, e = .returned (.tuple #[.slice (some ⟨g, 0, none⟩) n c, .int .i64 0]) ∧ Sl .i64 w' (some ⟨g, 0, none⟩) n l ∧ Below w.heap.size w w' := by
  subst hl
  obtain ⟨g, h1, -, h2, h3⟩ := h
  exact ⟨g, _, h1, Sl.of_blk h2 rfl (by omega), h3⟩

theorem undef_not {b : Bool} {C : Prop} (h : some undef = some (Value.bool b)) : C := by cases h

set_option maxRecDepth 100000 in
set_option maxHeartbeats 8000000 in
theorem permLattice_walk (A : Option Addr) (n cap : Nat) (A' : Option Addr) (n' cap' : Nat) (A'' : Option Addr) (n'' cap'' : Nat) (zs ys : List Int) (w : World) (h : Ints w A n) (h' : Rl w A' n' zs) (hcap : n' ≤ cap') (h'' : Rl w A'' n'' ys) (hcap2 : n'' ≤ cap'') :
    Calls Try.prog 12 #[.slice A n cap, .slice A' n' cap', .slice A'' n'' cap''] w fun e w' => e = .returned (.bool true) ∧ Below w.heap.size w w' := by
  have hN1 : 1 ≤ tameLen n 9 := by unfold tameLen; omega
  have hN2 : tameLen n 9 ≤ 9 := by unfold tameLen; omega
  have Htame := Lib.hid (tame_cap A n cap 9 w h (by omega))
  have Hlike := Lib.hid (fun m W (hW : Below w.heap.size w W) => like_any A' n' cap' m zs W (h'.below hW) hcap)
  have Hlike2 := Lib.hid (fun m W (hW : Below w.heap.size w W) => like_any A'' n'' cap'' m ys W (h''.below hW) hcap2)
  generalize tameLen n 9 = N at *
  clear h h' hcap h'' hcap2
  go_enter Try.func12, Try.ntmps12
  go_wp2_with fail
  refine Htame.out.mono ?_
  rintro e w1 ⟨gp, cp, p, rfl, hS, hp, hgp, hcp, hb1⟩
  have hlen := hS.len
  clear Htame hgp hcp
  go_wp2_with fail
  refine (Hlike.out N w1 hb1 hN1 (by omega)).mono ?_
  rintro e w2 ⟨gq, cq, q, rfl, hT, hq, hgq, hcq, hb2⟩
  have hqen := hT.len
  have Hb2 := Lib.hid (hb1.trans (hb2.mono hb1.size))
  have hS2 := hS.below hb2
  clear Hlike hS hb1 hb2 hgq hcq
  go_wp2_with fail
  refine (Hlike2.out N w2 Hb2.out hN1 (by omega)).mono ?_
  rintro e w3 ⟨gr, cr, r, rfl, hR, hr, hgr, hcr, hb3⟩
  have hren := hR.len
  have Hb3 := Lib.hid (Hb2.out.trans (hb3.mono Hb2.out.size))
  have hSp := hS2.below hb3
  have hSq := hT.below hb3
  have hn : N ≤ 60 := by omega
  have h0 : 0 < N := hN1
  clear Hlike2 hS2 hT hb3 hgr hcr Hb2
  have hql : q.length = p.length := by omega
  have hrl : r.length = p.length := by omega
  have h60 : p.length ≤ 60 := by omega
  have hjp := join_perm hp hq hql
  have hqrp := join_perm hq hr (by omega)
  have Hturn := turn_of hp
  have Kturn := turn_of hq
  rw [hlen] at Hturn
  rw [hqen] at Kturn
  have hap := Hturn.perm
  have hbp := Kturn.perm
  have HW := Lib.hid (fun W (hW : Below w3.heap.size w3 W) => Weak_any gp 0 N cp gq 0 cq p q W (hSp.below hW) (hSq.below hW) hp hq hn h0)
  have HS := Lib.hid (fun W (hW : Below w3.heap.size w3 W) => Strong_any gp 0 N cp gq 0 cq p q W (hSp.below hW) (hSq.below hW) hp hq hn h0)
  have HJ := Lib.hid (fun W (hW : Below w3.heap.size w3 W) => Join_any gp 0 N cp gq 0 cq p q W (hSp.below hW) (hSq.below hW) hp hq hn h0)
  have HM := Lib.hid (fun W (hW : Below w3.heap.size w3 W) => Meet_any gp 0 N cp gq 0 cq p q W (hSp.below hW) (hSq.below hW) hp hq hn h0)
  have HB := Lib.hid (fun gx cx W (hW : Below w3.heap.size w3 W) (hx : Sl .i64 W (some ⟨gx, 0, none⟩) N (joinL p q)) => Meet_any gp 0 N cp gx 0 cx p (joinL p q) W (hSp.below hW) hx hp hjp hn h0)
  have HXR := Lib.hid (fun gx cx W (hW : Below w3.heap.size w3 W) (hx : Sl .i64 W (some ⟨gx, 0, none⟩) N (joinL p q)) => Join_any gx 0 N cx gr 0 cr (joinL p q) r W hx (hR.below hW) hjp hr hn h0)
  have HQR := Lib.hid (fun W (hW : Below w3.heap.size w3 W) => Join_any gq 0 N cq gr 0 cr q r W (hSq.below hW) (hR.below hW) hq hr hn h0)
  have HO := Lib.hid (fun gx cx W (hW : Below w3.heap.size w3 W) (hx : Sl .i64 W (some ⟨gx, 0, none⟩) N (joinL q r)) => Join_any gp 0 N cp gx 0 cx p (joinL q r) W (hSp.below hW) hx hp hqrp hn h0)
  have HI := Lib.hid (fun W (hW : Below w3.heap.size w3 W) => inverse_any gp 0 N cp p W (hSp.below hW) hp hn h0)
  have HK := Lib.hid (fun W (hW : Below w3.heap.size w3 W) => inverse_any gq 0 N cq q W (hSq.below hW) hq hn h0)
  have HT := Lib.hid (fun ga ca gb cb W (ha : Sl .i64 W (some ⟨ga, 0, none⟩) N (invF p N)) (hb : Sl .i64 W (some ⟨gb, 0, none⟩) N (invF q N)) => Strong_any ga 0 N ca gb 0 cb (invF p N) (invF q N) W ha hb hap hbp hn h0)
  have HX := Lib.hid (fun W (hW : Below w3.heap.size w3 W) => baxter_flag gp 0 N cp p W (hSp.below hW) hp hn h0)
  have HY := Lib.hid (fun ga ca W (ha : Sl .i64 W (some ⟨ga, 0, none⟩) N (invF p N)) => baxter_flag ga 0 N ca (invF p N) W ha hap hn h0)
  have HA := Lib.hid (fun ga ca W (hW : Below w3.heap.size w3 W) (ha : Sl .i64 W (some ⟨ga, 0, none⟩) N (invF p N)) => After_any gp 0 N cp ga 0 ca p (invF p N) W (hSp.below hW) ha hp hap hn h0)
  have Hws := Lib.hid (show weakB p q = true → strongB p q = true ∧ ∀ i, i < N → (∀ k, k < i → p.getD k 0 = q.getD k 0) → p.getD i 0 ≠ q.getD i 0 → p.getD i 0 < q.getD i 0 from fun hw => by
    have hlo := (weak_iff hp hq hql h60).1 hw
    exact ⟨lo_strong hp hq hql hlo, fun i hi => lo_before hp hq hql hlo i (by omega)⟩)
  have hwj := lat_join hp hq hql h60
  have hwm := lat_meet hp hq hql h60
  have hst := strong_turn Hturn Kturn
  have hbax : None' (invF p N) ↔ None' p := ⟨fun h => baxter_turn Hturn.symm h, fun h => baxter_turn Hturn h⟩
  have haft := after_turn (p := p) (a := invF p N) (by rw [hlen]; exact Hturn)
  rw [hlen] at haft
  rw [haft] at HA
  rw [hst] at HT
  rw [lat_back hp hq hql] at HB
  rw [← lat_assoc hp hq hr hql hrl] at HO
  simp only [hbax] at HY
  have lJ : (joinL p q).length = N := by rw [joinL_length]; exact hlen
  have lM : (meetL p q).length = N := by rw [meet_length]; exact hlen
  have lX : (joinL (joinL p q) r).length = N := by rw [joinL_length]; exact lJ
  have lQ : (joinL q r).length = N := by rw [joinL_length]; exact hqen
  have lA : (invF p N).length = N := Hturn.la
  have lB : (invF q N).length = N := Kturn.la
  clear hst hbax haft Hturn Kturn hjp hqrp hap hbp
  generalize joinL (joinL p q) r = xL at *
  generalize joinL p q = jL at *
  generalize joinL q r = qL at *
  generalize meetL p q = mL at *
  generalize weakB p q = wB at *
  generalize strongB p q = sB at *
  generalize invF p N = aL at *
  generalize invF q N = bL at *
  clear hp hq hr hR hql hrl hqen hren hN1 hN2 h60
  have HSp := Lib.hid hSp
  have HSq := Lib.hid hSq
  have Hlen := Lib.hid hlen
  clear hSp hSq hlen
  go_wp2_with fail
  refine (HW.out w3 (Below.refl _ _)).mono ?_
  rintro e w4 ⟨rfl, b4⟩
  clear HW
  go_wp2_with fail
  refine (HS.out w4 b4).mono ?_
  rintro e w5 ⟨rfl, hb⟩
  have b5 := b4.trans (hb.mono b4.size)
  clear HS hb b4
  go_wp2_with fail
  refine (HJ.out w5 b5).mono ?_
  intro e w6 hr
  obtain ⟨gx, cx, rfl, sx, hb⟩ := hr.n lJ
  have b6 := b5.trans (hb.mono b5.size)
  clear HJ hb b5 hr
  go_wp2_with fail
  refine (HM.out w6 b6).mono ?_
  intro e w7 hr
  obtain ⟨gy, cy, rfl, sy, hb⟩ := hr.n lM
  have sx := sx.below hb
  have b7 := b6.trans (hb.mono b6.size)
  clear HM hb b6 hr
  go_wp2_with fail
  refine (HB.out gx cx w7 b7 sx).mono ?_
  intro e w8 hr
  obtain ⟨gb, cb, rfl, sb, hb⟩ := hr.n Hlen.out
  have sx := sx.below hb
  have sy := sy.below hb
  have b8 := b7.trans (hb.mono b7.size)
  clear HB hb b7 hr
  go_wp2_with fail
  refine (HXR.out gx cx w8 b8 sx).mono ?_
  intro e w9 hr
  obtain ⟨gz, cz, rfl, sz, hb⟩ := hr.n lX
  have sx := sx.below hb
  have sy := sy.below hb
  have sb := sb.below hb
  have b9 := b8.trans (hb.mono b8.size)
  clear HXR hb b8 hr
  go_wp2_with fail
  refine (HQR.out w9 b9).mono ?_
  intro e w10 hr
  obtain ⟨gu, cu, rfl, su, hb⟩ := hr.n lQ
  have sx := sx.below hb
  have sy := sy.below hb
  have sb := sb.below hb
  have sz := sz.below hb
  have b10 := b9.trans (hb.mono b9.size)
  clear HQR hb b9 hr
  go_wp2_with fail
  refine (HO.out gu cu w10 b10 su).mono ?_
  intro e w11 hr
  obtain ⟨go, co, rfl, so, hb⟩ := hr.n lX
  have sx := sx.below hb
  have sy := sy.below hb
  have sb := sb.below hb
  have sz := sz.below hb
  have b11 := b10.trans (hb.mono b10.size)
  clear HO hb b10 hr su
  have Hs1 := Lib.hid (fun W (hW : Below w11.heap.size w11 W) => same_yes _ _ _ _ _ _ W (sb.below hW) (HSp.out.below (b11.trans (hW.mono b11.size))) rfl cb cp)
  have Hs2 := Lib.hid (fun W (hW : Below w11.heap.size w11 W) => same_yes _ _ _ _ _ _ W (sz.below hW) (so.below hW) rfl cz co)
  have Hs3 := Lib.hid (fun W (hW : Below w11.heap.size w11 W) => same_any _ _ _ _ cx cq _ _ W (sx.below hW) (HSq.out.below (b11.trans (hW.mono b11.size))))
  have Hs4 := Lib.hid (fun W (hW : Below w11.heap.size w11 W) => same_any _ _ _ _ cy cp _ _ W (sy.below hW) (HSp.out.below (b11.trans (hW.mono b11.size))))
  have Hbe := Lib.hid (fun (hw : wB = true) W (hW : Below w11.heap.size w11 W) => before_any _ _ _ cp cq _ _ W (HSp.out.below (b11.trans (hW.mono b11.size))) (HSq.out.below (b11.trans (hW.mono b11.size))) (Hws.out hw).2)
  have Hws := Lib.hid (show wB = true → sB = true from fun h => (Hws.out h).1)
  rw [hwj] at Hs3
  rw [hwm] at Hs4
  have B11 := Lib.hid b11
  clear sx sy sb sz so hwj hwm lJ lM lX lQ b11 HSp HSq Hlen
  go_upto_region 11 with fail
  go_cut [167] (fun tv wx => tv = .bool false ∧ Below w3.heap.size w3 wx)
  case first =>
    clear HI HK HT HX HY HA
    cases wB
    · clear Hbe Hws
      go_wp2_with (first
        | (go_at_call 33; refine (Hs1.out w11 (Below.refl _ w11)).mono ?_; rintro e wK ⟨rfl, q1, rfl⟩; clear Hs1)
        | (go_at_call 33; refine (Hs2.out _ (below_drewN (Below.refl _ w11) _)).mono ?_; rintro e wK ⟨rfl, q2, rfl⟩; clear Hs2)
        | (go_at_call 33; refine (Hs3.out _ (below_drewN (Below.refl _ w11) _)).mono ?_; rintro e wK ⟨rfl, q3, rfl⟩; clear Hs3)
        | (go_at_call 33; refine (Hs4.out _ (below_drewN (Below.refl _ w11) _)).mono ?_; rintro e wK ⟨rfl, q4, rfl⟩; clear Hs4)
        | (go_at_call 63; apply undef_not; assumption))
      all_goals
        go_meet
        exact ⟨rfl, below_drewN B11.out _⟩
    · obtain rfl := Hws.out rfl
      have Hb6 := Lib.hid (Hbe.out rfl)
      clear Hbe
      clear Hws
      go_wp2_with (first
        | (go_at_call 33; refine (Hs1.out w11 (Below.refl _ w11)).mono ?_; rintro e wK ⟨rfl, q1, rfl⟩; clear Hs1)
        | (go_at_call 33; refine (Hs2.out _ (below_drewN (Below.refl _ w11) _)).mono ?_; rintro e wK ⟨rfl, q2, rfl⟩; clear Hs2)
        | (go_at_call 33; refine (Hs3.out _ (below_drewN (Below.refl _ w11) _)).mono ?_; rintro e wK ⟨rfl, q3, rfl⟩; clear Hs3)
        | (go_at_call 33; refine (Hs4.out _ (below_drewN (Below.refl _ w11) _)).mono ?_; rintro e wK ⟨rfl, q4, rfl⟩; clear Hs4)
        | (go_at_call 63; go_must (refine (Hb6.out _ (below_drewN (Below.refl _ w11) _)).mono ?_); rintro e wK ⟨rfl, q5, rfl⟩; clear Hb6))
      go_meet
      exact ⟨rfl, below_drewN B11.out _⟩
  case rest =>
    obtain ⟨rfl, b12⟩ := hcut
    clear B11 Hs1 Hs2 Hs3 Hs4 Hbe Hws
    go_wp2_with fail
    refine (HI.out wc b12).mono ?_
    intro e w13 hr
    obtain ⟨ga, ca, rfl, sa, hb⟩ := hr.n lA hn
    have b13 := b12.trans (hb.mono b12.size)
    clear HI hb b12 hr lA
    go_wp2_with fail
    refine (HK.out w13 b13).mono ?_
    intro e w14 hr
    obtain ⟨gv, cv, rfl, sv, hb⟩ := hr.n lB hn
    have sa := sa.below hb
    have b14 := b13.trans (hb.mono b13.size)
    clear HK hb b13 hr lB
    go_wp2_with fail
    refine (HT.out ga ca gv cv w14 sa sv).mono ?_
    rintro e w15 ⟨rfl, hb⟩
    have sa := sa.below hb
    have b15 := b14.trans (hb.mono b14.size)
    clear HT hb b14 sv
    go_wp2_with fail
    refine (HX.out w15 b15).mono ?_
    rintro e w16 ⟨B1, m1, ok1, rfl, h1, hb⟩
    have sa := sa.below hb
    have b16 := b15.trans (hb.mono b15.size)
    have H1 := Lib.hid h1
    clear HX hb b15 h1
    go_wp2_with fail
    refine (HY.out ga ca w16 sa).mono ?_
    rintro e w17 ⟨B2, m2, ok2, rfl, h2, hb⟩
    have hok : ok2 = ok1 := Bool.eq_iff_iff.2 (h2.trans H1.out.symm)
    subst hok
    have sa := sa.below hb
    have b17 := b16.trans (hb.mono b16.size)
    clear HY hb b16 h2 H1
    go_wp2_with fail
    refine (HA.out ga ca w17 b17 sa).mono ?_
    intro e w18 hr
    obtain ⟨gk, ck, rfl, sk, hb⟩ := hr.n List.length_range
    have b18 := Hb3.out.trans ((b17.trans (hb.mono b17.size)).mono Hb3.out.size)
    have hsB : (sB == sB) = true := by simp
    have hoB : (ok2 == ok2) = true := by simp
    clear HA hb b17 hr sa Hb3
    go_wp2
    go_loopw [40] (fun i wr => Drew w18 wr ∧ ∃ k : Nat, k ≤ N ∧ i = .int .i64 k) (fun i _ => N - (intOf i).toNat)
    case atStart => exact ⟨⟨0, rfl⟩, 0, Nat.zero_le _, rfl⟩
    case round =>
      obtain ⟨⟨qq, rfl⟩, k, hk, rfl⟩ := hrel
      by_cases hlt : k < N
      · obtain ⟨b1, o1, e1, -, hc1⟩ := sk.at (by omega)
        injection e1 with e1
        obtain ⟨rfl, rfl⟩ : gk = b1 ∧ 0 = o1 := by cases e1; exact ⟨rfl, rfl⟩
        have hca := hc1 k hlt
        rw [show (List.range N).getD k 0 = k by simp [List.getD_eq_getElem?_getD, hlt], Nat.zero_add] at hca
        clear hc1 sk e1
        have hkk : ((k : Int) != (k : Int)) = false := by simp
        go_wp2
        go_roundw
        case rel => exact ⟨(by exact ⟨_, rfl⟩), k + 1, by omega, by go_num⟩
        case measure => simp [intOf]; omega
      · obtain rfl : k = N := by omega
        clear sk
        have b19 := below_drewN b18 qq
        go_wp2_with fail
        refine (awake_any _).mono ?_
        rintro e w20 ⟨rfl, hb⟩
        go_wp2
        go_ret
        exact ⟨rfl, b19.trans (hb.mono b19.size)⟩

end Go.Proofs.Ytcklgdcjedikoaa
