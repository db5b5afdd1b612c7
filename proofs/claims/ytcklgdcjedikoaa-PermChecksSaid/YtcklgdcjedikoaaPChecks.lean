/-
  The walk of PermChecks.
-/
import Derived.Test.YtcklgdcjedikoaaBad
import Derived.Test.YtcklgdcjedikoaaAwake
namespace Go.Proofs.Ytcklgdcjedikoaa
open Go.RowKit

/-- What Check says. -/
def chkD (zs : List Int) : Decidable (ChkP zs) := by unfold ChkP OkTo; infer_instance
def codeOf (zs : List Int) : Int := @ite _ (ChkP zs) (chkD zs) 0 20
theorem codeOf_or (zs : List Int) : codeOf zs = 0 ∨ codeOf zs = 20 := by
  unfold codeOf
  split
  · exact Or.inl rfl
  · exact Or.inr rfl
theorem codeOf_yes {zs : List Int} (h : codeOf zs = 0) : ChkP zs := by
  unfold codeOf at h
  split at h
  · assumption
  · cases h
theorem codeOf_no {zs : List Int} (h : codeOf zs = 20) : ¬ ChkP zs := by
  unfold codeOf at h
  split at h
  · cases h
  · assumption
theorem check_code {A : Option Addr} {n cap : Nat} {zs : List Int} {w : World} (hZ : Zl w A n zs) : Codes 16 #[.slice A n cap] (codeOf zs) w := by
  rcases codeOf_or zs with h | h
  · rw [h]; exact check_yes hZ (codeOf_yes h)
  · rw [h]; exact check_no hZ (codeOf_no h)
theorem rcheck_code {A : Option Addr} {n cap : Nat} {zs : List Int} {w : World} (hZ : Zl w A n zs) : Codes 15 #[.slice A n cap] (codeOf zs) w := fun W hW =>
  (rcheck_any A n cap zs W (hZ.below hW)).mono fun _ _ ⟨h, hb⟩ => by
    rcases h with ⟨h, he⟩ | ⟨h, he⟩
    · refine ⟨?_, hb⟩
      rcases codeOf_or zs with k | k
      · rw [k]; exact he
      · exact absurd h (codeOf_no k)
    · refine ⟨?_, hb⟩
      rcases codeOf_or zs with k | k
      · exact absurd (codeOf_yes k) h
      · rw [k]; exact he

/-- A list, and a code: none beside an error. -/
def ListC (c : Int) (w : World) (e : Ending) (w' : World) : Prop := ∃ A m k, e = .returned (.tuple #[.slice A m k, .int .i64 c]) ∧ (c ≠ 0 → m = 0) ∧ m ≤ 60 ∧ Below w.heap.size w w'
/-- Yes or no, and a code: no beside an error. -/
def BoolC (c : Int) (w : World) (e : Ending) (w' : World) : Prop := ∃ b, e = .returned (.tuple #[.bool b, .int .i64 c]) ∧ (c ≠ 0 → b = false) ∧ Below w.heap.size w w'
/-- A list, yes or no, and a code. -/
def BothC (c : Int) (w : World) (e : Ending) (w' : World) : Prop := ∃ A m k b, e = .returned (.tuple #[.slice A m k, .bool b, .int .i64 c]) ∧ (c ≠ 0 → m = 0 ∧ b = false) ∧ m ≤ 60 ∧ Below w.heap.size w w'
theorem NoList.c {c : Int} {w w' : World} {e : Ending} (h : NoList c w e w') : ListC c w e w' := ⟨_, _, _, h.1, fun _ => rfl, by omega, h.2⟩
theorem NoBool.c {c : Int} {w w' : World} {e : Ending} (h : NoBool c w e w') : BoolC c w e w' := ⟨_, h.1, fun _ => rfl, h.2⟩
theorem NoBoth.c {c : Int} {w w' : World} {e : Ending} (h : NoBoth c w e w') : BothC c w e w' := ⟨_, _, _, _, h.1, fun _ => ⟨rfl, rfl⟩, by omega, h.2⟩

/-- Duo lists that came in, and what the calls of both return. -/
structure Duo (A : Option Addr) (n cap : Nat) (A' : Option Addr) (n' cap' : Nat) (zs ys : List Int) (w : World) : Prop where
  one : Zl w A n zs
  two : Zl w A' n' ys

theorem Duo.below {A : Option Addr} {n cap : Nat} {A' : Option Addr} {n' cap' : Nat} {zs ys : List Int} {w W : World} (h : Duo A n cap A' n' cap' zs ys w) (hW : Below w.heap.size w W) : Duo A n cap A' n' cap' zs ys W := ⟨h.one.below hW, h.two.below hW⟩
theorem Duo.codes {A : Option Addr} {n cap : Nat} {A' : Option Addr} {n' cap' : Nat} {zs ys : List Int} {w : World} (h : Duo A n cap A' n' cap' zs ys w) : Codes 64 #[.slice A n cap, .slice A' n' cap'] (pairOf (codeOf zs) (codeOf ys) n n') w :=
  checkPair_code _ _ _ _ _ _ _ _ w (codeOf_or zs) (codeOf_or ys) (check_code h.one) (check_code h.two)
theorem pairOf_or (c d : Int) (n n' : Nat) (hc : c = 0 ∨ c = 20) (hd : d = 0 ∨ d = 20) : (pairOf c d n n' = 7 ∨ pairOf c d n n' = 20) ∨ (c = 0 ∧ d = 0 ∧ n = n' ∧ pairOf c d n n' = 0) := by
  unfold pairOf firstOf
  rcases hc with rfl | rfl <;> rcases hd with rfl | rfl <;> by_cases e : n = n' <;> simp [e]
/-- Both are permutations of the same number of elements. -/
theorem Duo.sl {A : Option Addr} {n cap : Nat} {A' : Option Addr} {n' cap' : Nat} {zs ys : List Int} {w : World} (h : Duo A n cap A' n' cap' zs ys w) (hc : codeOf zs = 0) (hd : codeOf ys = 0) :
    ∃ b off b' off', A = some ⟨b, off, none⟩ ∧ A' = some ⟨b', off', none⟩ ∧ Sl .i64 w (some ⟨b, off, none⟩) n (natsOf zs) ∧ Sl .i64 w (some ⟨b', off', none⟩) n' (natsOf ys) ∧ IsPerm (natsOf zs) ∧ IsPerm (natsOf ys) ∧ 0 < n ∧ 0 < n' ∧ n ≤ 60 ∧ n' ≤ 60 := by
  have k1 := codeOf_yes hc
  have k2 := codeOf_yes hd
  have s1 := chk_sl h.one k1
  have s2 := chk_sl h.two k2
  have e1 := h.one.1
  have e2 := h.two.1
  have q1 := k1.1
  have q2 := k2.1
  have r1 := k1.2.1
  have r2 := k2.2.1
  obtain ⟨b, off, rfl, -, -⟩ := s1.at (by omega)
  obtain ⟨b', off', rfl, -, -⟩ := s2.at (by omega)
  exact ⟨b, off, b', off', rfl, rfl, s1, s2, k1.perm, k2.perm, by omega, by omega, by omega, by omega⟩
theorem newOk_c {l : List Nat} {w w' : World} {e : Ending} (h : RetNewOk l w e w') (hl : l.length ≤ 60) : ListC 0 w e w' := by
  obtain ⟨g, c, h1, -, -, h3⟩ := h
  exact ⟨_, _, _, h1, fun h => absurd rfl h, hl, h3⟩

theorem Duo.after {A : Option Addr} {n cap : Nat} {A' : Option Addr} {n' cap' : Nat} {zs ys : List Int} {w : World} (h : Duo A n cap A' n' cap' zs ys w) : Calls Try.prog 17 #[.slice A n cap, .slice A' n' cap'] w (ListC (pairOf (codeOf zs) (codeOf ys) n n') w) := by
  rcases pairOf_or (codeOf zs) (codeOf ys) n n' (codeOf_or zs) (codeOf_or ys) with k | ⟨h1, h2, rfl, k⟩
  · exact (after_no _ _ _ w k h.codes).mono fun _ _ h => h.c
  · obtain ⟨b, off, b', off', rfl, rfl, s1, s2, p1, p2, q1, -, r1, -⟩ := h.sl h1 h2
    rw [k]
    exact (After_any b off n cap b' off' cap' _ _ w s1 s2 p1 p2 r1 q1).mono fun _ _ h => newOk_c h (by rw [afterL_length, s1.len]; exact r1)
theorem Duo.join {A : Option Addr} {n cap : Nat} {A' : Option Addr} {n' cap' : Nat} {zs ys : List Int} {w : World} (h : Duo A n cap A' n' cap' zs ys w) : Calls Try.prog 20 #[.slice A n cap, .slice A' n' cap'] w (ListC (pairOf (codeOf zs) (codeOf ys) n n') w) := by
  rcases pairOf_or (codeOf zs) (codeOf ys) n n' (codeOf_or zs) (codeOf_or ys) with k | ⟨h1, h2, rfl, k⟩
  · exact (join_no _ _ _ w k h.codes).mono fun _ _ h => h.c
  · obtain ⟨b, off, b', off', rfl, rfl, s1, s2, p1, p2, q1, -, r1, -⟩ := h.sl h1 h2
    rw [k]
    exact (Join_any b off n cap b' off' cap' _ _ w s1 s2 p1 p2 r1 q1).mono fun _ _ h => newOk_c h (by rw [joinL_length, s1.len]; exact r1)
theorem Duo.meet {A : Option Addr} {n cap : Nat} {A' : Option Addr} {n' cap' : Nat} {zs ys : List Int} {w : World} (h : Duo A n cap A' n' cap' zs ys w) : Calls Try.prog 21 #[.slice A n cap, .slice A' n' cap'] w (ListC (pairOf (codeOf zs) (codeOf ys) n n') w) := by
  rcases pairOf_or (codeOf zs) (codeOf ys) n n' (codeOf_or zs) (codeOf_or ys) with k | ⟨h1, h2, rfl, k⟩
  · exact (meet_no _ _ _ w k h.codes).mono fun _ _ h => h.c
  · obtain ⟨b, off, b', off', rfl, rfl, s1, s2, p1, p2, q1, -, r1, -⟩ := h.sl h1 h2
    rw [k]
    exact (Meet_any b off n cap b' off' cap' _ _ w s1 s2 p1 p2 r1 q1).mono fun _ _ h => newOk_c h (by unfold meetL; rw [List.length_reverse, joinL_length, List.length_reverse, s1.len]; exact r1)
theorem Duo.weak {A : Option Addr} {n cap : Nat} {A' : Option Addr} {n' cap' : Nat} {zs ys : List Int} {w : World} (h : Duo A n cap A' n' cap' zs ys w) : Calls Try.prog 18 #[.slice A n cap, .slice A' n' cap'] w (BoolC (pairOf (codeOf zs) (codeOf ys) n n') w) := by
  rcases pairOf_or (codeOf zs) (codeOf ys) n n' (codeOf_or zs) (codeOf_or ys) with k | ⟨h1, h2, rfl, k⟩
  · exact (weak_no _ _ _ w k h.codes).mono fun _ _ h => h.c
  · obtain ⟨b, off, b', off', rfl, rfl, s1, s2, p1, p2, q1, -, r1, -⟩ := h.sl h1 h2
    rw [k]
    exact (Weak_any b off n cap b' off' cap' _ _ w s1 s2 p1 p2 r1 q1).mono fun _ _ h => ⟨_, h.1, fun h => absurd rfl h, h.2⟩
theorem Duo.strong {A : Option Addr} {n cap : Nat} {A' : Option Addr} {n' cap' : Nat} {zs ys : List Int} {w : World} (h : Duo A n cap A' n' cap' zs ys w) : Calls Try.prog 19 #[.slice A n cap, .slice A' n' cap'] w (BoolC (pairOf (codeOf zs) (codeOf ys) n n') w) := by
  rcases pairOf_or (codeOf zs) (codeOf ys) n n' (codeOf_or zs) (codeOf_or ys) with k | ⟨h1, h2, rfl, k⟩
  · exact (strong_no _ _ _ w k h.codes).mono fun _ _ h => h.c
  · obtain ⟨b, off, b', off', rfl, rfl, s1, s2, p1, p2, q1, -, r1, -⟩ := h.sl h1 h2
    rw [k]
    exact (Strong_any b off n cap b' off' cap' _ _ w s1 s2 p1 p2 r1 q1).mono fun _ _ h => ⟨_, h.1, fun h => absurd rfl h, h.2⟩

/-- What Find refuses. -/
def findOf (c d : Int) (n' : Nat) : Int := if firstOf c d = 20 then 20 else if 6 < n' then 2 else 0
theorem occ_short {p q r : List Nat} (h : occ p q = some r) (hq : q.length ≤ 60) : r.length ≤ 60 := by rw [(occ_like h).2]; exact hq
theorem Duo.find {A : Option Addr} {n cap : Nat} {A' : Option Addr} {n' cap' : Nat} {zs ys : List Int} {w : World} (h : Duo A n cap A' n' cap' zs ys w) : Calls Try.prog 22 #[.slice A n cap, .slice A' n' cap'] w (BothC (findOf (codeOf zs) (codeOf ys) n') w) := by
  by_cases k : firstOf (codeOf zs) (codeOf ys) = 20 ∨ 6 < n'
  · have e : findOf (codeOf zs) (codeOf ys) n' = if firstOf (codeOf zs) (codeOf ys) = 20 then 20 else 2 := by
      unfold findOf
      rcases k with k | k
      · rw [if_pos k, if_pos k]
      · rw [if_pos k]
    rw [e]
    exact (find_no A n cap A' n' cap' _ _ w (codeOf_or zs) (codeOf_or ys) (check_code h.one) (check_code h.two) k).mono fun _ _ h => h.c
  · have k1 : firstOf (codeOf zs) (codeOf ys) ≠ 20 := fun e => k (Or.inl e)
    have k2 : ¬ 6 < n' := fun e => k (Or.inr e)
    have e : findOf (codeOf zs) (codeOf ys) n' = 0 := by
      unfold findOf
      rw [if_neg k1, if_neg k2]
    rw [e]
    unfold firstOf at k1
    have c1 : codeOf zs = 0 := by
      rcases codeOf_or zs with c | c
      · exact c
      · rw [if_pos c] at k1
        exact absurd rfl k1
    rw [if_neg (by rw [c1]; decide)] at k1
    have c2 : codeOf ys = 0 := (codeOf_or ys).resolve_right k1
    obtain ⟨b, off, b', off', rfl, rfl, s1, s2, p1, p2, q1, q2, r1, r2⟩ := h.sl c1 c2
    refine (find_any b off n cap b' off' n' cap' _ _ w s1 s2 p1 p2 r1 q1 (by omega) q2).mono fun _ _ h => ?_
    rcases h with ⟨⟨-, he⟩ | ⟨r, g, c, ho, he, hs⟩, hb⟩
    · exact ⟨_, _, _, _, he, fun h => absurd rfl h, by omega, hb⟩
    · exact ⟨_, _, _, _, he, fun h => absurd rfl h, occ_short ho (by rw [s2.len]; exact r2), hb⟩

set_option maxRecDepth 100000 in
set_option maxHeartbeats 8000000 in
theorem permChecks_walk (A : Option Addr) (n cap : Nat) (A' : Option Addr) (n' cap' : Nat) (zs ys : List Int) (w : World) (h : Rl w A n zs) (hcap : n ≤ cap) (h' : Rl w A' n' ys) (hcap' : n' ≤ cap') :
    Calls Try.prog 3 #[.slice A n cap, .slice A' n' cap'] w fun e w' => e = .returned (.bool true) ∧ Below w.heap.size w w' := by
  have H1 := Lib.hid (raw_any A n cap 61 zs w h hcap (by omega))
  have H2 := Lib.hid (fun W (hW : Below w.heap.size w W) => raw_any A' n' cap' 61 ys W (h'.below hW) hcap' (by omega))
  generalize min n 61 = N at *
  generalize min n' 61 = M at *
  clear h hcap h' hcap'
  go_enter Try.func3, Try.ntmps3
  go_wp2_with fail
  refine H1.out.mono ?_
  rintro e w1 ⟨B, k, rfl, hZ, hb1⟩
  clear H1
  go_wp2_with fail
  refine (H2.out w1 hb1).mono ?_
  rintro e w2 ⟨B', k', rfl, hZ', hb2⟩
  have Hb2 := Lib.hid (hb1.trans (hb2.mono hb1.size))
  generalize zs.take N = p at *
  generalize ys.take M = q at *
  have Hd : Hid (Duo B N k B' M k' p q w2) := Lib.hid ⟨hZ.below hb2, hZ'⟩
  have HR1 := Lib.hid (fun W (hW : Below w2.heap.size w2 W) => (rcheck_code (cap := k) Hd.out.one).at W hW)
  have HR2 := Lib.hid (fun W (hW : Below w2.heap.size w2 W) => (rcheck_code (cap := k') Hd.out.two).at W hW)
  have HC1 := Lib.hid (check_code (cap := k) Hd.out.one)
  have hM : M ≤ 4611686018427387904 := Hd.out.two.2.1
  have hN : N ≤ 4611686018427387904 := Hd.out.one.2.1
  have HA := Lib.hid (fun W (hW : Below w2.heap.size w2 W) => (Hd.out.below hW).after)
  have HW := Lib.hid (fun W (hW : Below w2.heap.size w2 W) => (Hd.out.below hW).weak)
  have HS := Lib.hid (fun W (hW : Below w2.heap.size w2 W) => (Hd.out.below hW).strong)
  have HJ := Lib.hid (fun W (hW : Below w2.heap.size w2 W) => (Hd.out.below hW).join)
  have HM := Lib.hid (fun W (hW : Below w2.heap.size w2 W) => (Hd.out.below hW).meet)
  have HF := Lib.hid (fun W (hW : Below w2.heap.size w2 W) => (Hd.out.below hW).find)
  have hc := codeOf_or p
  have hd := codeOf_or q
  generalize codeOf p = c at *
  generalize codeOf q = d at *
  have Hc := Lib.hid hc
  have Hde := Lib.hid hd
  have Hbo := Lib.hid (show pairOf c d N M = if c = 20 then 20 else if d = 20 then 20 else if N = M then 0 else 7 by
    unfold pairOf firstOf
    rcases hc with rfl | rfl <;> rcases hd with rfl | rfl <;> simp)
  have Hso := Lib.hid (show findOf c d M = if c = 20 then 20 else if d = 20 then 20 else if 6 < M then 2 else 0 by
    unfold findOf firstOf
    rcases hc with rfl | rfl <;> rcases hd with rfl | rfl <;> simp)
  generalize pairOf c d N M = bo at *
  generalize findOf c d M = so at *
  clear hb1 hb2 hZ hZ' H2 hc hd Hd
  have hcc : (c != c) = false := by simp
  go_wp2_with fail
  refine (HR1.out w2 (Below.refl _ _)).mono ?_
  rintro e w3 ⟨rfl, b3⟩
  clear HR1
  go_wp2_with fail
  refine (HC1.out.at w3 b3).mono ?_
  rintro e w4 ⟨rfl, hb⟩
  have b4 := b3.trans (hb.mono b3.size)
  clear hb b3
  have Hx := Lib.hid (show ∃ x : Int, x = (if c = 20 then 20 else d) from ⟨_, rfl⟩)
  obtain ⟨x, hx⟩ := Hx.out
  have HX := Lib.hid hx
  clear hx Hx
  go_upto_if 51 with fail
  go_cut [8] (fun bv wx => bv = .int .i64 x ∧ Below w2.heap.size w2 wx)
  case first =>
    as_aux_lemma =>
      clear HA HW HS HJ HM HF Hso Hbo HC1 Hde
      have hx := HX.out
      rcases Hc.out with rfl | rfl
      · have HR := Lib.hid (HR2.out w4 b4)
        rw [if_neg (by decide)] at hx
        subst hx
        clear HR2 HX
        go_wp2_with fail
        refine HR.out.mono ?_
        rintro e wK ⟨rfl, hb⟩
        go_wp2
        go_meet
        exact ⟨rfl, b4.trans (hb.mono b4.size)⟩
      · rw [if_pos rfl] at hx
        subst hx
        clear HR2 HX
        go_wp2_with fail
        go_meet
        exact ⟨rfl, b4⟩
  case rest =>
   obtain ⟨rfl, b4b⟩ := hcut
   clear b4
   have Hb := Lib.hid (show bo = if x = 20 then 20 else if N = M then 0 else 7 by
     rw [Hbo.out, HX.out]
     rcases Hc.out with rfl | rfl <;> rcases Hde.out with rfl | rfl <;> simp)
   have Hxo := Lib.hid (show x = 0 ∨ x = 20 by
     rw [HX.out]
     rcases Hc.out with rfl | rfl <;> rcases Hde.out with rfl | rfl <;> simp)
   clear Hbo HX
   obtain ⟨T, hT⟩ : ∃ T : Bool, T = (decide (x = 0) && !decide (N = M)) := ⟨_, rfl⟩
   have HT := Lib.hid hT
   clear hT
   go_upto_region 8 with fail
   go_cut [62] (fun tv wx => tv = .bool T ∧ Below w2.heap.size w2 wx)
   case first =>
    as_aux_lemma =>
      clear HA HW HS HJ HM HF Hso HC1 Hde HR2 Hb
      have hT := HT.out
      clear HT
      rcases Hxo.out with rfl | rfl
      · by_cases e : N = M
        · subst e
          have hne : ((N : Int) != (N : Int)) = false := by simp
          obtain rfl : T = false := by rw [hT]; simp
          clear Hxo hT
          go_wp2_with fail
          go_meet
          exact ⟨rfl, b4b⟩
        · have hne : ((N : Int) != (M : Int)) = true := by rw [bne_iff_ne]; omega
          obtain rfl : T = true := by rw [hT]; simp [e]
          clear Hxo e hT
          go_wp2_with fail
          go_meet
          exact ⟨rfl, b4b⟩
      · obtain rfl : T = false := by rw [hT]; simp
        clear Hxo hT
        go_wp2_with fail
        go_meet
        exact ⟨rfl, b4b⟩
   case rest =>
   obtain ⟨rfl, b4c⟩ := hcut
   clear b4b
   have HT2 := Lib.hid (show (T = true → bo = 7) ∧ (T = false → bo = x) from by
     rw [HT.out, Hb.out]
     rcases Hxo.out with rfl | rfl <;> by_cases e : N = M <;> simp [e])
   clear HT
   go_upto_if 62 with fail
   go_cut [8] (fun bv wx => bv = .int .i64 bo ∧ Below w2.heap.size w2 wx)
   case first =>
    as_aux_lemma =>
      clear HA HW HS HJ HM HF Hso HC1 Hde HR2 Hb Hxo
      have h1 := HT2.out.1
      have h2 := HT2.out.2
      cases T
      · have e := h2 rfl
        clear h1 h2 HT2
        subst e
        go_wp2_with fail
        go_meet
        exact ⟨rfl, b4c⟩
      · have e := h1 rfl
        clear h1 h2 HT2
        subst e
        go_wp2_with fail
        go_meet
        exact ⟨rfl, b4c⟩
   case rest =>
    obtain ⟨rfl, b5⟩ := hcut
    clear b4c Hb Hxo HT2
    go_wp2_with fail
    refine (HA.out wc b5).mono ?_
    rintro e w6 ⟨a6, m6, k6, rfl, z6, y6, hb⟩
    have Z6 := Lib.hid z6
    have b6 := b5.trans (hb.mono b5.size)
    clear HA hb b5 z6
    go_wp2_with fail
    refine (HW.out w6 b6).mono ?_
    rintro e w7 ⟨o7, rfl, z7, hb⟩
    have Z7 := Lib.hid z7
    have b7 := b6.trans (hb.mono b6.size)
    clear HW hb b6 z7
    go_wp2_with fail
    refine (HS.out w7 b7).mono ?_
    rintro e w8 ⟨o8, rfl, z8, hb⟩
    have Z8 := Lib.hid z8
    have b8 := b7.trans (hb.mono b7.size)
    clear HS hb b7 z8
    go_wp2_with fail
    refine (HJ.out w8 b8).mono ?_
    rintro e w9 ⟨a9, m9, k9, rfl, z9, y9, hb⟩
    have Z9 := Lib.hid z9
    have b9 := b8.trans (hb.mono b8.size)
    clear HJ hb b8 z9
    go_wp2_with fail
    refine (HM.out w9 b9).mono ?_
    rintro e w10 ⟨a10, m10, k10, rfl, z10, y10, hb⟩
    have Z10 := Lib.hid z10
    have b10 := b9.trans (hb.mono b9.size)
    clear HM hb b9 z10
    go_upto_region 15 with fail
    go_cut [136] (fun tv wx => tv = .bool false ∧ Below w2.heap.size w2 wx)
    case first =>
      as_aux_lemma =>
        clear HR2 HC1 HF Hso Hc Hde
        by_cases hz : bo = 0
        · subst hz
          clear Z6 Z7 Z8 Z9 Z10
          go_wp2_with fail
          go_meet
          exact ⟨rfl, b10⟩
        · obtain rfl := Z6.out hz
          obtain rfl := Z7.out hz
          obtain rfl := Z8.out hz
          obtain rfl := Z9.out hz
          obtain rfl := Z10.out hz
          have hn0 : (bo != 0) = true := by rw [bne_iff_ne]; exact hz
          have hn1 : (bo != bo) = false := by simp
          clear Z6 Z7 Z8 Z9 Z10 hz
          go_wp2_with fail
          go_meet
          exact ⟨rfl, b10⟩
    case rest =>
      obtain ⟨rfl, b11⟩ := hcut
      clear b10 Z6 Z7 Z8 Z9 Z10
      obtain ⟨x, hx⟩ : ∃ x : Int, x = (if c = 20 then 20 else d) := ⟨_, rfl⟩
      have HX := Lib.hid hx
      clear hx
      go_upto_if 139 with fail
      go_cut [19] (fun bv wx => bv = .int .i64 x ∧ Below w2.heap.size w2 wx)
      case first =>
        as_aux_lemma =>
          clear HF Hso HC1 Hde
          have hx := HX.out
          rcases Hc.out with rfl | rfl
          · have HR := Lib.hid (HR2.out wc b11)
            rw [if_neg (by decide)] at hx
            subst hx
            clear HR2 HX
            go_wp2_with fail
            refine HR.out.mono ?_
            rintro e wK ⟨rfl, hb⟩
            go_wp2
            go_meet
            exact ⟨rfl, b11.trans (hb.mono b11.size)⟩
          · rw [if_pos rfl] at hx
            subst hx
            clear HR2 HX
            go_wp2_with fail
            go_meet
            exact ⟨rfl, b11⟩
      case rest =>
        obtain ⟨rfl, b12⟩ := hcut
        clear b11 HR2
        have Hb := Lib.hid (show so = if x = 20 then 20 else if 6 < M then 2 else 0 by
          rw [Hso.out, HX.out]
          rcases Hc.out with rfl | rfl <;> rcases Hde.out with rfl | rfl <;> simp)
        have Hxo := Lib.hid (show x = 0 ∨ x = 20 by
          rw [HX.out]
          rcases Hc.out with rfl | rfl <;> rcases Hde.out with rfl | rfl <;> simp)
        clear Hso HX Hde
        obtain ⟨T, hT⟩ : ∃ T : Bool, T = (decide (x = 0) && decide (6 < M)) := ⟨_, rfl⟩
        have HT := Lib.hid hT
        clear hT
        go_upto_region 20 with fail
        go_cut [148] (fun tv wx => tv = .bool T ∧ Below w2.heap.size w2 wx)
        case first =>
          as_aux_lemma =>
            clear HF HC1 Hb Hc
            have hT := HT.out
            clear HT
            rcases Hxo.out with rfl | rfl
            · by_cases e : 6 < M
              · have hne : decide ((M : Int) > 6) = true := decide_eq_true (by omega)
                have hne2 : decide ((6 : Int) < M) = true := decide_eq_true (by omega)
                obtain rfl : T = true := by rw [hT]; simp [e]
                clear Hxo hT e
                go_wp2_with fail
                go_meet
                exact ⟨rfl, b12⟩
              · have hne : decide ((M : Int) > 6) = false := decide_eq_false (by omega)
                have hne2 : decide ((6 : Int) < M) = false := decide_eq_false (by omega)
                obtain rfl : T = false := by rw [hT]; simp [e]
                clear Hxo e hT
                go_wp2_with fail
                go_meet
                exact ⟨rfl, b12⟩
            · obtain rfl : T = false := by rw [hT]; simp
              clear Hxo hT
              go_wp2_with fail
              go_meet
              exact ⟨rfl, b12⟩
        case rest =>
          obtain ⟨rfl, b13⟩ := hcut
          clear b12
          have HT2 := Lib.hid (show (T = true → so = 2) ∧ (T = false → so = x) from by
            rw [HT.out, Hb.out]
            rcases Hxo.out with rfl | rfl <;> by_cases e : 6 < M <;> simp [e])
          clear HT
          go_upto_if 148 with fail
          go_cut [19] (fun bv wx => bv = .int .i64 so ∧ Below w2.heap.size w2 wx)
          case first =>
            as_aux_lemma =>
              clear HF HC1 Hb Hxo Hc
              have h1 := HT2.out.1
              have h2 := HT2.out.2
              cases T
              · have e := h2 rfl
                clear h1 h2 HT2
                subst e
                go_wp2_with fail
                go_meet
                exact ⟨rfl, b13⟩
              · have e := h1 rfl
                clear h1 h2 HT2
                subst e
                go_wp2_with fail
                go_meet
                exact ⟨rfl, b13⟩
          case rest =>
            obtain ⟨rfl, b14⟩ := hcut
            clear b13 HT2 Hb Hxo
            go_wp2_with fail
            refine (HF.out wc b14).mono ?_
            rintro e w15 ⟨a15, m15, k15, o15, rfl, z15, y15, hb⟩
            have Z15 := Lib.hid z15
            have b15 := b14.trans (hb.mono b14.size)
            clear HF hb b14 z15
            go_upto_region 23 with fail
            go_cut [170] (fun tv wx => tv = .bool false ∧ Below w2.heap.size w2 wx)
            case first =>
              as_aux_lemma =>
                clear HC1 Hc
                by_cases hz : so = 0
                · subst hz
                  clear Z15
                  go_wp2_with fail
                  go_meet
                  exact ⟨rfl, b15⟩
                · obtain ⟨rfl, rfl⟩ := Z15.out hz
                  have hn0 : (so != 0) = true := by rw [bne_iff_ne]; exact hz
                  have hn1 : (so != so) = false := by simp
                  clear Z15 hz
                  go_wp2_with fail
                  go_meet
                  exact ⟨rfl, b15⟩
            case rest =>
              obtain ⟨rfl, b16⟩ := hcut
              clear b15 Z15
              rcases Hc.out with rfl | rfl
              · clear Hc HC1
                go_wp2_with fail
                refine (awake_any _).mono ?_
                rintro e w17 ⟨rfl, hb⟩
                go_wp2
                go_ret
                exact ⟨rfl, Hb2.out.trans ((b16.trans (hb.mono b16.size)).mono Hb2.out.size)⟩
              · clear Hc
                have HI := Lib.hid (fun W (hW : Below w2.heap.size w2 W) => show Codes 16 #[.slice B N k] 20 W from fun X hX => HC1.out X (hW.trans (hX.mono hW.size)))
                clear HC1
                go_wp2_with fail
                refine (inverse_no _ _ (HI.out wc b16)).mono ?_
                rintro e w17 ⟨rfl, hb⟩
                have b17 := b16.trans (hb.mono b16.size)
                clear hb b16
                go_wp2_with fail
                refine (inversions_no _ _ (HI.out w17 b17)).mono ?_
                rintro e w18 ⟨rfl, hb⟩
                have b18 := b17.trans (hb.mono b17.size)
                clear hb b17
                go_wp2_with fail
                refine (code_no _ _ (HI.out w18 b18)).mono ?_
                rintro e w19 ⟨rfl, hb⟩
                have b19 := b18.trans (hb.mono b18.size)
                clear hb b18
                go_wp2_with fail
                refine (rank_no _ _ (HI.out w19 b19)).mono ?_
                rintro e w20 ⟨rfl, hb⟩
                have b20 := b19.trans (hb.mono b19.size)
                clear hb b19
                go_wp2_with fail
                refine (sort_no _ _ (HI.out w20 b20)).mono ?_
                rintro e w21 ⟨rfl, hb⟩
                have b21 := b20.trans (hb.mono b20.size)
                clear hb b20
                go_wp2_with fail
                refine (blocks_no _ _ (HI.out w21 b21)).mono ?_
                rintro e w22 ⟨rfl, hb⟩
                have b22 := b21.trans (hb.mono b21.size)
                clear hb b21
                go_wp2_with fail
                have b23 := b22.alloc b22.size (.cells #[.int .i64 0, .slice none 0 0, .slice none 0 0] 43)
                refine (baxter_no _ _ _ _ (HI.out _ b23)).mono ?_
                rintro e w24 ⟨rfl, hb⟩
                have b24 := b23.trans (hb.mono b23.size)
                clear hb b22 b23
                have HS := Lib.hid (HI.out w24 b24)
                clear HI
                go_wp2_with fail
                refine (sorts_no _ _ _ HS.out).mono ?_
                rintro e w25 ⟨rfl, hb⟩
                have b25 := b24.trans (hb.mono b24.size)
                clear hb b24 HS
                go_wp2_with fail
                refine (awake_any _).mono ?_
                rintro e w26 ⟨rfl, hb⟩
                go_wp2
                go_ret
                exact ⟨rfl, Hb2.out.trans ((b25.trans (hb.mono b25.size)).mono Hb2.out.size)⟩

end Go.Proofs.Ytcklgdcjedikoaa
