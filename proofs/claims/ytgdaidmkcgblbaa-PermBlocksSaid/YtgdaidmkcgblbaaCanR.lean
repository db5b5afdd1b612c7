/-
  The walk of the reference's Canonical.
-/
import Derived.Test.YtgdaidmkcgblbaaSimR
namespace Go.Proofs.Ytgdaidmkcgblbaa
open Go.RowKit

/-- Whether a node that is no leaf is right by itself. -/
def nodeR (t : IT) : Bool :=
  if t.kind = 1 ∨ t.kind = 2 then decide (t.perm.length = 0) && decide (2 ≤ t.parts.length)
  else if t.kind = 3 then decide (4 ≤ t.parts.length) && (decide (t.perm.length = t.parts.length) && (chkB t.perm && simpR (natsOf t.perm)))
  else false
/-- Whether a part may stand where it stands. -/
def partR (f : IT → Bool) (kind : Int) (u : IT) : Bool := !(decide (kind ≠ 3) && decide (u.kind = kind)) && f u
/-- Whether a tree is canonical. -/
def canonB : Nat → IT → Bool
  | 0, _ => false
  | d + 1, t => if t.kind = 0 then decide (t.perm.length = 0) && decide (t.parts.length = 0) else nodeR t && t.parts.all (partR (canonB d) t.kind)


theorem nodeR_cut {t : IT} (h : t.kind = 1 ∨ t.kind = 2) : nodeR t = (decide (t.perm.length = 0) && decide (2 ≤ t.parts.length)) := if_pos h
theorem nodeR_three {t : IT} (h : t.kind = 3) : nodeR t = (decide (4 ≤ t.parts.length) && (decide (t.perm.length = t.parts.length) && (chkB t.perm && simpR (natsOf t.perm)))) := by
  unfold nodeR; rw [if_neg (by omega), if_pos h]
theorem nodeR_no {t : IT} (h : t.kind ≠ 1 ∧ t.kind ≠ 2 ∧ t.kind ≠ 3) : nodeR t = false := by
  unfold nodeR; rw [if_neg (by omega), if_neg (by omega)]
theorem canon_leaf {d : Nat} {t : IT} (h : t.kind = 0) : canonB (d + 1) t = (decide (t.perm.length = 0) && decide (t.parts.length = 0)) := if_pos h
theorem canon_node {d : Nat} {t : IT} (h : t.kind ≠ 0) : canonB (d + 1) t = (nodeR t && t.parts.all (partR (canonB d) t.kind)) := if_neg h
theorem all_step {f : IT → Bool} {ts : List IT} {k : Nat} (h : k < ts.length) : (ts.take (k + 1)).all f = ((ts.take k).all f && f ts[k]) := by
  rw [take_part h, List.all_append]
  simp
theorem all_no {f : IT → Bool} {ts : List IT} {k : Nat} (h : k < ts.length) (hf : f ts[k] = false) : ts.all f = false := by
  apply Bool.eq_false_iff.2
  intro e
  have := List.all_eq_true.1 e _ (List.getElem_mem h)
  rw [hf] at this
  cases this
theorem parts_le {w : World} {lo hi d : Nat} {t : IT} {pv sv : Value} (h : ITIn w lo hi (d + 1) t pv sv) : t.parts.length ≤ nodeN (d + 1) t := by
  obtain ⟨-, A, c, -, hp⟩ := h
  cases d with
  | zero =>
    by_cases h0 : 0 < t.parts.length
    · obtain ⟨g, off, -, -, -, hr⟩ := hp h0
      obtain ⟨_, _, _, _, _, k4⟩ := hr 0 h0
      exact k4.elim
    · omega
  | succ e =>
    have hs : ∀ ts : List IT, ts.length ≤ sumF (nodeN (e + 1)) ts := fun ts => by
      induction ts with
      | nil => exact Nat.le_refl _
      | cons u us ih =>
        show us.length + 1 ≤ (1 + _) + sumF (nodeN (e + 1)) us
        omega
    have := hs t.parts
    show _ ≤ 1 + sumF (nodeN (e + 1)) t.parts
    omega

/-- A statement within a block, as one that something follows. -/
theorem wp_in_block {P : Program} {s : Code} {id : Nat} {K : Act → World → Prop} {Q' : Exit → Act → World → Prop} {a : Act} {w : World} (h : s.wp P (Exit.then K (Exit.inBlock id (Exit.then K Q'))) a w) : s.wp P (Exit.inBlock id (Exit.then K Q')) a w := by
  refine wp_mono h ?_
  intro e a' w' hq
  cases e with
  | normal => exact hq
  | exit id' => exact hq
  | goto l => exact hq
  | ret => exact hq
  | panic ch => exact hq
  | outgrown => exact hq

set_option maxRecDepth 100000 in
set_option maxHeartbeats 8000000 in
theorem rcanon_any : ∀ (d : Nat) (t : IT) (pa : Option Addr) (pn pc : Nat) (A : Option Addr) (n c lo hi : Nat) (w : World), ITIn w lo hi d t (.slice pa pn pc) (.slice A n c) → hi ≤ w.heap.size → nodeN d t ≤ 1000 →
    Calls Try.prog 90 #[.agg #[.int .i64 t.kind, .slice pa pn pc, .slice A n c]] w fun e w' => e = .returned (.bool (canonB d t)) ∧ Below w.heap.size w w'
  | 0, _, _, _, _, _, _, _, _, _, _, h, _, _ => h.elim
  | d + 1, t, pa, pn, pc, A, n, c, lo, hi, w, h, hhi, hnodes => by
    have ih := rcanon_any d
    have hple := parts_le h
    obtain ⟨hp, A', c', e1, hparts⟩ := h
    injection e1 with e1 e2 e3
    subst e1 e2 e3
    obtain ⟨hpn, hpz, hpc, hpc9⟩ := hp.zl hhi
    subst hpn
    have hbel0 := below_new' w (.cells #[.int .i64 t.kind, .slice pa t.perm.length pc, .slice A t.parts.length c] 64)
    have hbox := Blk.new w 64 #[.int .i64 t.kind, .slice pa t.perm.length pc, .slice A t.parts.length c]
    have Hchk := Lib.hid (fun W (hW : Below w.heap.size w W) => rcheck_any pa _ pc t.perm W (hpz.below hW))
    have Hsimp := Lib.hid (fun W (hW : Below w.heap.size w W) (hc : ChkP t.perm) => show Calls Try.prog 109 #[.slice pa t.perm.length pc] W fun e w' => e = .returned (.bool (simpR (natsOf t.perm))) ∧ Below W.heap.size W w' from by
      obtain ⟨bk, off, e, _⟩ := hpz.2.2.2 (by have := hc.1; omega)
      subst e
      exact rsimple_any bk off _ pc _ W ((chk_sl hpz hc).below hW) hpc (by omega) (fun x hx => by
        obtain ⟨i, hi', rfl⟩ := List.getElem_of_mem hx
        have := nats_le hc i
        rwa [List.getD_eq_getElem?_getD, List.getElem?_eq_getElem hi'] at this) (by have := hc.2.1; omega))
    have Hih := Lib.hid ih
    have Hround : Hid (∀ k, k < t.parts.length → ∃ (u : IT) (g off : Nat) (pv' sv' : Value), ((t.parts.take (k + 1)).all (partR (canonB d) t.kind) = ((t.parts.take k).all (partR (canonB d) t.kind) && partR (canonB d) t.kind u)) ∧ (partR (canonB d) t.kind u = false → t.parts.all (partR (canonB d) t.kind) = false) ∧
        nodeN d u ≤ 1000 ∧ (partR (canonB d) t.kind u = (!(decide (t.kind ≠ 3) && decide (u.kind = t.kind)) && canonB d u)) ∧ A = some ⟨g, off, none⟩ ∧ lo ≤ g ∧ g < hi ∧
        w.cell? ⟨g, off + k * 3, none⟩ = some (.int .i64 u.kind) ∧ w.cell? ⟨g, off + k * 3 + 1, none⟩ = some pv' ∧ w.cell? ⟨g, off + k * 3 + 2, none⟩ = some sv' ∧ ITIn w lo hi d u pv' sv') := fun k hk => by
      have hn := node_part (d := d) (t := t) hk
      obtain ⟨g, off, eA, hg1, hg2, hrow⟩ := hparts (by omega)
      obtain ⟨pv', sv', k1, k2, k3, k4⟩ := hrow k hk
      exact ⟨t.parts[k], g, off, pv', sv', all_step hk, all_no hk, by omega, rfl, eA, hg1, hg2, k1, k2, k3, k4⟩
    obtain ⟨R, hR⟩ : ∃ R, canonB (d + 1) t = R := ⟨_, rfl⟩
    rw [hR]
    have HR := Lib.hid hR
    obtain ⟨r0, r1, r2, -, -, -⟩ := blk_three hbox
    have hcb := chkB_iff t.perm
    have N0 := Lib.hid (fun h => canon_leaf (d := d) (t := t) h)
    have Nn := Lib.hid (fun h => canon_node (d := d) (t := t) h)
    have N12 := Lib.hid (nodeR_cut (t := t))
    have N3 := Lib.hid (nodeR_three (t := t))
    have Nx := Lib.hid (nodeR_no (t := t))
    have Hcb := Lib.hid hcb
    have hql9 : t.parts.length ≤ 1000 := by omega
    have Hall0 : Hid ((t.parts.take 0).all (partR (canonB d) t.kind) = true) := rfl
    have Hall9 : Hid ((t.parts.take t.parts.length).all (partR (canonB d) t.kind) = t.parts.all (partR (canonB d) t.kind)) := by show _ = _; rw [List.take_length]
    clear ih hparts hR hp hpz hcb hnodes hple
    rw [HR.out] at N0 Nn
    generalize nodeR t = nd at *
    generalize hAE : t.parts.all (partR (canonB d) t.kind) = AL at *
    clear hAE
    generalize hpE : (fun k => (t.parts.take k).all (partR (canonB d) t.kind)) = PA at *
    have hPA : ∀ k, (t.parts.take k).all (partR (canonB d) t.kind) = PA k := fun k => by rw [← hpE]
    clear hpE
    generalize partR (canonB d) t.kind = PF at *
    generalize hcd : canonB d = CB at *
    simp only [hPA] at Hround Hall0 Hall9
    clear hPA hcd
    generalize chkB t.perm = cb at *
    generalize simpR (natsOf t.perm) = sb at *
    generalize hKE : t.kind = K at *
    generalize hplE : t.perm.length = pl at *
    generalize hqlE : t.parts.length = ql at *
    clear hplE hKE hqlE
    go_enter Try.func90, Try.ntmps90
    go_upto_if 6 with fail
    refine wp_in_block ?_
    generalize w.alloc (.cells #[.int .i64 K, .slice pa pl pc, .slice A ql c] 64) = W0 at *
    go_cut [0, 5, 6] (fun _ _ _ wx => (R = AL ∧ (K = 1 ∨ K = 2 ∨ K = 3)) ∧ Below w.heap.size w wx ∧ Blk wx w.heap.size 64 #[.int .i64 K, .slice pa pl pc, .slice A ql c])
    case first =>
      as_aux_lemma =>
        have Hbx := Lib.hid hbox
        have Hb0 := Lib.hid hbel0
        clear hbox hbel0 Hall0 Hall9 Hih Hround
        by_cases k0 : K = 0
        · have e := Lib.hid (N0.out k0)
          have d0 : (K == 0) = true := by rw [beq_iff_eq]; exact k0
          clear k0
          by_cases hpl : pl = 0
          · have d1 : ((pl : Int) == 0) = true := by rw [beq_iff_eq]; omega
            by_cases hql : ql = 0
            · have d2 : ((ql : Int) == 0) = true := by rw [beq_iff_eq]; omega
              have e2 : Hid (R = true) := by show _ = _; rw [e.out, decide_eq_true hpl, decide_eq_true hql]; rfl
              clear hpl hql
              go_wp2_with fail
              go_ret
              exact ⟨by rw [e2.out]; rfl, Hb0.out⟩
            · have d2 : ((ql : Int) == 0) = false := by rw [beq_eq_false_iff_ne]; omega
              have e2 : Hid (R = false) := by show _ = _; rw [e.out, decide_eq_false hql, Bool.and_false]
              clear hpl hql
              go_wp2_with fail
              go_ret
              exact ⟨by rw [e2.out]; rfl, Hb0.out⟩
          · have d1 : ((pl : Int) == 0) = false := by rw [beq_eq_false_iff_ne]; omega
            have e2 : Hid (R = false) := by show _ = _; rw [e.out, decide_eq_false hpl, Bool.false_and]
            clear hpl
            go_wp2_with fail
            go_ret
            exact ⟨by rw [e2.out]; rfl, Hb0.out⟩
        · have d0 : (K == 0) = false := by rw [beq_eq_false_iff_ne]; exact k0
          have e := Lib.hid (Nn.out k0)
          by_cases k12 : K = 1 ∨ K = 2
          · have hk12 : ((K == 1) = true) ∨ ((K == 1) = false ∧ (K == 2) = true) := by
              rcases k12 with h | h
              · exact .inl (by rw [beq_iff_eq]; exact h)
              · exact .inr ⟨by rw [beq_eq_false_iff_ne]; omega, by rw [beq_iff_eq]; exact h⟩
            have hn := Lib.hid (N12.out k12)
            have HK : Hid (K = 1 ∨ K = 2 ∨ K = 3) := by show _ ∨ _; omega
            clear k0 k12
            by_cases hpl : pl = 0
            · have d1 : ((pl : Int) == 0) = true := by rw [beq_iff_eq]; omega
              have hpln := Lib.hid hpl
              clear hpl
              by_cases hql : 2 ≤ ql
              · have d2 : ¬ (ql : Int) < 2 := by omega
                have HeN : Hid (R = AL) := by
                  show _ = _
                  rw [e.out, hn.out, decide_eq_true hpln.out, decide_eq_true hql]; rfl
                clear hql
                rcases hk12 with h1 | ⟨h1, h2⟩
                all_goals
                  go_wp2_with fail
                  go_meet
                  exact ⟨⟨HeN.out, HK.out⟩, Hb0.out, Hbx.out⟩
              · have d2 : (ql : Int) < 2 := by omega
                have e2 : Hid (R = false) := by show _ = _; rw [e.out, hn.out, decide_eq_false hql, Bool.and_false, Bool.false_and]
                clear hql
                rcases hk12 with h1 | ⟨h1, h2⟩
                all_goals
                  go_wp2_with fail
                  go_ret
                  exact ⟨by rw [e2.out]; rfl, Hb0.out⟩
            · have d1 : ((pl : Int) == 0) = false := by rw [beq_eq_false_iff_ne]; omega
              have e2 : Hid (R = false) := by show _ = _; rw [e.out, hn.out, decide_eq_false hpl, Bool.false_and, Bool.false_and]
              have hne : ¬ (pl : Int) = 0 := by omega
              have hn2 : ¬ pl = 0 := hpl
              clear hpl
              rcases hk12 with h1 | ⟨h1, h2⟩
              all_goals
                go_wp2_with fail
                go_ret
                exact ⟨by rw [e2.out]; rfl, Hb0.out⟩
          · have b1 : (K == 1) = false := by rw [beq_eq_false_iff_ne]; omega
            have b2 : (K == 2) = false := by rw [beq_eq_false_iff_ne]; omega
            by_cases k3 : K = 3
            · have d3 : (K == 3) = true := by rw [beq_iff_eq]; exact k3
              have hn := Lib.hid (N3.out k3)
              have HK := Lib.hid (show K = 1 ∨ K = 2 ∨ K = 3 from .inr (.inr k3))
              clear k0 k12 k3
              by_cases hql : 4 ≤ ql
              · have q1 : ¬ (ql : Int) < 4 := by omega
                have Hql := Lib.hid hql
                clear hql
                by_cases hpq : pl = ql
                · have Hpq := Lib.hid hpq
                  subst hpq
                  by_cases hc : ChkP t.perm
                  · have Hc := Lib.hid hc
                    have hck : Hid (∀ W, Below w.heap.size w W → Calls Try.prog 15 #[.slice pa pl pc] W fun e w' => e = .returned (.int .i64 0) ∧ Below W.heap.size W w') := fun W hW => (Hchk.out W hW).mono (fun e w' h => ⟨h.1.elim (fun x => x.2) (fun x => absurd Hc.out x.1), h.2⟩)
                    have hs := Lib.hid (fun W hW => Hsimp.out W hW Hc.out)
                    have hR1 : Hid (R = (sb && AL)) := by
                      show _ = _
                      rw [e.out, hn.out, Hcb.out.2 Hc.out, decide_eq_true Hql.out, decide_eq_true rfl]
                      cases sb <;> rfl
                    clear hc e hn Hchk Hsimp Hcb N0 Nn N12 N3 Nx
                    cases sb with
                    | true =>
                      have HeN : Hid (R = AL) := by show _ = _; rw [hR1.out]; rfl
                      go_wp2_with (first
                        | (go_at_call 15; refine (hck.out _ Hb0.out).mono ?_; clear hck; rintro e w2 ⟨rfl, hb2⟩; have Hb2 := Lib.hid (Hb0.out.trans (hb2.mono Hb0.out.size)); have Hbx2 := Lib.hid (Hbx.out.below hb2 Hbx.out.lt); obtain ⟨r0, r1, r2, -, -, -⟩ := blk_three Hbx2.out)
                        | (go_at_call 109; refine (hs.out _ Hb2.out).mono ?_; clear hs; rintro e w3 ⟨rfl, hb3⟩; have Hb3 := Lib.hid (Hb2.out.trans (hb3.mono Hb2.out.size)); have Hbx3 := Lib.hid (Hbx2.out.below hb3 Hbx2.out.lt)))
                      go_meet
                      exact ⟨⟨HeN.out, HK.out⟩, Hb3.out, Hbx3.out⟩
                    | false =>
                      have e2 : Hid (R = false) := by show _ = _; rw [hR1.out]; rfl
                      go_wp2_with (first
                        | (go_at_call 15; refine (hck.out _ Hb0.out).mono ?_; clear hck; rintro e w2 ⟨rfl, hb2⟩; have Hb2 := Lib.hid (Hb0.out.trans (hb2.mono Hb0.out.size)); have Hbx2 := Lib.hid (Hbx.out.below hb2 Hbx.out.lt); obtain ⟨r0, r1, r2, -, -, -⟩ := blk_three Hbx2.out)
                        | (go_at_call 109; refine (hs.out _ Hb2.out).mono ?_; clear hs; rintro e w3 ⟨rfl, hb3⟩; have Hb3 := Lib.hid (Hb2.out.trans (hb3.mono Hb2.out.size)); have Hbx3 := Lib.hid (Hbx2.out.below hb3 Hbx2.out.lt)))
                      go_ret
                      exact ⟨by rw [e2.out]; rfl, Hb3.out⟩
                  · have e2 : Hid (R = false) := by
                      show _ = _
                      rw [e.out, hn.out, Bool.eq_false_iff.2 (fun h => hc (Hcb.out.1 h)), Bool.false_and, Bool.and_false, Bool.and_false, Bool.false_and]
                    have Hc := Lib.hid hc
                    have Hck : Hid (∀ W, Below w.heap.size w W → Calls Try.prog 15 #[.slice pa pl pc] W fun e w' => e = .returned (.int .i64 20) ∧ Below W.heap.size W w') := fun W hW => (Hchk.out W hW).mono (fun e w' h => ⟨h.1.elim (fun x => absurd x.1 Hc.out) (fun x => x.2), h.2⟩)
                    clear hc Hcb Hchk Hsimp e hn N0 Nn N12 N3 Nx
                    go_wp2_with (go_at_call 15; refine (Hck.out _ Hb0.out).mono ?_; clear Hck; rintro e w2 ⟨rfl, hb2⟩; have Hb2 := Lib.hid (Hb0.out.trans (hb2.mono Hb0.out.size)))
                    go_ret
                    exact ⟨by rw [e2.out]; rfl, Hb2.out⟩
                · have q2 : ((pl : Int) == (ql : Int)) = false := by rw [beq_eq_false_iff_ne]; omega
                  have q2n : ¬ (pl : Int) = (ql : Int) := by omega
                  have q2m : ¬ pl = ql := hpq
                  have e2 : Hid (R = false) := by show _ = _; rw [e.out, hn.out, decide_eq_false hpq, Bool.false_and, Bool.and_false, Bool.false_and]
                  clear hpq
                  go_wp2_with fail
                  go_ret
                  exact ⟨by rw [e2.out]; rfl, Hb0.out⟩
              · have q1 : (ql : Int) < 4 := by omega
                have e2 : Hid (R = false) := by show _ = _; rw [e.out, hn.out, decide_eq_false hql, Bool.false_and, Bool.false_and]
                clear hql
                go_wp2_with fail
                go_ret
                exact ⟨by rw [e2.out]; rfl, Hb0.out⟩
            · have d3 : (K == 3) = false := by rw [beq_eq_false_iff_ne]; omega
              have e2 : Hid (R = false) := by show _ = _; rw [e.out, Nx.out ⟨by omega, by omega, k3⟩, Bool.false_and]
              clear k0 k12 k3
              go_wp2_with fail
              go_ret
              exact ⟨by rw [e2.out]; rfl, Hb0.out⟩
    case rest =>
      obtain ⟨⟨hRA, hK⟩, hbc, hbxc⟩ := hcut
      have HRA := Lib.hid hRA
      have HK := Lib.hid hK
      have HbelS := Lib.hid hbc
      have HblkS := Lib.hid hbxc
      clear r0 r1 r2 hbel0 hbox hRA hK hbc hbxc Hchk Hsimp N0 Nn N12 N3 Nx Hcb HR
      go_wp2_with fail
      go_loopw [3] (fun kv wr => ∃ k : Nat, k ≤ ql ∧ kv = .int .i64 k ∧ PA k = true ∧ Below w.heap.size w wr ∧ Blk wr w.heap.size 64 #[.int .i64 K, .slice pa pl pc, .slice A ql c]) (fun kv _ => ql - (intOf kv).toNat)
      case atStart => exact ⟨0, Nat.zero_le _, rfl, Hall0.out, HbelS.out, HblkS.out⟩
      case round =>
        obtain ⟨k, hk, rfl, hall, hbel, hblk⟩ := hrel
        have Hall := Lib.hid hall
        have Hbel := Lib.hid hbel
        have Hblk := Lib.hid hblk
        obtain ⟨r0, r1, r2, -, -, -⟩ := blk_three hblk
        clear hall hbel hblk
        by_cases hlt : k < ql
        · have hki : (k : Int) < (ql : Int) := by omega
          obtain ⟨u, g, off, pv', sv', hst, hnof, hnd, hpr, rfl, hg1, hg2, k1, k2, k3, k4⟩ := Hround.out k hlt
          have hgw : g < w.heap.size := by omega
          have k1' := (Hbel.out.cell (p := ⟨g, off + k * 3, none⟩) hgw).trans k1
          have k2' := (Hbel.out.cell (p := ⟨g, off + k * 3 + 1, none⟩) hgw).trans k2
          have k3' := (Hbel.out.cell (p := ⟨g, off + k * 3 + 2, none⟩) hgw).trans k3
          rw [Hall.out, Bool.true_and] at hst
          obtain ⟨qa, qn, qc, B, m, cc, rfl, rfl⟩ := k4.slices
          have Hcall := Lib.hid (fun W (hW : Below wr.heap.size wr W) => Hih.out u qa qn qc B m cc lo hi W (ITIn.keep (fun g k1 k2 => (Hbel.out.trans (hW.mono Hbel.out.size)).block g (by omega)) d _ _ _ k4) (by have := Hbel.out.size; have := hW.size; omega) hnd)
          generalize CB u = q at *
          generalize PF u = pu at *
          generalize u.kind = U at *
          have Hcells : Hid (∀ W, Below wr.heap.size wr W → W.cell? ⟨w.heap.size, 0, none⟩ = some (.int .i64 K) ∧ W.cell? ⟨w.heap.size, 1, none⟩ = some (.slice pa pl pc) ∧ W.cell? ⟨w.heap.size, 2, none⟩ = some (.slice (some ⟨g, off, none⟩) ql c) ∧ W.cell? ⟨g, off + k * 3, none⟩ = some (.int .i64 U) ∧ W.cell? ⟨g, off + k * 3 + 1, none⟩ = some (.slice qa qn qc) ∧ W.cell? ⟨g, off + k * 3 + 2, none⟩ = some (.slice B m cc)) := fun W hW => by
            have hgr : g < wr.heap.size := by have := Hbel.out.size; omega
            exact ⟨(hW.cell (p := ⟨w.heap.size, 0, none⟩) Hblk.out.lt).trans r0, (hW.cell (p := ⟨w.heap.size, 1, none⟩) Hblk.out.lt).trans r1, (hW.cell (p := ⟨w.heap.size, 2, none⟩) Hblk.out.lt).trans r2, (hW.cell (p := ⟨g, off + k * 3, none⟩) hgr).trans k1', (hW.cell (p := ⟨g, off + k * 3 + 1, none⟩) hgr).trans k2', (hW.cell (p := ⟨g, off + k * 3 + 2, none⟩) hgr).trans k3'⟩
          have Hst := Lib.hid hst
          have Hnof := Lib.hid hnof
          have Hpr0 := Lib.hid hpr
          have Hb5 : Hid (Below wr.heap.size wr wr.drew) := (Below.refl _ _).drew
          clear k1 k2 k3 k4 hgw hnd hst hnof hpr k1' k2' k3' Hih Hround
          go_upto_region 15 with fail
          go_cut [87] (fun xv wx => xv = .bool (!pu) ∧ Below wr.heap.size wr wx)
          case first =>
            as_aux_lemma =>
              by_cases h3 : K = 3
              · have Hpr : Hid (pu = q) := by show _ = _; rw [Hpr0.out, decide_eq_false (fun h => h h3)]; rfl
                have hk3 := h3
                clear h3
                obtain ⟨S, HS1, HS2⟩ : ∃ S : World → Prop, Hid (∀ W, S W → W.cell? ⟨w.heap.size, 0, none⟩ = some (.int .i64 K) ∧ W.cell? ⟨w.heap.size, 1, none⟩ = some (.slice pa pl pc) ∧ W.cell? ⟨w.heap.size, 2, none⟩ = some (.slice (some ⟨g, off, none⟩) ql c) ∧ W.cell? ⟨g, off + k * 3, none⟩ = some (.int .i64 U) ∧ W.cell? ⟨g, off + k * 3 + 1, none⟩ = some (.slice qa qn qc) ∧ W.cell? ⟨g, off + k * 3 + 2, none⟩ = some (.slice B m cc)) ∧ Hid (∀ W, Below wr.heap.size wr W → S W) := ⟨fun W => _, Lib.hid (fun _ h => h), Lib.hid Hcells.out⟩
                clear Hcells
                refine wp_region_held_drew (S := S) (by kernel_rfl) (HS2.out _ Hb5.out) (fun hHeld => ?_)
                refine wpAnyH_take (i := 0) (v := .pointer (some ⟨w.heap.size, 0, none⟩)) rfl (by kernel_rfl) (by kernel_rfl) (by kernel_rfl) (fun _ _ _ h => h) (Or.inl ⟨by kernel_rfl, fun W hW => by go_simp⟩) hHeld ?_
                go_simp
                refine wpAnyH_take (i := 1) (v := .int .i64 K) rfl (by kernel_rfl) (by kernel_rfl) (by kernel_rfl) (fun _ _ _ h => h) (Or.inl ⟨by kernel_rfl, fun W hW => by obtain ⟨c0, c1, c2, p0, p1, p2⟩ := HS1.out W hW; go_simp⟩) hHeld ?_
                go_simp
                refine wpAnyH_take (i := 2) (v := .bool false) rfl (by kernel_rfl) (by kernel_rfl) (by kernel_rfl) (fun _ _ _ h => h) (Or.inl ⟨by kernel_rfl, fun W hW => by go_simp⟩) hHeld ?_
                go_simp
                refine wpAnyH_take (i := 3) (v := .bool false) rfl (by kernel_rfl) (by kernel_rfl) (by kernel_rfl) (fun _ _ _ h => h) (Or.inl ⟨by kernel_rfl, fun W hW => by go_simp⟩) hHeld ?_
                go_simp
                refine wpAnyH_take (i := 4) (v := undef) rfl (by kernel_rfl) (by kernel_rfl) (by kernel_rfl) (fun _ _ _ h => h) (Or.inr ⟨by kernel_rfl, rfl⟩) hHeld ?_
                go_simp
                refine wpAnyH_take (i := 5) (v := undef) rfl (by kernel_rfl) (by kernel_rfl) (by kernel_rfl) (fun _ _ _ h => h) (Or.inr ⟨by kernel_rfl, rfl⟩) hHeld ?_
                go_simp
                refine wpAnyH_take (i := 6) (v := undef) rfl (by kernel_rfl) (by kernel_rfl) (by kernel_rfl) (fun _ _ _ h => h) (Or.inr ⟨by kernel_rfl, rfl⟩) hHeld ?_
                go_simp
                refine wpAnyH_take (i := 7) (v := undef) rfl (by kernel_rfl) (by kernel_rfl) (by kernel_rfl) (fun _ _ _ h => h) (Or.inr ⟨by kernel_rfl, rfl⟩) hHeld ?_
                go_simp
                refine wpAnyH_take (i := 8) (v := undef) rfl (by kernel_rfl) (by kernel_rfl) (by kernel_rfl) (fun _ _ _ h => h) (Or.inr ⟨by kernel_rfl, rfl⟩) hHeld ?_
                go_simp
                refine wpAnyH_take (i := 9) (v := undef) rfl (by kernel_rfl) (by kernel_rfl) (by kernel_rfl) (fun _ _ _ h => h) (Or.inr ⟨by kernel_rfl, rfl⟩) hHeld ?_
                go_simp
                refine wpAnyH_take (i := 10) (v := undef) rfl (by kernel_rfl) (by kernel_rfl) (by kernel_rfl) (fun _ _ _ h => h) (Or.inr ⟨by kernel_rfl, rfl⟩) hHeld ?_
                go_simp
                refine wpAnyH_take (i := 11) (v := undef) rfl (by kernel_rfl) (by kernel_rfl) (by kernel_rfl) (fun _ _ _ h => h) (Or.inr ⟨by kernel_rfl, rfl⟩) hHeld ?_
                go_simp
                refine wpAnyH_take (i := 12) (v := undef) rfl (by kernel_rfl) (by kernel_rfl) (by kernel_rfl) (fun _ _ _ h => h) (Or.inr ⟨by kernel_rfl, rfl⟩) hHeld ?_
                go_simp
                refine wpAnyH_take (i := 13) (v := .bool false) rfl (by kernel_rfl) (by kernel_rfl) (by kernel_rfl) (fun _ _ _ h => h) (Or.inl ⟨by kernel_rfl, fun W hW => by go_simp⟩) hHeld ?_
                go_simp
                refine wpAnyH_take (i := 14) (v := .bool false) rfl (by kernel_rfl) (by kernel_rfl) (by kernel_rfl) (fun _ _ _ h => h) (Or.inl ⟨by kernel_rfl, fun W hW => by go_simp⟩) hHeld ?_
                go_simp
                refine wpAnyH_take (i := 15) (v := .pointer (some ⟨w.heap.size, 2, none⟩)) rfl (by kernel_rfl) (by kernel_rfl) (by kernel_rfl) (fun _ _ _ h => h) (Or.inl ⟨by kernel_rfl, fun W hW => by go_simp⟩) hHeld ?_
                go_simp
                refine wpAnyH_take (i := 16) (v := .slice (some ⟨g, off, none⟩) ql c) rfl (by kernel_rfl) (by kernel_rfl) (by kernel_rfl) (fun _ _ _ h => h) (Or.inl ⟨by kernel_rfl, fun W hW => by obtain ⟨c0, c1, c2, p0, p1, p2⟩ := HS1.out W hW; go_simp⟩) hHeld ?_
                go_simp
                refine wpAnyH_take (i := 17) (v := .int .i64 k) rfl (by kernel_rfl) (by kernel_rfl) (by kernel_rfl) (fun _ _ _ h => h) (Or.inl ⟨by kernel_rfl, fun W hW => by go_simp⟩) hHeld ?_
                go_simp
                refine wpAnyH_take (i := 18) (v := .pointer (some ⟨g, off + k * 3, none⟩)) rfl (by kernel_rfl) (by kernel_rfl) (by kernel_rfl) (fun _ _ _ h => h) (Or.inl ⟨by kernel_rfl, fun W hW => by go_simp⟩) hHeld ?_
                go_simp
                refine wpAnyH_take (i := 19) (v := .agg #[.int .i64 U, .slice qa qn qc, .slice B m cc]) rfl (by kernel_rfl) (by kernel_rfl) (by kernel_rfl) (fun _ _ _ h => h) (Or.inl ⟨by kernel_rfl, fun W hW => by obtain ⟨c0, c1, c2, p0, p1, p2⟩ := HS1.out W hW; go_simp⟩) hHeld ?_
                go_simp
                refine wpAnyH_ready (rs := [20]) (by kernel_rfl) (by simp) (AllReadyH.cons rfl (fun K' hK => ?_) AllReadyH.nil)
                rw [if_pos (by kernel_rfl)]
                go_simp
                refine (Hcall.out _ Hb5.out).mono ?_
                rintro e w7 ⟨rfl, hb7⟩
                dsimp only
                have hb57 := Hb5.out.trans (hb7.mono Hb5.out.size)
                have Hb57 := Lib.hid hb57
                clear hb7
                refine hK.out _ _ (HS2.out _ hb57) (fun hHeld => ?_)
                clear hb57
                refine wpAnyH_take (i := 21) (v := .bool (!q)) rfl (by kernel_rfl) (by kernel_rfl) (by kernel_rfl) (fun _ _ _ h => h) (Or.inl ⟨by kernel_rfl, fun W hW => by go_simp⟩) hHeld ?_
                go_simp
                refine wpAnyH_take (i := 22) (v := .bool (!q)) rfl (by kernel_rfl) (by kernel_rfl) (by kernel_rfl) (fun _ _ _ h => h) (Or.inl ⟨by kernel_rfl, fun W hW => by go_simp⟩) hHeld ?_
                go_simp
                refine wpAnyH_done (by kernel_rfl) ?_ _
                clear hHeld Hcall Hb5
                go_simp
                go_wp2_with fail
                go_meet
                exact ⟨by rw [Hpr.out], Hb57.out⟩
              · have hk3 : ¬ K = 3 := h3
                by_cases hsame : U = K
                · have Hpr : Hid (pu = false) := by show _ = _; rw [Hpr0.out, decide_eq_true h3, decide_eq_true hsame]; rfl
                  have hUK : U = K := hsame
                  clear h3 hsame
                  obtain ⟨S, HS1, HS2⟩ : ∃ S : World → Prop, Hid (∀ W, S W → W.cell? ⟨w.heap.size, 0, none⟩ = some (.int .i64 K) ∧ W.cell? ⟨w.heap.size, 1, none⟩ = some (.slice pa pl pc) ∧ W.cell? ⟨w.heap.size, 2, none⟩ = some (.slice (some ⟨g, off, none⟩) ql c) ∧ W.cell? ⟨g, off + k * 3, none⟩ = some (.int .i64 U) ∧ W.cell? ⟨g, off + k * 3 + 1, none⟩ = some (.slice qa qn qc) ∧ W.cell? ⟨g, off + k * 3 + 2, none⟩ = some (.slice B m cc)) ∧ Hid (∀ W, Below wr.heap.size wr W → S W) := ⟨fun W => _, Lib.hid (fun _ h => h), Lib.hid Hcells.out⟩
                  clear Hcells
                  refine wp_region_held_drew (S := S) (by kernel_rfl) (HS2.out _ Hb5.out) (fun hHeld => ?_)
                  refine wpAnyH_take (i := 0) (v := .pointer (some ⟨w.heap.size, 0, none⟩)) rfl (by kernel_rfl) (by kernel_rfl) (by kernel_rfl) (fun _ _ _ h => h) (Or.inl ⟨by kernel_rfl, fun W hW => by go_simp⟩) hHeld ?_
                  go_simp
                  refine wpAnyH_take (i := 1) (v := .int .i64 K) rfl (by kernel_rfl) (by kernel_rfl) (by kernel_rfl) (fun _ _ _ h => h) (Or.inl ⟨by kernel_rfl, fun W hW => by obtain ⟨c0, c1, c2, p0, p1, p2⟩ := HS1.out W hW; go_simp⟩) hHeld ?_
                  go_simp
                  refine wpAnyH_take (i := 2) (v := .bool true) rfl (by kernel_rfl) (by kernel_rfl) (by kernel_rfl) (fun _ _ _ h => h) (Or.inl ⟨by kernel_rfl, fun W hW => by go_simp⟩) hHeld ?_
                  go_simp
                  refine wpAnyH_take (i := 3) (v := .bool true) rfl (by kernel_rfl) (by kernel_rfl) (by kernel_rfl) (fun _ _ _ h => h) (Or.inl ⟨by kernel_rfl, fun W hW => by go_simp⟩) hHeld ?_
                  go_simp
                  refine wpAnyH_take (i := 4) (v := .pointer (some ⟨w.heap.size, 2, none⟩)) rfl (by kernel_rfl) (by kernel_rfl) (by kernel_rfl) (fun _ _ _ h => h) (Or.inl ⟨by kernel_rfl, fun W hW => by go_simp⟩) hHeld ?_
                  go_simp
                  refine wpAnyH_take (i := 5) (v := .slice (some ⟨g, off, none⟩) ql c) rfl (by kernel_rfl) (by kernel_rfl) (by kernel_rfl) (fun _ _ _ h => h) (Or.inl ⟨by kernel_rfl, fun W hW => by obtain ⟨c0, c1, c2, p0, p1, p2⟩ := HS1.out W hW; go_simp⟩) hHeld ?_
                  go_simp
                  refine wpAnyH_take (i := 6) (v := .int .i64 k) rfl (by kernel_rfl) (by kernel_rfl) (by kernel_rfl) (fun _ _ _ h => h) (Or.inl ⟨by kernel_rfl, fun W hW => by go_simp⟩) hHeld ?_
                  go_simp
                  refine wpAnyH_take (i := 7) (v := .pointer (some ⟨g, off + k * 3, none⟩)) rfl (by kernel_rfl) (by kernel_rfl) (by kernel_rfl) (fun _ _ _ h => h) (Or.inl ⟨by kernel_rfl, fun W hW => by go_simp⟩) hHeld ?_
                  go_simp
                  refine wpAnyH_take (i := 8) (v := .pointer (some ⟨g, off + k * 3, none⟩)) rfl (by kernel_rfl) (by kernel_rfl) (by kernel_rfl) (fun _ _ _ h => h) (Or.inl ⟨by kernel_rfl, fun W hW => by go_simp⟩) hHeld ?_
                  go_simp
                  refine wpAnyH_take (i := 9) (v := .int .i64 U) rfl (by kernel_rfl) (by kernel_rfl) (by kernel_rfl) (fun _ _ _ h => h) (Or.inl ⟨by kernel_rfl, fun W hW => by obtain ⟨c0, c1, c2, p0, p1, p2⟩ := HS1.out W hW; go_simp⟩) hHeld ?_
                  go_simp
                  refine wpAnyH_take (i := 10) (v := .pointer (some ⟨w.heap.size, 0, none⟩)) rfl (by kernel_rfl) (by kernel_rfl) (by kernel_rfl) (fun _ _ _ h => h) (Or.inl ⟨by kernel_rfl, fun W hW => by go_simp⟩) hHeld ?_
                  go_simp
                  refine wpAnyH_take (i := 11) (v := .int .i64 K) rfl (by kernel_rfl) (by kernel_rfl) (by kernel_rfl) (fun _ _ _ h => h) (Or.inl ⟨by kernel_rfl, fun W hW => by obtain ⟨c0, c1, c2, p0, p1, p2⟩ := HS1.out W hW; go_simp⟩) hHeld ?_
                  go_simp
                  refine wpAnyH_take (i := 12) (v := .bool true) rfl (by kernel_rfl) (by kernel_rfl) (by kernel_rfl) (fun _ _ _ h => h) (Or.inl ⟨by kernel_rfl, fun W hW => by go_simp⟩) hHeld ?_
                  go_simp
                  refine wpAnyH_take (i := 13) (v := .bool true) rfl (by kernel_rfl) (by kernel_rfl) (by kernel_rfl) (fun _ _ _ h => h) (Or.inl ⟨by kernel_rfl, fun W hW => by go_simp⟩) hHeld ?_
                  go_simp
                  refine wpAnyH_take (i := 14) (v := .bool true) rfl (by kernel_rfl) (by kernel_rfl) (by kernel_rfl) (fun _ _ _ h => h) (Or.inl ⟨by kernel_rfl, fun W hW => by go_simp⟩) hHeld ?_
                  go_simp
                  refine wpAnyH_take (i := 15) (v := undef) rfl (by kernel_rfl) (by kernel_rfl) (by kernel_rfl) (fun _ _ _ h => h) (Or.inr ⟨by kernel_rfl, rfl⟩) hHeld ?_
                  go_simp
                  refine wpAnyH_take (i := 16) (v := undef) rfl (by kernel_rfl) (by kernel_rfl) (by kernel_rfl) (fun _ _ _ h => h) (Or.inr ⟨by kernel_rfl, rfl⟩) hHeld ?_
                  go_simp
                  refine wpAnyH_take (i := 17) (v := undef) rfl (by kernel_rfl) (by kernel_rfl) (by kernel_rfl) (fun _ _ _ h => h) (Or.inr ⟨by kernel_rfl, rfl⟩) hHeld ?_
                  go_simp
                  refine wpAnyH_take (i := 18) (v := undef) rfl (by kernel_rfl) (by kernel_rfl) (by kernel_rfl) (fun _ _ _ h => h) (Or.inr ⟨by kernel_rfl, rfl⟩) hHeld ?_
                  go_simp
                  refine wpAnyH_take (i := 19) (v := undef) rfl (by kernel_rfl) (by kernel_rfl) (by kernel_rfl) (fun _ _ _ h => h) (Or.inr ⟨by kernel_rfl, rfl⟩) hHeld ?_
                  go_simp
                  refine wpAnyH_take (i := 20) (v := undef) rfl (by kernel_rfl) (by kernel_rfl) (by kernel_rfl) (fun _ _ _ h => h) (Or.inr ⟨by kernel_rfl, rfl⟩) hHeld ?_
                  go_simp
                  refine wpAnyH_take (i := 21) (v := undef) rfl (by kernel_rfl) (by kernel_rfl) (by kernel_rfl) (fun _ _ _ h => h) (Or.inr ⟨by kernel_rfl, rfl⟩) hHeld ?_
                  go_simp
                  refine wpAnyH_take (i := 22) (v := .bool true) rfl (by kernel_rfl) (by kernel_rfl) (by kernel_rfl) (fun _ _ _ h => h) (Or.inl ⟨by kernel_rfl, fun W hW => by go_simp⟩) hHeld ?_
                  go_simp
                  refine wpAnyH_done (by kernel_rfl) ?_ _
                  clear hHeld Hcall
                  go_simp
                  go_wp2_with fail
                  go_meet
                  exact ⟨by rw [Hpr.out]; rfl, Hb5.out⟩
                · have Hpr : Hid (pu = q) := by show _ = _; rw [Hpr0.out, decide_eq_false hsame, Bool.and_false]; rfl
                  have hUK : ¬ U = K := hsame
                  clear h3 hsame
                  obtain ⟨S, HS1, HS2⟩ : ∃ S : World → Prop, Hid (∀ W, S W → W.cell? ⟨w.heap.size, 0, none⟩ = some (.int .i64 K) ∧ W.cell? ⟨w.heap.size, 1, none⟩ = some (.slice pa pl pc) ∧ W.cell? ⟨w.heap.size, 2, none⟩ = some (.slice (some ⟨g, off, none⟩) ql c) ∧ W.cell? ⟨g, off + k * 3, none⟩ = some (.int .i64 U) ∧ W.cell? ⟨g, off + k * 3 + 1, none⟩ = some (.slice qa qn qc) ∧ W.cell? ⟨g, off + k * 3 + 2, none⟩ = some (.slice B m cc)) ∧ Hid (∀ W, Below wr.heap.size wr W → S W) := ⟨fun W => _, Lib.hid (fun _ h => h), Lib.hid Hcells.out⟩
                  clear Hcells
                  refine wp_region_held_drew (S := S) (by kernel_rfl) (HS2.out _ Hb5.out) (fun hHeld => ?_)
                  refine wpAnyH_take (i := 0) (v := .pointer (some ⟨w.heap.size, 0, none⟩)) rfl (by kernel_rfl) (by kernel_rfl) (by kernel_rfl) (fun _ _ _ h => h) (Or.inl ⟨by kernel_rfl, fun W hW => by go_simp⟩) hHeld ?_
                  go_simp
                  refine wpAnyH_take (i := 1) (v := .int .i64 K) rfl (by kernel_rfl) (by kernel_rfl) (by kernel_rfl) (fun _ _ _ h => h) (Or.inl ⟨by kernel_rfl, fun W hW => by obtain ⟨c0, c1, c2, p0, p1, p2⟩ := HS1.out W hW; go_simp⟩) hHeld ?_
                  go_simp
                  refine wpAnyH_take (i := 2) (v := .bool true) rfl (by kernel_rfl) (by kernel_rfl) (by kernel_rfl) (fun _ _ _ h => h) (Or.inl ⟨by kernel_rfl, fun W hW => by go_simp⟩) hHeld ?_
                  go_simp
                  refine wpAnyH_take (i := 3) (v := .bool true) rfl (by kernel_rfl) (by kernel_rfl) (by kernel_rfl) (fun _ _ _ h => h) (Or.inl ⟨by kernel_rfl, fun W hW => by go_simp⟩) hHeld ?_
                  go_simp
                  refine wpAnyH_take (i := 4) (v := .pointer (some ⟨w.heap.size, 2, none⟩)) rfl (by kernel_rfl) (by kernel_rfl) (by kernel_rfl) (fun _ _ _ h => h) (Or.inl ⟨by kernel_rfl, fun W hW => by go_simp⟩) hHeld ?_
                  go_simp
                  refine wpAnyH_take (i := 5) (v := .slice (some ⟨g, off, none⟩) ql c) rfl (by kernel_rfl) (by kernel_rfl) (by kernel_rfl) (fun _ _ _ h => h) (Or.inl ⟨by kernel_rfl, fun W hW => by obtain ⟨c0, c1, c2, p0, p1, p2⟩ := HS1.out W hW; go_simp⟩) hHeld ?_
                  go_simp
                  refine wpAnyH_take (i := 6) (v := .int .i64 k) rfl (by kernel_rfl) (by kernel_rfl) (by kernel_rfl) (fun _ _ _ h => h) (Or.inl ⟨by kernel_rfl, fun W hW => by go_simp⟩) hHeld ?_
                  go_simp
                  refine wpAnyH_take (i := 7) (v := .pointer (some ⟨g, off + k * 3, none⟩)) rfl (by kernel_rfl) (by kernel_rfl) (by kernel_rfl) (fun _ _ _ h => h) (Or.inl ⟨by kernel_rfl, fun W hW => by go_simp⟩) hHeld ?_
                  go_simp
                  refine wpAnyH_take (i := 8) (v := .pointer (some ⟨g, off + k * 3, none⟩)) rfl (by kernel_rfl) (by kernel_rfl) (by kernel_rfl) (fun _ _ _ h => h) (Or.inl ⟨by kernel_rfl, fun W hW => by go_simp⟩) hHeld ?_
                  go_simp
                  refine wpAnyH_take (i := 9) (v := .int .i64 U) rfl (by kernel_rfl) (by kernel_rfl) (by kernel_rfl) (fun _ _ _ h => h) (Or.inl ⟨by kernel_rfl, fun W hW => by obtain ⟨c0, c1, c2, p0, p1, p2⟩ := HS1.out W hW; go_simp⟩) hHeld ?_
                  go_simp
                  refine wpAnyH_take (i := 10) (v := .pointer (some ⟨w.heap.size, 0, none⟩)) rfl (by kernel_rfl) (by kernel_rfl) (by kernel_rfl) (fun _ _ _ h => h) (Or.inl ⟨by kernel_rfl, fun W hW => by go_simp⟩) hHeld ?_
                  go_simp
                  refine wpAnyH_take (i := 11) (v := .int .i64 K) rfl (by kernel_rfl) (by kernel_rfl) (by kernel_rfl) (fun _ _ _ h => h) (Or.inl ⟨by kernel_rfl, fun W hW => by obtain ⟨c0, c1, c2, p0, p1, p2⟩ := HS1.out W hW; go_simp⟩) hHeld ?_
                  go_simp
                  refine wpAnyH_take (i := 12) (v := .bool false) rfl (by kernel_rfl) (by kernel_rfl) (by kernel_rfl) (fun _ _ _ h => h) (Or.inl ⟨by kernel_rfl, fun W hW => by go_simp⟩) hHeld ?_
                  go_simp
                  refine wpAnyH_take (i := 13) (v := .bool false) rfl (by kernel_rfl) (by kernel_rfl) (by kernel_rfl) (fun _ _ _ h => h) (Or.inl ⟨by kernel_rfl, fun W hW => by go_simp⟩) hHeld ?_
                  go_simp
                  refine wpAnyH_take (i := 14) (v := .bool false) rfl (by kernel_rfl) (by kernel_rfl) (by kernel_rfl) (fun _ _ _ h => h) (Or.inl ⟨by kernel_rfl, fun W hW => by go_simp⟩) hHeld ?_
                  go_simp
                  refine wpAnyH_take (i := 15) (v := .pointer (some ⟨w.heap.size, 2, none⟩)) rfl (by kernel_rfl) (by kernel_rfl) (by kernel_rfl) (fun _ _ _ h => h) (Or.inl ⟨by kernel_rfl, fun W hW => by go_simp⟩) hHeld ?_
                  go_simp
                  refine wpAnyH_take (i := 16) (v := .slice (some ⟨g, off, none⟩) ql c) rfl (by kernel_rfl) (by kernel_rfl) (by kernel_rfl) (fun _ _ _ h => h) (Or.inl ⟨by kernel_rfl, fun W hW => by obtain ⟨c0, c1, c2, p0, p1, p2⟩ := HS1.out W hW; go_simp⟩) hHeld ?_
                  go_simp
                  refine wpAnyH_take (i := 17) (v := .int .i64 k) rfl (by kernel_rfl) (by kernel_rfl) (by kernel_rfl) (fun _ _ _ h => h) (Or.inl ⟨by kernel_rfl, fun W hW => by go_simp⟩) hHeld ?_
                  go_simp
                  refine wpAnyH_take (i := 18) (v := .pointer (some ⟨g, off + k * 3, none⟩)) rfl (by kernel_rfl) (by kernel_rfl) (by kernel_rfl) (fun _ _ _ h => h) (Or.inl ⟨by kernel_rfl, fun W hW => by go_simp⟩) hHeld ?_
                  go_simp
                  refine wpAnyH_take (i := 19) (v := .agg #[.int .i64 U, .slice qa qn qc, .slice B m cc]) rfl (by kernel_rfl) (by kernel_rfl) (by kernel_rfl) (fun _ _ _ h => h) (Or.inl ⟨by kernel_rfl, fun W hW => by obtain ⟨c0, c1, c2, p0, p1, p2⟩ := HS1.out W hW; go_simp⟩) hHeld ?_
                  go_simp
                  refine wpAnyH_ready (rs := [20]) (by kernel_rfl) (by simp) (AllReadyH.cons rfl (fun K' hK => ?_) AllReadyH.nil)
                  rw [if_pos (by kernel_rfl)]
                  go_simp
                  refine (Hcall.out _ Hb5.out).mono ?_
                  rintro e w7 ⟨rfl, hb7⟩
                  dsimp only
                  have hb57 := Hb5.out.trans (hb7.mono Hb5.out.size)
                  have Hb57 := Lib.hid hb57
                  clear hb7
                  refine hK.out _ _ (HS2.out _ hb57) (fun hHeld => ?_)
                  clear hb57
                  refine wpAnyH_take (i := 21) (v := .bool (!q)) rfl (by kernel_rfl) (by kernel_rfl) (by kernel_rfl) (fun _ _ _ h => h) (Or.inl ⟨by kernel_rfl, fun W hW => by go_simp⟩) hHeld ?_
                  go_simp
                  refine wpAnyH_take (i := 22) (v := .bool (!q)) rfl (by kernel_rfl) (by kernel_rfl) (by kernel_rfl) (fun _ _ _ h => h) (Or.inl ⟨by kernel_rfl, fun W hW => by go_simp⟩) hHeld ?_
                  go_simp
                  refine wpAnyH_done (by kernel_rfl) ?_ _
                  clear hHeld Hcall Hb5
                  go_simp
                  go_wp2_with fail
                  go_meet
                  exact ⟨by rw [Hpr.out], Hb57.out⟩
          case rest =>
            obtain ⟨rfl, hbc⟩ := hcut
            have Hb6 := Lib.hid (Hbel.out.trans (hbc.mono Hbel.out.size))
            have Hblk6 := Lib.hid (Hblk.out.below hbc Hblk.out.lt)
            clear hbc Hcells Hcall Hb5
            cases pu with
            | false =>
              have e3 : Hid (R = false) := by show _ = _; rw [HRA.out]; exact Hnof.out rfl
              go_wp2_with fail
              go_ret
              exact ⟨by rw [e3.out]; rfl, Hb6.out⟩
            | true =>
              go_wp2_with fail
              go_roundw
              case rel => exact ⟨k + 1, by omega, by go_num, Hst.out, Hb6.out, Hblk6.out⟩
              case measure => simp [intOf]; omega
        · obtain rfl : k = ql := by omega
          have e3 : Hid (R = true) := by
            show _ = _
            rw [HRA.out, ← Hall9.out, Hall.out]
          go_wp2_with fail
          go_ret
          exact ⟨by rw [e3.out]; rfl, Hbel.out⟩

end Go.Proofs.Ytgdaidmkcgblbaa
