/-
  The walk of the reference's Size: how many leaves, nodes and levels a tree has.
  The walks of the reference's gapless and IsSimple, of numbers of at most 1000.
  The walk of the reference's IsSimple, of numbers of at most 1000.
-/
import Derived.Test.YtgdaidmkcgblbaaTreeI
namespace Go.Proofs.Ytgdaidmkcgblbaa
open Go.RowKit

/-- A sum over parts, and the greatest. -/
def sumF (f : IT → Nat) : List IT → Nat
  | [] => 0
  | t :: ts => f t + sumF f ts
def maxF (f : IT → Nat) : List IT → Nat
  | [] => 0
  | t :: ts => max (f t) (maxF f ts)
theorem sumF_append (f : IT → Nat) (us : List IT) : ∀ ts, sumF f (ts ++ us) = sumF f ts + sumF f us
  | [] => by unfold sumF; rw [List.nil_append]; exact (Nat.zero_add _).symm
  | t :: ts => by
    rw [List.cons_append]
    show f t + sumF f (ts ++ us) = f t + sumF f ts + sumF f us
    rw [sumF_append f us ts, Nat.add_assoc]
theorem maxF_append (f : IT → Nat) (us : List IT) : ∀ ts, maxF f (ts ++ us) = max (maxF f ts) (maxF f us)
  | [] => by rw [List.nil_append]; show maxF f us = max 0 (maxF f us); omega
  | t :: ts => by
    rw [List.cons_append]
    show max (f t) (maxF f (ts ++ us)) = max (max (f t) (maxF f ts)) (maxF f us)
    rw [maxF_append f us ts]; omega
theorem take_part {ts : List IT} {k : Nat} (h : k < ts.length) : ts.take (k + 1) = ts.take k ++ [ts[k]] := by
  rw [List.take_succ_eq_append_getElem h]
theorem sumF_step (f : IT → Nat) {ts : List IT} {k : Nat} (h : k < ts.length) : sumF f (ts.take (k + 1)) = sumF f (ts.take k) + f ts[k] := by
  rw [take_part h, sumF_append]
  rfl
theorem maxF_step (f : IT → Nat) {ts : List IT} {k : Nat} (h : k < ts.length) : maxF f (ts.take (k + 1)) = max (maxF f (ts.take k)) (f ts[k]) := by
  rw [take_part h, maxF_append]
  show max _ (max (f ts[k]) 0) = _
  omega
theorem sumF_take_le (f : IT → Nat) (ts : List IT) (k : Nat) : sumF f (ts.take k) ≤ sumF f ts := by
  conv => rhs; rw [← List.take_append_drop k ts]
  rw [sumF_append]; omega
theorem maxF_take_le (f : IT → Nat) (ts : List IT) (k : Nat) : maxF f (ts.take k) ≤ maxF f ts := by
  conv => rhs; rw [← List.take_append_drop k ts]
  rw [maxF_append]; omega

/-- How many leaves, nodes and levels there are, down to level d. -/
def leafN : Nat → IT → Nat
  | 0, _ => 0
  | d + 1, t => (if t.parts.length = 0 then 1 else 0) + sumF (leafN d) t.parts
def nodeN : Nat → IT → Nat
  | 0, _ => 0
  | d + 1, t => 1 + sumF (nodeN d) t.parts
def levN : Nat → IT → Nat
  | 0, _ => 0
  | d + 1, t => maxF (levN d) t.parts + 1
theorem leaf_le_node : ∀ (d : Nat) (t : IT), leafN d t ≤ nodeN d t
  | 0, _ => Nat.le_refl _
  | d + 1, t => by
    have h : ∀ ts, sumF (leafN d) ts ≤ sumF (nodeN d) ts := fun ts => by
      induction ts with
      | nil => exact Nat.le_refl _
      | cons u us ih =>
        show leafN d u + sumF (leafN d) us ≤ nodeN d u + sumF (nodeN d) us
        have := leaf_le_node d u
        omega
    have := h t.parts
    unfold leafN nodeN
    split <;> omega

theorem lev_part {d : Nat} {t : IT} {k : Nat} (h : k < t.parts.length) : levN d t.parts[k] + 1 ≤ levN (d + 1) t := by
  have h1 := maxF_step (levN d) h
  have h2 := maxF_take_le (levN d) t.parts (k + 1)
  show _ ≤ maxF (levN d) t.parts + 1
  omega
theorem node_part {d : Nat} {t : IT} {k : Nat} (h : k < t.parts.length) : 1 + sumF (nodeN d) (t.parts.take k) + nodeN d t.parts[k] ≤ nodeN (d + 1) t := by
  have h1 := sumF_step (nodeN d) h
  have h2 := sumF_take_le (nodeN d) t.parts (k + 1)
  show _ ≤ 1 + sumF (nodeN d) t.parts
  omega

/-- The counts so far. -/
structure SizeF (d : Nat) (t : IT) (L0 : Nat) (F G H : Nat → Nat) : Prop where
  f0 : F 0 = L0
  g0 : G 0 = 1
  h0 : H 0 = 0
  step : ∀ k (h : k < t.parts.length), F (k + 1) = F k + leafN d t.parts[k] ∧ G (k + 1) = G k + nodeN d t.parts[k] ∧ H (k + 1) = max (H k) (levN d t.parts[k])
  le : ∀ k, k ≤ t.parts.length → F k ≤ leafN (d + 1) t ∧ G k ≤ nodeN (d + 1) t ∧ H k + 1 ≤ levN (d + 1) t
  last : F t.parts.length = leafN (d + 1) t ∧ G t.parts.length = nodeN (d + 1) t ∧ H t.parts.length + 1 = levN (d + 1) t
theorem sizeF_of (d : Nat) (t : IT) (L0 : Nat) (hL0 : (if t.parts.length = 0 then 1 else 0) = L0) : ∃ F G H, SizeF d t L0 F G H := by
  refine ⟨fun k => L0 + sumF (leafN d) (t.parts.take k), fun k => 1 + sumF (nodeN d) (t.parts.take k), fun k => maxF (levN d) (t.parts.take k), ⟨rfl, rfl, rfl, fun k h => ?_, fun k _ => ?_, ?_⟩⟩
  · have q1 := sumF_step (leafN d) h
    have q2 := sumF_step (nodeN d) h
    have q3 := maxF_step (levN d) h
    refine ⟨?_, ?_, q3⟩
    · show L0 + sumF (leafN d) (t.parts.take (k + 1)) = L0 + sumF (leafN d) (t.parts.take k) + _
      omega
    · show 1 + sumF (nodeN d) (t.parts.take (k + 1)) = 1 + sumF (nodeN d) (t.parts.take k) + _
      omega
  · have q1 := sumF_take_le (leafN d) t.parts k
    have q2 := sumF_take_le (nodeN d) t.parts k
    have q3 := maxF_take_le (levN d) t.parts k
    refine ⟨?_, ?_, ?_⟩
    · show L0 + _ ≤ (if t.parts.length = 0 then 1 else 0) + sumF (leafN d) t.parts
      rw [hL0]; omega
    · show 1 + _ ≤ 1 + sumF (nodeN d) t.parts
      omega
    · show _ + 1 ≤ maxF (levN d) t.parts + 1
      omega
  · rw [List.take_length]
    exact ⟨by show _ = (if t.parts.length = 0 then 1 else 0) + sumF (leafN d) t.parts; rw [hL0], rfl, rfl⟩

set_option maxRecDepth 100000 in
set_option maxHeartbeats 4000000 in
theorem rsize_any : ∀ (d : Nat) (t : IT) (pa : Option Addr) (pn pc : Nat) (A : Option Addr) (n c lo hi deep : Nat) (w : World), ITIn w lo hi d t (.slice pa pn pc) (.slice A n c) → hi ≤ w.heap.size → nodeN d t ≤ 1000 → levN d t + deep ≤ 102 →
    Calls Try.prog 89 #[.agg #[.int .i64 t.kind, .slice pa pn pc, .slice A n c], .int .i64 deep] w fun e w' => e = .returned (.tuple #[.int .i64 (leafN d t), .int .i64 (nodeN d t), .int .i64 (levN d t)]) ∧ Below w.heap.size w w'
  | 0, _, _, _, _, _, _, _, _, _, _, _, h, _, _, _ => h.elim
  | d + 1, t, pa, pn, pc, A, n, c, lo, hi, deep, w, h, hhi, hnodes, hlev => by
    have ih := rsize_any d
    obtain ⟨-, A', c', e1, hparts⟩ := h
    injection e1 with e1 e2 e3
    subst e1 e2 e3
    have hdeep : deep ≤ 101 := by unfold levN at hlev; omega
    have hln := leaf_le_node (d + 1) t
    have hbel0 := below_new' w (.cells #[.int .i64 t.kind, .slice pa pn pc, .slice A t.parts.length c] 64)
    have hbox := Blk.new w 64 #[.int .i64 t.kind, .slice pa pn pc, .slice A t.parts.length c]
    have Hlp := Lib.hid (fun k (h : k < t.parts.length) => lev_part (d := d) (t := t) h)
    have Hll := Lib.hid (fun (k : Nat) (h : k < t.parts.length) => leaf_le_node d t.parts[k])
    obtain ⟨L0, hL0⟩ : ∃ L0, (if t.parts.length = 0 then 1 else 0) = L0 := ⟨_, rfl⟩
    have HL0 := Lib.hid hL0
    obtain ⟨F, G, H, hF⟩ := sizeF_of d t L0 hL0
    have HF := Lib.hid hF
    have Hih := Lib.hid ih
    have Hparts := Lib.hid hparts
    clear ih hparts hL0 hF
    go_enter Try.func89, Try.ntmps89
    have hdi : ¬ (101 : Int) < (deep : Int) := by omega
    obtain ⟨r0, r1, r2, -, -, -⟩ := blk_three hbox
    go_upto_if 19 with fail
    generalize w.alloc (.cells #[.int .i64 t.kind, .slice pa pn pc, .slice A t.parts.length c] 64) = W0 at *
    go_cut [7] (fun x1 wx => x1 = .int .i64 L0 ∧ wx = W0)
    case first =>
      as_aux_lemma =>
        by_cases h0 : t.parts.length = 0
        · have e : Hid (L0 = 1) := by show _ = _; rw [← HL0.out, if_pos h0]
          have d0 : ((t.parts.length : Int) == 0) = true := by rw [beq_iff_eq]; omega
          clear h0
          go_wp2_with fail
          go_meet
          exact ⟨by rw [e.out]; rfl, rfl⟩
        · have e : Hid (L0 = 0) := by show _ = _; rw [← HL0.out, if_neg h0]
          have d0 : ((t.parts.length : Int) == 0) = false := by rw [beq_eq_false_iff_ne]; omega
          go_wp2_with fail
          go_meet
          exact ⟨by rw [e.out]; rfl, rfl⟩
    case rest =>
      obtain ⟨rfl, rfl⟩ := hcut
      clear r0 r1 r2
      go_wp2_with fail
      go_loopw [7, 8, 9, 10] (fun x y z kv wr => ∃ k : Nat, k ≤ t.parts.length ∧ k ≤ G k ∧ kv = .int .i64 k ∧ x = .int .i64 (F k) ∧ y = .int .i64 (G k) ∧ z = .int .i64 (H k) ∧ Below w.heap.size w wr ∧ Blk wr w.heap.size 64 #[.int .i64 t.kind, .slice pa pn pc, .slice A t.parts.length c]) (fun _ _ _ kv _ => t.parts.length - (intOf kv).toNat)
      case atStart => exact ⟨0, Nat.zero_le _, Nat.zero_le _, rfl, by rw [HF.out.f0], by rw [HF.out.g0]; rfl, by rw [HF.out.h0]; rfl, hbel0, hbox⟩
      case round =>
        clear hbel0 hbox
        obtain ⟨k, hk, hkg, rfl, rfl, rfl, rfl, hbel, hblk⟩ := hrel
        have Hbel := Lib.hid hbel
        have Hblk := Lib.hid hblk
        obtain ⟨r0, r1, r2, -, -, -⟩ := blk_three hblk
        obtain ⟨s1, s2, s3⟩ := HF.out.le k hk
        have hg1000 : ((G k : Nat) : Int) ≤ 1000 := by omega
        by_cases hlt : k < t.parts.length
        · have hki : (k : Int) < (t.parts.length : Int) := by omega
          obtain ⟨g, off, rfl, hg1, hg2, hrow⟩ := Hparts.out (by omega)
          obtain ⟨pv', sv', k1, k2, k3, k4⟩ := hrow k hlt
          have hgw : g < w.heap.size := by omega
          have k1' := (hbel.cell (p := ⟨g, off + k * 3, none⟩) hgw).trans k1
          have k2' := (hbel.cell (p := ⟨g, off + k * 3 + 1, none⟩) hgw).trans k2
          have k3' := (hbel.cell (p := ⟨g, off + k * 3 + 2, none⟩) hgw).trans k3
          have hl1 := Hlp.out k hlt
          have hll := Hll.out k hlt
          obtain ⟨f1, f2, f3⟩ := HF.out.step k hlt
          obtain ⟨t1, t2, t3⟩ := HF.out.le (k + 1) hlt
          generalize t.parts[k] = u at *
          obtain ⟨qa, qn, qc, B, m, cc, rfl, rfl⟩ := k4.slices
          have k4' := ITIn.keep (w' := wr) (fun g k1 k2 => hbel.block g (by omega)) d _ _ _ k4
          have hcall := Hih.out u qa qn qc B m cc lo hi (deep + 1) wr k4' (by have := hbel.size; omega) (by omega) (by omega)
          rw [show ((deep + 1 : Nat) : Int) = (deep : Int) + 1 by omega] at hcall
          have hnb : 1 ≤ nodeN d u := by
            cases d with
            | zero => exact k4.elim
            | succ e => show 1 ≤ 1 + _; omega
          generalize leafN d u = la at *
          generalize nodeN d u = nb at *
          generalize levN d u = lc at *
          have F1 := Lib.hid f1
          have F2 := Lib.hid f2
          have F3 := Lib.hid f3
          have Hcall := Lib.hid hcall
          have b1 : la ≤ 1000 := by omega
          have b2 : nb ≤ 1000 := by omega
          have b3 : lc ≤ 1000 := by omega
          clear hcall k1 k2 k3 k4 k4' hrow f1 f2 f3 t1 t2 t3 hl1 hll hbel hblk
          go_wp2_with (go_at_call 89; refine Hcall.out.mono ?_; rintro e w2 ⟨rfl, hb2⟩)
          have hbw : Below w.heap.size w w2 := Hbel.out.trans (hb2.mono Hbel.out.size)
          go_roundw
          case rel => exact ⟨k + 1, by omega, by rw [F2.out]; omega, by go_num, by rw [F1.out]; go_num, by rw [F2.out]; go_num, by rw [F3.out]; congr 1; omega, hbw, Hblk.out.below hb2 Hblk.out.lt⟩
          case measure => simp [intOf]; omega
        · obtain rfl : k = t.parts.length := by omega
          obtain ⟨l1, l2, l3⟩ := HF.out.last
          have L3 := Lib.hid l3
          rw [l1, l2]
          have b3 : H t.parts.length ≤ 1000 := by omega
          clear l1 l2 l3 hbel hblk
          go_wp2_with fail
          go_ret3
          exact ⟨by rw [← L3.out]; rfl, Hbel.out⟩

end Go.Proofs.Ytgdaidmkcgblbaa

namespace Go.Proofs.Ytgdaidmkcgblbaa
open Go.RowKit

/-- The least and the greatest of some numbers and a first one. -/
def lowF (x : Nat) (l : List Nat) : Nat := l.foldl min x
def highF (x : Nat) (l : List Nat) : Nat := l.foldl max x
theorem lowF_step (x : Nat) {l : List Nat} {k : Nat} (h : k < l.length) : lowF x (l.take (k + 1)) = min (lowF x (l.take k)) (l.getD k 0) := by
  unfold lowF
  rw [List.take_succ_eq_append_getElem h, List.foldl_append, List.getD_eq_getElem?_getD, List.getElem?_eq_getElem h]
  rfl
theorem highF_step (x : Nat) {l : List Nat} {k : Nat} (h : k < l.length) : highF x (l.take (k + 1)) = max (highF x (l.take k)) (l.getD k 0) := by
  unfold highF
  rw [List.take_succ_eq_append_getElem h, List.foldl_append, List.getD_eq_getElem?_getD, List.getElem?_eq_getElem h]
  rfl
/-- Whether numbers are all those between the least and the greatest, if they differ. -/
def gapR (l : List Nat) : Bool := decide ((highF (l.getD 0 0) l : Int) - (lowF (l.getD 0 0) l : Int) = (l.length : Int) - 1)

set_option maxRecDepth 100000 in
set_option maxHeartbeats 1000000 in
theorem rgapless_any (A : Option Addr) (n cap : Nat) (ss : List Nat) (w : World) (hS : Sl .i64 w A n ss) (h0 : 0 < n) (hb : ∀ x ∈ ss, x ≤ 1000) :
    Calls Try.prog 86 #[.slice A n cap] w fun e w' => e = .returned (.bool (gapR ss)) ∧ Below w.heap.size w w' := by
  obtain ⟨hl, hn9, h3⟩ := hS
  obtain ⟨g, off, rfl, hg, hcell⟩ := h3 h0
  have hget : ∀ i, i < n → ss.getD i 0 ≤ 1000 := fun i hi => by
    rw [List.getD_eq_getElem?_getD, List.getElem?_eq_getElem (by omega)]
    exact hb _ (List.getElem_mem _)
  have Hget := Lib.hid hget
  have Hcell := Lib.hid hcell
  have hc0 := hcell 0 h0
  obtain ⟨x, hx⟩ : ∃ x, ss.getD 0 0 = x := ⟨_, rfl⟩
  have hx1 := hget 0 h0
  rw [hx] at hc0 hx1
  obtain ⟨F, hF⟩ : ∃ F : Nat → Nat, ∀ k, F k = lowF x (ss.take k) := ⟨_, fun _ => rfl⟩
  obtain ⟨G, hG⟩ : ∃ G : Nat → Nat, ∀ k, G k = highF x (ss.take k) := ⟨_, fun _ => rfl⟩
  have HF0 : Hid (F 0 = x ∧ G 0 = x) := by show _ ∧ _; rw [hF, hG]; exact ⟨rfl, rfl⟩
  have HFs : Hid (∀ k, k < n → F (k + 1) = min (F k) (ss.getD k 0) ∧ G (k + 1) = max (G k) (ss.getD k 0)) := by
    show ∀ _, _
    intro k hk
    rw [hF, hF, hG, hG]
    exact ⟨lowF_step x (by omega), highF_step x (by omega)⟩
  have He : Hid (gapR ss = decide ((G n : Int) - (F n : Int) = (n : Int) - 1)) := by
    show _ = _
    unfold gapR
    rw [hx, hF, hG, List.take_of_length_le (by omega), hl]
  clear hx hF hG hb hget hcell
  generalize gapR ss = R at *
  go_enter Try.func86, Try.ntmps86
  go_upto_region 1 with fail
  go_cut [3, 4] (fun a b wx => a = .int .i64 x ∧ b = .int .i64 x ∧ Drew w wx)
  case first =>
    have hd1 : Drew w w.drew := ⟨1, rfl⟩
    refine wp_region_held_drew (S := fun w' => w'.cell? ⟨g, off, none⟩ = some (.int .i64 x)) (by kernel_rfl) hc0 (fun hHeld => ?_)
    refine wpAnyH_take (i := 0) (v := .slice (some ⟨g, off, none⟩) n cap) rfl (by kernel_rfl) (by kernel_rfl) (by kernel_rfl) (fun _ _ _ h => h) (Or.inl ⟨by kernel_rfl, fun W hW => by go_simp⟩) hHeld ?_
    refine wpAnyH_take (i := 1) (v := .pointer (some ⟨g, off, none⟩)) rfl (by kernel_rfl) (by kernel_rfl) (by kernel_rfl) (fun _ _ _ h => h) (Or.inl ⟨by kernel_rfl, fun W hW => by go_simp⟩) hHeld ?_
    refine wpAnyH_take (i := 2) (v := .int .i64 x) rfl (by kernel_rfl) (by kernel_rfl) (by kernel_rfl) (fun _ _ _ h => h) (Or.inl ⟨by kernel_rfl, fun W hW => by have k0 := hW; go_simp⟩) hHeld ?_
    refine wpAnyH_take (i := 3) (v := .slice (some ⟨g, off, none⟩) n cap) rfl (by kernel_rfl) (by kernel_rfl) (by kernel_rfl) (fun _ _ _ h => h) (Or.inl ⟨by kernel_rfl, fun W hW => by go_simp⟩) hHeld ?_
    refine wpAnyH_take (i := 4) (v := .pointer (some ⟨g, off, none⟩)) rfl (by kernel_rfl) (by kernel_rfl) (by kernel_rfl) (fun _ _ _ h => h) (Or.inl ⟨by kernel_rfl, fun W hW => by go_simp⟩) hHeld ?_
    refine wpAnyH_take (i := 5) (v := .int .i64 x) rfl (by kernel_rfl) (by kernel_rfl) (by kernel_rfl) (fun _ _ _ h => h) (Or.inl ⟨by kernel_rfl, fun W hW => by have k0 := hW; go_simp⟩) hHeld ?_
    refine wpAnyH_take (i := 6) (v := .int .i64 x) rfl (by kernel_rfl) (by kernel_rfl) (by kernel_rfl) (fun _ _ _ h => h) (Or.inl ⟨by kernel_rfl, fun W hW => by go_simp⟩) hHeld ?_
    refine wpAnyH_take (i := 7) (v := .int .i64 x) rfl (by kernel_rfl) (by kernel_rfl) (by kernel_rfl) (fun _ _ _ h => h) (Or.inl ⟨by kernel_rfl, fun W hW => by go_simp⟩) hHeld ?_
    refine wpAnyH_done (by kernel_rfl) ?_ _
    go_simp
    go_wp2_with fail
    go_meet
    exact ⟨rfl, rfl, hd1⟩
  case rest =>
    obtain ⟨rfl, rfl, hd⟩ := hcut
    have hbel0 : Below w.heap.size w wc := hd.below
    clear hd hc0
    go_wp2_with fail
    go_loopw [3, 4, 5] (fun a b kv wr => ∃ k : Nat, k ≤ n ∧ kv = .int .i64 k ∧ a = .int .i64 (F k) ∧ b = .int .i64 (G k) ∧ F k ≤ 1000 ∧ G k ≤ 1000 ∧ Below w.heap.size w wr) (fun _ _ kv _ => n - (intOf kv).toNat)
    case atStart => exact ⟨0, Nat.zero_le _, rfl, by rw [HF0.out.1], by rw [HF0.out.2], by rw [HF0.out.1]; exact hx1, by rw [HF0.out.2]; exact hx1, hbel0⟩
    case round =>
      clear hbel0
      obtain ⟨k, hk, rfl, rfl, rfl, hf, hg9, hbel⟩ := hrel
      have Hbel := Lib.hid hbel
      by_cases hlt : k < n
      · have hki : (k : Int) < (n : Int) := by omega
        have hck := (hbel.cell (p := ⟨g, off + k, none⟩) hg).trans (Hcell.out k hlt)
        have hyb := Hget.out k hlt
        obtain ⟨s1, s2⟩ := HFs.out k hlt
        obtain ⟨y, hy⟩ : ∃ y, ss.getD k 0 = y := ⟨_, rfl⟩
        rw [hy] at hck hyb s1 s2
        have S1 := Lib.hid s1
        have S2 := Lib.hid s2
        clear hy s1 s2 hbel
        go_wp2_with fail
        go_roundw
        case rel => exact ⟨k + 1, by omega, by go_num, by rw [S1.out]; congr 1; omega, by rw [S2.out]; congr 1; omega, by rw [S1.out]; omega, by rw [S2.out]; omega, Hbel.out⟩
        case measure => simp [intOf]; omega
      · obtain rfl : k = n := by omega
        clear hbel
        have hw1 : IntKind.i64.wrap ((G k : Int) - (F k : Int)) = (G k : Int) - (F k : Int) := IntWalk.i64_in _ (by omega)
        have hw2 : IntKind.i64.wrap ((k : Int) - 1) = (k : Int) - 1 := IntWalk.i64_in _ (by omega)
        by_cases hq : (G k : Int) - (F k : Int) = (k : Int) - 1
        · have e : Hid (R = true) := by show _ = _; rw [He.out]; exact decide_eq_true hq
          have hqb : ((G k : Int) - (F k : Int) == (k : Int) - 1) = true := by rw [beq_iff_eq]; exact hq
          clear hq
          go_wp2_with fail
          go_ret
          exact ⟨by rw [e.out]; rfl, Hbel.out⟩
        · have e : Hid (R = false) := by show _ = _; rw [He.out]; exact decide_eq_false hq
          have hqb : ((G k : Int) - (F k : Int) == (k : Int) - 1) = false := by rw [beq_eq_false_iff_ne]; exact hq
          clear hq
          go_wp2_with fail
          go_ret
          exact ⟨by rw [e.out]; rfl, Hbel.out⟩

end Go.Proofs.Ytgdaidmkcgblbaa

namespace Go.Proofs.Ytgdaidmkcgblbaa
open Go.RowKit

/-- Whether a part that is not all is without a gap. -/
def winB (l : List Nat) (a b : Nat) : Bool := decide (b - a < l.length) && gapR (seg l a b)
/-- Whether no part of two numbers or more that is not all is without a gap. -/
def simpR (l : List Nat) : Bool := (List.range l.length).all fun a => (List.range (l.length + 1)).all fun b => !(decide (a + 2 ≤ b) && winB l a b)
theorem simpR_false {l : List Nat} {a b : Nat} (ha : a < l.length) (h2 : a + 2 ≤ b) (hb : b ≤ l.length) (hw : winB l a b = true) : simpR l = false := by
  apply Bool.eq_false_iff.2
  intro h
  have h1 := List.all_eq_true.1 (List.all_eq_true.1 h a (List.mem_range.2 ha)) b (List.mem_range.2 (by omega))
  rw [decide_eq_true h2, hw] at h1
  cases h1
theorem simpR_true {l : List Nat} (h : ∀ a, a < l.length → ∀ b, a + 2 ≤ b → b ≤ l.length → winB l a b = false) : simpR l = true := by
  refine List.all_eq_true.2 fun a ha => List.all_eq_true.2 fun b hb => ?_
  by_cases h2 : a + 2 ≤ b
  · rw [h a (List.mem_range.1 ha) b h2 (by have := List.mem_range.1 hb; omega), Bool.and_false]; rfl
  · rw [decide_eq_false h2, Bool.false_and]; rfl

set_option maxRecDepth 100000 in
set_option maxHeartbeats 2000000 in
theorem rsimple_any (bk off n cap : Nat) (p : List Nat) (w : World) (hS : Sl .i64 w (some ⟨bk, off, none⟩) n p) (hcap : n ≤ cap) (_ : cap ≤ 9223372036854775807) (hb : ∀ x ∈ p, x ≤ 1000) (hn6 : n ≤ 1000) :
    Calls Try.prog 109 #[.slice (some ⟨bk, off, none⟩) n cap] w fun e w' => e = .returned (.bool (simpR p)) ∧ Below w.heap.size w w' := by
  have hl := hS.len
  have Hl := Lib.hid hl
  have HS := Lib.hid hS
  have Hb := Lib.hid hb
  have Hf := Lib.hid (fun a b (h1 : a < p.length) (h2 : a + 2 ≤ b) (h3 : b ≤ p.length) (h4 : winB p a b = true) => simpR_false h1 h2 h3 h4)
  have Ht := Lib.hid (fun (h : ∀ a, a < p.length → ∀ b, a + 2 ≤ b → b ≤ p.length → winB p a b = false) => simpR_true h)
  have Hg := Lib.hid (fun (a b : Nat) (W : World) (hW : Below w.heap.size w W) (h2 : a + 2 ≤ b) (h3 : b ≤ n) => rgapless_any (some ⟨bk, off + a, none⟩) (b - a) (cap - a) (seg p a b) W ((hS.below hW).seg a b (by omega) h3) (by omega) (fun x hx => hb x (by
    unfold seg at hx
    exact List.mem_of_mem_drop (List.mem_of_mem_take hx))))
  rw [hl] at Hf Ht
  generalize simpR p = R at *
  clear hS hb hl
  go_enter Try.func109, Try.ntmps109
  go_wp2_with fail
  go_loopw [3] (fun av wr => ∃ a : Nat, a ≤ n ∧ av = .int .i64 a ∧ (∀ x, x < a → ∀ b, x + 2 ≤ b → b ≤ n → winB p x b = false) ∧ Below w.heap.size w wr) (fun av _ => n - (intOf av).toNat)
  case atStart => exact ⟨0, Nat.zero_le _, rfl, fun x hx => absurd hx (Nat.not_lt_zero _), Below.refl _ _⟩
  case round =>
    obtain ⟨a, ha, rfl, hno, hbel⟩ := hrel
    have Hno := Lib.hid hno
    have Hbel := Lib.hid hbel
    clear hno hbel
    by_cases hlt : a < n
    · have hai : (a : Int) < (n : Int) := by omega
      have haw : IntKind.i64.wrap ((a : Int) + 2) = ((a + 2 : Nat) : Int) := (IntWalk.i64_in _ (by omega)).trans (by omega)
      go_wp2_with fail
      go_loopw [4] (fun bv wr => ∃ b : Nat, a + 2 ≤ b ∧ b ≤ n + 2 ∧ bv = .int .i64 b ∧ (∀ y, a + 2 ≤ y → y < b → y ≤ n → winB p a y = false) ∧ Below w.heap.size w wr) (fun bv _ => n + 2 - (intOf bv).toNat)
      case atStart => exact ⟨a + 2, Nat.le_refl _, by omega, by first | rfl | (congr 1; omega), fun y h1 h2 => absurd h2 (by omega), Hbel.out⟩
      case round =>
        obtain ⟨b, hb1, hb2, rfl, hno2, hbel2⟩ := hrel
        have Hno2 := Lib.hid hno2
        have Hbel2 := Lib.hid hbel2
        clear hno2 hbel2
        by_cases hbn : b ≤ n
        · have hbi : (b : Int) ≤ (n : Int) := by omega
          have hw1 : IntKind.i64.wrap ((b : Int) - (a : Int)) = ((b - a : Nat) : Int) := (IntWalk.i64_in _ (by omega)).trans (by omega)
          by_cases hwin : b - a < n
          · have hwi : ((b - a : Nat) : Int) < (n : Int) := by omega
            have hcall := Hg.out a b wr Hbel2.out hb1 hbn
            have hw2 : ((b : Int) - (a : Int)).toNat = b - a := by omega
            have hac : a ≤ cap := by omega
            have hbc : (b : Int) ≤ (cap : Int) := by omega
            have hab : (a : Int) ≤ (b : Int) := by omega
            obtain ⟨q, hq⟩ : ∃ q, gapR (seg p a b) = q := ⟨_, rfl⟩
            rw [hq] at hcall
            have Hcall := Lib.hid hcall
            have Hw : Hid (winB p a b = q) := by show _ = _; unfold winB; rw [Hl.out, decide_eq_true hwin, Bool.true_and, hq]
            clear hcall hq
            cases q with
            | true =>
              have e := Lib.hid (Hf.out a b hlt hb1 hbn Hw.out)
              go_wp2_with (go_at_call 86; refine Hcall.out.mono ?_; rintro e w2 ⟨rfl, hb2⟩)
              go_ret
              exact ⟨by rw [e.out]; rfl, Hbel2.out.trans (hb2.mono Hbel2.out.size)⟩
            | false =>
              go_wp2_with (go_at_call 86; refine Hcall.out.mono ?_; rintro e w2 ⟨rfl, hb2⟩)
              go_roundw
              case rel => exact ⟨b + 1, by omega, by omega, by go_num, fun y h1 h2 h3 => by
                rcases Nat.lt_or_ge y b with g | g
                · exact Hno2.out y h1 g h3
                · obtain rfl : y = b := by omega
                  exact Hw.out, Hbel2.out.trans (hb2.mono Hbel2.out.size)⟩
              case measure => simp [intOf]; omega
          · have hwi : ¬ ((b - a : Nat) : Int) < (n : Int) := by omega
            have Hw : Hid (winB p a b = false) := by show _ = _; unfold winB; rw [Hl.out, decide_eq_false hwin, Bool.false_and]
            go_wp2_with fail
            go_roundw
            case rel => exact ⟨b + 1, by omega, by omega, by go_num, fun y h1 h2 h3 => by
              rcases Nat.lt_or_ge y b with g | g
              · exact Hno2.out y h1 g h3
              · obtain rfl : y = b := by omega
                exact Hw.out, Hbel2.out⟩
            case measure => simp [intOf]; omega
        · have hbi : ¬ (b : Int) ≤ (n : Int) := by omega
          go_wp2_with fail
          go_roundw
          case rel => exact ⟨a + 1, by omega, by go_num, fun x hx y h1 h2 => by
            rcases Nat.lt_or_ge x a with g | g
            · exact Hno.out x g y h1 h2
            · obtain rfl : x = a := by omega
              exact Hno2.out y h1 (by omega) h2, Hbel2.out⟩
          case measure => simp [intOf]; omega
    · obtain rfl : a = n := by omega
      have e : Hid (R = true) := by show _ = _; exact Ht.out Hno.out
      go_wp2_with fail
      go_ret
      exact ⟨by rw [e.out]; rfl, Hbel.out⟩

end Go.Proofs.Ytgdaidmkcgblbaa
