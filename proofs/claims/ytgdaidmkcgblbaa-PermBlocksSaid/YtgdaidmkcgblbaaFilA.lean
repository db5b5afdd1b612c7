/-
  The walk of the reference's fill, of canonical trees of at most 1000 nodes.
  The walk of the reference's Fill.
-/
import Derived.Test.YtgdaidmkcgblbaaCanR
import Derived.Test.YtgdaidmkcgblbaaBackN
namespace Go.Proofs.Ytgdaidmkcgblbaa
open Go.RowKit

/-- What a canonical tree stands for. -/
def fillR : Nat → IT → List Nat
  | 0, _ => []
  | d + 1, t => if t.parts.length = 0 then [0] else infl (orderOf t) (t.parts.map (fillR d)) t.parts.length
theorem fillR_leaf {d : Nat} {t : IT} (h : t.parts.length = 0) : fillR (d + 1) t = [0] := if_pos h
theorem fillR_node {d : Nat} {t : IT} (h : t.parts.length ≠ 0) : fillR (d + 1) t = infl (orderOf t) (t.parts.map (fillR d)) t.parts.length := if_neg h

theorem canon_inv {d : Nat} {t : IT} (h : canonB (d + 1) t = true) : (t.kind = 0 ∧ t.perm.length = 0 ∧ t.parts.length = 0) ∨
    ((((t.kind = 1 ∨ t.kind = 2) ∧ t.perm.length = 0) ∨ (t.kind = 3 ∧ 4 ≤ t.parts.length ∧ ChkP t.perm ∧ t.perm.length = t.parts.length ∧ simpR (natsOf t.perm) = true)) ∧ 2 ≤ t.parts.length ∧ ∀ i (h : i < t.parts.length), partR (canonB d) t.kind t.parts[i] = true) := by
  by_cases k0 : t.kind = 0
  · rw [canon_leaf k0, Bool.and_eq_true, decide_eq_true_eq, decide_eq_true_eq] at h
    exact .inl ⟨k0, h.1, h.2⟩
  · rw [canon_node k0, Bool.and_eq_true, List.all_eq_true] at h
    have hs : ∀ i (h : i < t.parts.length), partR (canonB d) t.kind t.parts[i] = true := fun i hi => h.2 _ (List.getElem_mem hi)
    have hn := h.1
    by_cases k12 : t.kind = 1 ∨ t.kind = 2
    · rw [nodeR_cut k12, Bool.and_eq_true, decide_eq_true_eq, decide_eq_true_eq] at hn
      exact .inr ⟨.inl ⟨k12, hn.1⟩, hn.2, hs⟩
    · by_cases k3 : t.kind = 3
      · rw [nodeR_three k3, Bool.and_eq_true, Bool.and_eq_true, Bool.and_eq_true, decide_eq_true_eq, decide_eq_true_eq] at hn
        exact .inr ⟨.inr ⟨k3, hn.1, (chkB_iff _).1 hn.2.2.1, hn.2.1, hn.2.2.2⟩, by omega, hs⟩
      · rw [nodeR_no ⟨by omega, by omega, k3⟩] at hn
        cases hn
theorem part_canon {f : IT → Bool} {kind : Int} {u : IT} (h : partR f kind u = true) : f u = true := by
  unfold partR at h
  rw [Bool.and_eq_true] at h
  exact h.2

theorem map_getD {f : IT → List Nat} {ts : List IT} {i : Nat} (h : i < ts.length) : (ts.map f).getD i [] = f ts[i] := by
  simp [List.getD_eq_getElem?_getD, h]
theorem lenN_sum (f : IT → List Nat) (g : IT → Nat) (ts : List IT) (h : ∀ i (hi : i < ts.length), (f ts[i]).length = g ts[i]) : ∀ k, k ≤ ts.length → lenN (ts.map f) k = sumF g (ts.take k)
  | 0, _ => rfl
  | k + 1, hk => by
    rw [sumF_step g (by omega)]
    unfold lenN
    rw [lenN_sum f g ts h k (by omega), map_getD (by omega), h k (by omega)]

theorem fillR_ok : ∀ (d : Nat) (t : IT), canonB d t = true → (fillR d t).length = leafN d t ∧ 1 ≤ (fillR d t).length ∧ ∀ x ∈ fillR d t, x < (fillR d t).length
  | 0, _, h => by cases h
  | d + 1, t, h => by
    rcases canon_inv h with ⟨_, _, h0⟩ | ⟨_, h2, hs⟩
    · rw [fillR_leaf h0]
      refine ⟨?_, Nat.le_refl _, fun x hx => ?_⟩
      · have e : t.parts = [] := List.length_eq_zero_iff.1 h0
        show 1 = (if t.parts.length = 0 then 1 else 0) + sumF (leafN d) t.parts
        rw [if_pos h0, e]
        rfl
      · simp at hx; subst hx; exact Nat.one_pos
    · have ih : ∀ i (hi : i < t.parts.length), _ := fun i hi => fillR_ok d t.parts[i] (part_canon (hs i hi))
      have hl := lenN_sum (fillR d) (leafN d) t.parts (fun i hi => (ih i hi).1) t.parts.length (Nat.le_refl _)
      rw [List.take_length] at hl
      have hlen : (infl (orderOf t) (t.parts.map (fillR d)) t.parts.length).length = lenN (t.parts.map (fillR d)) t.parts.length := infl_length _ _ _
      have hm : (t.parts.map (fillR d)).length = t.parts.length := List.length_map _
      rw [fillR_node (by omega)]
      refine ⟨?_, ?_, fun x hx => ?_⟩
      · rw [hlen, hl]
        show _ = (if t.parts.length = 0 then 1 else 0) + sumF (leafN d) t.parts
        rw [if_neg (by omega), Nat.zero_add]
      · rw [hlen]
        have h1 := (ih 0 (by omega)).2.1
        have h3 := lenN_le (t.parts.map (fillR d)) (show 0 + 1 ≤ t.parts.length by omega)
        have h4 : lenN (t.parts.map (fillR d)) (0 + 1) = lenN (t.parts.map (fillR d)) 0 + ((t.parts.map (fillR d)).getD 0 []).length := rfl
        rw [map_getD (by omega)] at h4
        omega
      · rw [hlen, ← hm]
        refine infl_lt (fun i hi => ?_) (fun i hi => belN_self _ _ i _ hi) t.parts.length (by omega) x hx
        rw [hm] at hi
        rw [map_getD hi]
        exact (ih i hi).2.2

/-- The order of the parts, two by two. -/
theorem order_lt {t : IT} (_hk : (t.kind = 1 ∨ t.kind = 2) ∨ t.kind = 3) {i j : Nat} (hi : i < t.parts.length) (hj : j < t.parts.length) :
    (t.kind = 1 → ((orderOf t).getD j 0 < (orderOf t).getD i 0 ↔ j < i)) ∧ (t.kind = 2 → ((orderOf t).getD j 0 < (orderOf t).getD i 0 ↔ i < j)) ∧ (t.kind = 3 → orderOf t = natsOf t.perm) := by
  refine ⟨fun h => ?_, fun h => ?_, fun h => if_pos h⟩
  · have e : orderOf t = List.range t.parts.length := by unfold orderOf; rw [if_neg (by omega), if_neg (by omega)]
    rw [e, range_get hi, range_get hj]
  · have e : orderOf t = (List.range t.parts.length).reverse := by unfold orderOf; rw [if_neg (by omega), if_pos h]
    rw [e, egnar_get hi, egnar_get hj]
    omega

set_option maxRecDepth 100000 in
set_option maxHeartbeats 8000000 in
theorem rfill_any : ∀ (d : Nat) (t : IT) (pa : Option Addr) (pn pc : Nat) (A : Option Addr) (n c lo hi : Nat) (w : World), ITIn w lo hi d t (.slice pa pn pc) (.slice A n c) → hi ≤ w.heap.size → nodeN d t ≤ 1000 → canonB d t = true →
    Calls Try.prog 91 #[.agg #[.int .i64 t.kind, .slice pa pn pc, .slice A n c]] w (RetRowV (fillR d t) w)
  | 0, _, _, _, _, _, _, _, _, _, _, h, _, _, _ => h.elim
  | d + 1, t, pa, pn, pc, A, n, c, lo, hi, w, h, hhi, hnodes, hcan => by
    have ih := rfill_any d
    have hple := parts_le h
    have hln := leaf_le_node (d + 1) t
    have hokt := fillR_ok (d + 1) t hcan
    obtain ⟨hp, A', c', e1, hparts⟩ := h
    injection e1 with e1 e2 e3
    subst e1 e2 e3
    obtain ⟨hpn, hpz, hpc, hpc9⟩ := hp.zl hhi
    subst hpn
    have hbel0 := below_new' w (.cells #[.int .i64 t.kind, .slice pa t.perm.length pc, .slice A t.parts.length c] 64)
    have hbox := Blk.new w 64 #[.int .i64 t.kind, .slice pa t.perm.length pc, .slice A t.parts.length c]
    have hsz0 := size_new' w (.cells #[.int .i64 t.kind, .slice pa t.perm.length pc, .slice A t.parts.length c] 64)
    obtain ⟨r0, r1, r2, -, -, -⟩ := blk_three hbox
    obtain ⟨i0, hinf, hz0, hz1, hz2⟩ := info_parts info_row
    obtain ⟨i1, hinf1, hy0, hy1, hy2⟩ := info_parts info_int'
    rcases canon_inv hcan with ⟨-, -, hq0⟩ | ⟨hkind, hq2, hsub⟩
    · have e : Hid (fillR (d + 1) t = [0]) := fillR_leaf hq0
      have d1 : ((t.parts.length : Int) == 0) = true := by rw [beq_iff_eq]; omega
      have hlit := own_lit (w.alloc (.cells #[.int .i64 t.kind, .slice pa t.perm.length pc, .slice A t.parts.length c] 64)) 3 [.int .i64 0] (by unfold maxLen; decide)
      have Hlit := Lib.hid (own_base hlit hbel0.size)
      have Hbel1 := Lib.hid (hbel0.alloc hbel0.size (.cells #[.int .i64 0] 3))
      clear hq0 hbel0 hbox ih hparts hp hpz hlit
      go_enter Try.func91, Try.ntmps91
      go_wp2_with fail
      go_ret
      exact ⟨_, rfl, by rw [e.out]; rw [hsz0] at Hlit; exact Hlit.out, Hbel1.out⟩
    · have Hih := Lib.hid ih
      obtain ⟨LS, hLS⟩ : ∃ LS, LS = t.parts.map (fillR d) := ⟨_, rfl⟩
      have hLl : LS.length = t.parts.length := by rw [hLS, List.length_map]
      have Hround : Hid (∀ k, k < t.parts.length → ∃ (u : IT) (g off : Nat) (pv' sv' : Value), LS.getD k [] = fillR d u ∧ canonB d u = true ∧ nodeN d u ≤ 1000 ∧ (1 ≤ (fillR d u).length ∧ (fillR d u).length ≤ 1000) ∧ A = some ⟨g, off, none⟩ ∧ lo ≤ g ∧ g < hi ∧
          w.cell? ⟨g, off + k * 3, none⟩ = some (.int .i64 u.kind) ∧ w.cell? ⟨g, off + k * 3 + 1, none⟩ = some pv' ∧ w.cell? ⟨g, off + k * 3 + 2, none⟩ = some sv' ∧ ITIn w lo hi d u pv' sv') := fun k hk => by
        have hn := node_part (d := d) (t := t) hk
        obtain ⟨g, off, eA, hg1, hg2, hrow⟩ := hparts (by omega)
        obtain ⟨pv', sv', k1, k2, k3, k4⟩ := hrow k hk
        have hc := part_canon (hsub k hk)
        exact ⟨t.parts[k], g, off, pv', sv', by rw [hLS]; exact map_getD hk, hc, by omega, ⟨(fillR_ok d _ hc).2.1, by rw [(fillR_ok d _ hc).1]; have := leaf_le_node d t.parts[k]; omega⟩, eA, hg1, hg2, k1, k2, k3, k4⟩
      have hfin : fillR (d + 1) t = infl (orderOf t) LS t.parts.length := by rw [hLS]; exact fillR_node (by omega)
      have hT : lenN LS LS.length ≤ 1000 := by
        have h1 := infl_length (orderOf t) LS t.parts.length
        rw [← hfin, hokt.1] at h1
        rw [hLl, ← h1]; omega
      have hv : ∀ i, i < LS.length → ∀ x ∈ LS.getD i [], x ≤ 1000 := fun i hi x hx => by
        rw [hLS, List.length_map] at hi
        rw [hLS, map_getD hi] at hx
        have h1 := (fillR_ok d _ (part_canon (hsub i hi))).2.2 x hx
        have h2 := (fillR_ok d _ (part_canon (hsub i hi))).1
        have h3 := leaf_le_node d t.parts[i]
        have h4 := node_part (d := d) (t := t) hi
        omega
      have hord : ∀ i j, i < t.parts.length → j < t.parts.length → _ := fun i j hi hj => order_lt (t := t) (by rcases hkind with h | h; exact .inl h.1; exact .inr h.1) hi hj
      have hS3 : t.kind = 3 → Sl .i64 w pa t.parts.length (orderOf t) := fun k3 => by
        rcases hkind with h | h
        · omega
        · rw [show orderOf t = natsOf t.perm from if_pos k3]
          have := chk_sl hpz h.2.2.1
          rwa [h.2.2.2.1] at this
      have hperm3 : t.kind = 3 → t.perm.length = t.parts.length := fun k3 => by
        rcases hkind with h | h
        · omega
        · exact h.2.2.2.1
      have hk123 : t.kind = 1 ∨ t.kind = 2 ∨ t.kind = 3 := by
        rcases hkind with h | h
        · omega
        · omega
      have Hfin := Lib.hid hfin
      have HT := Lib.hid hT
      have Hv := Lib.hid hv
      have Hord : Hid (∀ i j, i < t.parts.length → j < t.parts.length → (t.kind = 1 → ((orderOf t).getD j 0 < (orderOf t).getD i 0 ↔ j < i)) ∧ (t.kind = 2 → ((orderOf t).getD j 0 < (orderOf t).getD i 0 ↔ i < j))) := fun i j hi hj => ⟨(hord i j hi hj).1, (hord i j hi hj).2.1⟩
      have HS3 := Lib.hid hS3
      have Hp3 := Lib.hid hperm3
      have HK := Lib.hid hk123
      have HLl := Lib.hid hLl
      have hqN : t.parts.length ≤ 1000 := by omega
      have d1 : ((t.parts.length : Int) == 0) = false := by rw [beq_eq_false_iff_ne]; omega
      clear ih hparts hp hpz hLS hsub hfin hT hv hord hS3 hperm3 hk123 hkind hcan hokt hln hnodes hple hLl
      generalize fillR (d + 1) t = R at *
      generalize orderOf t = ord at *
      generalize t.kind = K at *
      generalize t.perm.length = pl at *
      generalize t.parts.length = ql at *
      obtain ⟨X0, hX0⟩ : ∃ X0, X0 = w.alloc (.cells #[.int .i64 K, .slice pa pl pc, .slice A ql c] 64) := ⟨_, rfl⟩
      rw [← hX0] at hbel0 hbox hsz0 r0 r1 r2
      go_enter Try.func91, Try.ntmps91
      go_upto_region 1 with fail
      rw [← hX0]
      clear hX0 hsz0
      go_wp2_with fail
      clear r0 r1 r2
      go_loopw [3, 4] (fun v kv wr => ∃ (k : Nat) (xs : List Value), k ≤ ql ∧ kv = .int .i64 k ∧ wr.ownsRow X0.heap.size 22 1 v k xs ∧ BlocksAt X0.heap.size v (LS.take k) xs wr ∧ Below X0.heap.size X0 wr) (fun _ kv _ => ql - (intOf kv).toNat)
      case atStart => exact ⟨0, [], Nat.zero_le _, rfl, ⟨rfl, .inl ⟨rfl, rfl⟩⟩, BlocksAt.nil _ _ _, Below.refl _ _⟩
      case round =>
        obtain ⟨k, xs, hk, rfl, hown, hblks, hbel⟩ := hrel
        have hbxr : Blk _ w.heap.size 64 #[.int .i64 K, .slice pa pl pc, .slice A ql c] := hbox.below hbel hbox.lt
        obtain ⟨r0, r1, r2, -, -, -⟩ := blk_three hbxr
        have Hown := Lib.hid hown
        have Hblks := Lib.hid hblks
        have Hbel := Lib.hid hbel
        have hbelw := hbel0.trans (hbel.mono hbel0.size)
        clear hown hblks hbel
        by_cases hlt : k < ql
        · have hki : (k : Int) < (ql : Int) := by omega
          obtain ⟨u, g, off, pv', sv', eL, hcu, hnd, hpos, rfl, hg1, hg2, k1, k2, k3, k4⟩ := Hround.out k hlt
          have hgw : g < w.heap.size := by omega
          have k1' := (hbelw.cell (p := ⟨g, off + k * 3, none⟩) hgw).trans k1
          have k2' := (hbelw.cell (p := ⟨g, off + k * 3 + 1, none⟩) hgw).trans k2
          have k3' := (hbelw.cell (p := ⟨g, off + k * 3 + 2, none⟩) hgw).trans k3
          have Hts := Lib.hid (show LS.take (k + 1) = LS.take k ++ [fillR d u] by
            rw [← eL, List.take_succ_eq_append_getElem (by rw [HLl.out]; exact hlt), List.getD_eq_getElem?_getD, List.getElem?_eq_getElem (by rw [HLl.out]; exact hlt)]; rfl)
          obtain ⟨qa, qn, qc, B, m, cc, rfl, rfl⟩ := k4.slices
          have Hcall := Lib.hid (Hih.out u qa qn qc B m cc lo hi wr (ITIn.keep (fun g k1 k2 => hbelw.block g (by omega)) d _ _ _ k4) (by have := hbelw.size; omega) hnd hcu)
          have Hpos := Lib.hid hpos
          have hkl : (LS.take k).length = k := by rw [List.length_take, HLl.out]; omega
          clear k1 k2 k3 k4 eL hcu hnd hpos Hih Hround hbelw
          generalize fillR d u = l at *
          generalize u.kind = U at *
          generalize LS.take k = lsk at *
          have hsX : X0.heap.size ≤ wr.heap.size := Hbel.out.size
          go_wp2_with (first
            | (go_at_call 91; refine Hcall.out.mono ?_; rintro e w2 ⟨v2, rfl, hown2, hb2⟩; obtain ⟨g2, cp2, rfl⟩ := own_pos hown2 Hpos.out.1; have hk2 := own_keep Hown.out hb2; have hs2 := hb2.size)
            | (at_builtin; refine wpList_append_lies _ rfl _ _ 118 rfl X0.heap.size 22 i0 (.slice none 0 0) 1 24 Try.underlying118 hinf hz0 hz1 hz2 rfl (by decide) _ k xs rfl (hk2.alloc _) ⟨w2.heap.size, 0, none⟩ 1 1 [.slice (some ⟨g2, 0, none⟩) l.length cp2] rfl rfl ?c1 ?c2 ?c3 ?c4 ?c5 ?c6 (w2.heap.size + 1) (size_new'' _ _) ?_))
          case c1 => exact cell_one_new _ _ _
          case c2 => exact one_cell _ rfl
          case c3 => exact Nat.one_pos
          case c4 => unfold maxLen; omega
          case c5 => omega
          case c6 => simp; omega
          intro gg cg w3 hown3 hgrow hat hlt3
          have hl2 := own_sl hown2 (by have := Hpos.out.2; omega)
          have hbn := Hblks.out.next (gc := w.heap.size) (k := k) (cg := cg) (c2 := cp2) hbox.lt (fun g hg => (Hown.out.lt g hg).2) (But.of_below hb2) (own_lt hown2).2 Hpos.out.1 hsX hl2 hgrow hat
          have hb3 := own_below hk2 (Nat.le_trans hsX hs2) hgrow
          have hbf := (Hbel.out.trans (hb2.mono hsX)).trans hb3
          rw [← Hts.out] at hbn
          have Hbn := Lib.hid hbn
          have Hown3 := Lib.hid hown3
          have Hbf := Lib.hid hbf
          clear hown2 hk2 hl2 hbn hb3 hbf hown3 hgrow hat hb2
          go_wp2_with fail
          go_roundw
          case rel => exact ⟨k + 1, _, by omega, by go_num, Hown3.out, Hbn.out, Hbf.out⟩
          case measure => simp [intOf]; omega
        · obtain rfl : k = ql := by omega
          obtain ⟨gv, cv, rfl⟩ := own_pos Hown.out (by omega)
          go_wp2_with fail
          have hgv := own_lt Hown.out
          have Htk : LS.take k = LS := List.take_of_length_le (by rw [HLl.out]; exact Nat.le_refl _)
          have hblk' := Hblks.out
          rw [Htk] at hblk'
          have HRow := Lib.hid (fun (W : World) (hW : Below wr.heap.size wr W) => hblk'.rows HLl.out Hown.out hW rfl)
          have Hbox := Lib.hid (fun (W : World) (hW : Below wr.heap.size wr W) => blk_three (hbxr.below hW hbxr.lt))
          have HP3 : Hid (∀ W, Below wr.heap.size wr W → K = 3 → Sl .i64 W pa k ord) := fun W hW k3 => (HS3.out k3).below (hbelw.trans (hW.mono hbelw.size))
          have HbW := Lib.hid hbelw
          have hgvl := hgv.1
          clear hblk' Htk Hblks Hown Hbel hbelw Hih Hround HS3 hbxr hgv r0 r1 r2
          obtain ⟨X1, rfl⟩ : ∃ X1 : World, X1 = wr := ⟨_, rfl⟩
          go_loopw [5, 6] (fun v iv wr => ∃ i : Nat, i ≤ k ∧ iv = .int .i64 i ∧ wr.ownsRow X1.heap.size 3 1 v (lenN LS i) (nums .i64 (infl ord LS i)) ∧ Below X1.heap.size X1 wr) (fun _ iv _ => k - (intOf iv).toNat)
          case atStart => exact ⟨0, Nat.zero_le _, rfl, ⟨by simp [nums, infl, lenN], .inl ⟨rfl, rfl⟩⟩, Below.refl _ _⟩
          case round =>
            obtain ⟨i, hi, rfl, hown, hbel⟩ := hrel
            have Hown := Lib.hid hown
            have HB := Lib.hid hbel
            clear hown
            by_cases hlt : i < k
            · obtain ⟨Ak, ck, rk, Sk⟩ := HRow.out _ hbel i (by rw [HLl.out]; exact hlt)
              obtain ⟨Ak', ck', rk0, Sk0⟩ := HRow.out _ (Below.refl _ _) i (by rw [HLl.out]; exact hlt)
              have hrr := (hbel.cell (p := ⟨gv, i, none⟩) hgvl).trans rk0
              rw [rk] at hrr
              injection hrr with hrr
              injection hrr with e1 _ e3
              subst e1 e3
              have HSk := Lib.hid Sk0
              have Hgk : Hid (X1.heap.size ≤ X1.heap.size) := Nat.le_refl _
              have Hbelk := Lib.hid (fun W (hW : Below X1.heap.size X1 W) => (hW.cell (p := ⟨gv, i, none⟩) hgvl).trans rk0)
              have hLk := lenN_le LS (show i + 1 ≤ k by omega)
              have hbk := belN_le ord LS i k
              have Hbnd := Lib.hid (show lenN LS i + (LS.getD i []).length ≤ 1000 ∧ belN ord LS i k ≤ 1000 from by
                have h1 := HT.out
                rw [HLl.out] at h1
                have e : lenN LS (i + 1) = lenN LS i + (LS.getD i []).length := rfl
                omega)
              have Hvk := Lib.hid (Hv.out i (by rw [HLl.out]; exact hlt))
              have Hnext := Lib.hid (show infl ord LS (i + 1) = infl ord LS i ++ (LS.getD i []).map (fun x => belN ord LS i LS.length + x) from rfl)
              rw [HLl.out] at Hnext
              have Hlen := Lib.hid (show lenN LS (i + 1) = lenN LS i + (LS.getD i []).length from rfl)
              clear Sk hLk hbk
              generalize LS.getD i [] = lk at *
              go_wp2_with fail
              obtain ⟨wo, rfl⟩ : ∃ wo : World, wo = wr := ⟨_, rfl⟩
              obtain ⟨q0, q1, q2, -, -, -⟩ := Hbox.out _ hbel
              clear hbel
              go_loopw [7, 8] (fun b jv wr => ∃ j : Nat, j ≤ k ∧ jv = .int .i64 j ∧ b = .int .i64 (belN ord LS i j : Nat) ∧ Drew wo wr) (fun _ jv _ => k - (intOf jv).toNat)
              case atStart => exact ⟨0, Nat.zero_le _, rfl, rfl, Drew.refl _⟩
              case round =>
                obtain ⟨j, hj, rfl, rfl, q, rfl⟩ := hrel
                by_cases hjl : j < k
                · obtain ⟨Aj, cj, rj, -⟩ := HRow.out wo HB.out j (by rw [HLl.out]; exact hjl)
                  have hjk : (j : Int) < (k : Int) := by omega
                  have hle := belN_le ord LS i j
                  have hlj := lenN_le LS (show j + 1 ≤ k by omega)
                  have elj : lenN LS (j + 1) = lenN LS j + (LS.getD j []).length := rfl
                  have hbd : belN ord LS i j + (LS.getD j []).length ≤ 1000 := by have h1 := HT.out; rw [HLl.out] at h1; omega
                  have Hs := Lib.hid (show belN ord LS i (j + 1) = belN ord LS i j + if ord.getD j 0 < ord.getD i 0 then (LS.getD j []).length else 0 from rfl)
                  have Hij := Lib.hid (Hord.out i j hlt hjl)
                  have HPc : Hid (K = 3 → ∃ b off, pa = some ⟨b, off, none⟩ ∧ wo.cell? ⟨b, off + i, none⟩ = some (.int .i64 (ord.getD i 0 : Nat)) ∧ wo.cell? ⟨b, off + j, none⟩ = some (.int .i64 (ord.getD j 0 : Nat))) := fun k3 => by
                    obtain ⟨b, off, e, _, hc⟩ := (HP3.out wo HB.out k3).at (by omega)
                    exact ⟨b, off, e, hc i hlt, hc j hjl⟩
                  clear hle hlj elj
                  generalize belN ord LS i j = bj at *
                  generalize (LS.getD j []).length = lj at *
                  generalize ord.getD j 0 = x at *
                  generalize ord.getD i 0 = y at *
                  obtain ⟨b, hb⟩ : ∃ b, b = decide (x < y) := ⟨_, rfl⟩
                  have Hbd := Lib.hid hb
                  clear hb
                  go_upto_if 49 with fail
                  refine wp_in_block ?_
                  go_cut [9, 49] (fun s9 _ wx => s9 = .bool b ∧ Drew wo wx)
                  case first =>
                    rcases HK.out with k1 | k2 | k3
                    · have c2 : (K == 2) = false := by rw [beq_eq_false_iff_ne]; omega
                      have c3 : (K == 3) = false := by rw [beq_eq_false_iff_ne]; omega
                      have e := Lib.hid (show decide (j < i) = b by rw [Hbd.out]; have := Hij.out.1 k1; by_cases h : j < i <;> simp [h, this])
                      clear k1
                      as_aux_lemma =>
                        go_wp2_with fail
                        go_meet
                        exact ⟨by rw [← e.out], ⟨_, rfl⟩⟩
                    · have c2 : (K == 2) = true := by rw [beq_iff_eq]; omega
                      have e := Lib.hid (show decide (i < j) = b by rw [Hbd.out]; have := Hij.out.2 k2; by_cases h : i < j <;> simp [h, this])
                      clear k2
                      as_aux_lemma =>
                        go_wp2_with fail
                        go_meet
                        exact ⟨by rw [← e.out], ⟨_, rfl⟩⟩
                    · have c2 : (K == 2) = false := by rw [beq_eq_false_iff_ne]; omega
                      have c3 : (K == 3) = true := by rw [beq_iff_eq]; omega
                      obtain ⟨b0, off, rfl, ci, cj⟩ := HPc.out k3
                      have hpl := Hp3.out k3
                      subst hpl
                      clear k3
                      by_cases hxy : x < y
                      · have e := Lib.hid (show true = b by rw [Hbd.out, decide_eq_true hxy])
                        have hxi : (x : Int) < (y : Int) := by omega
                        as_aux_lemma =>
                          go_wp2_with fail
                          go_quiet (fail)
                          go_wp2_with fail
                          go_meet
                          exact ⟨by rw [← e.out], Drew.drewN ⟨_, rfl⟩ _⟩
                      · have e := Lib.hid (show false = b by rw [Hbd.out, decide_eq_false hxy])
                        have hxi : ¬ (x : Int) < (y : Int) := by omega
                        as_aux_lemma =>
                          go_wp2_with fail
                          go_quiet (fail)
                          go_wp2_with fail
                          go_meet
                          exact ⟨by rw [← e.out], Drew.drewN ⟨_, rfl⟩ _⟩
                  case rest =>
                    obtain ⟨rfl, q', rfl⟩ := hcut
                    clear q0 q1 q2
                    cases b with
                    | true =>
                      have hy : belN ord LS i (j + 1) = bj + lj := by rw [Hs.out, if_pos (of_decide_eq_true Hbd.out.symm)]
                      have Hy := Lib.hid hy
                      clear hy
                      go_wp2_with fail
                      go_roundw
                      case rel => exact ⟨j + 1, by omega, by go_num, by rw [Hy.out]; go_num, ⟨_, rfl⟩⟩
                      case measure => simp [intOf]; omega
                    | false =>
                      have hy : belN ord LS i (j + 1) = bj := by rw [Hs.out, if_neg (of_decide_eq_false Hbd.out.symm), Nat.add_zero]
                      have Hy := Lib.hid hy
                      clear hy
                      go_wp2_with fail
                      go_roundw
                      case rel => exact ⟨j + 1, by omega, by go_num, by rw [Hy.out], ⟨_, rfl⟩⟩
                      case measure => simp [intOf]; omega
                · obtain rfl : j = k := by omega
                  have hownX : (wo.drewN q).ownsRow X1.heap.size 3 1 _ (lenN LS i) (nums .i64 (infl ord LS i)) := Hown.out
                  have hbelX := below_drewN HB.out q
                  have rkX := rk
                  have HownX := Lib.hid hownX
                  have HBX := Lib.hid hbelX
                  clear hownX hbelX Hown rk HB q0 q1 q2
                  generalize wo.drewN q = X at *
                  generalize belN ord LS i j = bk at *
                  generalize lenN LS i = L at *
                  generalize infl ord LS i = pre at *
                  go_wp2_with fail
                  go_loopw [5, 10] (fun v mv wr => ∃ m : Nat, m ≤ lk.length ∧ mv = .int .i64 m ∧ wr.ownsRow X1.heap.size 3 1 v (L + m) (nums .i64 (pre ++ (lk.map (fun x => bk + x)).take m)) ∧ Below X1.heap.size X1 wr) (fun _ mv _ => lk.length - (intOf mv).toNat)
                  case atStart => exact ⟨0, Nat.zero_le _, rfl, by simpa using HownX.out, HBX.out⟩
                  case round =>
                    obtain ⟨m, hm, rfl, hown2, hbel2⟩ := hrel
                    have HB2 := Lib.hid hbel2
                    have rkm := (Hbelk.out _ HB2.out)
                    have hsz : X1.heap.size ≤ wr.heap.size := hbel2.size
                    by_cases hml : m < lk.length
                    · have hmi : (m : Int) < (lk.length : Int) := by omega
                      obtain ⟨b, off, rfl, hs2, hc2⟩ := (HSk.out.below (hbel2.mono Hgk.out)).at (by omega)
                      have cm := hc2 m hml
                      have hx1 := Hvk.out (lk.getD m 0) (by rw [List.getD_eq_getElem?_getD, List.getElem?_eq_getElem hml]; exact List.getElem_mem hml)
                      have Hadd := Lib.hid (show nums .i64 (pre ++ (lk.map (fun x => bk + x)).take m) ++ [.int .i64 ((bk + lk.getD m 0 : Nat) : Int)] = nums .i64 (pre ++ (lk.map (fun x => bk + x)).take (m + 1)) by
                        rw [nums_snoc, map_take_snoc bk lk m hml, List.append_assoc])
                      have hb1000 := Hbnd.out
                      clear hc2 hbel2
                      generalize lk.getD m 0 = x at *
                      have hcast : (((bk + x : Nat) : Int)) = (bk : Int) + (x : Int) := by omega
                      rw [hcast] at Hadd
                      have Hown2 := Lib.hid hown2
                      clear hown2
                      go_wp2_with (at_builtin; refine wpList_append_own _ rfl _ _ 22 rfl X1.heap.size 3 i1 (.int .i64 0) 1 8 Try.underlying22 hinf1 hy0 hy1 hy2 rfl (by decide) _ _ _ rfl (Hown2.out.alloc _) ⟨wr.heap.size, 0, none⟩ 1 1 [.int .i64 ((bk : Int) + (x : Int))] rfl rfl ?c1 ?c2 ?c3 ?c4 ?c5 ?_)
                      case c1 => exact cell_one_new _ _ _
                      case c2 => exact one_cell _ rfl
                      case c3 => unfold maxLen; omega
                      case c4 => omega
                      case c5 => simp; omega
                      intro v' w1 hown' hgrow _
                      have hb' := HB2.out.trans (own_below Hown2.out hsz hgrow)
                      rw [Hadd.out] at hown'
                      go_wp2_with fail
                      go_roundw
                      case rel => exact ⟨m + 1, by omega, by go_num, hown', hb'⟩
                      case measure => simp [intOf]; omega
                    · obtain rfl : m = lk.length := by omega
                      rw [List.take_of_length_le (by rw [List.length_map]; exact Nat.le_refl _), ← Hnext.out, ← Hlen.out] at hown2
                      have Hown2 := Lib.hid hown2
                      clear hown2 hbel2
                      go_wp2_with fail
                      go_roundw
                      case rel => exact ⟨i + 1, by omega, by go_num, Hown2.out, HB2.out⟩
                      case measure => simp [intOf]; omega
            · obtain rfl : i = k := by omega
              go_wp2_with fail
              go_ret
              exact ⟨_, rfl, by rw [Hfin.out, infl_length]; exact own_base Hown.out HbW.out.size, HbW.out.trans (HB.out.mono HbW.out.size)⟩

end Go.Proofs.Ytgdaidmkcgblbaa

namespace Go.Proofs.Ytgdaidmkcgblbaa
open Go.RowKit

/-- What the reference's Fill returns. -/
def RetRFil (d : Nat) (t : IT) (w : World) (e : Ending) (w' : World) : Prop := Below w.heap.size w w' ∧
  ((¬ (leafN d t ≤ 60 ∧ canonB d t = true) ∧ e = .returned (.tuple #[.slice none 0 0, .bool false])) ∨
    ((leafN d t ≤ 60 ∧ canonB d t = true) ∧ ∃ v, e = .returned (.tuple #[v, .bool true]) ∧ w'.ownsRow w.heap.size 3 1 v (fillR d t).length (nums .i64 (fillR d t))))

set_option maxRecDepth 100000 in
set_option maxHeartbeats 2000000 in
theorem rfillAll_any (d : Nat) (t : IT) (pa : Option Addr) (pn pc : Nat) (A : Option Addr) (n c lo hi : Nat) (w : World) (h : ITIn w lo hi d t (.slice pa pn pc) (.slice A n c)) (hhi : hi ≤ w.heap.size) (hn : nodeN d t ≤ 1000) (hlev : levN d t ≤ 100) :
    Calls Try.prog 56 #[.agg #[.int .i64 t.kind, .slice pa pn pc, .slice A n c]] w (RetRFil d t w) := by
  have hbel0 := below_new' w (.cells #[.int .i64 t.kind, .slice pa pn pc, .slice A n c] 64)
  have hbox := Blk.new w 64 #[.int .i64 t.kind, .slice pa pn pc, .slice A n c]
  have hITk : ∀ W, Below w.heap.size w W → ITIn W lo hi d t (.slice pa pn pc) (.slice A n c) := fun W hW => ITIn.keep (fun g k1 k2 => hW.block g (by omega)) _ _ _ _ h
  have Hsize := Lib.hid (fun W (hW : Below w.heap.size w W) => rsize_any d t pa pn pc A n c lo hi 1 W (hITk W hW) (Nat.le_trans hhi hW.size) hn (by omega))
  have Hcan := Lib.hid (fun W (hW : Below w.heap.size w W) => rcanon_any d t pa pn pc A n c lo hi W (hITk W hW) (Nat.le_trans hhi hW.size) hn)
  have Hfil := Lib.hid (fun W (hW : Below w.heap.size w W) hc => rfill_any d t pa pn pc A n c lo hi W (hITk W hW) (Nat.le_trans hhi hW.size) hn hc)
  unfold RetRFil
  unfold RetRowV at Hfil
  have hln := leaf_le_node d t
  obtain ⟨r0, r1, r2, -, -, -⟩ := blk_three hbox
  have Hbox := Lib.hid hbox
  have Hb0 := Lib.hid hbel0
  clear hbox hbel0 hITk h
  generalize fillR d t = l at *
  generalize canonB d t = cb at *
  generalize nodeN d t = nn at *
  generalize levN d t = lv at *
  generalize leafN d t = lf at *
  generalize t.kind = K at *
  have n1 : ¬ (1000 : Int) < (nn : Int) := by omega
  have n2 : ¬ (100 : Int) < (lv : Int) := by omega
  by_cases hlf : lf ≤ 60
  · have n3 : ¬ (60 : Int) < (lf : Int) := by omega
    have Hlf := Lib.hid hlf
    clear hlf
    cases cb with
    | true =>
      go_enter Try.func56, Try.ntmps56
      go_wp2_with (first
        | (go_at_call 89; refine (Hsize.out _ Hb0.out).mono ?_; clear Hsize; rintro e w1 ⟨rfl, hb1⟩; have Hb1 := Lib.hid (Hb0.out.trans (hb1.mono Hb0.out.size)); have Hbx1 := Lib.hid (Hbox.out.below hb1 Hbox.out.lt); obtain ⟨q0, q1, q2, -, -, -⟩ := blk_three Hbx1.out; clear hb1)
        | (go_at_call 90; refine (Hcan.out _ Hb1.out).mono ?_; clear Hcan; rintro e w2 ⟨rfl, hb2⟩; have Hb2 := Lib.hid (Hb1.out.trans (hb2.mono Hb1.out.size)); obtain ⟨s0, s1, s2, -, -, -⟩ := blk_three (Hbx1.out.below hb2 Hbx1.out.lt); clear hb2)
        | (go_at_call 91; refine (Hfil.out _ Hb2.out trivial).mono ?_; clear Hfil; rintro e w3 ⟨v, rfl, hown, hb3⟩; have Hb3 := Lib.hid (Hb2.out.trans (hb3.mono Hb2.out.size)); have Hown := Lib.hid (own_base hown Hb2.out.size); clear hown hb3))
      go_ret2
      exact ⟨Hb3.out, .inr ⟨⟨Hlf.out, trivial⟩, _, rfl, Hown.out⟩⟩
    | false =>
      go_enter Try.func56, Try.ntmps56
      go_wp2_with (first
        | (go_at_call 89; refine (Hsize.out _ Hb0.out).mono ?_; clear Hsize; rintro e w1 ⟨rfl, hb1⟩; have Hb1 := Lib.hid (Hb0.out.trans (hb1.mono Hb0.out.size)); have Hbx1 := Lib.hid (Hbox.out.below hb1 Hbox.out.lt); obtain ⟨q0, q1, q2, -, -, -⟩ := blk_three Hbx1.out; clear hb1)
        | (go_at_call 90; refine (Hcan.out _ Hb1.out).mono ?_; clear Hcan; rintro e w2 ⟨rfl, hb2⟩; have Hb2 := Lib.hid (Hb1.out.trans (hb2.mono Hb1.out.size)); clear hb2))
      go_ret2
      exact ⟨Hb2.out, .inl ⟨(fun h => by cases h.2), rfl⟩⟩
  · have n3 : (60 : Int) < (lf : Int) := by omega
    have Hlf := Lib.hid hlf
    clear hlf Hcan Hfil
    go_enter Try.func56, Try.ntmps56
    go_wp2_with (go_at_call 89; refine (Hsize.out _ Hb0.out).mono ?_; clear Hsize; rintro e w1 ⟨rfl, hb1⟩; have Hb1 := Lib.hid (Hb0.out.trans (hb1.mono Hb0.out.size)); clear hb1)
    go_ret2
    exact ⟨Hb1.out, .inl ⟨fun h => Hlf.out h.1, rfl⟩⟩

end Go.Proofs.Ytgdaidmkcgblbaa
