/-
  The walks of leastOf and of the exported Least and Dual: the reduced list of sets, and the dual of a list.
-/
import Derived.Test.YtolppbilcmobbaaHangM
import Derived.Test.YtolppbilcmobbaaList
namespace Go.Proofs.Ytolppbilcmobbaa
open Go.RowKit Go.Shelf

set_option maxRecDepth 100000 in
theorem ne_nails (S T : Nat → Bool) (w : World) : (binOp .neq 73 (.agg (nailC S)) (.agg (nailC T))).run Try.prog w = .ok (.bool (!eqN S T)) w := by
  have h := eq_nails S T w
  rw [run_eql_struct] at h
  rw [run_neq_struct]
  revert h
  generalize (Op.equalIn 10000 73 (.agg (nailC S)) (.agg (nailC T))).run Try.prog w = r
  intro h
  cases r <;> simp [Result.andThen] at h ⊢
  obtain ⟨h1, h2⟩ := h
  exact ⟨by rw [h1], h2⟩

theorem wpList_load_row_g {P : Program} {ops : Array Oper} {rest : List Oper} {o : Oper} {a : Act} {w : World} {Q : Exit → Act → World → Prop} (hw : Region.wanted o (yielded ops a.tmps) = true) (ty : TypeId) (x : Operand) (ho : o.op = .load ty x)
    (g : Nat) (hx : a.eval x = .pointer (some ⟨g, 0, none⟩)) (t : TypeId) (cs : Array Value) (fr : Nat × Nat) (d : TypeDesc) (hg : w.heap[g]? = some (.cells cs t fr))
    (hu : P.underlying ty = some d) (hd : (match d with | .struct _ | .array _ _ => true | _ => false) = true) (hi : (P.info? ty).map (·.size) = some cs.size)
    (h : wpList P ops Q rest (a.put o.dst (.agg cs)) w) : wpList P ops Q (o :: rest) a w :=
  wpList_step fun _ hK => by
    rw [if_pos hw]
    exact wp_load_row ty x ho g hx t cs fr d hg hu hd hi (hK _ _ h)

set_option maxRecDepth 100000 in
set_option maxHeartbeats 1000000 in
theorem above_any (gs : Nat) (S T : Nat → Bool) (w : World) (hs : Blk w gs 73 (nailC S)) :
    Calls Try.prog 83 #[.agg (nailC T), .pointer (some ⟨gs, 0, none⟩)] w fun e w' => e = .returned (.bool (!eqN S T && subN S T)) ∧ Below w.heap.size w w' := by
  have hb0 := Blk.new w 73 (nailC T)
  have hs1 := hs.more' (.cells (nailC T) 73)
  have hbel := below_new' w (.cells (nailC T) 73)
  have hne := fun W => ne_nails S T W
  have Hc := Lib.hid (fun W => contains_any S T W)
  generalize subN S T = a at *
  generalize eqN S T = c at *
  clear hs
  go_enter Try.func83, Try.ntmps83
  go_upto_region 1 with fail
  generalize w.alloc (.cells (nailC T) 73) = W0 at *
  generalize hg : w.heap.size = g at *
  cases c
  · go_wp2_with (first
      | (refine wpList_load_row rfl 73 _ rfl gs rfl 73 (nailC S) (0, 0) _ hs1 Try.underlying73 rfl (nailC_info S) ?_)
      | (refine wpList_load_row rfl 73 _ rfl g rfl 73 (nailC T) (0, 0) _ hb0 Try.underlying73 rfl (nailC_info T) ?_)
      | (refine wpList_load_row_g (by rfl) 73 _ rfl gs rfl 73 (nailC S) (0, 0) _ hs1 Try.underlying73 rfl (nailC_info S) ?_)
      | (refine wpList_load_row_g (by rfl) 73 _ rfl g rfl 73 (nailC T) (0, 0) _ hb0 Try.underlying73 rfl (nailC_info T) ?_)
      | (go_at_call 74; refine (Hc.out _).mono ?_; clear Hc; rintro e w2 ⟨rfl, hb2⟩))
    go_ret
    exact ⟨rfl, by rw [hg]; exact hbel.trans (hb2.mono (by have := hbel.size; omega))⟩
  · go_wp2_with (first
      | (refine wpList_load_row rfl 73 _ rfl gs rfl 73 (nailC S) (0, 0) _ hs1 Try.underlying73 rfl (nailC_info S) ?_)
      | (refine wpList_load_row rfl 73 _ rfl g rfl 73 (nailC T) (0, 0) _ hb0 Try.underlying73 rfl (nailC_info T) ?_))
    go_ret
    exact ⟨rfl, by rw [hg]; exact hbel⟩

set_option maxRecDepth 100000 in
set_option maxHeartbeats 1000000 in
theorem index_above (A : Option Addr) (cap n gs : Nat) (Ss : List (Nat → Bool)) (U : Nat → Bool) (w : World) (hS : RowS w A n Ss) (hn1 : n ≤ 1000000000) (hs : Blk w gs 73 (nailC U)) :
    Calls Try.prog 89 #[.slice A n cap, .func (.func 83) #[] #[.pointer (some ⟨gs, 0, none⟩)]] w fun e w' => ∃ i : Int, e = .returned (.int .i64 i) ∧ -1 ≤ i ∧ i ≤ n ∧ (decide (0 ≤ i) = Ss.any fun T => !eqN U T && subN U T) ∧ Below w.heap.size w w' := by
  have HS := Lib.hid hS
  have Hn := Lib.hid hS.1
  obtain ⟨hp, hhp⟩ : ∃ hp : (Nat → Bool) → Bool, hp = fun T => !eqN U T && subN U T := ⟨_, rfl⟩
  have Hask : Hid (∀ (W : World) (T : Nat → Bool), Below w.heap.size w W → Calls Try.prog 83 #[.agg (nailC T), .pointer (some ⟨gs, 0, none⟩)] W fun e W' => e = .returned (.bool (hp T)) ∧ Below W.heap.size W W') := fun W T hW => by
    subst hhp
    exact above_any gs U T W (hs.below hW hs.lt)
  rw [← hhp]
  clear hhp
  generalize hg : w.heap.size = g at *
  have Hg := Lib.hid hg
  clear hS hg hs
  go_enter Try.func89, Try.ntmps89
  go_wp2_with fail
  go_loopw [8] (fun iv wr => ∃ i : Nat, i ≤ n ∧ iv = .int .i64 i ∧ ((Ss.take i).any hp) = false ∧ Below g w wr) (fun iv _ => n - (intOf iv).toNat)
  case atStart => exact ⟨0, Nat.zero_le _, rfl, rfl, Below.refl _ _⟩
  case round =>
    obtain ⟨i, hi, rfl, hno, hbel⟩ := hrel
    have Hno := Lib.hid hno
    clear hno
    by_cases hlt : i < n
    · obtain ⟨b, off, rfl, hrow⟩ := (HS.out.below (w' := wr) (by rw [Hg.out]; exact hbel)).2 (by omega)
      have hrange := hrow.range (i := i) (by have := Hn.out; omega)
      have Htake := Lib.hid (row_take (Ss := Ss) (i := i) (by have := Hn.out; omega))
      have Hmem : Hid (Ss.getD i (fun _ => false) ∈ Ss) := by
        show _ ∈ _
        rw [List.getD_eq_getElem?_getD, List.getElem?_eq_getElem (by have := Hn.out; omega)]
        exact List.getElem_mem _
      have Hany : Hid (hp (Ss.getD i fun _ => false) = true → (Ss.any hp) = true) := by
        show _ → _
        exact fun h => List.any_eq_true.2 ⟨_, Hmem.out, h⟩
      have Hstep : Hid (((Ss.take (i + 1)).any hp) = hp (Ss.getD i fun _ => false)) := by
        show _ = _
        rw [Htake.out, List.any_append, Hno.out]
        simp
      have Hc := Lib.hid (Hask.out wr (Ss.getD i fun _ => false) hbel)
      generalize Ss.getD i (fun _ => false) = S at *
      have hlist := nailC_list S
      have Hbel := Lib.hid hbel
      clear hrow hbel
      generalize hp S = a at *
      cases a
      · go_wp2_with (first
          | (refine wpList_load_mid rfl 73 _ rfl b (off + i * 26) rfl (nailC S).toList _ hrange Try.underlying73 rfl hlist ?_)
          | (go_at_call 83; refine Hc.out.mono ?_; clear Hc; rintro e w2 ⟨rfl, hb2⟩))
        go_roundw
        case rel => exact ⟨i + 1, by omega, by go_num, Hstep.out, Hbel.out.trans (hb2.mono (by have := Hbel.out.size; have := Hg.out; omega))⟩
        case measure => simp [intOf]; omega
      · go_wp2_with (first
          | (refine wpList_load_mid rfl 73 _ rfl b (off + i * 26) rfl (nailC S).toList _ hrange Try.underlying73 rfl hlist ?_)
          | (go_at_call 83; refine Hc.out.mono ?_; clear Hc; rintro e w2 ⟨rfl, hb2⟩))
        go_ret
        refine ⟨_, rfl, by omega, by omega, ?_, Hbel.out.trans (hb2.mono (by have := Hbel.out.size; have := Hg.out; omega))⟩
        rw [Hany.out trivial]
        exact decide_eq_true (by omega)
    · obtain rfl : i = n := by omega
      have hf := Hno.out
      rw [List.take_of_length_le (by have := Hn.out; omega)] at hf
      have Hf := Lib.hid hf
      clear hf
      go_wp2_with fail
      go_ret
      exact ⟨_, rfl, by omega, by omega, by rw [Hf.out]; rfl, hbel⟩

set_option maxRecDepth 100000 in
theorem contains_above (A : Option Addr) (cap n gs : Nat) (Ss : List (Nat → Bool)) (U : Nat → Bool) (w : World) (hS : RowS w A n Ss) (hn1 : n ≤ 1000000000) (hs : Blk w gs 73 (nailC U)) :
    Calls Try.prog 73 #[.slice A n cap, .func (.func 83) #[] #[.pointer (some ⟨gs, 0, none⟩)]] w fun e w' => e = .returned (.bool (Ss.any fun T => !eqN U T && subN U T)) ∧ Below w.heap.size w w' := by
  have H := Lib.hid (index_above A cap n gs Ss U w hS hn1 hs)
  clear hS hs
  go_enter Try.func73, Try.ntmps73
  go_wp2_with (go_at_call 89; refine H.out.mono ?_; clear H; rintro e w2 ⟨i, rfl, hi1, hi2, hi3, hb2⟩)
  go_ret
  exact ⟨rfl, hb2⟩

set_option maxRecDepth 100000 in
set_option maxHeartbeats 1000000 in
theorem index_same (A : Option Addr) (cap n : Nat) (Ss : List (Nat → Bool)) (T : Nat → Bool) (w : World) (hS : RowS w A n Ss) (hn1 : n ≤ 1000000000) :
    Calls Try.prog 84 #[.slice A n cap, .agg (nailC T)] w fun e w' => ∃ i : Int, e = .returned (.int .i64 i) ∧ -1 ≤ i ∧ i ≤ n ∧ (decide (0 ≤ i) = Ss.any fun S => eqN T S) ∧ Below w.heap.size w w' := by
  have hb0 := Blk.new w 73 (nailC T)
  have hbel0 := below_new' w (.cells (nailC T) 73)
  have HS := Lib.hid hS
  have Hn := Lib.hid hS.1
  clear hS
  go_enter Try.func84, Try.ntmps84
  go_wp2_with fail
  generalize w.alloc (.cells (nailC T) 73) = W0 at *
  generalize hg : w.heap.size = g at *
  have Hg := Lib.hid hg
  have Hbel := Lib.hid hbel0
  clear hg hbel0
  go_loopw [8] (fun iv wr => ∃ i : Nat, i ≤ n ∧ iv = .int .i64 i ∧ ((Ss.take i).any fun S => eqN T S) = false ∧ Blk wr g 73 (nailC T) ∧ Below g w wr) (fun iv _ => n - (intOf iv).toNat)
  case atStart => exact ⟨0, Nat.zero_le _, rfl, rfl, hb0, Hbel.out⟩
  case round =>
    obtain ⟨i, hi, rfl, hno, hbT, hbel⟩ := hrel
    have Hno := Lib.hid hno
    clear hno
    by_cases hlt : i < n
    · obtain ⟨b, off, rfl, hrow⟩ := (HS.out.below (w' := wr) (by rw [Hg.out]; exact hbel)).2 (by omega)
      have hrange := hrow.range (i := i) (by have := Hn.out; omega)
      have Htake := Lib.hid (row_take (Ss := Ss) (i := i) (by have := Hn.out; omega))
      have Hmem : Hid (Ss.getD i (fun _ => false) ∈ Ss) := by
        show _ ∈ _
        rw [List.getD_eq_getElem?_getD, List.getElem?_eq_getElem (by have := Hn.out; omega)]
        exact List.getElem_mem _
      have Hany : Hid (eqN T (Ss.getD i fun _ => false) = true → (Ss.any fun S => eqN T S) = true) := by
        show _ → _
        exact fun h => List.any_eq_true.2 ⟨_, Hmem.out, h⟩
      have Hstep : Hid (((Ss.take (i + 1)).any fun S => eqN T S) = eqN T (Ss.getD i fun _ => false)) := by
        show _ = _
        rw [Htake.out, List.any_append, Hno.out]
        simp
      generalize Ss.getD i (fun _ => false) = S at *
      have hlist := nailC_list S
      have hrT := range_blk hbT
      have Hbel' := Lib.hid hbel
      have HbT := Lib.hid hbT
      have heq := fun W => eq_nails T S W
      obtain ⟨a, ha⟩ : ∃ a, a = eqN T S := ⟨_, rfl⟩
      rw [← ha] at Hstep Hany
      have heq' : ∀ W, (binOp .eql 73 (.agg (nailC T)) (.agg (nailC S))).run Try.prog W = .ok (.bool a) W := fun W => by rw [ha]; exact heq W
      clear hrow hbel hbT heq ha
      go_upto_region 4 with fail
      refine wp_region_held_drew (S := fun w' => w'.rangeAt g 0 (nailC T).toList ∧ w'.rangeAt b (off + i * 26) (nailC S).toList) (by kernel_rfl) ⟨hrT, hrange⟩ (fun hHeld => ?_)
      refine wpAnyH_take (i := 0) rfl (by kernel_rfl) (by kernel_rfl) (by kernel_rfl) (fun _ _ _ h => h) (yieldsIf_load_mid (by rfl) 73 _ rfl g 0 rfl _ _ (fun w h => h.1) Try.underlying73 rfl (nailC_list T)) hHeld ?_
      refine wpAnyH_take (i := 1) (v := .slice (some ⟨b, off, none⟩) n cap) rfl (by kernel_rfl) (by kernel_rfl) (by kernel_rfl) (fun _ _ _ h => h) (Or.inl ⟨by rfl, fun W _ => by go_simp⟩) hHeld ?_
      refine wpAnyH_take (i := 2) (v := .int .i64 (i : Nat)) rfl (by kernel_rfl) (by kernel_rfl) (by kernel_rfl) (fun _ _ _ h => h) (Or.inl ⟨by rfl, fun W _ => by go_simp⟩) hHeld ?_
      refine wpAnyH_take (i := 3) (v := .pointer (some ⟨b, off + i * 26, none⟩)) rfl (by kernel_rfl) (by kernel_rfl) (by kernel_rfl) (fun _ _ _ h => h) (Or.inl ⟨by rfl, fun W _ => by go_simp⟩) hHeld ?_
      refine wpAnyH_take (i := 4) rfl (by kernel_rfl) (by kernel_rfl) (by kernel_rfl) (fun _ _ _ h => h) (yieldsIf_load_mid (by rfl) 73 _ rfl b (off + i * 26) rfl _ _ (fun w h => h.2) Try.underlying73 rfl hlist) hHeld ?_
      refine wpAnyH_take (i := 5) (v := .bool a) rfl (by kernel_rfl) (by kernel_rfl) (by kernel_rfl) (fun _ _ _ h => h) (Or.inl ⟨by rfl, fun W _ => by go_simp⟩) hHeld ?_
      refine wpAnyH_done (by kernel_rfl) ?_ _
      have HbT2 : Hid (Blk wr.drew g 73 (nailC T)) := HbT.out
      have Hbel2 : Hid (Below g w wr.drew) := Hbel'.out.drew
      cases a
      · go_wp2_with fail
        go_roundw
        case rel => exact ⟨i + 1, by omega, by go_num, Hstep.out, HbT2.out, Hbel2.out⟩
        case measure => simp [intOf]; omega
      · go_wp2_with fail
        go_ret
        refine ⟨_, rfl, by omega, by omega, ?_, by rw [Hg.out]; exact Hbel2.out⟩
        rw [Hany.out trivial]
        exact decide_eq_true (by omega)
    · obtain rfl : i = n := by omega
      have hf := Hno.out
      rw [List.take_of_length_le (by have := Hn.out; omega)] at hf
      have Hf := Lib.hid hf
      clear hf
      go_wp2_with fail
      go_ret
      exact ⟨_, rfl, by omega, by omega, by rw [Hf.out]; rfl, by rw [Hg.out]; exact hbel⟩

end Go.Proofs.Ytolppbilcmobbaa
