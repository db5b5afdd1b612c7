/-
  The walk of the iterator over the sets of some nails.
-/
import Derived.Test.YtkdalgdckgmccaaGreatDoorRange
namespace Go.Proofs.YtkdalgdckgmccaaGreatDoor
open Go.RowKit Go.Shelf

attribute [local go_sem] Oper.semAt_some

theorem wpListIn_load_row {F : Fence} {n' : Nat} {P : Program} {ops : Array Oper} {rest : List Oper} {o : Oper} {a : Act} {w : World} {Q : Exit → Act → World → Prop} (hgd : o.guard = none) (ty : TypeId) (x : Operand) (ho : o.op = .load ty x)
    (g : Nat) (hx : a.eval x = .pointer (some ⟨g, 0, none⟩)) (t : TypeId) (cs : Array Value) (fr : Nat × Nat) (d : TypeDesc) (hg : w.heap[g]? = some (.cells cs t fr))
    (hu : P.underlying ty = some d) (hd : (match d with | .struct _ | .array _ _ => true | _ => false) = true) (hi : (P.info? ty).map (·.size) = some cs.size)
    (h : wpListIn F n' P ops Q rest (a.put o.dst (.agg cs)) w) : wpListIn F n' P ops Q (o :: rest) a w := by
  refine wpListIn_plain hgd fun K hK' => ?_
  unfold Oper.wpIn
  refine ⟨?_, ?_⟩
  · simp [Oper.about, ho]
  · rw [Oper.semAt_plain F _ _ (by rw [ho]; intro c hc'; cases hc')]
    unfold execOp
    simp only [ho, hx, Instr.loadAt, Instr.sureAddr, Sem.run_bind, Sem.run_pure, Result.andThen_ok, run_loadVar_row w g t ty cs fr d hg hu hd hi]
    exact hK' _ _ h
theorem wpListIn_load_row_g {F : Fence} {n' : Nat} {P : Program} {ops : Array Oper} {rest : List Oper} {o : Oper} {a : Act} {w : World} {Q : Exit → Act → World → Prop} (hw : Region.wanted o (yielded ops a.tmps) = true) (ty : TypeId) (x : Operand) (ho : o.op = .load ty x)
    (g : Nat) (hx : a.eval x = .pointer (some ⟨g, 0, none⟩)) (t : TypeId) (cs : Array Value) (fr : Nat × Nat) (d : TypeDesc) (hg : w.heap[g]? = some (.cells cs t fr))
    (hu : P.underlying ty = some d) (hd : (match d with | .struct _ | .array _ _ => true | _ => false) = true) (hi : (P.info? ty).map (·.size) = some cs.size)
    (h : wpListIn F n' P ops Q rest (a.put o.dst (.agg cs)) w) : wpListIn F n' P ops Q (o :: rest) a w := by
  refine wpListIn_step fun K hK' => ?_
  rw [if_pos hw]
  unfold Oper.wpIn
  refine ⟨?_, ?_⟩
  · simp [Oper.about, ho]
  · rw [Oper.semAt_plain F _ _ (by rw [ho]; intro c hc'; cases hc')]
    unfold execOp
    simp only [ho, hx, Instr.loadAt, Instr.sureAddr, Sem.run_bind, Sem.run_pure, Result.andThen_ok, run_loadVar_row w g t ty cs fr d hg hu hd hi]
    exact hK' _ _ h
theorem wpListIn_store_row {F : Fence} {n' : Nat} {P : Program} {ops : Array Oper} {rest : List Oper} {o : Oper} {a : Act} {w : World} {Q : Exit → Act → World → Prop} (hgd : o.guard = none) (ty : TypeId) (x y : Operand) (ho : o.op = .store ty x y)
    (g : Nat) (cells : Array Value) (hx : a.eval x = .pointer (some ⟨g, 0, none⟩)) (hy : a.eval y = .agg cells)
    (t : TypeId) (old : Array Value) (hg : w.heap[g]? = some (.cells old t (0, 0))) (hi : (P.info? ty).map (·.size) = some cells.size)
    (hold : old.size = cells.size) (h1 : cells.all (·.oneCell') = true)
    (h : wpListIn F n' P ops Q rest (a.put o.dst undef) (w.setRow g cells)) : wpListIn F n' P ops Q (o :: rest) a w := by
  refine wpListIn_plain hgd fun K hK' => ?_
  unfold Oper.wpIn
  refine ⟨?_, ?_⟩
  · simp [Oper.about, ho]
  · rw [Oper.semAt_plain F _ _ (by rw [ho]; intro c hc'; cases hc')]
    unfold execOp
    simp only [ho, hx, hy, Instr.storeAt, Instr.sureAddr, Sem.run_bind, Sem.run_pure, Result.andThen_ok, run_storeVar_row w g t ty old cells hg hi hold h1]
    exact hK' _ _ h

/-- A set as it comes. -/
def encN (S : Nat → Bool) : Array Value := #[.agg (nailC S)]

theorem subsF_succ (S : Nat → Bool) (f : Nat) (T : Nat → Bool) : subsF S (f + 1) T = T :: (if eqN (nextN S T) (fun _ => false) = true then [] else subsF S f (nextN S T)) := rfl
/-- Two sets that are the same as far as there are nails. -/
def Agree (S T : Nat → Bool) : Prop := ∀ k, k < 26 → S k = T k
theorem nextF_agree (S : Nat → Bool) : ∀ (r : List Nat) (P P' : Nat → Bool), (∀ k ∈ r, k < 26) → Agree P P' → Agree (nextF S r P) (nextF S r P')
  | [], P, P', _, h => h
  | k :: r, P, P', hr, h => by
    have hk := hr k (List.mem_cons_self ..)
    have hr' : ∀ k ∈ r, k < 26 := fun j hj => hr j (List.mem_cons_of_mem _ hj)
    have hset : ∀ b, Agree (setN P k b) (setN P' k b) := fun b j hj => by
      unfold setN
      by_cases e : j = k
      · rw [if_pos e, if_pos e]
      · rw [if_neg e, if_neg e]; exact h j hj
    unfold nextF
    by_cases hs : S k = true
    · rw [if_pos hs, if_pos hs, ← h k hk]
      by_cases hp : P k = true
      · rw [if_pos hp, if_pos hp]; exact nextF_agree S r _ _ hr' (hset false)
      · rw [if_neg hp, if_neg hp]; exact hset true
    · rw [if_neg hs, if_neg hs]; exact nextF_agree S r _ _ hr' h
theorem nextN_agree (S : Nat → Bool) {P P' : Nat → Bool} (h : Agree P P') : Agree (nextN S P) (nextN S P') := nextF_agree S r26 P P' (fun _ hk => mem_r26.1 hk) h
theorem eqN_agree {P P' T : Nat → Bool} (h : Agree P P') : eqN P T = eqN P' T := by
  apply Bool.eq_iff_iff.2
  rw [eqN_iff, eqN_iff]
  exact ⟨fun g k hk => (h k hk).symm.trans (g k hk), fun g k hk => (h k hk).trans (g k hk)⟩
theorem subs_len (S : Nat → Bool) : ∀ (f N : Nat) (P P' : Nat → Bool), doneF S f P = true → Agree P P' → f ≤ N → (subsF S N P').length = (subsF S f P).length
  | 0, _, _, _, h, _, _ => by cases h
  | f + 1, N, P, P', h, ha, hN => by
    obtain ⟨N', rfl⟩ : ∃ N', N = N' + 1 := ⟨N - 1, by omega⟩
    have hn := nextN_agree S ha
    unfold subsF
    rw [List.length_cons, List.length_cons, ← eqN_agree hn]
    by_cases he : eqN (nextN S P) (fun _ => false) = true
    · rw [if_pos he, if_pos he]
    · rw [if_neg he, if_neg he]
      have hd : doneF S f (nextN S P) = true := by
        unfold doneF at h
        rcases Bool.or_eq_true _ _ ▸ h with h | h
        · exact absurd h he
        · exact h
      rw [subs_len S f N' _ _ hd hn (by omega)]

/-- The set that lies where a pointer shows. -/
def readN (v : Value) (W : World) : Nat → Bool := fun k =>
  match v with
  | .pointer (some a) => (match W.cell? ⟨a.block, k, none⟩ with | some (.bool b) => b | _ => false)
  | _ => false
theorem readN_blk {W : World} {p : Nat} {t : TypeId} {P : Nat → Bool} (h : Blk W p t (nailC P)) : Agree P (readN (.pointer (some ⟨p, 0, none⟩)) W) := fun k hk => by
  unfold readN
  dsimp only
  rw [h.cell k, nailC_at P k hk]

set_option maxRecDepth 100000 in
set_option maxHeartbeats 4000000 in
theorem subsets_gives (n : Nat) (hn : 6 ≤ n) (gs ob N : Nat) (S : Nat → Bool) (hN : doneF S N (fun _ => false) = true) (w : World) (hS : Blk w gs 49 (nailC S)) (hob : ob < w.heap.size) (hgood : Good ob w) (hfar : Far ob w gs) :
    Gives Fence.wide n Tryz.prog 85 #[.pointer (some ⟨gs, 0, none⟩)] encN ob (fun xs => xs = subsF S N (fun _ => false)) N w := by
  intro l J W hW hJ hY h0
  have hr0 : rowAt ob W = rowAt ob w := rowAt_congr (hW.block ob hob)
  have hblkS : Blk W gs 49 (nailC S) := (hW.block gs hS.lt).trans hS
  have hobW : ob < W.heap.size := Nat.lt_of_lt_of_le hob hW.size
  have hgoodW : Good ob W := fun r e => by rw [hr0] at e; exact Nat.lt_of_lt_of_le (hgood r e) hW.size
  have hfarW : Far ob W gs := ⟨Nat.lt_of_lt_of_le hfar.1 hW.size, hfar.2.1, by rw [hr0]; exact hfar.2.2⟩
  refine callsIn_of_wp Tryz.func85 rfl trivial ?_ rfl
  simp only [Tryz.ntmps85, List.size_toArray, List.length_cons, List.length_nil, Nat.reduceAdd, Nat.reduceSub, Array.replicate_succ, Array.replicate_zero, List.push_toArray, List.append_toArray, List.nil_append, List.cons_append]
  have hnew0 : Blk (W.alloc (.cells (nailC (fun _ => false)) 49)) W.heap.size 49 (nailC (fun _ => false)) := Blk.new W _ _
  have hnewL := hnew0
  rw [zero_agg] at hnewL
  gi_wp2_with (refine wpListIn_store_row rfl 49 _ _ rfl W.heap.size (nailC (fun _ => false)) rfl rfl 49 _ hnewL (nailC_info _) ?hz (nailC_one _) ?_)
  case hz => rfl
  rw [World.setRow_alloc_new]
  have hJ1 := hJ [] W (W.alloc (.cells (nailC (fun _ => false)) 49)) h0 (StepIt.of_below (below_new' W _))
  have hfar1 := hfarW.alloc hobW (.cells (nailC (fun _ => false)) 49)
  have hfarp := Far.new hgoodW hobW (.cells (nailC (fun _ => false)) 49)
  have hgood1 := hgoodW.alloc hobW (.cells (nailC (fun _ => false)) 49)
  have hblkS1 := hblkS.more' (.cells (nailC (fun _ => false)) 49)
  have hob1 : ob < (W.alloc (.cells (nailC (fun _ => false)) 49)).heap.size := by rw [World.size_alloc]; omega
  generalize W.alloc (.cells (nailC (fun _ => false)) 49) = W0 at *
  generalize hB : W.heap.size = B at *
  have HgsB : Hid (gs ≠ B) := by show _ ≠ _; have := hfarW.1; omega
  clear hnewL hblkS hfarW hgoodW hW hr0 hS hfar hgood
  gi_loopw [3] (fun v wr => ∃ (p f : Nat) (P : Nat → Bool) (pre : List (Nat → Bool)), v = .pointer (some ⟨p, 0, none⟩) ∧ pre ++ subsF S f P = subsF S N (fun _ => false) ∧ doneF S f P = true ∧ pre.length + f ≤ N ∧ J pre wr ∧ Blk wr gs 49 (nailC S) ∧ Blk wr p 49 (nailC P) ∧ Far ob wr gs ∧ Far ob wr p ∧ B ≤ p ∧ gs ≠ p ∧ Good ob wr ∧ ob < wr.heap.size)
    (fun v wr => (subsF S N (readN v wr)).length)
  case atStart => exact ⟨B, N, fun _ => false, [], rfl, rfl, hN, by simp, hJ1, hblkS1, hnew0, hfar1, hfarp, Nat.le_refl _, HgsB.out, hgood1, hob1⟩
  case round =>
    obtain ⟨p, f, P, pre, rfl, hlist, hdone, hfl, hJs, hbS, hbP, hfS, hfP, hBp, hne, hgd, hobw⟩ := hrel
    have Hne := Lib.hid hne
    clear hne
    obtain ⟨f, rfl⟩ : ∃ f', f = f' + 1 := by
      cases f with
      | zero => cases hdone
      | succ f => exact ⟨f, rfl⟩
    obtain ⟨fn, tmps, assign, body, hy, hR⟩ := hY pre P wr hJs (by omega)
    have Hmeas := Lib.hid (subs_len S (f + 1) N P _ hdone (readN_blk hbP) (by omega))
    have hnewAll : ∀ (V : World) (k : Nat), V.heap.size = k → Blk (V.alloc (.cells (nailC (fun _ => false)) 49)) k 49 (nailC (fun _ => false)) := fun V k e => e ▸ Blk.new V _ _
    have heq := fun V => eq_nails (nextN S P) (fun _ => false) V
    rw [zero_agg] at hnewAll heq
    unfold encN at hy
    have HY := Lib.hid hY
    have Hn1 : Hid (1 ≤ n) := by show 1 ≤ n; omega
    have HJ := Lib.hid hJ
    have Hlist := Lib.hid hlist
    have Hdone := Lib.hid hdone
    clear hY hJ hlist hdone hN hJ1 h0
    gi_wp2_with (refine wpListIn_load_row rfl 49 _ rfl p rfl 49 (nailC P) (0, 0) _ hbP Tryz.underlying49 rfl (nailC_info _) ?_)
    refine ⟨fun _ => (by omega), hR.mono ?_⟩
    rintro e W3 ⟨rfl, hJ3, hk3⟩
    obtain ⟨hbS3, hfS3⟩ := hfS.blk hbS hk3
    obtain ⟨hbP3, hfP3⟩ := hfP.blk hbP hk3
    have hgd3 := hk3.2.1 hgd
    have hob3 : ob < W3.heap.size := Nat.lt_of_lt_of_le hobw hk3.1
    have HJ3 := Lib.hid hJ3
    have Hnext := Lib.hid (next_any S P W3)
    clear hR hy hJ3 hk3 hJs hbS hbP hfS hfP
    have Hsz : Hid ((nailC P).size = (nailC (nextN S P)).size) := by show _ = _; rw [nailC_size, nailC_size]
    have Hsz0 : Hid ((#[.bool false, .bool false, .bool false, .bool false, .bool false, .bool false, .bool false, .bool false, .bool false, .bool false, .bool false, .bool false, .bool false, .bool false, .bool false, .bool false, .bool false, .bool false, .bool false, .bool false, .bool false, .bool false, .bool false, .bool false, .bool false, .bool false] : Array Value).size = (nailC (nextN S P)).size) := by show _ = _; rw [nailC_size]; rfl
    cases he : eqN (nextN S P) (fun _ => false)
    · rw [he] at heq
      have He := Lib.hid he
      clear he
      gi_wp2_with (first
        | (refine wpListIn_load_row rfl 49 _ rfl p rfl 49 (nailC (nextN S P)) (0, 0) _ hb5 Tryz.underlying49 rfl (nailC_info _) ?_)
        | (refine wpListIn_load_row rfl 49 _ rfl gs rfl 49 (nailC S) (0, 0) _ hbS3 Tryz.underlying49 rfl (nailC_info _) ?_)
        | (refine wpListIn_load_row rfl 49 _ rfl p rfl 49 (nailC P) (0, 0) _ hbP3 Tryz.underlying49 rfl (nailC_info _) ?_)
        | (refine ⟨trivial, fun _ => Hn1.out, (callsIn_wide.2 Hnext.out).mono ?_⟩; rintro e W4 ⟨rfl, hb4⟩)
        | (refine wpListIn_store_row rfl 49 _ _ rfl p (nailC (nextN S P)) rfl rfl 49 (nailC P) (hbP3.below hb4 hbP3.lt) (nailC_info _) Hsz.out (nailC_one _) ?_; have hb5 := setRow_heap W4 p (nailC P) (nailC (nextN S P)) 49 (0, 0) (hbP3.below hb4 hbP3.lt))
        | (refine wpListIn_store_row rfl 49 _ _ rfl _ (nailC (nextN S P)) rfl rfl 49 _ (hnewAll _ _ (setRow_size _ _ _)) (nailC_info _) Hsz0.out (nailC_one _) ?_))
      rw [show W4.heap.size = (W4.setRow p (nailC (nextN S P))).heap.size from (setRow_size _ _ _).symm, World.setRow_alloc_new]
      have hbP4 : Blk W4 p 49 (nailC P) := hbP3.below hb4 hbP3.lt
      have hr4 : rowAt ob W4 = rowAt ob W3 := rowAt_congr (hb4.block ob hob3)
      have hfP4 : Far ob W4 p := ⟨hbP4.lt, hfP3.2.1, by rw [hr4]; exact hfP3.2.2⟩
      have hJ5 : J (pre ++ [P]) (W4.setRow p (nailC (nextN S P))) := HJ.out _ _ _ (HJ.out _ _ _ HJ3.out (StepIt.of_below hb4)) (StepIt.setRow hbP4 hBp hfP4 _)
      have hon5 := only_setRow W4 p (nailC (nextN S P))
      have hr5 : rowAt ob (W4.setRow p (nailC (nextN S P))) = rowAt ob W4 := rowAt_congr (hon5.block ob (Ne.symm hfP4.2.1))
      have hob5 : ob < (W4.setRow p (nailC (nextN S P))).heap.size := by rw [hon5.size]; exact Nat.lt_of_lt_of_le hob3 hb4.size
      have hgd5 : Good ob (W4.setRow p (nailC (nextN S P))) := fun r e => by
        rw [hr5, hr4] at e
        rw [hon5.size]
        exact Nat.lt_of_lt_of_le (hgd3 r e) hb4.size
      have hbS5 : Blk (W4.setRow p (nailC (nextN S P))) gs 49 (nailC S) := hon5.blk Hne.out (hbS3.below hb4 hbS3.lt)
      have hfS5 : Far ob (W4.setRow p (nailC (nextN S P))) gs := ⟨hbS5.lt, hfS3.2.1, by rw [hr5, hr4]; exact hfS3.2.2⟩
      have HgsN : Hid (gs ≠ (W4.setRow p (nailC (nextN S P))).heap.size) := by show _ ≠ _; have := hbS5.lt; omega
      have hon5sz : Hid ((W4.setRow p (nailC (nextN S P))).heap.size = W4.heap.size) := hon5.size
      generalize W4.setRow p (nailC (nextN S P)) = W5 at *
      have hfn := Far.new hgd5 hob5 (.cells (nailC (nextN S P)) 49)
      have hd' : doneF S f (nextN S P) = true := by
        have := Hdone.out
        unfold doneF at this
        rw [He.out] at this
        exact this
      have hblkn : Blk (W5.alloc (.cells (nailC (nextN S P)) 49)) W5.heap.size 49 (nailC (nextN S P)) := Blk.new W5 _ _
      have hl' : pre ++ [P] ++ subsF S f (nextN S P) = subsF S N (fun _ => false) := by
        have := Hlist.out
        rw [subsF_succ, He.out, if_neg (by decide)] at this
        rw [List.append_assoc]
        exact this
      have Hl' := Lib.hid hl'
      have Hd' := Lib.hid hd'
      have hm2 := subs_len S f N (nextN S P) _ hd' (readN_blk hblkn) (by omega)
      have hm1 := Hmeas.out
      have hm3 : (subsF S (f + 1) P).length = 1 + (subsF S f (nextN S P)).length := by
        rw [show subsF S (f + 1) P = P :: (if eqN (nextN S P) (fun _ => false) = true then [] else subsF S f (nextN S P)) from rfl, He.out, if_neg (by decide), List.length_cons]
        omega
      have Hm : Hid ((subsF S N (readN (.pointer (some ⟨W5.heap.size, 0, none⟩)) (W5.alloc (.cells (nailC (nextN S P)) 49)))).length < (subsF S N (readN (.pointer (some ⟨p, 0, none⟩)) wr)).length) := by
        show _ < _
        omega
      clear hm1 hm2 hm3
      refine ⟨⟨_, _, _, _, _, _, _, _, _, _, _, ?rel, rfl⟩, ?measure⟩
      case rel => exact ⟨W5.heap.size, f, nextN S P, pre ++ [P], rfl, Hl'.out, Hd'.out, by rw [List.length_append, List.length_singleton]; omega, HJ.out _ _ _ hJ5 (StepIt.of_below (below_new' W5 _)), hbS5.more' _, hblkn, hfS5.alloc hob5 _, hfn, by have := hfP4.1; have := hon5sz.out; omega, HgsN.out, hgd5.alloc hob5 _, by rw [World.size_alloc]; omega⟩
      case measure => exact Hm.out
    · rw [he] at heq
      have He := Lib.hid he
      clear he
      gi_wp2_with (first
        | (refine wpListIn_load_row rfl 49 _ rfl p rfl 49 (nailC (nextN S P)) (0, 0) _ hb5 Tryz.underlying49 rfl (nailC_info _) ?_)
        | (refine wpListIn_load_row rfl 49 _ rfl gs rfl 49 (nailC S) (0, 0) _ hbS3 Tryz.underlying49 rfl (nailC_info _) ?_)
        | (refine wpListIn_load_row rfl 49 _ rfl p rfl 49 (nailC P) (0, 0) _ hbP3 Tryz.underlying49 rfl (nailC_info _) ?_)
        | (refine ⟨trivial, fun _ => Hn1.out, (callsIn_wide.2 Hnext.out).mono ?_⟩; rintro e W4 ⟨rfl, hb4⟩)
        | (refine wpListIn_store_row rfl 49 _ _ rfl p (nailC (nextN S P)) rfl rfl 49 (nailC P) (hbP3.below hb4 hbP3.lt) (nailC_info _) Hsz.out (nailC_one _) ?_; have hb5 := setRow_heap W4 p (nailC P) (nailC (nextN S P)) 49 (0, 0) (hbP3.below hb4 hbP3.lt))
        | (refine wpListIn_store_row rfl 49 _ _ rfl _ (nailC (nextN S P)) rfl rfl 49 _ (hnewAll _ _ (setRow_size _ _ _)) (nailC_info _) Hsz0.out (nailC_one _) ?_))
      have hbP4 : Blk W4 p 49 (nailC P) := hbP3.below hb4 hbP3.lt
      have hr4 : rowAt ob W4 = rowAt ob W3 := rowAt_congr (hb4.block ob hob3)
      have hfP4 : Far ob W4 p := ⟨hbP4.lt, hfP3.2.1, by rw [hr4]; exact hfP3.2.2⟩
      have hJ5 : J (pre ++ [P]) (W4.setRow p (nailC (nextN S P))) := HJ.out _ _ _ (HJ.out _ _ _ HJ3.out (StepIt.of_below hb4)) (StepIt.setRow hbP4 hBp hfP4 _)
      have hl' : subsF S N (fun _ => false) = pre ++ [P] := by
        have := Hlist.out
        rw [subsF_succ, He.out, if_pos rfl] at this
        exact this.symm
      refine bodyPost_ret (results_none rfl _ _ _) rfl ?_
      exact ⟨⟨_, rfl⟩, _, rfl, by rw [hl']; exact hJ5⟩

end Go.Proofs.YtkdalgdckgmccaaGreatDoor
