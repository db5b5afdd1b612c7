/-
  The walk of blockTree, and of Blocks: the whole tree.
-/
import Derived.Test.YtgdaidmkcgblbaaTreeM
import Derived.Deep.DeepCutAuto
namespace Go.Proofs.Ytgdaidmkcgblbaa
open Go.RowKit

/-- What blockTree's loop keeps: the tree under way lies in g5, its parts so far are ts; all that lay when the loop began, but g5, is as it was. -/
structure TreeRelT (X0 : World) (g5 kind d : Nat) (pa : Option Addr) (pn pc : Nat) (ts : List PT) (k : Nat) (v : Value) (w wr : World) : Prop where
  tree : Blk wr g5 43 #[.int .i64 kind, .slice pa pn pc, v]
  own : ∃ xs, wr.ownsRow X0.heap.size 43 3 v k xs ∧ PartsIn X0.heap.size d v ts xs wr
  size : X0.heap.size ≤ wr.heap.size
  old : ∀ i, i < X0.heap.size → i ≠ g5 → wr.heap[i]? = X0.heap[i]?
  bel : Below w.heap.size w wr

theorem TreeRelT.next {X0 w wr w2 w3 : World} {g5 kind d k gg cg : Nat} {pa : Option Addr} {pn pc : Nat} {v pv sv : Value} {ts : List PT} {t : PT} {xs : List Value} {o : Obj} (hT : TreeRelT X0 g5 kind d pa pn pc ts k v w wr) (hX5 : g5 < X0.heap.size) (hw5 : w.heap.size ≤ g5) (hwX : w.heap.size ≤ X0.heap.size)
    (hown2 : wr.ownsRow X0.heap.size 43 3 v k xs) (hparts : PartsIn X0.heap.size d v ts xs wr)
    (hb2 : Below wr.drew.heap.size wr.drew w2) (hown3 : w2.ownsRow X0.heap.size 43 3 v k xs) (hgrow : (w2.alloc o).grownBy w3 v.ownBlock) (hB3 : Blk w3 g5 43 #[.int .i64 kind, .slice pa pn pc, v])
    (ht : TreeIn w2 wr.heap.size w2.heap.size d t pv sv) (hat : v.ownBlock = some gg ∨ gg = w2.heap.size + 1)
    (hown4 : w3.ownsRow X0.heap.size 43 3 (.slice (some ⟨gg, 0, none⟩) (k + 1) cg) (k + 1) (xs ++ [.int .i64 (t.kind : Nat), pv, sv])) :
    TreeRelT X0 g5 kind d pa pn pc (ts ++ [t]) (k + 1) (.slice (some ⟨gg, 0, none⟩) (k + 1) cg) w (w3.setCell ⟨g5, 2, none⟩ (.slice (some ⟨gg, 0, none⟩) (k + 1) cg)) := by
  have hs2 : wr.heap.size ≤ w2.heap.size := hb2.size
  have hb3 := own_below hown3 (Nat.le_trans hT.size hs2) hgrow
  have hb3w := own_below (own_base hown3 hwX) (Nat.le_trans hwX (Nat.le_trans hT.size hs2)) hgrow
  have hgg : X0.heap.size ≤ gg := by
    obtain ⟨hl, ⟨e1, h0⟩ | ⟨g, cap, cur, e1, hb, _⟩⟩ := hown4
    · omega
    · injection e1 with e1 e2 e3
      injection e1 with e1
      injection e1 with e1
      omega
  have hpn := hparts.next (k := k) (cg := cg) (g5 := g5) (u := .slice (some ⟨gg, 0, none⟩) (k + 1) cg) hX5 hT.size (fun g hg => (hown2.lt g hg).2) ((Below.refl _ wr).drew.trans hb2) ht hgrow hat
  refine ⟨?_, ⟨_, own_same hown4 fun g hg => ?_, hpn⟩, ?_, fun i hi hne => ?_, ?_⟩
  · have := hB3.store 2 (.slice (some ⟨gg, 0, none⟩) (k + 1) cg)
    simpa using this
  · obtain rfl : gg = g := by simpa [Value.ownBlock] using hg
    exact Below.heap_setCell _ _ _ _ (by simp; omega)
  · have := hb3.size
    have := hT.size
    simp [World.setCell]; omega
  · have e1 : w3.heap[i]? = w2.heap[i]? := hb3.block i hi
    have e2 : w2.heap[i]? = wr.heap[i]? := hb2.block i (Nat.lt_of_lt_of_le hi hT.size)
    exact (Below.heap_setCell _ _ _ _ hne).trans (e1.trans (e2.trans (hT.old i hi hne)))
  · exact (((hT.bel.drew).trans (hb2.mono hT.bel.size)).trans hb3w).setCell hw5 _

theorem treeF_succ (f : Nat) (p : List Nat) : treeF (f + 1) p = if p.length = 1 then .node 0 [] [] else .node (divL p).1 (if (divL p).1 = 3 then patL p (divL p).2 else []) ((divL p).2.map fun x => treeF f (seg p x.1 x.2)) := rfl

/-- A tree is returned. -/
def RetTreeT (d : Nat) (t : PT) (w : World) (e : Ending) (w' : World) : Prop :=
  ∃ pa pn pc A n c, e = .returned (.agg #[.int .i64 (t.kind : Nat), .slice pa pn pc, .slice A n c]) ∧ TreeIn w' w.heap.size w'.heap.size d t (.slice pa pn pc) (.slice A n c) ∧ Below w.heap.size w w'

theorem slice_of_perm {w : World} {lo hi : Nat} {l : List Nat} {v : Value} (h : PermIn w lo hi l v) : ∃ pa pn pc, v = .slice pa pn pc := by
  obtain ⟨A, c, e, _, _⟩ := h
  exact ⟨A, _, c, e⟩

set_option maxRecDepth 100000 in
set_option maxHeartbeats 4000000 in
theorem treeT_step (N : Nat) (ih : ∀ m, m < N → ∀ (b off cap : Nat) (p : List Nat) (w : World), Sl .i64 w (some ⟨b, off, none⟩) m p → 1 ≤ m → m ≤ cap → m ≤ 60 → cap ≤ 9223372036854775807 → (∀ i, p.getD i 0 ≤ 1000) →
      Calls Try.prog 75 #[.slice (some ⟨b, off, none⟩) m cap] w (RetTreeT m (treeF m p) w))
    (b off cap : Nat) (p : List Nat) (w : World) (hS : Sl .i64 w (some ⟨b, off, none⟩) N p) (h0 : 1 ≤ N) (hcap : N ≤ cap) (hn : N ≤ 60) (hc9 : cap ≤ 9223372036854775807) (hB : ∀ i, p.getD i 0 ≤ 1000)
    (hfuel : ∀ (s e f : Nat), e - s ≤ f → s < e → e ≤ N → treeF f (seg p s e) = treeF (e - s) (seg p s e)) :
    Calls Try.prog 75 #[.slice (some ⟨b, off, none⟩) N cap] w (RetTreeT N (treeF N p) w) := by
  have hl := hS.len
  subst hl
  obtain ⟨f, hf⟩ : ∃ f, p.length = f + 1 := ⟨p.length - 1, by omega⟩
  by_cases h1 : p.length = 1
  · have ht : treeF p.length p = .node 0 [] [] := by rw [hf, treeF_succ, if_pos h1]
    have HT := Lib.hid ht
    have H1 := Lib.hid h1
    have hd : ((p.length : Int) == 1) = true := by rw [beq_iff_eq]; omega
    have hres := Blk.new w 43 #[.int .i64 0, .slice none 0 0, .slice none 0 0]
    obtain ⟨c0, c1, c2, f0, f1, f2⟩ := blk_three hres
    clear ht h1 hS ih hfuel hf
    go_enter Try.func75, Try.ntmps75
    go_wp2
    refine bodyPost_ret (v := .agg #[.int .i64 0, .slice none 0 0, .slice none 0 0]) (by simp [results, Try.results75, go_sem, c0, c1, c2]) rfl ⟨none, 0, 0, none, 0, 0, by rw [HT.out]; rfl, ?_, (Below.refl _ _).alloc (Nat.le_refl _) _⟩
    rw [HT.out, H1.out]
    exact ⟨PermIn.nil _ _ _, none, 0, rfl, fun h => absurd h (by simp [PT.parts])⟩
  · obtain ⟨i0, hi, hz0, hz1, hz2⟩ := info_parts info_tree
    have hparts := divL_parts p (by omega)
    have Hdiv := Lib.hid (fun W hW => divide_any b off p.length cap p W hW (by omega) hcap hn hc9 hB)
    have hd : ((p.length : Int) == 1) = false := by rw [beq_eq_false_iff_ne]; omega
    have hkind : (divL p).1 ≤ 3 := by unfold divL; split <;> first | (simp; done) | (split <;> simp)
    have ht : treeF p.length p = .node (divL p).1 (if (divL p).1 = 3 then patL p (divL p).2 else []) ((divL p).2.map fun x => treeF (x.2 - x.1) (seg p x.1 x.2)) := by
      have e1 : treeF p.length p = .node (divL p).1 (if (divL p).1 = 3 then patL p (divL p).2 else []) ((divL p).2.map fun x => treeF f (seg p x.1 x.2)) := by
        rw [hf, treeF_succ, if_neg h1]
      rw [e1]
      congr 1
      apply List.map_congr_left
      intro x hx
      have := hparts.1 x hx
      exact hfuel x.1 x.2 f (by omega) this.1 this.2.1
    generalize (divL p).1 = kind at *
    generalize (divL p).2 = rows at *
    obtain ⟨perm, hperm⟩ : ∃ perm, perm = if kind = 3 then patL p rows else [] := ⟨_, rfl⟩
    rw [← hperm] at ht
    have HPerm := Lib.hid hperm
    have HT := Lib.hid ht
    have Hparts := Lib.hid hparts
    have Hih := Lib.hid ih
    have Hf := Lib.hid hf
    clear hperm ht hparts ih hfuel hf
    have hres := Blk.new w 43 #[.int .i64 0, .slice none 0 0, .slice none 0 0]
    have hbel0 := (below_new' w (.cells #[.int .i64 0, .slice none 0 0, .slice none 0 0] 43))
    have hS0 := hS.below hbel0
    go_enter Try.func75, Try.ntmps75
    go_upto_if 20 with (go_at_call 100; refine (Hdiv.out _ hS0).mono ?_; rintro e w1 ⟨gR, cR, rfl, hown, hb1⟩)
    have hgR := own_lt hown
    have hs1 := hb1.size
    have hs0 := hbel0.size
    have hr1 : Blk w1 w.heap.size 43 #[.int .i64 0, .slice none 0 0, .slice none 0 0] := (hb1.block _ hres.lt).trans hres
    have hbw1 := hbel0.trans (hb1.mono hs0)
    have hS1 := hS.below hbw1
    have hs01 : w.heap.size < w1.heap.size := hr1.lt
    have hS2 := hS1.below (below_new' w1 (.cells #[.int .i64 kind, .slice none 0 0, .slice none 0 0] 43))
    have hg5 := Blk.new w1 43 #[.int .i64 kind, .slice none 0 0, .slice none 0 0]
    have hown1 := own_keep (own_base hown hs0) (below_new' w1 (.cells #[.int .i64 kind, .slice none 0 0, .slice none 0 0] 43))
    have hsize1 := size_new' w1 (.cells #[.int .i64 kind, .slice none 0 0, .slice none 0 0] 43)
    have Hrow := Lib.hid (show ∀ i (hi : i < rows.length), w1.cell? ⟨gR, i, none⟩ = some (partV b off cap rows[i]) from fun i hi => by
      rw [own_cell hown i hi]
      simp [hi])
    clear hown hb1 hbel0 hS0 hS1 hres
    go_cut [] (fun wx => ∃ pa pn pc, Blk wx w1.heap.size 43 #[.int .i64 kind, .slice pa pn pc, .slice none 0 0] ∧ PermIn wx (w1.heap.size + 1) wx.heap.size perm (.slice pa pn pc) ∧ Below w1.heap.size w1 wx)
    case first =>
      by_cases hk3 : kind = 3
      · have hpe : perm = patL p rows := by rw [HPerm.out, if_pos hk3]
        have Hpe := Lib.hid hpe
        have d3 : ((kind : Int) == 3) = true := by rw [beq_iff_eq]; omega
        have Hpat := Lib.hid (pattern_any w.heap.size b off p.length cap cR gR p rows _ hS2 hn (fun x hx => ⟨(Hparts.out.1 x hx).1, (Hparts.out.1 x hx).2.1⟩) (by have := Hparts.out.2; omega) hown1)
        clear hk3 hpe hown1
        go_wp2_with (go_at_call 101; refine Hpat.out.mono ?_; rintro e w2 ⟨gP, rfl, hgP, hbP, hlP, hb2⟩; have htree2 := (hb2.block _ hg5.lt).trans hg5; have hc1 := Blk.cell (w := w2) (g := w1.heap.size) (t := 43) (cs := #[.int .i64 kind, .slice none 0 0, .slice none 0 0]) htree2 1; have hf1 := Blk.free (w := w2) (g := w1.heap.size) (t := 43) (cs := #[.int .i64 kind, .slice none 0 0, .slice none 0 0]) htree2 1)
        go_meet
        have hs2 := hb2.size
        rw [hsize1] at hs2 hgP
        have hgPl := hbP.lt
        refine ⟨some ⟨gP, 0, none⟩, rows.length, rows.length, ?_, ⟨some ⟨gP, 0, none⟩, rows.length, ?_, ⟨by rw [Hpe.out, hlP]; exact Nat.le_refl _, by have := Hparts.out.2; omega⟩, fun _ => ⟨gP, rfl, hgP, ?_, fun i hi => ?_⟩⟩, ?_⟩
        · have := Blk.store (w := w2) (g := w1.heap.size) (t := 43) (cs := #[.int .i64 kind, .slice none 0 0, .slice none 0 0]) htree2 1 (.slice (some ⟨gP, 0, none⟩) rows.length rows.length)
          simpa using this
        · rw [Hpe.out, hlP]
        · simpa [World.setCell] using hgPl
        · have hb' : Blk (w2.setCell ⟨w1.heap.size, 1, none⟩ (.slice (some ⟨gP, 0, none⟩) rows.length rows.length)) gP 3 (cellsOf .i64 (patL p rows)) := (Below.heap_setCell _ _ _ _ (by simp; omega)).trans hbP
          rw [Hpe.out] at hi ⊢
          exact hb'.num i hi
        · exact (((Below.refl _ w1).alloc (Nat.le_refl _) _).trans (hb2.mono (by rw [hsize1]; omega))).setCell (Nat.le_refl _) _
      · have hpe : perm = [] := by rw [HPerm.out, if_neg hk3]
        have Hpe := Lib.hid hpe
        have d3 : ((kind : Int) == 3) = false := by rw [beq_eq_false_iff_ne]; omega
        clear hk3 hpe hown1
        go_wp2_with fail
        go_meet
        refine ⟨none, 0, 0, hg5, ?_, (Below.refl _ w1).alloc (Nat.le_refl _) _⟩
        rw [Hpe.out]
        exact PermIn.nil _ _ _
    case rest =>
      obtain ⟨pa, pn, pc, htree, hPin, hb1x⟩ := hcut
      have hbelX := hbw1.trans (hb1x.mono (Nat.le_of_lt hs01))
      have hresX : Blk wc w.heap.size 43 #[.int .i64 0, .slice none 0 0, .slice none 0 0] := (hb1x.block _ hs01).trans hr1
      have HrowX := Lib.hid (show ∀ i (hi : i < rows.length), wc.cell? ⟨gR, i, none⟩ = some (partV b off cap rows[i]) from fun i hi => (hb1x.cell (p := ⟨gR, i, none⟩) hgR.1).trans (Hrow.out i hi))
      have hgR5 : gR ≠ w1.heap.size := by omega
      have hg5r : w1.heap.size ≠ w.heap.size := by omega
      have hw5 : w.heap.size ≤ w1.heap.size := by omega
      have hgRl : gR < wc.heap.size := Nat.lt_of_lt_of_le hgR.1 hb1x.size
      have hwX : w.heap.size ≤ wc.heap.size := hbelX.size
      have HPin := Lib.hid hPin
      clear hPin hown1 hS2 hg5 Hrow hb1x hgR hr1 hbw1 hsize1 hs01 hs0 hs1
      obtain ⟨X0, rfl⟩ : ∃ X0 : World, X0 = wc := ⟨_, rfl⟩
      generalize w1.heap.size = g5 at *
      go_wp2_with fail
      go_loopw [26] (fun i wr => ∃ (k : Nat) (v : Value), k ≤ rows.length ∧ i = .int .i64 k ∧ TreeRelT X0 g5 kind (p.length - 1) pa pn pc ((rows.take k).map fun x => treeF (x.2 - x.1) (seg p x.1 x.2)) k v w wr) (fun i _ => rows.length - (intOf i).toNat)
      case atStart => exact ⟨0, _, Nat.zero_le _, rfl, htree, ⟨[], ⟨rfl, .inl ⟨rfl, rfl⟩⟩, PartsIn.nil _ _ _ _⟩, Nat.le_refl _, fun _ _ _ => rfl, hbelX⟩
      case round =>
        obtain ⟨k, v, hk, rfl, hT⟩ := hrel
        obtain ⟨xs, hown2, hpar⟩ := hT.own
        have hresr : Blk wr w.heap.size 43 #[.int .i64 0, .slice none 0 0, .slice none 0 0] := (hT.old _ hresX.lt hg5r.symm).trans hresX
        obtain ⟨r0, r1, r2, q0, q1, q2⟩ := blk_three hresr
        obtain ⟨t0, t1, t2, s0, s1, s2⟩ := blk_three hT.tree
        by_cases hlt : k < rows.length
        · have ck : wr.cell? ⟨gR, k, none⟩ = _ := (World.cell?_of_block (w := X0) (a := ⟨gR, k, none⟩) (hT.old gR hgRl hgR5)).trans (HrowX.out k hlt)
          have hx := Hparts.out.1 rows[k] (List.getElem_mem hlt)
          have hSr := hS.below hT.bel
          have Hts := Lib.hid (show ((rows.take (k + 1)).map fun x => treeF (x.2 - x.1) (seg p x.1 x.2)) = ((rows.take k).map fun x => treeF (x.2 - x.1) (seg p x.1 x.2)) ++ [treeF (rows[k].2 - rows[k].1) (seg p rows[k].1 rows[k].2)] by
            rw [take_snoc' rows k hlt, List.map_append]; rfl)
          generalize ((rows.take k).map fun x => treeF (x.2 - x.1) (seg p x.1 x.2)) = ts at *
          generalize rows[k] = xk at *
          obtain ⟨s, e⟩ := xk
          unfold partV at ck
          dsimp only at ck hx Hts
          have hg5l : g5 < wr.heap.size := hT.tree.lt
          have Hsub := Lib.hid (fun (W : World) (hW : Sl .i64 W (some ⟨b, off, none⟩) p.length p) => Hih.out (e - s) hx.2.2 b (off + s) (cap - s) (seg p s e) W (hW.seg s e (by omega) hx.2.1) (by omega) (by omega) (by omega) (by omega) (fun i => by
            by_cases hi : i < e - s
            · rw [seg_get p s e i hi]; exact hB _
            · unfold seg; rw [List.getD_eq_getElem?_getD, List.getElem?_eq_none (by rw [List.length_take]; omega)]; exact Nat.zero_le _))
          generalize treeF (e - s) (seg p s e) = tk at *
          have HT' := Lib.hid hT
          have Hpar := Lib.hid hpar
          have Hown2 := Lib.hid hown2
          have hm60 := Hparts.out.2
          have hownd : wr.drew.ownsRow X0.heap.size 43 3 v k xs := hown2
          have hTd : Blk wr.drew g5 43 #[.int .i64 kind, .slice pa pn pc, v] := hT.tree
          have hg5d : g5 < wr.drew.heap.size := hT.tree.lt
          have hSd : Sl .i64 wr.drew (some ⟨b, off, none⟩) p.length p := hSr
          have h63 : k + 1 ≤ maxLen := by unfold maxLen; omega
          have h47 : (k + 1) * 56 ≤ 140737488355328 := by omega
          clear hT hpar r0 r1 r2 q0 q1 q2 t0 t1 s0 s1
          go_wp2
          have td2 := hTd.cell 2
          go_region_law (first
            | (refine step_append_lies _ rfl _ _ _ rfl X0.heap.size 43 i0 _ 3 56 Try.underlying41 hi hz0 hz1 hz2 rfl (Nat.succ_pos 2) v k xs rfl (hown3.alloc _) ⟨w2.heap.size, 0, none⟩ 1 1 [.int .i64 (tk.kind : Nat), .slice pa' pn' pc', .slice A' n' c'] rfl rfl (World.news_of_block (cs := #[.int .i64 (tk.kind : Nat), .slice pa' pn' pc', .slice A' n' c']) (t := 43) (fr := (0, 0)) (heap_alloc_new w2 _)) (three_cells _ _ _ rfl rfl rfl) Nat.one_pos h63 h47 (alloc_size_le _ _ (Nat.le_trans HT'.out.size hsz2)) (w2.heap.size + 1) (size_new' _ _) ?_; intro gg cg w3 hown4 hgrow hat hlt3; have hB3 : Blk w3 g5 43 #[.int .i64 kind, .slice pa pn pc, v] := (hgrow.block g5 (hB2.more' _).lt (own_not hown3 htree.lt)).trans (hB2.more' _); have kc3 := hB3.cell 2; have kf3 := hB3.free 2)
            | (go_simp; go_at_call 75; refine (Hsub.out _ ?_).mono ?_; (exact hSd); rintro e' w2 ⟨pa', pn', pc', A', n', c', rfl, hTk, hb2⟩; have hB2 : Blk w2 g5 43 #[.int .i64 kind, .slice pa pn pc, v] := (hb2.block g5 hg5d).trans hTd; have hown3 := own_keep hownd hb2; have hsz2 : wr.heap.size ≤ w2.heap.size := hb2.size; have HTk := Lib.hid hTk; clear hTk; have kc2 := hB2.cell 2; have kc2a := (hB2.more' (.cells #[.int .i64 (tk.kind : Nat), .slice pa' pn' pc', .slice A' n' c'] 43)).cell 2))
          all_goals
            have Hfin := Lib.hid (HT'.out.next htree.lt hw5 hwX Hown2.out Hpar.out hb2 hown3 hgrow hB3 (TreeIn.fuel _ _ _ _ _ (by omega) HTk.out) hat hown4)
            go_wp2
            go_roundw
            case rel => exact ⟨k + 1, _, by omega, by go_num, by rw [Hts.out]; exact Hfin.out⟩
            case measure => simp [intOf]; omega
        · obtain rfl : k = rows.length := by omega
          rw [List.take_length] at hT hpar
          obtain ⟨A, c, rfl⟩ := own_slice hown2
          have hbelr := hT.bel
          have hset := ((hresr.store 0 (.int .i64 kind)).store 1 (.slice pa pn pc)).store 2 (.slice A rows.length c)
          have hset' : Blk (((wr.setCell ⟨w.heap.size, 0, none⟩ (.int .i64 kind)).setCell ⟨w.heap.size, 1, none⟩ (.slice pa pn pc)).setCell ⟨w.heap.size, 2, none⟩ (.slice A rows.length c)) w.heap.size 43 #[.int .i64 kind, .slice pa pn pc, .slice A rows.length c] := by simpa using hset
          have hbelf := ((hbelr.setCell (p := ⟨w.heap.size, 0, none⟩) (Nat.le_refl _) (.int .i64 kind)).setCell (p := ⟨w.heap.size, 1, none⟩) (Nat.le_refl _) (.slice pa pn pc)).setCell (p := ⟨w.heap.size, 2, none⟩) (Nat.le_refl _) (.slice A rows.length c)
          obtain ⟨z0, z1, z2, -, -, -⟩ := blk_three hset'
          have hkf : ∀ g, g ≠ w.heap.size → (((wr.setCell ⟨w.heap.size, 0, none⟩ (.int .i64 kind)).setCell ⟨w.heap.size, 1, none⟩ (.slice pa pn pc)).setCell ⟨w.heap.size, 2, none⟩ (.slice A rows.length c)).heap[g]? = wr.heap[g]? := fun g hg =>
            (Below.heap_setCell _ _ _ _ hg).trans ((Below.heap_setCell _ _ _ _ hg).trans (Below.heap_setCell _ _ _ _ hg))
          have hzf : (((wr.setCell ⟨w.heap.size, 0, none⟩ (.int .i64 kind)).setCell ⟨w.heap.size, 1, none⟩ (.slice pa pn pc)).setCell ⟨w.heap.size, 2, none⟩ (.slice A rows.length c)).heap.size = wr.heap.size := by simp [World.setCell]
          have hpf := ((HPin.out.keep (w' := wr) (fun g k1 k2 => hT.old g k2 (by omega))).mono (lo' := g5 + 1) (hi' := wr.heap.size) (Nat.le_refl _) hT.size)
          have hpf2 := (hpf.keep (fun g k1 k2 => hkf g (by omega))).mono (lo' := w.heap.size) (hi' := (((wr.setCell ⟨w.heap.size, 0, none⟩ (.int .i64 kind)).setCell ⟨w.heap.size, 1, none⟩ (.slice pa pn pc)).setCell ⟨w.heap.size, 2, none⟩ (.slice A rows.length c)).heap.size) (by omega) (by rw [hzf]; exact Nat.le_refl _)
          have hlen : (rows.map fun x => treeF (x.2 - x.1) (seg p x.1 x.2)).length = rows.length := by simp
          have hownt : wr.ownsRow X0.heap.size 43 3 (.slice A rows.length c) (rows.map fun x => treeF (x.2 - x.1) (seg p x.1 x.2)).length xs := by rw [hlen]; exact hown2
          have hwhole := hpar.tree (kind := kind) (w := w) hownt (by have := hresX.lt; omega) hwX hkf hzf hpf2
          rw [← HT.out, show p.length - 1 + 1 = p.length by omega] at hwhole
          have Hkind := Lib.hid (show (treeF p.length p).kind = kind by rw [HT.out]; rfl)
          have Hwhole := Lib.hid hwhole
          clear hown2 hT hpar hresr hset hset' hbelr hkf hzf hpf hpf2 hlen hownt hwhole
          go_wp2
          exact bodyPost_ret (v := .agg #[.int .i64 kind, .slice pa pn pc, .slice A rows.length c]) (by simp [results, Try.results75, go_sem, z0, z1, z2]) rfl ⟨pa, pn, pc, A, rows.length, c, by rw [Hkind.out], Hwhole.out, hbelf⟩

theorem treeF_len : ∀ (N f : Nat) (p : List Nat), p.length ≤ N → 1 ≤ p.length → p.length ≤ f → treeF f p = treeF p.length p
  | 0, _, p, h1, h2, _ => absurd h1 (by omega)
  | _ + 1, 0, p, _, h2, h3 => absurd h3 (by omega)
  | N + 1, f + 1, p, h1, h2, h3 => by
    obtain ⟨m, hm⟩ : ∃ m, p.length = m + 1 := ⟨p.length - 1, by omega⟩
    rw [treeF_succ]
    conv => rhs; rw [hm, treeF_succ]
    by_cases e : p.length = 1
    · rw [if_pos e, if_pos e]
    · rw [if_neg e, if_neg e]
      congr 1
      apply List.map_congr_left
      intro x hx
      have hx' := (divL_parts p (by omega)).1 x hx
      have hl : (seg p x.1 x.2).length = x.2 - x.1 := seg_length p x.1 x.2 (Nat.le_of_lt hx'.1) hx'.2.1
      rw [treeF_len N f _ (by omega) (by omega) (by omega), treeF_len N m _ (by omega) (by omega) (by omega)]

theorem treeT_any (n : Nat) (b off cap : Nat) (p : List Nat) (w : World) (hS : Sl .i64 w (some ⟨b, off, none⟩) n p) (h0 : 1 ≤ n) (hcap : n ≤ cap) (hn : n ≤ 60) (hc9 : cap ≤ 9223372036854775807) (hB : ∀ i, p.getD i 0 ≤ 1000) :
    Calls Try.prog 75 #[.slice (some ⟨b, off, none⟩) n cap] w (RetTreeT n (treeF n p) w) := by
  induction n using Nat.strongRecOn generalizing b off cap p w with
  | ind n ih =>
    refine treeT_step n (fun m hm b off cap p w h1 h2 h3 h4 h5 h6 => ih m hm b off cap p w h1 h2 h3 h4 h5 h6) b off cap p w hS h0 hcap hn hc9 hB (fun s e f h1 h2 h3 => ?_)
    have hl : (seg p s e).length = e - s := seg_length p s e (Nat.le_of_lt h2) (by rw [hS.len]; exact h3)
    rw [treeF_len (e - s) f _ (by omega) (by omega) (by omega), hl]

/-- The whole tree, and no error. -/
def RetBlocksT (p : List Nat) (w : World) (e : Ending) (w' : World) : Prop :=
  ∃ pa pn pc A n c, e = .returned (.tuple #[.agg #[.int .i64 ((treeF p.length p).kind : Nat), .slice pa pn pc, .slice A n c], .int .i64 0]) ∧ TreeIn w' w.heap.size w'.heap.size p.length (treeF p.length p) (.slice pa pn pc) (.slice A n c) ∧ Below w.heap.size w w'

set_option maxRecDepth 100000 in
theorem blocksT_any (b off n cap : Nat) (p : List Nat) (w : World) (hS : Sl .i64 w (some ⟨b, off, none⟩) n p) (hp : IsPerm p) (hn : n ≤ 60) (h0 : 0 < n) (hcap : n ≤ cap) (hc9 : cap ≤ 9223372036854775807) :
    Calls Try.prog 29 #[.slice (some ⟨b, off, none⟩) n cap] w (RetBlocksT p w) := by
  have hl := hS.len
  subst hl
  have hres := Blk.new w 43 #[.int .i64 0, .slice none 0 0, .slice none 0 0]
  have hbel0 := below_new' w (.cells #[.int .i64 0, .slice none 0 0, .slice none 0 0] 43)
  have Hchk := Lib.hid (fun W (hW : Sl .i64 W (some ⟨b, off, none⟩) p.length p) => check_perm b off p.length cap p W hW hp hn h0)
  have Htree := Lib.hid (fun W (hW : Sl .i64 W (some ⟨b, off, none⟩) p.length p) => treeT_any p.length b off cap p W hW h0 hcap hn hc9 (perm_le hp hn))
  have hS0 := hS.below hbel0
  unfold RetBlocksT
  generalize treeF p.length p = t at *
  go_enter Try.func29, Try.ntmps29
  go_wp2_with (first
    | (go_at_call 16; refine (Hchk.out _ hS0).mono ?_; rintro e w1 ⟨rfl, hb1⟩; have hS1 := hS0.below hb1; have hres1 := (hb1.block _ hres.lt).trans hres)
    | (go_at_call 75; refine (Htree.out _ hS1).mono ?_; rintro e w2 ⟨pa, pn, pc, A, n, c, rfl, hT2, hb2⟩; have HT2 := Lib.hid hT2; clear hT2; have hres2 : Blk w2 w.heap.size 43 #[.int .i64 0, .slice none 0 0, .slice none 0 0] := (hb2.block _ (Nat.lt_of_lt_of_le hres.lt hb1.size)).trans hres1; obtain ⟨r0, r1, r2, q0, q1, q2⟩ := blk_three hres2; have hset := ((hres2.store 0 (.int .i64 t.kind)).store 1 (.slice pa pn pc)).store 2 (.slice A n c)))
  have hset' : Blk (((w2.setCell ⟨w.heap.size, 0, none⟩ (.int .i64 t.kind)).setCell ⟨w.heap.size, 1, none⟩ (.slice pa pn pc)).setCell ⟨w.heap.size, 2, none⟩ (.slice A n c)) w.heap.size 43 #[.int .i64 t.kind, .slice pa pn pc, .slice A n c] := by simpa using hset
  obtain ⟨z0, z1, z2, -, -, -⟩ := blk_three hset'
  have hbelw := ((((hbel0.trans (hb1.mono hbel0.size)).trans (hb2.mono (Nat.le_trans hbel0.size hb1.size))).setCell (p := ⟨w.heap.size, 0, none⟩) (Nat.le_refl _) (.int .i64 t.kind)).setCell (p := ⟨w.heap.size, 1, none⟩) (Nat.le_refl _) (.slice pa pn pc)).setCell (p := ⟨w.heap.size, 2, none⟩) (Nat.le_refl _) (.slice A n c)
  have hw1 : w.heap.size < w1.heap.size := by have := hb1.size; have := hres.lt; omega
  have hzf : (((w2.setCell ⟨w.heap.size, 0, none⟩ (.int .i64 t.kind)).setCell ⟨w.heap.size, 1, none⟩ (.slice pa pn pc)).setCell ⟨w.heap.size, 2, none⟩ (.slice A n c)).heap.size = w2.heap.size := by simp [World.setCell]
  have hTf := TreeIn.mono (lo' := w.heap.size) (hi' := (((w2.setCell ⟨w.heap.size, 0, none⟩ (.int .i64 t.kind)).setCell ⟨w.heap.size, 1, none⟩ (.slice pa pn pc)).setCell ⟨w.heap.size, 2, none⟩ (.slice A n c)).heap.size) (Nat.le_of_lt hw1) (by rw [hzf]; exact Nat.le_refl _) _ _ _ _ (TreeIn.keep (w' := ((w2.setCell ⟨w.heap.size, 0, none⟩ (.int .i64 t.kind)).setCell ⟨w.heap.size, 1, none⟩ (.slice pa pn pc)).setCell ⟨w.heap.size, 2, none⟩ (.slice A n c)) (fun g k1 k2 =>
    (Below.heap_setCell _ _ _ _ (by simp; omega)).trans ((Below.heap_setCell _ _ _ _ (by simp; omega)).trans (Below.heap_setCell _ _ _ _ (by simp; omega)))) _ _ _ _ HT2.out)
  exact bodyPost_ret (v := .tuple #[.agg #[.int .i64 t.kind, .slice pa pn pc, .slice A n c], .int .i64 0]) (by simp [results, Try.results29, go_sem, z0, z1, z2]) rfl ⟨pa, pn, pc, A, n, c, rfl, hTf, hbelw⟩

end Go.Proofs.Ytgdaidmkcgblbaa
