/-
  The walk of blockTree itself, and of Blocks.
-/
import Derived.Test.YtgdaidmkcgblbaaTree
import Derived.Test.YtgdaidmkcgblbaaChk
import Derived.Deep.RegionLaw
namespace Go.Proofs.Ytgdaidmkcgblbaa
open Go.RowKit

/-- What blockTree's loop keeps: the tree under way lies in g5; all that lay when the loop began, but that, is as it was. -/
structure TreeRel (X0 : World) (g5 kind : Nat) (pa : Option Addr) (pn pc k : Nat) (v : Value) (w wr : World) : Prop where
  tree : Blk wr g5 43 #[.int .i64 kind, .slice pa pn pc, v]
  own : ∃ xs, wr.ownsRow X0.heap.size 43 3 v k xs
  size : X0.heap.size ≤ wr.heap.size
  old : ∀ i, i < X0.heap.size → i ≠ g5 → wr.heap[i]? = X0.heap[i]?
  bel : Below w.heap.size w wr

theorem size_new' (w : World) (o : Obj) : (w.alloc o).heap.size = w.heap.size + 1 := by simp

theorem blk_three {w : World} {g : Nat} {t : TypeId} {u v x : Value} (h : Blk w g t #[u, v, x]) :
    w.cell? ⟨g, 0, none⟩ = some u ∧ w.cell? ⟨g, 1, none⟩ = some v ∧ w.cell? ⟨g, 2, none⟩ = some x ∧ w.frozen? ⟨g, 0, none⟩ = false ∧ w.frozen? ⟨g, 1, none⟩ = false ∧ w.frozen? ⟨g, 2, none⟩ = false :=
  ⟨h.cell 0, h.cell 1, h.cell 2, h.free 0, h.free 1, h.free 2⟩

theorem own_same {w w' : World} {B size n : Nat} {e : TypeId} {v : Value} {xs : List Value} (h : w.ownsRow B e size v n xs) (hs : ∀ g, v.ownBlock = some g → w'.heap[g]? = w.heap[g]?) : w'.ownsRow B e size v n xs := by
  obtain ⟨hl, h1 | ⟨g, cap, cur, e1, hb, hg, rest⟩⟩ := h
  · exact ⟨hl, .inl h1⟩
  · exact ⟨hl, .inr ⟨g, cap, cur, e1, hb, (hs g (by rw [e1]; rfl)).trans hg, rest⟩⟩
theorem own_slice {w : World} {B size n : Nat} {e : TypeId} {v : Value} {xs : List Value} (h : w.ownsRow B e size v n xs) : ∃ A c, v = .slice A n c := by
  obtain ⟨hl, ⟨e1, rfl⟩ | ⟨g, cap, cur, e1, _⟩⟩ := h
  · exact ⟨none, 0, e1⟩
  · exact ⟨_, cap, e1⟩

theorem TreeRel.next {X0 w wr w2 w3 : World} {g5 kind k gg cg : Nat} {pa : Option Addr} {pn pc : Nat} {v : Value} {xs ys : List Value} {o : Obj} (hT : TreeRel X0 g5 kind pa pn pc k v w wr) (hX5 : g5 < X0.heap.size) (hw5 : w.heap.size ≤ g5) (hwX : w.heap.size ≤ X0.heap.size)
    (hb2 : Below wr.drew.heap.size wr.drew w2) (hown3 : w2.ownsRow X0.heap.size 43 3 v k xs) (hgrow : (w2.alloc o).grownBy w3 v.ownBlock) (hB3 : Blk w3 g5 43 #[.int .i64 kind, .slice pa pn pc, v])
    (hown4 : w3.ownsRow X0.heap.size 43 3 (.slice (some ⟨gg, 0, none⟩) (k + 1) cg) (k + 1) ys) :
    TreeRel X0 g5 kind pa pn pc (k + 1) (.slice (some ⟨gg, 0, none⟩) (k + 1) cg) w (w3.setCell ⟨g5, 2, none⟩ (.slice (some ⟨gg, 0, none⟩) (k + 1) cg)) := by
  have hs2 : wr.heap.size ≤ w2.heap.size := hb2.size
  have hb3 := own_below hown3 (Nat.le_trans hT.size hs2) hgrow
  have hb3w := own_below (own_base hown3 hwX) (Nat.le_trans hwX (Nat.le_trans hT.size hs2)) hgrow
  have hgg : X0.heap.size ≤ gg := by
    obtain ⟨hl, ⟨e1, h0⟩ | ⟨g, cap, cur, e1, hb, _⟩⟩ := hown4
    · omega
    · injection e1 with e1 e2 e3
      injection e1 with e1
      injection e1 with e1
      omega
  refine ⟨?_, ⟨ys, own_same hown4 fun g hg => ?_⟩, ?_, fun i hi hne => ?_, ?_⟩
  · have := hB3.store 2 (.slice (some ⟨gg, 0, none⟩) (k + 1) cg)
    simpa using this
  · obtain rfl : gg = g := by simpa [Value.ownBlock] using hg
    exact Below.heap_setCell _ _ _ _ (by simp; omega)
  · have := hb3.size
    have := hT.size
    simp [World.setCell]; omega
  · have e1 : w3.heap[i]? = w2.heap[i]? := hb3.block i hi
    have e2 : w2.heap[i]? = wr.heap[i]? := hb2.block i (Nat.lt_of_lt_of_le hi hT.size)
    exact (Below.heap_setCell _ _ _ _ hne).trans (e1.trans (e2.trans (hT.old i hi hne)))
  · exact (((hT.bel.drew).trans (hb2.mono hT.bel.size)).trans hb3w).setCell hw5 _

set_option maxRecDepth 100000 in
set_option maxHeartbeats 4000000 in
theorem blockTree_step (N : Nat) (ih : ∀ m, m < N → ∀ (b off cap : Nat) (p : List Nat) (w : World), Sl .i64 w (some ⟨b, off, none⟩) m p → 1 ≤ m → m ≤ cap → m ≤ 60 → cap ≤ 9223372036854775807 → (∀ i, p.getD i 0 ≤ 1000) →
      Calls Try.prog 75 #[.slice (some ⟨b, off, none⟩) m cap] w (RetTree p w))
    (b off cap : Nat) (p : List Nat) (w : World) (hS : Sl .i64 w (some ⟨b, off, none⟩) N p) (h0 : 1 ≤ N) (hcap : N ≤ cap) (hn : N ≤ 60) (hc9 : cap ≤ 9223372036854775807) (hB : ∀ i, p.getD i 0 ≤ 1000) :
    Calls Try.prog 75 #[.slice (some ⟨b, off, none⟩) N cap] w (RetTree p w) := by
  have hl := hS.len
  subst hl
  by_cases h1 : p.length = 1
  · have hk : kindOf p = 0 := if_pos h1
    have hm : partsOf p = 0 := if_pos h1
    have HK := Lib.hid hk
    have HM := Lib.hid hm
    have hd : ((p.length : Int) == 1) = true := by rw [beq_iff_eq]; omega
    have hres := Blk.new w 43 #[.int .i64 0, .slice none 0 0, .slice none 0 0]
    obtain ⟨c0, c1, c2, f0, f1, f2⟩ := blk_three hres
    clear hk hm h1 hS ih
    go_enter Try.func75, Try.ntmps75
    go_wp2
    refine bodyPost_ret (v := .agg #[.int .i64 0, .slice none 0 0, .slice none 0 0]) (by simp [results, Try.results75, go_sem, c0, c1, c2]) rfl ⟨none, 0, 0, none, 0, by rw [HK.out, HM.out]; rfl, (Below.refl _ _).alloc (Nat.le_refl _) _⟩
  · obtain ⟨i0, hi, hz0, hz1, hz2⟩ := info_parts info_tree
    have hk : kindOf p = (divL p).1 := if_neg h1
    have hm : partsOf p = (divL p).2.length := if_neg h1
    have hparts := divL_parts p (by omega)
    have Hdiv := Lib.hid (fun W hW => divide_any b off p.length cap p W hW (by omega) hcap hn hc9 hB)
    have hd : ((p.length : Int) == 1) = false := by rw [beq_eq_false_iff_ne]; omega
    have hkind : (divL p).1 ≤ 3 := by unfold divL; split <;> first | (simp; done) | (split <;> simp)
    generalize (divL p).1 = kind at *
    generalize (divL p).2 = rows at *
    have HK := Lib.hid hk
    have HM := Lib.hid hm
    have Hparts := Lib.hid hparts
    have Hih := Lib.hid ih
    clear hk hm hparts ih
    have hres := Blk.new w 43 #[.int .i64 0, .slice none 0 0, .slice none 0 0]
    have hbel0 := (below_new' w (.cells #[.int .i64 0, .slice none 0 0, .slice none 0 0] 43))
    have hS0 := hS.below hbel0
    go_enter Try.func75, Try.ntmps75
    by_cases hk3 : kind = 3
    · have d3 : ((kind : Int) == 3) = true := by rw [beq_iff_eq]; omega
      clear hk3
      have Hpat := Lib.hid (fun (W : World) (g c : Nat) (hW : Sl .i64 W (some ⟨b, off, none⟩) p.length p) (ho : W.ownsRow w.heap.size 22 1 (.slice (some ⟨g, 0, none⟩) rows.length c) rows.length (rows.map (partV b off cap))) => pattern_any w.heap.size b off p.length cap c g p rows W hW hn (fun x hx => ⟨(Hparts.out.1 x hx).1, (Hparts.out.1 x hx).2.1⟩) (by have := Hparts.out.2; omega) ho)
      go_wp2_with (first
        | (go_at_call 100; refine (Hdiv.out _ hS0).mono ?_; rintro e w1 ⟨gR, cR, rfl, hown, hb1⟩; have hgR := own_lt hown; have htree0 := Blk.new w1 43 #[.int .i64 kind, .slice none 0 0, .slice none 0 0]; have hS1 := (hS0.below hb1).below (below_new' w1 (.cells #[.int .i64 kind, .slice none 0 0, .slice none 0 0] 43)); have hownw := own_base hown hbel0.size; have hown1 := own_keep hownw (below_new' w1 (.cells #[.int .i64 kind, .slice none 0 0, .slice none 0 0] 43)); have hnew1 := below_new' w1 (.cells #[.int .i64 kind, .slice none 0 0, .slice none 0 0] 43); have hsize1 := size_new' w1 (.cells #[.int .i64 kind, .slice none 0 0, .slice none 0 0] 43))
        | (go_at_call 101; refine (Hpat.out _ _ _ hS1 hown1).mono ?_; rintro e w2 ⟨gP, rfl, hgP, hbP, hlP, hb2⟩; have htree2 := (hb2.block _ htree0.lt).trans htree0; have hc1 := Blk.cell (w := w2) (g := w1.heap.size) (t := 43) (cs := #[.int .i64 kind, .slice none 0 0, .slice none 0 0]) htree2 1; have hf1 := Blk.free (w := w2) (g := w1.heap.size) (t := 43) (cs := #[.int .i64 kind, .slice none 0 0, .slice none 0 0]) htree2 1))
      have htree : Blk (w2.setCell ⟨w1.heap.size, 1, none⟩ (.slice (some ⟨gP, 0, none⟩) rows.length rows.length)) w1.heap.size 43 #[.int .i64 kind, .slice (some ⟨gP, 0, none⟩) rows.length rows.length, .slice none 0 0] := by
        have := Blk.store (w := w2) (g := w1.heap.size) (t := 43) (cs := #[.int .i64 kind, .slice none 0 0, .slice none 0 0]) htree2 1 (.slice (some ⟨gP, 0, none⟩) rows.length rows.length)
        simpa using this
      have hs2 := hb2.size
      rw [hsize1] at hs2
      have hw15 : w.heap.size ≤ w1.heap.size := Nat.le_trans hbel0.size hb1.size
      have hbelX : Below w.heap.size w (w2.setCell ⟨w1.heap.size, 1, none⟩ (.slice (some ⟨gP, 0, none⟩) rows.length rows.length)) := (((hbel0.trans (hb1.mono hbel0.size)).trans (hnew1.mono hw15)).trans (hb2.mono (Nat.le_trans hw15 (by rw [hsize1]; exact Nat.le_succ _)))).setCell (p := ⟨w1.heap.size, 1, none⟩) hw15 _
      have hg5r : w1.heap.size ≠ w.heap.size := by have := hres.lt; have := hb1.size; have := hbel0.size; simp at this ⊢; omega
      have hlw1 : w.heap.size < (w1.alloc (.cells #[.int .i64 kind, .slice none 0 0, .slice none 0 0] 43)).heap.size := by rw [hsize1]; omega
      have hresX : Blk (w2.setCell ⟨w1.heap.size, 1, none⟩ (.slice (some ⟨gP, 0, none⟩) rows.length rows.length)) w.heap.size 43 #[.int .i64 0, .slice none 0 0, .slice none 0 0] :=
        (Below.heap_setCell _ _ _ _ hg5r.symm).trans ((hb2.block _ hlw1).trans (Blk.more' ((hb1.block _ hres.lt).trans hres) _))
      have hg5r : w1.heap.size ≠ w.heap.size := by have := hres.lt; have := hb1.size; omega
      have hgR5 : gR ≠ w1.heap.size := by omega
      have HrowX := Lib.hid (show ∀ i (hi : i < rows.length), (w2.setCell ⟨w1.heap.size, 1, none⟩ (.slice (some ⟨gP, 0, none⟩) rows.length rows.length)).cell? ⟨gR, i, none⟩ = some (partV b off cap rows[i]) by
        intro i hi
        rw [World.cell?_of_block (w := w1) (a := ⟨gR, i, none⟩) ((Below.heap_setCell _ _ _ gR hgR5).trans ((hb2.block gR (by rw [hsize1]; omega)).trans (Below.heap_alloc _ _ gR hgR.1))), own_cell hown i hi]
        simp [hi])
      have hgRl : gR < (w2.setCell ⟨w1.heap.size, 1, none⟩ (.slice (some ⟨gP, 0, none⟩) rows.length rows.length)).heap.size := by simp [World.setCell]; omega
      generalize (w2.setCell ⟨w1.heap.size, 1, none⟩ (.slice (some ⟨gP, 0, none⟩) rows.length rows.length)) = X0 at *
      generalize w1.heap.size = g5 at *
      obtain ⟨pa, pn, pc, hpa⟩ : ∃ (pa : Option Addr) (pn pc : Nat), Value.slice (some ⟨gP, 0, none⟩) rows.length rows.length = .slice pa pn pc := ⟨_, _, _, rfl⟩
      rw [hpa] at htree
      have hw5 : w.heap.size ≤ g5 := hw15
      have hwX : w.heap.size ≤ X0.heap.size := hbelX.size
      clear hpa hres hbel0 hS0 hown hgR hb1 Hpat hown1 hownw hS1 htree0 htree2 hc1 hf1 hb2 hbP hnew1 hsize1 hs2 hgP hlP
      have hSX := hS.below hbelX
      go_loopw [26] (fun i wr => ∃ (k : Nat) (v : Value), k ≤ rows.length ∧ i = .int .i64 k ∧ TreeRel X0 g5 kind pa pn pc k v w wr) (fun i _ => rows.length - (intOf i).toNat)
      case atStart => exact ⟨0, _, Nat.zero_le _, rfl, htree, ⟨[], rfl, .inl ⟨rfl, rfl⟩⟩, Nat.le_refl _, fun _ _ _ => rfl, hbelX⟩
      case round =>
        obtain ⟨k, v, hk, rfl, hT⟩ := hrel
        obtain ⟨xs, hown2⟩ := hT.own
        have hresr : Blk wr w.heap.size 43 #[.int .i64 0, .slice none 0 0, .slice none 0 0] := (hT.old _ hresX.lt hg5r.symm).trans hresX
        obtain ⟨r0, r1, r2, q0, q1, q2⟩ := blk_three hresr
        obtain ⟨t0, t1, t2, s0, s1, s2⟩ := blk_three hT.tree
        by_cases hlt : k < rows.length
        · have ck : wr.cell? ⟨gR, k, none⟩ = _ := (World.cell?_of_block (w := X0) (a := ⟨gR, k, none⟩) (hT.old gR hgRl hgR5)).trans (HrowX.out k hlt)
          have hx := Hparts.out.1 rows[k] (List.getElem_mem hlt)
          have hSr := hS.below hT.bel
          generalize rows[k] = xk at *
          obtain ⟨s, e⟩ := xk
          unfold partV at ck
          dsimp only at ck hx
          have hg5l : g5 < wr.heap.size := hT.tree.lt
          have Hsub := Lib.hid (fun (W : World) (hW : Sl .i64 W (some ⟨b, off, none⟩) p.length p) => Hih.out (e - s) hx.2.2 b (off + s) (cap - s) (seg p s e) W (hW.seg s e (by omega) hx.2.1) (by omega) (by omega) (by omega) (by omega) (fun i => by
            by_cases hi : i < e - s
            · rw [seg_get p s e i hi]; exact hB _
            · unfold seg; rw [List.getD_eq_getElem?_getD, List.getElem?_eq_none (by rw [List.length_take]; omega)]; exact Nat.zero_le _))
          have HB := Lib.hid (fun (W : World) (h : Blk W g5 43 #[.int .i64 kind, .slice pa pn pc, v]) => (show W.cell? ⟨g5, 2, none⟩ = some v ∧ W.frozen? ⟨g5, 2, none⟩ = false from ⟨h.cell 2, h.free 2⟩))
          have HT := Lib.hid hT
          have hm60 := Hparts.out.2
          have hownd : wr.drew.ownsRow X0.heap.size 43 3 v k xs := hown2
          have hTd : Blk wr.drew g5 43 #[.int .i64 kind, .slice pa pn pc, v] := hT.tree
          have hg5d : g5 < wr.drew.heap.size := hT.tree.lt
          have hSd : Sl .i64 wr.drew (some ⟨b, off, none⟩) p.length p := hSr
          have h63 : k + 1 ≤ maxLen := by unfold maxLen; omega
          have h47 : (k + 1) * 56 ≤ 140737488355328 := by omega
          clear hT r0 r1 r2 q0 q1 q2 t0 t1 s0 s1
          go_wp2
          have td2 := hTd.cell 2
          go_region_law (first
            | (refine step_append_lies _ rfl _ _ _ rfl X0.heap.size 43 i0 _ 3 56 Try.underlying41 hi hz0 hz1 hz2 rfl (Nat.succ_pos 2) v k xs rfl (hown3.alloc _) ⟨w2.heap.size, 0, none⟩ 1 1 [.int .i64 (kindOf (seg p s e)), .slice pa' pn' pc', .slice A' (partsOf (seg p s e)) c'] rfl rfl (World.news_of_block (cs := #[.int .i64 (kindOf (seg p s e)), .slice pa' pn' pc', .slice A' (partsOf (seg p s e)) c']) (t := 43) (fr := (0, 0)) (heap_alloc_new w2 _)) (three_cells _ _ _ rfl rfl rfl) Nat.one_pos h63 h47 (alloc_size_le _ _ (Nat.le_trans HT.out.size hsz2)) (w2.heap.size + 1) (size_new' _ _) ?_; intro gg cg w3 hown4 hgrow hat hlt3; have hB3 : Blk w3 g5 43 #[.int .i64 kind, .slice pa pn pc, v] := (hgrow.block g5 (hB2.more' _).lt (own_not hown3 htree.lt)).trans (hB2.more' _); have kc3 := hB3.cell 2; have kf3 := hB3.free 2)
            | (go_simp; go_at_call 75; refine (Hsub.out _ ?_).mono ?_; (exact hSd); rintro e' w2 ⟨pa', pn', pc', A', c', rfl, hb2⟩; have hB2 : Blk w2 g5 43 #[.int .i64 kind, .slice pa pn pc, v] := (hb2.block g5 hg5d).trans hTd; have hown3 := own_keep hownd hb2; have hsz2 : wr.heap.size ≤ w2.heap.size := hb2.size; have kc2 := hB2.cell 2; have kc2a := (hB2.more' (.cells #[.int .i64 (kindOf (seg p s e)), .slice pa' pn' pc', .slice A' (partsOf (seg p s e)) c'] 43)).cell 2))
          all_goals
            have Hfin := Lib.hid (HT.out.next htree.lt hw5 hwX hb2 hown3 hgrow hB3 hown4)
            go_wp2
            go_roundw
            case rel => exact ⟨k + 1, _, by omega, by go_num, Hfin.out⟩
            case measure => simp [intOf]; omega
        · obtain rfl : k = rows.length := by omega
          obtain ⟨A, c, rfl⟩ := own_slice hown2
          have hbelr := hT.bel
          have hset := ((hresr.store 0 (.int .i64 kind)).store 1 (.slice pa pn pc)).store 2 (.slice A rows.length c)
          have hset' : Blk (((wr.setCell ⟨w.heap.size, 0, none⟩ (.int .i64 kind)).setCell ⟨w.heap.size, 1, none⟩ (.slice pa pn pc)).setCell ⟨w.heap.size, 2, none⟩ (.slice A rows.length c)) w.heap.size 43 #[.int .i64 kind, .slice pa pn pc, .slice A rows.length c] := by simpa using hset
          have hbelf := ((hbelr.setCell (p := ⟨w.heap.size, 0, none⟩) (Nat.le_refl _) (.int .i64 kind)).setCell (p := ⟨w.heap.size, 1, none⟩) (Nat.le_refl _) (.slice pa pn pc)).setCell (p := ⟨w.heap.size, 2, none⟩) (Nat.le_refl _) (.slice A rows.length c)
          obtain ⟨z0, z1, z2, -, -, -⟩ := blk_three hset'
          clear hown2 hT hresr hset hset' hbelr
          go_wp2
          exact bodyPost_ret (v := .agg #[.int .i64 kind, .slice pa pn pc, .slice A rows.length c]) (by simp [results, Try.results75, go_sem, z0, z1, z2]) rfl ⟨pa, pn, pc, A, c, by rw [HK.out, HM.out], hbelf⟩

    · have d3 : ((kind : Int) == 3) = false := by rw [beq_eq_false_iff_ne]; omega
      go_wp2_with (go_at_call 100; refine (Hdiv.out _ hS0).mono ?_; rintro e w1 ⟨gR, cR, rfl, hown, hb1⟩)
      have hgR := own_lt hown
      have htree := Blk.new w1 43 #[.int .i64 kind, .slice none 0 0, .slice none 0 0]
      have hbelX : Below w.heap.size w (w1.alloc (.cells #[.int .i64 kind, .slice none 0 0, .slice none 0 0] 43)) := (hbel0.trans (hb1.mono hbel0.size)).alloc (Nat.le_trans hbel0.size hb1.size) _
      have hresX : Blk (w1.alloc (.cells #[.int .i64 kind, .slice none 0 0, .slice none 0 0] 43)) w.heap.size 43 #[.int .i64 0, .slice none 0 0, .slice none 0 0] := Blk.more' ((hb1.block _ hres.lt).trans hres) _
      have hg5r : w1.heap.size ≠ w.heap.size := by have := hres.lt; have := hb1.size; omega
      have HrowX := Lib.hid (show ∀ i (hi : i < rows.length), (w1.alloc (.cells #[.int .i64 kind, .slice none 0 0, .slice none 0 0] 43)).cell? ⟨gR, i, none⟩ = some (partV b off cap rows[i]) by
        intro i hi
        rw [World.cell?_of_block (w := w1) (a := ⟨gR, i, none⟩) (Below.heap_alloc _ _ _ hgR.1), own_cell hown i hi]
        simp [hi])
      have hgRl : gR < (w1.alloc (.cells #[.int .i64 kind, .slice none 0 0, .slice none 0 0] 43)).heap.size := by simp; omega
      have hgR5 : gR ≠ w1.heap.size := by omega
      have hw15 : w.heap.size ≤ w1.heap.size := Nat.le_trans hbel0.size hb1.size
      generalize (w1.alloc (.cells #[.int .i64 kind, .slice none 0 0, .slice none 0 0] 43)) = X0 at *
      generalize w1.heap.size = g5 at *
      obtain ⟨pa, pn, pc, hpa, hpn, hpc⟩ : ∃ (pa : Option Addr) (pn pc : Nat), pa = none ∧ pn = 0 ∧ pc = 0 := ⟨_, _, _, rfl, rfl, rfl⟩
      rw [show (#[.int .i64 kind, .slice none 0 0, .slice none 0 0] : Array Value) = #[.int .i64 kind, .slice pa pn pc, .slice none 0 0] by rw [hpa, hpn, hpc]] at htree
      have hw5 : w.heap.size ≤ g5 := by omega
      have hwX : w.heap.size ≤ X0.heap.size := hbelX.size
      clear hpa hpn hpc hres hbel0 hS0 hown hgR hb1
      have hSX := hS.below hbelX
      go_loopw [26] (fun i wr => ∃ (k : Nat) (v : Value), k ≤ rows.length ∧ i = .int .i64 k ∧ TreeRel X0 g5 kind pa pn pc k v w wr) (fun i _ => rows.length - (intOf i).toNat)
      case atStart => exact ⟨0, _, Nat.zero_le _, rfl, htree, ⟨[], rfl, .inl ⟨rfl, rfl⟩⟩, Nat.le_refl _, fun _ _ _ => rfl, hbelX⟩
      case round =>
        obtain ⟨k, v, hk, rfl, hT⟩ := hrel
        obtain ⟨xs, hown2⟩ := hT.own
        have hresr : Blk wr w.heap.size 43 #[.int .i64 0, .slice none 0 0, .slice none 0 0] := (hT.old _ hresX.lt hg5r.symm).trans hresX
        obtain ⟨r0, r1, r2, q0, q1, q2⟩ := blk_three hresr
        obtain ⟨t0, t1, t2, s0, s1, s2⟩ := blk_three hT.tree
        by_cases hlt : k < rows.length
        · have ck : wr.cell? ⟨gR, k, none⟩ = _ := (World.cell?_of_block (w := X0) (a := ⟨gR, k, none⟩) (hT.old gR hgRl hgR5)).trans (HrowX.out k hlt)
          have hx := Hparts.out.1 rows[k] (List.getElem_mem hlt)
          have hSr := hS.below hT.bel
          generalize rows[k] = xk at *
          obtain ⟨s, e⟩ := xk
          unfold partV at ck
          dsimp only at ck hx
          have hg5l : g5 < wr.heap.size := hT.tree.lt
          have Hsub := Lib.hid (fun (W : World) (hW : Sl .i64 W (some ⟨b, off, none⟩) p.length p) => Hih.out (e - s) hx.2.2 b (off + s) (cap - s) (seg p s e) W (hW.seg s e (by omega) hx.2.1) (by omega) (by omega) (by omega) (by omega) (fun i => by
            by_cases hi : i < e - s
            · rw [seg_get p s e i hi]; exact hB _
            · unfold seg; rw [List.getD_eq_getElem?_getD, List.getElem?_eq_none (by rw [List.length_take]; omega)]; exact Nat.zero_le _))
          have HB := Lib.hid (fun (W : World) (h : Blk W g5 43 #[.int .i64 kind, .slice pa pn pc, v]) => (show W.cell? ⟨g5, 2, none⟩ = some v ∧ W.frozen? ⟨g5, 2, none⟩ = false from ⟨h.cell 2, h.free 2⟩))
          have HT := Lib.hid hT
          have hm60 := Hparts.out.2
          have hownd : wr.drew.ownsRow X0.heap.size 43 3 v k xs := hown2
          have hTd : Blk wr.drew g5 43 #[.int .i64 kind, .slice pa pn pc, v] := hT.tree
          have hg5d : g5 < wr.drew.heap.size := hT.tree.lt
          have hSd : Sl .i64 wr.drew (some ⟨b, off, none⟩) p.length p := hSr
          have h63 : k + 1 ≤ maxLen := by unfold maxLen; omega
          have h47 : (k + 1) * 56 ≤ 140737488355328 := by omega
          clear hT r0 r1 r2 q0 q1 q2 t0 t1 s0 s1
          go_wp2
          have td2 := hTd.cell 2
          go_region_law (first
            | (refine step_append_lies _ rfl _ _ _ rfl X0.heap.size 43 i0 _ 3 56 Try.underlying41 hi hz0 hz1 hz2 rfl (Nat.succ_pos 2) v k xs rfl (hown3.alloc _) ⟨w2.heap.size, 0, none⟩ 1 1 [.int .i64 (kindOf (seg p s e)), .slice pa' pn' pc', .slice A' (partsOf (seg p s e)) c'] rfl rfl (World.news_of_block (cs := #[.int .i64 (kindOf (seg p s e)), .slice pa' pn' pc', .slice A' (partsOf (seg p s e)) c']) (t := 43) (fr := (0, 0)) (heap_alloc_new w2 _)) (three_cells _ _ _ rfl rfl rfl) Nat.one_pos h63 h47 (alloc_size_le _ _ (Nat.le_trans HT.out.size hsz2)) (w2.heap.size + 1) (size_new' _ _) ?_; intro gg cg w3 hown4 hgrow hat hlt3; have hB3 : Blk w3 g5 43 #[.int .i64 kind, .slice pa pn pc, v] := (hgrow.block g5 (hB2.more' _).lt (own_not hown3 htree.lt)).trans (hB2.more' _); have kc3 := hB3.cell 2; have kf3 := hB3.free 2)
            | (go_simp; go_at_call 75; refine (Hsub.out _ ?_).mono ?_; (exact hSd); rintro e' w2 ⟨pa', pn', pc', A', c', rfl, hb2⟩; have hB2 : Blk w2 g5 43 #[.int .i64 kind, .slice pa pn pc, v] := (hb2.block g5 hg5d).trans hTd; have hown3 := own_keep hownd hb2; have hsz2 : wr.heap.size ≤ w2.heap.size := hb2.size; have kc2 := hB2.cell 2; have kc2a := (hB2.more' (.cells #[.int .i64 (kindOf (seg p s e)), .slice pa' pn' pc', .slice A' (partsOf (seg p s e)) c'] 43)).cell 2))
          all_goals
            have Hfin := Lib.hid (HT.out.next htree.lt hw5 hwX hb2 hown3 hgrow hB3 hown4)
            go_wp2
            go_roundw
            case rel => exact ⟨k + 1, _, by omega, by go_num, Hfin.out⟩
            case measure => simp [intOf]; omega
        · obtain rfl : k = rows.length := by omega
          obtain ⟨A, c, rfl⟩ := own_slice hown2
          have hbelr := hT.bel
          have hset := ((hresr.store 0 (.int .i64 kind)).store 1 (.slice pa pn pc)).store 2 (.slice A rows.length c)
          have hset' : Blk (((wr.setCell ⟨w.heap.size, 0, none⟩ (.int .i64 kind)).setCell ⟨w.heap.size, 1, none⟩ (.slice pa pn pc)).setCell ⟨w.heap.size, 2, none⟩ (.slice A rows.length c)) w.heap.size 43 #[.int .i64 kind, .slice pa pn pc, .slice A rows.length c] := by simpa using hset
          have hbelf := ((hbelr.setCell (p := ⟨w.heap.size, 0, none⟩) (Nat.le_refl _) (.int .i64 kind)).setCell (p := ⟨w.heap.size, 1, none⟩) (Nat.le_refl _) (.slice pa pn pc)).setCell (p := ⟨w.heap.size, 2, none⟩) (Nat.le_refl _) (.slice A rows.length c)
          obtain ⟨z0, z1, z2, -, -, -⟩ := blk_three hset'
          clear hown2 hT hresr hset hset' hbelr
          go_wp2
          exact bodyPost_ret (v := .agg #[.int .i64 kind, .slice pa pn pc, .slice A rows.length c]) (by simp [results, Try.results75, go_sem, z0, z1, z2]) rfl ⟨pa, pn, pc, A, c, by rw [HK.out, HM.out], hbelf⟩

theorem blockTree_any (n : Nat) (b off cap : Nat) (p : List Nat) (w : World) (hS : Sl .i64 w (some ⟨b, off, none⟩) n p) (h0 : 1 ≤ n) (hcap : n ≤ cap) (hn : n ≤ 60) (hc9 : cap ≤ 9223372036854775807) (hB : ∀ i, p.getD i 0 ≤ 1000) :
    Calls Try.prog 75 #[.slice (some ⟨b, off, none⟩) n cap] w (RetTree p w) := by
  induction n using Nat.strongRecOn generalizing b off cap p w with
  | ind n ih => exact blockTree_step n (fun m hm b off cap p w h1 h2 h3 h4 h5 h6 => ih m hm b off cap p w h1 h2 h3 h4 h5 h6) b off cap p w hS h0 hcap hn hc9 hB

/-- A tree, and no error. -/
def RetBlocks (p : List Nat) (w : World) (e : Ending) (w' : World) : Prop :=
  ∃ pa pn pc A c, e = .returned (.tuple #[.agg #[.int .i64 (kindOf p), .slice pa pn pc, .slice A (partsOf p) c], .int .i64 0]) ∧ Below w.heap.size w w'

theorem perm_le {p : List Nat} (hp : IsPerm p) (h : p.length ≤ 60) : ∀ i, p.getD i 0 ≤ 1000 := by
  intro i
  by_cases hi : i < p.length
  · have := hp.lt hi; omega
  · rw [List.getD_eq_getElem?_getD, List.getElem?_eq_none (by omega)]; exact Nat.zero_le _

set_option maxRecDepth 100000 in
theorem blocks_any (b off n cap : Nat) (p : List Nat) (w : World) (hS : Sl .i64 w (some ⟨b, off, none⟩) n p) (hp : IsPerm p) (hn : n ≤ 60) (h0 : 0 < n) (hcap : n ≤ cap) (hc9 : cap ≤ 9223372036854775807) :
    Calls Try.prog 29 #[.slice (some ⟨b, off, none⟩) n cap] w (RetBlocks p w) := by
  have hl := hS.len
  subst hl
  have hres := Blk.new w 43 #[.int .i64 0, .slice none 0 0, .slice none 0 0]
  have hbel0 := below_new' w (.cells #[.int .i64 0, .slice none 0 0, .slice none 0 0] 43)
  have Hchk := Lib.hid (fun W (hW : Sl .i64 W (some ⟨b, off, none⟩) p.length p) => check_perm b off p.length cap p W hW hp hn h0)
  have Htree := Lib.hid (fun W (hW : Sl .i64 W (some ⟨b, off, none⟩) p.length p) => blockTree_any p.length b off cap p W hW h0 hcap hn hc9 (perm_le hp hn))
  have hS0 := hS.below hbel0
  go_enter Try.func29, Try.ntmps29
  go_wp2_with (first
    | (go_at_call 16; refine (Hchk.out _ hS0).mono ?_; rintro e w1 ⟨rfl, hb1⟩; have hS1 := hS0.below hb1; have hres1 := (hb1.block _ hres.lt).trans hres)
    | (go_at_call 75; refine (Htree.out _ hS1).mono ?_; rintro e w2 ⟨pa, pn, pc, A, c, rfl, hb2⟩; have hres2 : Blk w2 w.heap.size 43 #[.int .i64 0, .slice none 0 0, .slice none 0 0] := (hb2.block _ (Nat.lt_of_lt_of_le hres.lt hb1.size)).trans hres1; obtain ⟨r0, r1, r2, q0, q1, q2⟩ := blk_three hres2; have hset := ((hres2.store 0 (.int .i64 (kindOf p))).store 1 (.slice pa pn pc)).store 2 (.slice A (partsOf p) c)))
  have hset' : Blk (((w2.setCell ⟨w.heap.size, 0, none⟩ (.int .i64 (kindOf p))).setCell ⟨w.heap.size, 1, none⟩ (.slice pa pn pc)).setCell ⟨w.heap.size, 2, none⟩ (.slice A (partsOf p) c)) w.heap.size 43 #[.int .i64 (kindOf p), .slice pa pn pc, .slice A (partsOf p) c] := by simpa using hset
  obtain ⟨z0, z1, z2, -, -, -⟩ := blk_three hset'
  have hbelw := ((((hbel0.trans (hb1.mono hbel0.size)).trans (hb2.mono (Nat.le_trans hbel0.size hb1.size))).setCell (p := ⟨w.heap.size, 0, none⟩) (Nat.le_refl _) (.int .i64 (kindOf p))).setCell (p := ⟨w.heap.size, 1, none⟩) (Nat.le_refl _) (.slice pa pn pc)).setCell (p := ⟨w.heap.size, 2, none⟩) (Nat.le_refl _) (.slice A (partsOf p) c)
  exact bodyPost_ret (v := .tuple #[.agg #[.int .i64 (kindOf p), .slice pa pn pc, .slice A (partsOf p) c], .int .i64 0]) (by simp [results, Try.results29, go_sem, z0, z1, z2]) rfl ⟨pa, pn, pc, A, c, rfl, hbelw⟩

end Go.Proofs.Ytgdaidmkcgblbaa
