/-
  The walk of fill.
  The walk of Fill: the permutation that a tree stands for, or an error.
-/
import Derived.Test.YtgdaidmkcgblbaaInfl
import Derived.Test.YtgdaidmkcgblbaaTreeT
namespace Go.Proofs.Ytgdaidmkcgblbaa
open Go.RowKit

/-- Of what lay in w only block gc may be another. -/
structure But (gc : Nat) (w w' : World) : Prop where
  os : w'.os = w.os
  tape : w'.tape = w.tape
  output : w'.output = w.output
  size : w.heap.size ≤ w'.heap.size
  block : ∀ k, k < w.heap.size → k ≠ gc → w'.heap[k]? = w.heap[k]?
theorem But.refl (gc : Nat) (w : World) : But gc w w := ⟨rfl, rfl, rfl, Nat.le_refl _, fun _ _ _ => rfl⟩
theorem But.trans {gc : Nat} {a b c : World} (h : But gc a b) (k : But gc b c) : But gc a c :=
  ⟨k.os.trans h.os, k.tape.trans h.tape, k.output.trans h.output, Nat.le_trans h.size k.size, fun i hi hn => (k.block i (Nat.lt_of_lt_of_le hi h.size) hn).trans (h.block i hi hn)⟩
theorem But.of_below {gc : Nat} {w w' : World} (h : Below w.heap.size w w') : But gc w w' := ⟨h.os, h.tape, h.output, h.size, fun k hk _ => h.block k hk⟩
theorem But.below {gc : Nat} {w w' : World} (h : But gc w w') (hg : gc ≤ w.heap.size) : Below gc w w' := ⟨h.os, h.tape, h.output, h.size, fun k hk => h.block k (by omega) (by omega)⟩
theorem But.setCell {gc : Nat} {a w : World} (h : But gc a w) (i : Nat) (u : Value) : But gc a (w.setCell ⟨gc, i, none⟩ u) :=
  ⟨h.os, h.tape, h.output, by simpa [World.setCell] using h.size, fun k hk hn => (Below.heap_setCell _ _ _ _ hn).trans (h.block k hk hn)⟩
theorem But.drew {gc : Nat} {a w : World} (h : But gc a w) : But gc a w.drew := ⟨h.os, h.tape, h.output, h.size, h.block⟩
theorem But.cell {gc : Nat} {w w' : World} (h : But gc w w') {p : Addr} (hp : p.block < w.heap.size) (hn : p.block ≠ gc) : w'.cell? p = w.cell? p := World.cell?_of_block (w := w) (h.block p.block hp hn)

theorem But.and_below {gc : Nat} {X w w' : World} (h : But gc X w) (k : Below X.heap.size w w') : But gc X w' :=
  ⟨k.os.trans h.os, k.tape.trans h.tape, k.output.trans h.output, Nat.le_trans h.size k.size, fun i hi hn => (k.block i hi).trans (h.block i hi hn)⟩

/-- What fill returns. -/
def RetFill (R : Nat × Option (List Nat)) (gc : Nat) (w : World) (e : Ending) (w' : World) : Prop :=
  But gc w w' ∧ Blk w' gc 3 #[.int .i64 (R.1 : Nat)] ∧ ((R.2 = none ∧ e = .returned (.tuple #[.slice none 0 0, .bool false])) ∨
    ∃ l g c, R.2 = some l ∧ e = .returned (.tuple #[.slice (some ⟨g, 0, none⟩) l.length c, .bool true]) ∧ w.heap.size ≤ g ∧ Sl .i64 w' (some ⟨g, 0, none⟩) l.length l)
theorem ret_fill_none {c gc : Nat} {w w' : World} (h1 : But gc w w') (h2 : Blk w' gc 3 #[.int .i64 (c : Nat)]) : RetFill (c, none) gc w (.returned (.tuple #[.slice none 0 0, .bool false])) w' := ⟨h1, h2, .inl ⟨rfl, rfl⟩⟩
theorem ret_fill_some {c gc : Nat} {w w' : World} {l : List Nat} {g cap : Nat} (h1 : But gc w w') (h2 : Blk w' gc 3 #[.int .i64 (c : Nat)]) (h3 : w.heap.size ≤ g) (h4 : Sl .i64 w' (some ⟨g, 0, none⟩) l.length l) : RetFill (c, some l) gc w (.returned (.tuple #[.slice (some ⟨g, 0, none⟩) l.length cap, .bool true])) w' := ⟨h1, h2, .inr ⟨l, g, cap, rfl, rfl, h3, h4⟩⟩

theorem ret_fill_isnone {c gc : Nat} {w w' : World} {e : Ending} (h : RetFill (c, none) gc w e w') : But gc w w' ∧ Blk w' gc 3 #[.int .i64 (c : Nat)] ∧ e = .returned (.tuple #[.slice none 0 0, .bool false]) := by
  obtain ⟨h1, h2, ⟨-, rfl⟩ | ⟨l, g, cap, e1, -⟩⟩ := h
  · exact ⟨h1, h2, rfl⟩
  · cases e1
theorem ret_fill_issome {c gc : Nat} {w w' : World} {e : Ending} {l : List Nat} (h : RetFill (c, some l) gc w e w') : ∃ g cap, e = .returned (.tuple #[.slice (some ⟨g, 0, none⟩) l.length cap, .bool true]) ∧ But gc w w' ∧ Blk w' gc 3 #[.int .i64 (c : Nat)] ∧ w.heap.size ≤ g ∧ Sl .i64 w' (some ⟨g, 0, none⟩) l.length l := by
  obtain ⟨h1, h2, ⟨e1, -⟩ | ⟨l', g, cap, e1, rfl, h3, h4⟩⟩ := h
  · cases e1
  · injection e1 with e1
    subst e1
    exact ⟨g, cap, rfl, h1, h2, h3, h4⟩

/-- The blocks so far, in a row that v owns. -/
def BlocksAt (B : Nat) (v : Value) (ls : List (List Nat)) (xs : List Value) (w : World) : Prop :=
  xs.length = ls.length ∧ ∀ i, i < ls.length → ∃ g c, xs[i]? = some (.slice (some ⟨g, 0, none⟩) (ls.getD i []).length c) ∧ B ≤ g ∧ g < w.heap.size ∧ v.ownBlock ≠ some g ∧ Sl .i64 w (some ⟨g, 0, none⟩) (ls.getD i []).length (ls.getD i [])
theorem BlocksAt.nil (B : Nat) (v : Value) (w : World) : BlocksAt B v [] [] w := ⟨rfl, fun _ h => absurd h (by simp)⟩

/-- A row of one's own elsewhere stays. -/
theorem Sl.stay {k : IntKind} {w w' : World} {g n : Nat} {l : List Nat} (h : Sl k w (some ⟨g, 0, none⟩) n l) (hs : w.heap.size ≤ w'.heap.size) (hb : w'.heap[g]? = w.heap[g]?) : Sl k w' (some ⟨g, 0, none⟩) n l := by
  obtain ⟨h1, h2, h3⟩ := h
  refine ⟨h1, h2, fun hn => ?_⟩
  obtain ⟨b, off, e, hs', hc⟩ := h3 hn
  injection e with e
  injection e with e1 e2
  subst e1 e2
  exact ⟨g, 0, rfl, Nat.lt_of_lt_of_le hs' hs, fun i hi => (World.cell?_of_block (w := w) (a := ⟨g, 0 + i, none⟩) hb).trans (hc i hi)⟩

theorem BlocksAt.next {B gc k gg cg g2 c2 : Nat} {v : Value} {ls : List (List Nat)} {l : List Nat} {xs : List Value} {ob : Obj} {wr w2 w3 : World} (h : BlocksAt B v ls xs wr) (hgc : gc < B) (hv : ∀ g, v.ownBlock = some g → g < wr.heap.size)
    (hb2 : But gc wr w2) (hg2 : wr.heap.size ≤ g2) (h0 : 1 ≤ l.length) (hB : B ≤ wr.heap.size) (hl : Sl .i64 w2 (some ⟨g2, 0, none⟩) l.length l) (hgrow : (w2.alloc ob).grownBy w3 v.ownBlock) (hat : v.ownBlock = some gg ∨ gg = w2.heap.size + 1) :
    BlocksAt B (.slice (some ⟨gg, 0, none⟩) (k + 1) cg) (ls ++ [l]) (xs ++ [.slice (some ⟨g2, 0, none⟩) l.length c2]) w3 := by
  obtain ⟨hl1, hp⟩ := h
  have hs2 := hb2.size
  have hs3 := hgrow.size
  rw [size_new'] at hs3
  have hkeep : ∀ g, g < w2.heap.size → v.ownBlock ≠ some g → w3.heap[g]? = w2.heap[g]? := fun g h1 h2 => (hgrow.block g (by rw [size_new']; omega) (fun e => h2 e.symm)).trans (Below.heap_alloc _ _ _ h1)
  refine ⟨by rw [List.length_append, List.length_append, hl1]; rfl, fun i hi => ?_⟩
  by_cases e : i < ls.length
  · obtain ⟨g, c, h1, h2, h3, h4, h5⟩ := hp i e
    rw [getD_left ls [l] i e]
    refine ⟨g, c, by rw [List.getElem?_append_left (by omega)]; exact h1, h2, by omega, fun hg => ?_, ?_⟩
    · obtain rfl : gg = g := by simpa [Value.ownBlock] using hg
      rcases hat with e | e
      · exact h4 e
      · omega
    · exact h5.stay (by omega) ((hkeep g (by omega) h4).trans (hb2.block g h3 (by omega)))
  · have e' : i = ls.length := by rw [List.length_append, List.length_singleton] at hi; omega
    subst e'
    rw [getD_last]
    obtain ⟨b, off, e1, hs, _⟩ := hl.at (by omega)
    injection e1 with e1
    injection e1 with e1 _
    subst e1
    have hne : v.ownBlock ≠ Option.some g2 := fun e => by have := hv g2 e; omega
    refine ⟨g2, c2, by rw [List.getElem?_append_right (by omega), hl1]; simp, by omega, by omega, fun hg => ?_, ?_⟩
    · obtain rfl : gg = g2 := by simpa [Value.ownBlock] using hg
      rcases hat with e | e
      · exact hne e
      · omega
    · exact hl.stay (by omega) (hkeep g2 hs hne)

/-- What fill's loop keeps. -/
structure FillRel (X0 : World) (gc kind : Nat) (c0 : Nat) (R : Nat × Option (List (List Nat))) (f : IT → Nat → Nat × Option (List Nat)) (t : IT) (k : Nat) (v : Value) (wr : World) (ck : Nat) (ls : List (List Nat)) (xs : List Value) : Prop where
  rest : fillP f t.kind (t.parts.drop k) ck ls = R
  own : wr.ownsRow X0.heap.size 22 1 v k xs
  blocks : BlocksAt X0.heap.size v ls xs wr
  cnt : Blk wr gc 3 #[.int .i64 (ck : Nat)]
  but : But gc X0 wr
  ok : AccOk c0 ck ls
  len : ls.length = k

theorem FillRel.next {X0 wr w2 w3 : World} {gc kind c0 k ck c1 gg cg g2 cp2 : Nat} {R : Nat × Option (List (List Nat))} {f : IT → Nat → Nat × Option (List Nat)} {t : IT} {v : Value} {ls : List (List Nat)} {l : List Nat} {xs : List Value} {ob : Obj}
    (hT : FillRel X0 gc kind c0 R f t k v wr ck ls xs) (hgc : gc < X0.heap.size) (hrest : fillP f t.kind (t.parts.drop (k + 1)) c1 (ls ++ [l]) = R) (hok : FillOk ck c1 l) (hb2 : But gc wr w2) (hc2 : Blk w2 gc 3 #[.int .i64 (c1 : Nat)]) (hg2 : wr.heap.size ≤ g2)
    (hl : Sl .i64 w2 (some ⟨g2, 0, none⟩) l.length l) (hown2 : w2.ownsRow X0.heap.size 22 1 v k xs) (hgrow : (w2.alloc ob).grownBy w3 v.ownBlock) (hat : v.ownBlock = some gg ∨ gg = w2.heap.size + 1)
    (hown3 : w3.ownsRow X0.heap.size 22 1 (.slice (some ⟨gg, 0, none⟩) (k + 1) cg) (k + 1) (xs ++ [.slice (some ⟨g2, 0, none⟩) l.length cp2])) :
    FillRel X0 gc kind c0 R f t (k + 1) (.slice (some ⟨gg, 0, none⟩) (k + 1) cg) w3 c1 (ls ++ [l]) (xs ++ [.slice (some ⟨g2, 0, none⟩) l.length cp2]) := by
  have hs := hT.but.size
  have hb3 := own_below hown2 (Nat.le_trans hs hb2.size) hgrow
  refine ⟨hrest, hown3, hT.blocks.next hgc (fun g hg => (hT.own.lt g hg).2) hb2 hg2 hok.pos hs hl hgrow hat, (hb3.block _ hgc).trans hc2, (hT.but.trans hb2).and_below hb3, hT.ok.snoc hok, by rw [List.length_append, List.length_singleton, hT.len]⟩

theorem own_but {X0 wr w2 : World} {gc size k : Nat} {e : TypeId} {v : Value} {xs : List Value} (h : wr.ownsRow X0.heap.size e size v k xs) (hgc : gc < X0.heap.size) (hb2 : But gc wr w2) : w2.ownsRow X0.heap.size e size v k xs :=
  own_same h fun g hg => hb2.block g (h.lt g hg).2 (by have := (h.lt g hg).1; omega)

theorem BlocksAt.rows {B g c n size : Nat} {ls : List (List Nat)} {xs : List Value} {w w' : World} (h : BlocksAt B (.slice (some ⟨g, 0, none⟩) n c) ls xs w) (hn : ls.length = n) (hown : w.ownsRow B 22 1 (.slice (some ⟨g, 0, none⟩) n c) n xs) (hb : Below w.heap.size w w') (_ : size = 0) : RowsIn w' g ls := by
  intro i hi
  obtain ⟨g', c', h1, h2, h3, h4, h5⟩ := h.2 i hi
  exact ⟨_, c', ((hb.cell (p := ⟨g, i, none⟩) (own_lt hown).1).trans (own_cell hown i (by omega))).trans h1, h5.below hb⟩

theorem info_row : (Try.prog.info? 22).map (fun i => (i.zero, i.size, i.bytes)) = some (some (.slice none 0 0), 1, 24) := by kernel_rfl

/-- The world behind the count. -/
theorem fill_start {w : World} {gc : Nat} {u : Value} (hb : Blk w gc 3 #[u]) (z : Int) (cs : Array Value) :
    Blk ((w.setCell ⟨gc, 0, none⟩ (.int .i64 z)).alloc (.cells cs 43)) gc 3 #[.int .i64 z] ∧ Blk ((w.setCell ⟨gc, 0, none⟩ (.int .i64 z)).alloc (.cells cs 43)) w.heap.size 43 cs ∧
    But gc w ((w.setCell ⟨gc, 0, none⟩ (.int .i64 z)).alloc (.cells cs 43)) ∧ ((w.setCell ⟨gc, 0, none⟩ (.int .i64 z)).alloc (.cells cs 43)).heap.size = w.heap.size + 1 := by
  have hz : (w.setCell ⟨gc, 0, none⟩ (.int .i64 z)).heap.size = w.heap.size := by simp [World.setCell]
  have h1 := hb.store 0 (.int .i64 z)
  have h2 := Blk.new (w.setCell ⟨gc, 0, none⟩ (.int .i64 z)) 43 cs
  rw [hz] at h2
  refine ⟨Blk.more' h1 _, h2, ((But.refl gc w).setCell 0 (.int .i64 z)).trans (But.of_below (below_new' _ _)), ?_⟩
  rw [size_new', hz]

set_option maxRecDepth 100000 in
set_option maxHeartbeats 4000000 in
theorem fill_any : ∀ (d : Nat) (t : IT) (pa : Option Addr) (pn pc : Nat) (A : Option Addr) (n c lo hi gc cnt : Nat) (w : World), ITIn w lo hi d t (.slice pa pn pc) (.slice A n c) → hi ≤ w.heap.size → (gc < lo ∨ hi ≤ gc) →
    Blk w gc 3 #[.int .i64 (cnt : Nat)] → cnt ≤ 1000 →
    Calls Try.prog 88 #[.agg #[.int .i64 t.kind, .slice pa pn pc, .slice A n c], .pointer (some ⟨gc, 0, none⟩)] w (RetFill (fillN d t cnt) gc w)
  | 0, _, _, _, _, _, _, _, _, _, _, _, _, h, _, _, _, _ => h.elim
  | d + 1, t, pa, pn, pc, A, n, c, lo, hi, gc, cnt, w, h, hhi, hgc, hb, hcnt => by
    have ih := fill_any d
    have hgcl := hb.lt
    have hIT := h
    obtain ⟨-, A', c', e1, hparts⟩ := h
    injection e1 with e1 e2 e3
    subst e1 e2 e3
    by_cases h1 : 1000 < cnt + 1
    · obtain rfl : cnt = 1000 := by omega
      have Hr := Lib.hid (fillN_many (d := d) (t := t) (c := 1000) h1)
      rw [Hr.out]
      obtain ⟨s1, s2, s3, -⟩ := fill_start hb 1001 #[.int .i64 t.kind, .slice pa pn pc, .slice A t.parts.length c]
      have g0 := hb.cell 0
      have f0 := hb.free 0
      have g1 := s1.cell 0
      clear ih hparts hIT Hr h1
      go_enter Try.func88, Try.ntmps88
      go_wp2
      go_ret2
      exact ret_fill_none s3 s1
    · have hz : ((cnt + 1 : Nat) : Int) = (cnt : Int) + 1 := by omega
      obtain ⟨s1, s2, s3, s4⟩ := fill_start hb ((cnt : Int) + 1) #[.int .i64 t.kind, .slice pa pn pc, .slice A t.parts.length c]
      have g0 := hb.cell 0
      have f0 := hb.free 0
      have g1 := s1.cell 0
      obtain ⟨b0, b1, b2, -, -, -⟩ := blk_three s2
      have s1' : Blk ((w.setCell ⟨gc, 0, none⟩ (.int .i64 ((cnt : Int) + 1))).alloc (.cells #[.int .i64 t.kind, .slice pa pn pc, .slice A t.parts.length c] 43)) gc 3 #[.int .i64 ((cnt + 1 : Nat) : Int)] := by rw [hz]; exact s1
      have hlt : w.heap.size < ((w.setCell ⟨gc, 0, none⟩ (.int .i64 ((cnt : Int) + 1))).alloc (.cells #[.int .i64 t.kind, .slice pa pn pc, .slice A t.parts.length c] 43)).heap.size := by rw [s4]; omega
      have hIT1 := ITIn.keep (w' := (w.setCell ⟨gc, 0, none⟩ (.int .i64 ((cnt : Int) + 1))).alloc (.cells #[.int .i64 t.kind, .slice pa pn pc, .slice A t.parts.length c] 43)) (fun g k1 k2 => s3.block g (by omega) (by omega)) _ _ _ _ hIT
      have Hwf := Lib.hid (wellFormed_any d t pa pn pc A t.parts.length c lo hi _ hIT1 (by omega))
      have Hs1 := Lib.hid s1'
      have Hs2 := Lib.hid s2
      have Hs3 := Lib.hid s3
      have Hlt := Lib.hid hlt
      have HIT := Lib.hid hIT
      have hc9 : (cnt : Int) + 1 ≤ 1000 := by omega
      clear s1 s1' s2 s3 s4 hIT hIT1 hz hlt
      by_cases hw : wellF t = false
      · have Hr := Lib.hid (fillN_bad (d := d) h1 hw)
        rw [Hr.out]
        rw [hw] at Hwf
        clear ih hparts h1 hw
        go_enter Try.func88, Try.ntmps88
        go_wp2_with (go_at_call 106; refine Hwf.out.mono ?_; rintro e w1 ⟨rfl, hb1⟩)
        go_ret2
        exact ret_fill_none (Hs3.out.trans (But.of_below hb1)) ((hb1.block _ (Nat.lt_trans hgcl Hlt.out)).trans Hs1.out)
      · have hw : wellF t = true := by cases h : wellF t <;> simp_all
        rw [hw] at Hwf
        by_cases hk : t.kind = 0
        · have Hr := Lib.hid (fillN_leaf (d := d) h1 hw hk)
          rw [Hr.out]
          have d0 : (t.kind == 0) = true := by rw [beq_iff_eq]; exact hk
          clear ih hparts h1 hw hk
          go_enter Try.func88, Try.ntmps88
          go_wp2_with (go_at_call 106; refine Hwf.out.mono ?_; rintro e w1 ⟨rfl, hb1⟩; have hbx := (hb1.block _ Hlt.out).trans Hs2.out; obtain ⟨r0, r1, r2, -, -, -⟩ := blk_three hbx)
          go_ret2
          have hbt := Hs3.out.trans (But.of_below hb1)
          have hlit := own_lit w1 3 (nums .i64 [0]) (by simp [nums, maxLen])
          exact ret_fill_some (l := [0]) (hbt.trans (But.of_below (below_new' w1 _))) (Blk.more' ((hb1.block _ (Nat.lt_trans hgcl Hlt.out)).trans Hs1.out) _) (hbt.size) (own_sl hlit (by simp))
        · obtain ⟨hkinds, h2⟩ := wellF_cases hw hk
          have d0 : (t.kind == 0) = false := by rw [beq_eq_false_iff_ne]; exact hk
          obtain ⟨i0, hinf, hz0, hz1, hz2⟩ := info_parts info_row
          have HN := Lib.hid (fun c2 => fillN_parts_none (d := d) (t := t) (c := cnt) (c2 := c2) h1 hw hk)
          have HS := Lib.hid (fun c2 ls => fillN_parts_some (d := d) (t := t) (c := cnt) (c2 := c2) (ls := ls) h1 hw hk)
          have Hkinds := Lib.hid hkinds
          have Hih := Lib.hid ih
          have Hparts := Lib.hid hparts
          obtain ⟨R0, hR0⟩ : ∃ R0, fillP (fillN d) t.kind t.parts (cnt + 1) [] = R0 := ⟨_, rfl⟩
          have HR0 := Lib.hid hR0
          rw [hR0] at HN HS
          have HOK := Lib.hid (fun c' l => fillN_ok (d + 1) t cnt c' l)
          generalize fillN (d + 1) t cnt = R at *
          clear ih hparts h1 hw hk hkinds hR0
          go_enter Try.func88, Try.ntmps88
          go_wp2_with (go_at_call 106; refine Hwf.out.mono ?_; rintro e w1 ⟨rfl, hb1⟩; have hbx := (hb1.block _ Hlt.out).trans Hs2.out; obtain ⟨r0, r1, r2, -, -, -⟩ := blk_three hbx)
          have hbt := Hs3.out.trans (But.of_below hb1)
          have hcnt1 : Blk w1 gc 3 #[.int .i64 ((cnt + 1 : Nat) : Int)] := (hb1.block _ (Nat.lt_trans hgcl Hlt.out)).trans Hs1.out
          have hgc1 : gc < w1.heap.size := hcnt1.lt
          have hw1 : w.heap.size < w1.heap.size := Nat.lt_of_lt_of_le Hlt.out hb1.size
          clear Hs1 Hs2 Hs3 Hlt hb1 r0 r1 r2
          obtain ⟨X0, rfl⟩ : ∃ X0 : World, X0 = w1 := ⟨_, rfl⟩
          go_loopw [6, 32] (fun v i wr => ∃ (k ck : Nat) (ls : List (List Nat)) (xs : List Value), k ≤ t.parts.length ∧ i = .int .i64 k ∧ FillRel X0 gc 0 (cnt + 1) R0 (fillN d) t k v wr ck ls xs) (fun _ i _ => t.parts.length - (intOf i).toNat)
          case atStart => exact ⟨0, cnt + 1, [], [], Nat.zero_le _, rfl, HR0.out, ⟨rfl, .inl ⟨rfl, rfl⟩⟩, BlocksAt.nil _ _ _, hcnt1, But.refl _ _, AccOk.nil (by omega), rfl⟩
          case round =>
            obtain ⟨k, ck, ls, xs, hk, rfl, hT⟩ := hrel
            have hbxr : Blk wr w.heap.size 43 _ := (hT.but.block _ hw1 (by omega)).trans hbx
            obtain ⟨r0, r1, r2, -, -, -⟩ := blk_three hbxr
            by_cases hlt : k < t.parts.length
            · obtain ⟨g, off, rfl, hg1, hg2, hrow⟩ := Hparts.out (by omega)
              obtain ⟨pv', sv', k1, k2, k3, k4⟩ := hrow k hlt
              have hbw := hbt.trans hT.but
              have hgw : g < w.heap.size := by omega
              have hgn : g ≠ gc := by omega
              have k1' := (hbw.cell (p := ⟨g, off + k * 3, none⟩) hgw hgn).trans k1
              have k2' := (hbw.cell (p := ⟨g, off + k * 3 + 1, none⟩) hgw hgn).trans k2
              have k3' := (hbw.cell (p := ⟨g, off + k * 3 + 2, none⟩) hgw hgn).trans k3
              have hrest := hT.rest
              rw [List.drop_eq_getElem_cons hlt] at hrest
              generalize t.parts[k] = u at *
              obtain ⟨qa, qn, qc, B, m, cc, rfl, rfl⟩ := k4.slices
              have k4' := ITIn.keep (w' := wr.alloc (.cells #[.int .i64 u.kind, .slice qa qn qc, .slice B m cc] 43)) (fun g k1 k2 => (Below.heap_alloc _ _ _ (Nat.lt_of_lt_of_le (by omega) hbw.size)).trans (hbw.block g (by omega) (by omega))) d _ _ _ k4
              have hcr := Blk.more' hT.cnt (.cells #[.int .i64 u.kind, .slice qa qn qc, .slice B m cc] 43)
              have hpart := Blk.new wr 43 #[.int .i64 u.kind, .slice qa qn qc, .slice B m cc]
              have hbxp := Blk.more' hbxr (.cells #[.int .i64 u.kind, .slice qa qn qc, .slice B m cc] 43)
              have hcall := Hih.out u qa qn qc B m cc lo hi gc ck _ k4' (by rw [size_new']; have := hbw.size; omega) hgc hcr hT.ok.cnt
              have hgcr : gc ≠ wr.heap.size := by have := hT.cnt.lt; omega
              have hwr : w.heap.size < wr.heap.size := hbxr.lt
              obtain ⟨p0, p1, p2, -, -, -⟩ := blk_three hpart
              rcases hRu : fillN d u ck with ⟨c1, _ | l⟩
              · rw [hRu] at hcall
                rw [fillP_none hRu] at hrest
                have Hcall := Lib.hid hcall
                have Hrest := Lib.hid hrest
                have Hgo := Lib.hid hT.but
                clear hcall hrest hrow k1 k2 k3 k4 k4' hRu hT hbxp hpart
                go_wp2_with (go_at_call 88; refine Hcall.out.mono ?_; intro e w2 hret; obtain ⟨hb2, hc2, rfl⟩ := ret_fill_isnone hret; clear hret)
                go_ret2
                rw [HN.out c1 Hrest.out.symm]
                exact ret_fill_none (hbw.trans ((But.of_below (below_new' wr _)).trans hb2)) hc2
              · rw [hRu] at hcall
                have hok := fillN_ok d u ck c1 l hRu
                by_cases hsame : u.kind = t.kind ∧ t.kind ≠ 3
                · rw [fillP_same hRu hsame] at hrest
                  have e1 : (u.kind == t.kind) = true := by rw [beq_iff_eq]; exact hsame.1
                  have e2 : (t.kind == 3) = false := by rw [beq_eq_false_iff_ne]; exact hsame.2
                  have Hcall := Lib.hid hcall
                  have Hrest := Lib.hid hrest
                  clear hcall hrest hrow k1 k2 k3 k4 k4' hRu hT hsame hok
                  go_wp2_with (go_at_call 88; refine Hcall.out.mono ?_; intro e w2 hret; obtain ⟨g2, cp2, rfl, hb2, hc2, -, -⟩ := ret_fill_issome hret; clear hret; have hbx2 := (hb2.block _ (by rw [size_new']; omega) (by omega)).trans hbxp; obtain ⟨s0, s1, s2, -, -, -⟩ := blk_three hbx2; have hpt2 := (hb2.block _ (by rw [size_new']; omega) (fun h => hgcr h.symm)).trans hpart; obtain ⟨t0, t1, t2, -, -, -⟩ := blk_three hpt2)
                  go_ret2
                  rw [HN.out c1 Hrest.out.symm]
                  exact ret_fill_none (hbw.trans ((But.of_below (below_new' wr _)).trans hb2)) hc2
                · rw [fillP_some hRu hsame] at hrest
                  have hcase : ((u.kind == t.kind) = true ∧ (t.kind == 3) = true) ∨ (u.kind == t.kind) = false := by
                    by_cases ek : u.kind = t.kind
                    · exact .inl ⟨by rw [beq_iff_eq]; exact ek, by rw [beq_iff_eq]; omega⟩
                    · exact .inr (by rw [beq_eq_false_iff_ne]; exact ek)
                  have Hcall := Lib.hid hcall
                  have Hrest := Lib.hid hrest
                  have Hok := Lib.hid hok
                  have HT := Lib.hid hT
                  have hk1000 : k ≤ 1000 := by have := hT.ok.bound; have := hT.len; omega
                  have hsX := hT.but.size
                  clear hcall hrest hrow k1 k2 k3 k4 k4' hRu hT hsame hok
                  rcases hcase with ⟨e1, e2⟩ | e1
                  all_goals
                    go_upto_region 13 with (go_at_call 88; refine Hcall.out.mono ?_; intro e w2 hret; obtain ⟨g2, cp2, rfl, hb2, hc2, hg2, hl2⟩ := ret_fill_issome hret; clear hret; have hbx2 := (hb2.block _ (by rw [size_new']; omega) (by omega)).trans hbxp; obtain ⟨s0, s1, s2, -, -, -⟩ := blk_three hbx2; have hpt2 := (hb2.block _ (by rw [size_new']; omega) (fun h => hgcr h.symm)).trans hpart; obtain ⟨t0, t1, t2, -, -, -⟩ := blk_three hpt2; have hbr2 := (But.of_below (gc := gc) (below_new' wr _)).trans hb2; have hown2 := own_but HT.out.own hgc1 hbr2; have hs2 := hbr2.size)
                    go_wp2_with (at_builtin; refine wpList_append_lies _ rfl _ _ 118 rfl X0.heap.size 22 i0 (.slice none 0 0) 1 24 Try.underlying118 hinf hz0 hz1 hz2 rfl (by decide) _ k xs rfl (hown2.alloc _) ⟨w2.heap.size, 0, none⟩ 1 1 [.slice (some ⟨g2, 0, none⟩) l.length cp2] rfl rfl ?c1 ?c2 ?c3 ?c4 ?c5 ?c6 (w2.heap.size + 1) (size_new'' _ _) ?_)
                    case c1 => exact cell_one_new _ _ _
                    case c2 => exact one_cell _ rfl
                    case c3 => exact Nat.one_pos
                    case c4 => unfold maxLen; omega
                    case c5 => omega
                    case c6 => simp; omega
                    intro gg cg w3 hown3 hgrow hat hlt3
                    have Hnext := Lib.hid (HT.out.next hgc1 Hrest.out Hok.out hbr2 hc2 (by rw [size_new'] at hg2; omega) hl2 hown2 hgrow hat hown3)
                    clear hown3 hgrow hat hown2 hl2 hbx2 s0 s1 s2 t0 t1 t2
                    go_wp2
                    go_roundw
                    case rel => exact ⟨k + 1, c1, _, _, by omega, by go_num, Hnext.out⟩
                    case measure => simp [intOf]; omega
            · obtain rfl : k = t.parts.length := by omega
              have hrest := hT.rest
              rw [List.drop_length, fillP_nil] at hrest
              have hR := HS.out ck ls hrest.symm
              have hok := HOK.out ck _ hR
              have HR := Lib.hid hR
              have Hok := Lib.hid hok
              have HT := Lib.hid hT
              have hbw := hbt.trans hT.but
              have hls := hT.len
              have hbnd := hT.ok.bound
              have hITr := ITIn.keep (w' := wr) (fun g k1 k2 => hbw.block g (by omega) (by omega)) _ _ _ _ HIT.out
              have Hord := Lib.hid (partOrder_any d t pa pn pc A t.parts.length c lo hi wr hITr (by have := hbw.size; omega) Hkinds.out (by omega))
              obtain ⟨gv, cv, rfl⟩ := own_pos hT.own (by omega)
              have Hinf := Lib.hid (fun (W : World) (A' : Option Addr) (c' : Nat) (hb : Below wr.heap.size wr W) (hS : Sl .i64 W A' t.parts.length (orderOf t)) => inflate_any A' t.parts.length c' gv cv (orderOf t) ls W hS hls (HT.out.blocks.rows hls HT.out.own hb rfl) (Nat.lt_of_lt_of_le (own_lt HT.out.own).1 hb.size) hbnd.1 (fun i hi x hx => by
                have h1 := (HT.out.ok.all i hi).2 x hx
                have h2 := belN_self [] ls i ls.length hi
                omega) (by omega))
              generalize orderOf t = ord at *
              clear hT hrest hR hok hITr hls hbnd
              generalize infl ord ls ls.length = lf at *
              go_wp2_with (first
                | (go_at_call 108; refine Hord.out.mono ?_; rintro e w2 ⟨A2, c2, rfl, hS2, hb2⟩; have Hin2 := Lib.hid (Hinf.out w2 A2 c2 hb2 hS2))
                | (go_at_call 107; refine Hin2.out.mono ?_; rintro e w3 ⟨v3, rfl, hown3, hb3⟩; obtain ⟨g3, c3, rfl⟩ := own_pos hown3 Hok.out.pos))
              go_ret2
              rw [HR.out]
              have hbf := But.of_below (gc := gc) (hb2.trans (hb3.mono hb2.size))
              exact ret_fill_some (hbw.trans hbf) ((hb3.block _ (Nat.lt_of_lt_of_le HT.out.cnt.lt hb2.size)).trans ((hb2.block _ HT.out.cnt.lt).trans HT.out.cnt)) (Nat.le_trans (Nat.le_trans hbw.size hb2.size) (own_lt hown3).2) (own_sl hown3 (by have := Hok.out.len; have := Hok.out.cnt; omega))

end Go.Proofs.Ytgdaidmkcgblbaa

namespace Go.Proofs.Ytgdaidmkcgblbaa
open Go.RowKit

/-- What Fill returns: a list of at most 60, or none. -/
def fillOut (o : Option (List Nat)) : Option (List Nat) := match o with
  | none => none
  | some l => if l.length ≤ 60 then some l else none
def RetFil (o : Option (List Nat)) (w : World) (e : Ending) (w' : World) : Prop :=
  Below w.heap.size w w' ∧ ((fillOut o = none ∧ e = .returned (.tuple #[.slice none 0 0, .int .i64 21])) ∨
    ∃ l g c, fillOut o = some l ∧ e = .returned (.tuple #[.slice (some ⟨g, 0, none⟩) l.length c, .int .i64 0]) ∧ w.heap.size ≤ g ∧ Sl .i64 w' (some ⟨g, 0, none⟩) l.length l)

set_option maxRecDepth 100000 in
theorem fillAll_any (d : Nat) (t : IT) (pa : Option Addr) (pn pc : Nat) (A : Option Addr) (n c lo hi : Nat) (w : World) (h : ITIn w lo hi d t (.slice pa pn pc) (.slice A n c)) (hhi : hi ≤ w.heap.size) :
    Calls Try.prog 54 #[.agg #[.int .i64 t.kind, .slice pa pn pc, .slice A n c]] w (RetFil (fillN d t 0).2 w) := by
  have hbel0 := below_new' w (.cells #[.int .i64 t.kind, .slice pa pn pc, .slice A n c] 43)
  have hbox := Blk.new w 43 #[.int .i64 t.kind, .slice pa pn pc, .slice A n c]
  have hsz := size_new' w (.cells #[.int .i64 t.kind, .slice pa pn pc, .slice A n c] 43)
  have hbel1 := hbel0.alloc (Nat.le_of_lt hbox.lt) (.cells #[.int .i64 0] 3)
  have hbx1 := Blk.more' hbox (.cells #[.int .i64 0] 3)
  obtain ⟨r0, r1, r2, -, -, -⟩ := blk_three hbx1
  have hcnt := Blk.new (w.alloc (.cells #[.int .i64 t.kind, .slice pa pn pc, .slice A n c] 43)) 3 #[.int .i64 ((0 : Nat) : Int)]
  rw [hsz] at hcnt
  have hIT1 := ITIn.keep (w' := (w.alloc (.cells #[.int .i64 t.kind, .slice pa pn pc, .slice A n c] 43)).alloc (.cells #[.int .i64 0] 3)) (fun g k1 k2 => hbel1.block g (by omega)) _ _ _ _ h
  have Hfill := Lib.hid (fill_any d t pa pn pc A n c lo hi (w.heap.size + 1) 0 _ hIT1 (by have := hbel1.size; omega) (by omega) hcnt (by omega))
  have Hsz2 := Lib.hid (show w.heap.size + 1 ≤ ((w.alloc (.cells #[.int .i64 t.kind, .slice pa pn pc, .slice A n c] 43)).alloc (.cells #[.int .i64 0] 3)).heap.size by rw [size_new', hsz]; omega)
  clear hIT1 hcnt h hbox hbel0
  rcases hR : fillN d t 0 with ⟨c1, _ | l⟩
  · rw [hR] at Hfill
    go_enter Try.func54, Try.ntmps54
    go_wp2_with (go_at_call 88; refine Hfill.out.mono ?_; intro e w2 hret; obtain ⟨hb2, hc2, rfl⟩ := ret_fill_isnone hret; clear hret)
    go_ret2
    exact ⟨hbel1.trans ((hb2.below Hsz2.out).mono (Nat.le_succ _)), .inl ⟨rfl, rfl⟩⟩
  · rw [hR] at Hfill
    by_cases hl : l.length ≤ 60
    · have Ho := Lib.hid (show fillOut (c1, some l).2 = some l from if_pos hl)
      have hl' : (l.length : Int) ≤ 60 := by omega
      go_enter Try.func54, Try.ntmps54
      go_wp2_with (go_at_call 88; refine Hfill.out.mono ?_; intro e w2 hret; obtain ⟨g2, cp2, rfl, hb2, hc2, hg2, hl2⟩ := ret_fill_issome hret; clear hret)
      go_ret2
      exact ⟨hbel1.trans ((hb2.below Hsz2.out).mono (Nat.le_succ _)), .inr ⟨l, g2, cp2, Ho.out, rfl, by have := hbel1.size; omega, hl2⟩⟩
    · have Ho := Lib.hid (show fillOut (c1, some l).2 = none from if_neg hl)
      have hl' : (60 : Int) < (l.length : Int) := by omega
      go_enter Try.func54, Try.ntmps54
      go_wp2_with (go_at_call 88; refine Hfill.out.mono ?_; intro e w2 hret; obtain ⟨g2, cp2, rfl, hb2, hc2, hg2, hl2⟩ := ret_fill_issome hret; clear hret)
      go_ret2
      exact ⟨hbel1.trans ((hb2.below Hsz2.out).mono (Nat.le_succ _)), .inl ⟨Ho.out, rfl⟩⟩

end Go.Proofs.Ytgdaidmkcgblbaa
