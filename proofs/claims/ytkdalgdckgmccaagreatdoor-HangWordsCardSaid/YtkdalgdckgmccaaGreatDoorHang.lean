/-
  The walk of Hang: a word that falls with given sets of nails.
-/
import Derived.Test.YtkdalgdckgmccaaGreatDoorList
import Derived.Test.YtkdalgdckgmccaaGreatDoorTied
namespace Go.Proofs.YtkdalgdckgmccaaGreatDoor
open Go.RowKit Go.Shelf

/-- The letters that Hang returns for some sets, its dual being counted in so many steps. -/
def hangL (Ss : List (Nat → Bool)) (N : Nat) : List Nat := redL ((dualL Ss N).map fun S => tiedF 25 (nameL S)).flatten

theorem nameL_sized (S : Nat → Bool) : (strL (nameL S)).size ≤ 26 := by rw [strL_size]; exact nameL_length S
theorem flat_len {α β : Type} (l : List α) (f : α → List β) (k : Nat) (h : ∀ x ∈ l, (f x).length ≤ k) : (l.map f).flatten.length ≤ l.length * k := by
  induction l with
  | nil => simp
  | cons a l ih =>
    rw [List.map_cons, List.flatten_cons, List.length_append, List.length_cons, Nat.succ_mul]
    have h1 := h a (List.mem_cons_self ..)
    have h2 := ih fun x hx => h x (List.mem_cons_of_mem _ hx)
    omega

theorem info_wire : (Tryz.prog.info? 44).map (fun i => (i.zero, i.size, i.bytes)) = some (some (.slice none 0 0), 1, 24) := by kernel_rfl

theorem Sl.stay {k : IntKind} {w w' : World} {A : Option Addr} {n : Nat} {l : List Nat} (h : Sl k w A n l) (hs : w.heap.size ≤ w'.heap.size) (hb : 0 < n → ∀ b off, A = some ⟨b, off, none⟩ → b < w.heap.size → w'.heap[b]? = w.heap[b]?) : Sl k w' A n l := by
  obtain ⟨h1, h2, h3⟩ := h
  refine ⟨h1, h2, fun hn => ?_⟩
  obtain ⟨b, off, e, hlt, hc⟩ := h3 hn
  exact ⟨b, off, e, Nat.lt_of_lt_of_le hlt hs, fun i hi => (World.cell?_of_block (w := w) (w' := w') (a := ⟨b, off + i, none⟩) (hb hn b off e hlt)).trans (hc i hi)⟩
/-- The i-th slice reads as the i-th wire, and does not lie in the row's own block. -/
def Reads (w : World) (v : Value) (u : Value) (l : List Nat) : Prop := ∃ A c, u = .slice A l.length c ∧ Sl .u8 w A l.length l ∧ (0 < l.length → ∀ b off, A = some ⟨b, off, none⟩ → v.ownBlock ≠ some b)
/-- A row of wires of its own. -/
def WiresAt (g : Nat) (w : World) (v : Value) (vs : List Value) (ls : List (List Nat)) : Prop :=
  w.ownsRow g 44 1 v ls.length vs ∧ ∀ i, i < ls.length → ∃ u, vs[i]? = some u ∧ Reads w v u (ls.getD i [])
theorem WiresAt.below {g : Nat} {w w' : World} {v : Value} {vs : List Value} {ls : List (List Nat)} (h : WiresAt g w v vs ls) (hb : Below w.heap.size w w') : WiresAt g w' v vs ls :=
  ⟨own_keep h.1 hb, fun i hi => by
    obtain ⟨u, h1, A, c, h2, h3, h4⟩ := h.2 i hi
    exact ⟨u, h1, A, c, h2, h3.below hb, h4⟩⟩
theorem WiresAt.app {g : Nat} {W w3 : World} {v : Value} {vs : List Value} {ls : List (List Nat)} {l : List Nat} {u : Value} {gr cr m : Nat} (h : WiresAt g W v vs ls) (hm : ls.length = m) (hu : Reads W v u l) {o : Obj}
    (hgrow : (W.alloc o).grownBy w3 v.ownBlock) (hat : v.ownBlock = some gr ∨ gr = W.heap.size + 1)
    (hown : w3.ownsRow g 44 1 (.slice (some ⟨gr, 0, none⟩) (m + 1) cr) (m + 1) (vs ++ [u])) : WiresAt g w3 (.slice (some ⟨gr, 0, none⟩) (m + 1) cr) (vs ++ [u]) (ls ++ [l]) := by
  have hsz := hgrow.size
  rw [World.size_alloc] at hsz
  have step : ∀ (u' : Value) (l' : List Nat), Reads W v u' l' → Reads w3 (.slice (some ⟨gr, 0, none⟩) (m + 1) cr) u' l' := by
    rintro u' l' ⟨A, c, h2, h3, h4⟩
    refine ⟨A, c, h2, h3.stay (by omega) fun h0 b off e hlt => ?_, fun h0 b off e => ?_⟩
    · exact (hgrow.block b (by rw [World.size_alloc]; omega) (fun e2 => h4 h0 b off e e2.symm)).trans (Below.heap_alloc W o b hlt)
    · show some gr ≠ some b
      rcases hat with h5 | h5
      · rw [← h5]; exact h4 h0 b off e
      · intro e2
        injection e2 with e2
        obtain ⟨b', off', e3, hlt, _⟩ := h3.at h0
        rw [e] at e3
        injection e3 with e3
        injection e3 with e3 e4
        omega
  have hvl : vs.length = m := by have := h.1.1; omega
  refine ⟨by rw [List.length_append, List.length_singleton, hm]; exact hown, fun i hi => ?_⟩
  rw [List.length_append, List.length_singleton] at hi
  by_cases hlt : i < ls.length
  · obtain ⟨u', h1, h2⟩ := h.2 i hlt
    refine ⟨u', by rw [List.getElem?_append_left (by omega)]; exact h1, ?_⟩
    rw [List.getD_eq_getElem?_getD, List.getElem?_append_left hlt, ← List.getD_eq_getElem?_getD]
    exact step u' _ h2
  · obtain rfl : i = ls.length := by omega
    refine ⟨u, by rw [List.getElem?_append_right (by omega), hvl, hm, Nat.sub_self]; rfl, ?_⟩
    rw [List.getD_eq_getElem?_getD, List.getElem?_append_right (Nat.le_refl _), Nat.sub_self]
    exact step u l hu
theorem WiresAt.parts {g : Nat} {w : World} {gr cr m : Nat} {vs : List Value} {ls : List (List Nat)} (h : WiresAt g w (.slice (some ⟨gr, 0, none⟩) m cr) vs ls) (hm : ls.length = m) : Parts w gr 0 ls := by
  refine ⟨fun _ => (h.1.lt gr rfl).2, fun i hi => ?_⟩
  obtain ⟨u, h1, A, c, h2, h3, _⟩ := h.2 i hi
  refine ⟨A, c, ?_, h3⟩
  have ho := h.1
  rw [hm] at ho
  rw [Nat.zero_add, own_cell ho i (by omega), h1, h2]

set_option maxRecDepth 100000 in
theorem joined_nil (A : Option Addr) (cap : Nat) (w : World) : Calls Tryz.prog 53 #[.slice A 0 cap] w (RetWire [] w) := by
  go_enter Tryz.func53, Tryz.ntmps53
  go_wp2_with fail
  go_loopw [3, 10] (fun v kv wr => v = .slice none 0 0 ∧ kv = .int .i64 0 ∧ wr = w) (fun _ _ _ => 0)
  case atStart => exact ⟨rfl, rfl, rfl⟩
  case round =>
    obtain ⟨rfl, rfl, rfl⟩ := hrel
    go_wp2
    go_ret
    exact ⟨_, rfl, ⟨⟨rfl, .inl ⟨rfl, rfl⟩⟩, Nat.le_refl _⟩, Below.refl _ _⟩

theorem tied_flat (D : List (Nat → Bool)) : (∀ l ∈ D.map (fun S => tiedF 25 (nameL S)), IsWord l) ∧ ((D.map fun S => tiedF 25 (nameL S)).flatten).length ≤ D.length * 1024 := by
  refine ⟨fun l hl => ?_, flat_len _ _ _ fun S _ => ?_⟩
  · obtain ⟨S, -, rfl⟩ := List.mem_map.1 hl
    exact tiedF_word _ (nameL_word S)
  · have := tiedF_length 25 5 (nameL S) (by have := nameL_length S; omega)
    omega

set_option maxRecDepth 100000 in
set_option maxHeartbeats 2000000 in
theorem hang_any (A : Option Addr) (n c N : Nat) (ss : List ByteArray) (w : World) (hS : StrS w A n ss) (hn : n ≤ 100) (h0 : 0 < n) (hnam : Named ss) (hfew : (nameL (unionN (setsOf ss))).length ≤ 10) (hN : doneF (unionN (setsOf ss)) N (fun _ => false) = true) (hNb : N ≤ 2000) :
    Calls Tryz.prog 30 #[.slice A n c] w fun e w' => e = .returned (.tuple #[.string (strL (hangL (setsOf ss) N)), .int .i64 0]) ∧ Below w.heap.size w w' := by
  have Hp := Lib.hid (parseSome_any A n c ss w hS hn h0 hnam)
  have hlen : (setsOf ss).length = n := by unfold setsOf; rw [List.length_map, hS.1]
  have em : decide (10 < (nameL (unionN (setsOf ss))).length) = false := decide_eq_false (by omega)
  have Hmany := Lib.hid (fun W => tooMany_any (unionN (setsOf ss)) W)
  rw [em] at Hmany
  have Hret : Hid (hangL (setsOf ss) N = redL ((dualL (setsOf ss) N).map fun S => tiedF 25 (nameL S)).flatten) := rfl
  have Hu := Lib.hid (fun (b off c : Nat) (W : World) (h : SetRow W b off (setsOf ss)) => union_any b off c n (setsOf ss) W hlen h (by omega))
  have Hd := Lib.hid (fun (b off c : Nat) (W : World) (h : RowS W (some ⟨b, off, none⟩) n (setsOf ss)) => dual_any b off n c N (setsOf ss) W h h0 (by omega) hN (by omega))
  have hdl : (dualL (setsOf ss) N).length ≤ N := leastL_length' _ _ _
  have Hlen := Lib.hid hlen
  clear hS hnam hfew hN em hlen
  generalize setsOf ss = Ss at *
  generalize unionN Ss = U at *
  rw [Hret.out]
  clear Hret
  generalize dualL Ss N = D at *
  go_enter Tryz.func30, Tryz.ntmps30
  go_upto_region 4 with (first
    | (go_at_call 48; refine Hp.out.mono ?_; clear Hp; rintro e w1 ⟨v, rfl, hown, hb1⟩; obtain ⟨A2, c2, rfl, hrow⟩ := hown.row))
  rw [Hlen.out] at hrow ⊢
  obtain ⟨b, off, rfl, hset⟩ := hrow.2 h0
  go_wp2_with (first
    | (go_at_call 49; refine (Hu.out b off _ _ hset).mono ?_; rintro e w2 ⟨rfl, hb2⟩)
    | (go_at_call 45; refine (Hmany.out _).mono ?_; rintro e w3 ⟨rfl, hb3⟩; have hrow3 := hrow.below (hb2.trans (hb3.mono hb2.size)))
    | (go_at_call 50; refine (Hd.out b off _ _ hrow3).mono ?_; rintro e w4 ⟨v4, rfl, hown4, hb4⟩; obtain ⟨A4, c4, rfl, hrow4⟩ := hown4.row))
  have hb14 : Below w.heap.size w w4 := (hb1.trans (hb2.mono hb1.size)).trans (((hb3.mono hb2.size).mono hb1.size).trans (hb4.mono (Nat.le_trans hb1.size (Nat.le_trans hb2.size hb3.size))))
  obtain ⟨i0, hi, hz0, hz1, hz2⟩ := info_parts info_wire
  obtain ⟨m, hm⟩ : ∃ m, D.length = m := ⟨_, rfl⟩
  have Hm := Lib.hid hm
  rw [hm] at hrow4 hdl ⊢
  have Hrow4 := Lib.hid hrow4
  generalize hg : w4.heap.size = g at *
  have Hg := Lib.hid hg
  clear hrow hrow3 hset hrow4 hown hown4 hg hm Hu Hd Hmany
  go_loopw [6, 23] (fun v iv wr => ∃ (i : Nat) (vs : List Value), i ≤ m ∧ iv = .int .i64 i ∧ WiresAt g wr v vs ((D.take i).map fun S => tiedF 25 (nameL S)) ∧ Below g w4 wr) (fun _ iv _ => m - (intOf iv).toNat)
  case atStart => exact ⟨0, [], Nat.zero_le _, rfl, ⟨⟨rfl, .inl ⟨rfl, rfl⟩⟩, fun i hi => absurd hi (by simp)⟩, Below.refl _ _⟩
  case round =>
    obtain ⟨i, vs, hi2, rfl, hwires, hbel⟩ := hrel
    have hlenT : ((D.take i).map fun S => tiedF 25 (nameL S)).length = i := by rw [List.length_map, List.length_take]; have := Hm.out; omega
    by_cases hlt : i < m
    · obtain ⟨b4, off4, rfl, hrow⟩ := (Hrow4.out.below (w' := wr) (by rw [Hg.out]; exact hbel)).2 (by omega)
      have hrange := hrow.range (i := i) (by have := Hm.out; omega)
      have Htake := Lib.hid (row_take (Ss := D) (i := i) (by have := Hm.out; omega))
      generalize D.getD i (fun _ => false) = S at *
      have Hsn : Hid ((D.take (i + 1)).map (fun S => tiedF 25 (nameL S)) = (D.take i).map (fun S => tiedF 25 (nameL S)) ++ [tiedF 25 (nameL S)]) := by
        show _ = _
        rw [Htake.out, List.map_append]; rfl
      generalize (D.take i).map (fun S => tiedF 25 (nameL S)) = ls at *
      have hlist := nailC_list S
      have hnewE : Blk (wr.alloc (.cells (nailC (fun _ => false)) 49)) wr.heap.size 49 (nailC (fun _ => false)) := Blk.new _ _ _
      rw [zero_agg] at hnewE
      go_upto_region 10 with (first
        | (refine wpList_load_mid rfl 49 _ rfl b4 (off4 + i * 26) rfl (nailC S).toList _ hrange Tryz.underlying49 rfl hlist ?_)
        | (refine wpList_plain rfl fun _ hK => wp_store_row 49 _ _ rfl wr.heap.size (nailC S) rfl rfl 49 _ hnewE (nailC_info _) ?h1 (nailC_one _) (hK _ _ ?_)))
      case h1 => rw [nailC_size]; rfl
      rw [World.setRow_alloc_new]
      have hnew := Blk.new wr 49 (nailC S)
      have hgle : g ≤ wr.heap.size := by have := hbel.size; have := Hg.out; omega
      have hbel1 : Below g w4 (wr.alloc (.cells (nailC S) 49)) := hbel.trans ((below_new' wr _).mono hgle)
      have hw1 := hwires.below (below_new' wr (.cells (nailC S) 49))
      have hgle1 : g ≤ (wr.alloc (.cells (nailC S) 49)).heap.size := by rw [World.size_alloc]; omega
      generalize hgn : wr.heap.size = gn at *
      generalize wr.alloc (.cells (nailC S) 49) = W1 at *
      clear hnewE hrange hrow hwires hbel hgn
      have Hname := Lib.hid (name_any S W1)
      have Htied := Lib.hid (fun V => tied_any 25 (strL (nameL S)) V (by have := nameL_sized S; omega) (by have := nameL_sized S; omega) (by rw [letters_strL (nameL_word S).lt256]; exact nameL_word S))
      rw [letters_strL (nameL_word S).lt256] at Htied
      generalize tiedF 25 (nameL S) = l at *
      have hown1 := hw1.1
      rw [hlenT] at hown1
      have Hown2 := Lib.hid (fun (V : World) (h : Below W1.heap.size W1 V) => own_keep hown1 h)
      have Hrow1 := Lib.hid (fun k e => (hown1.lt k e).2)
      have Hgle2 := Lib.hid (fun (V : World) (h : Below W1.heap.size W1 V) => Nat.le_trans hgle1 h.size)
      go_wp2_with (first
        | (refine wpList_load_row rfl 49 _ rfl gn rfl 49 (nailC S) (0, 0) _ hnew Tryz.underlying49 rfl (nailC_info S) ?_)
        | (go_at_call 52; refine Hname.out.mono ?_; rintro e w2 ⟨rfl, hb2⟩)
        | (go_at_call 51; refine (Htied.out w2).mono ?_; rintro e w3 ⟨A3, c3, rfl, hS3, hf3, hb3⟩; have hown3 := Hown2.out w3 (hb2.trans (hb3.mono hb2.size)))
        | (at_builtin; refine wpList_append_lies _ rfl _ _ 84 rfl g 44 i0 (.slice none 0 0) 1 24 Tryz.underlying84 hi hz0 hz1 hz2 rfl (by decide) _ i vs rfl (hown3.alloc _) ⟨w3.heap.size, 0, none⟩ 1 1 [.slice A3 l.length c3] rfl rfl ?c1 ?c2 ?c3 ?c4 ?c5 ?c6 (w3.heap.size + 1) (size_new'' _ _) ?_))
      case c1 => exact cell_one_new _ _ _
      case c2 => exact one_cell _ rfl
      case c3 => exact Nat.one_pos
      case c4 => unfold maxLen; omega
      case c5 => omega
      case c6 =>
        rw [World.size_alloc]
        have := Hgle2.out w3 (hb2.trans (hb3.mono hb2.size))
        omega
      intro gr cr w4' hown4' hgrow4 hat4 hlt4
      have hb23 : Below W1.heap.size W1 w3 := hb2.trans (hb3.mono hb2.size)
      have hw3 := hw1.below hb23
      have hread : Reads w3 u6 (.slice A3 l.length c3) l := ⟨A3, c3, rfl, hS3, fun _ b off e e2 => by
        have h1 := hf3 b off e
        have h2 := Hrow1.out b e2
        have h3 := hb2.size
        omega⟩
      have happ := WiresAt.app hw3 hlenT hread hgrow4 hat4 hown4'
      have hbel4 : Below g w4 w4' := (hbel1.trans (hb23.mono hgle1)).trans ((own_below hown3 (Hgle2.out w3 hb23) hgrow4).mono (Nat.le_refl _))
      have Happ := Lib.hid happ
      have Hbel4 := Lib.hid hbel4
      clear happ hbel4 hread hw3 hown4' hgrow4 hat4
      go_wp2_with fail
      go_roundw
      case rel => exact ⟨i + 1, _, by omega, by go_num, by rw [Hsn.out]; exact Happ.out, Hbel4.out⟩
      case measure => simp [intOf]; omega
    · obtain rfl : i = m := by omega
      rw [List.take_of_length_le (by have := Hm.out; omega)] at hwires hlenT
      obtain ⟨hword, hflat⟩ := tied_flat D
      have hflat2 : ((D.map fun S => tiedF 25 (nameL S)).flatten).length ≤ 100000000 := by
        have := Hm.out
        have h2 : D.length * 1024 ≤ 2000 * 1024 := Nat.mul_le_mul_right _ (by omega)
        omega
      have hD0 : i = 0 → D.map (fun S => tiedF 25 (nameL S)) = [] := fun e => List.eq_nil_of_length_eq_zero (by omega)
      generalize hls : D.map (fun S => tiedF 25 (nameL S)) = ls at *
      have Hls := Lib.hid hls
      clear hls
      have hbw : Below w.heap.size w wr := hb14.trans (hbel.mono (by have := hb14.size; have := Hg.out; omega))
      have Hbw := Lib.hid hbw
      have hown := hwires.1
      rw [hlenT] at hown
      obtain ⟨Ar, cr, rfl⟩ := own_slice' hown
      have Hj : Hid (Calls Tryz.prog 53 #[.slice Ar i cr] wr (RetWire (redL ls.flatten) wr)) := by
        show Calls _ _ _ _ _
        rcases Nat.eq_zero_or_pos i with h0' | h0'
        · rw [hD0 h0']
          subst h0'
          exact joined_nil Ar cr wr
        · obtain ⟨gr, cr', e⟩ := own_pos hown h0'
          injection e with e1 e2 e3
          subst e1 e3
          exact joined_any gr 0 _ i ls wr hlenT (hwires.parts hlenT) hword hflat2 (by omega)
      clear hwires hown hword hflat hflat2 hD0 hbel hbw hlenT
      go_wp2_with (go_at_call 53; refine Hj.out.mono ?_; clear Hj; rintro e w5 ⟨v5, rfl, hW5, hb5⟩; have hconv := wire_string hW5)
      go_ret2
      exact ⟨by rw [Hls.out]; rfl, Hbw.out.trans (hb5.mono Hbw.out.size)⟩

end Go.Proofs.YtkdalgdckgmccaaGreatDoor
