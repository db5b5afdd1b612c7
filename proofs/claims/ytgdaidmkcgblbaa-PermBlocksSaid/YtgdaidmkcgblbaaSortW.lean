/-
  The walk of Sort.
-/
import Derived.Test.YtgdaidmkcgblbaaSort
import Derived.Test.YtgdaidmkcgblbaaChk
import Derived.Deep.LoopGhost
import Derived.Laws.BytesArg
namespace Go.Proofs.Ytgdaidmkcgblbaa
open Go.RowKit

theorem info_u8 : (Try.prog.info? 5).map (fun i => (i.zero, i.size, i.bytes)) = some (some (.int .u8 0), 1, 1) := by kernel_rfl

/-- The memory of a sort under way: the sorter in g, the stack sv, the run rv. -/
structure SortMem (w : World) (B g : Nat) (R sv : Value) (nx k : Nat) (st : List Nat) (rv : Value) (m : Nat) (run : List Nat) (wr : World) : Prop where
  sorter : SortAt g R sv nx wr
  stack : wr.ownsRow B 3 1 sv k (nums .i64 st)
  run : wr.ownsRow B 5 1 rv m (nums .u8 run)
  sep : ∀ j, sv.ownBlock = some j → rv.ownBlock ≠ some j
  bel : Below w.heap.size w wr
  size : B ≤ wr.heap.size
  base : w.heap.size ≤ g ∧ g < B

theorem own_slice' {w : World} {B size n : Nat} {e : TypeId} {v : Value} {xs : List Value} (h : w.ownsRow B e size v n xs) : ∃ A c, v = .slice A n c := by
  obtain ⟨hl, ⟨e1, rfl⟩ | ⟨g, cap, cur, e1, _⟩⟩ := h
  · exact ⟨none, 0, e1⟩
  · exact ⟨_, cap, e1⟩

theorem SortMem.drewN {w : World} {B g : Nat} {R sv : Value} {nx k : Nat} {st : List Nat} {rv : Value} {m : Nat} {run : List Nat} {wr : World} (h : SortMem w B g R sv nx k st rv m run wr) (n : Nat) : SortMem w B g R sv nx k st rv m run (wr.drewN n) :=
  ⟨h.sorter, h.stack, h.run, h.sep, below_drewN h.bel n, h.size, h.base⟩

theorem GRow.own {g B n : Nat} {row : Option Nat} {a w : World} {e : TypeId} {size : Nat} {v : Value} {xs : List Value} (h : GRow g row a w) (ho : a.ownsRow B e size v n xs) (hg : g < B) (hr : ∀ j, v.ownBlock = some j → row ≠ some j) : w.ownsRow B e size v n xs :=
  own_stay ho fun j hj => h.block j (ho.lt j hj).2 (by have := (ho.lt j hj).1; omega) (fun e => hr j hj e.symm)

theorem SortMem.put {w : World} {B g b o m' x : Nat} {R sv : Value} {nx k : Nat} {st : List Nat} {rv : Value} {m : Nat} {run : List Nat} {wr w2 : World} {e : Ending} {A : Option Addr} {c' gg cg : Nat}
    (h : SortMem w B g R sv nx k st rv m run wr) (hp : PutTo B g b o m' x nx k sv st wr e w2 A c' gg cg) :
    SortMem w B g (.slice A m' c') (.slice (some ⟨gg, 0, none⟩) (k + 1) cg) nx (k + 1) (st ++ [x]) rv m run w2 := by
  have hb := h.base
  refine ⟨hp.sorter, hp.own, hp.grow.own h.run hb.2 (fun j hj e => h.sep j e hj), fun j hj hr => ?_, ?_, Nat.le_trans h.size hp.grow.size, hb⟩
  · obtain rfl : gg = j := by simpa [Value.ownBlock] using hj
    rcases hp.at' with e | e
    · exact h.sep _ e hr
    · have := (h.run.lt gg hr).2
      omega
  · have h1 := h.bel.size
    exact h.bel.trans (hp.grow.below hb.1 (fun j hj => by have := (h.stack.lt j hj).1; omega) h1)

theorem SortMem.take {w : World} {B g gg c : Nat} {R : Value} {nx k : Nat} {st : List Nat} {rv : Value} {m : Nat} {run : List Nat} {wr w2 : World}
    (h : SortMem w B g R (.slice (some ⟨gg, 0, none⟩) (k + 1) c) nx (k + 1) st rv m run wr) (hs : SortAt g R (.slice (some ⟨gg, 0, none⟩) k c) (nx + 1) w2) (ht : GRow g none wr w2) :
    SortMem w B g R (.slice (some ⟨gg, 0, none⟩) k c) (nx + 1) k (st.take k) rv m run w2 := by
  have hb := h.base
  have h1 := h.bel.size
  exact ⟨hs, own_take (ht.own h.stack hb.2 (fun _ _ e => by cases e)) (Nat.le_succ k), ht.own h.run hb.2 (fun _ _ e => by cases e), h.sep, h.bel.trans (ht.below hb.1 (fun _ e => by cases e) h1), Nat.le_trans h.size ht.size, hb⟩

theorem SortMem.app {w : World} {B g : Nat} {R sv : Value} {nx k : Nat} {st : List Nat} {rv : Value} {m : Nat} {run : List Nat} {w2 w3 : World} {gr cr z : Nat} {ob : Obj}
    (h : SortMem w B g R sv nx k st rv m run w2) (hown : w3.ownsRow B 5 1 (.slice (some ⟨gr, 0, none⟩) (m + 1) cr) (m + 1) (nums .u8 run ++ [.int .u8 z]))
    (hgrow : (w2.alloc ob).grownBy w3 rv.ownBlock) (hat : rv.ownBlock = some gr ∨ gr = w2.heap.size + 1) :
    SortMem w B g R sv nx k st (.slice (some ⟨gr, 0, none⟩) (m + 1) cr) (m + 1) (run ++ [z]) w3 := by
  have hb := h.base
  have h1 := h.bel.size
  have hbel := own_below (h.run) h.size hgrow
  have hkeep : ∀ j, j < w2.heap.size → rv.ownBlock ≠ some j → w3.heap[j]? = w2.heap[j]? := fun j hj hr => (hgrow.block j (by simp; omega) (fun e => hr e.symm)).trans (Below.heap_alloc _ _ _ hj)
  rw [nums_snoc] at hown
  have hsort : g < w2.heap.size := by have := h.size; omega
  refine ⟨(hkeep g hsort (fun e => by have := (h.run.lt g e).1; omega)).trans h.sorter, own_stay h.stack fun j hj => hkeep j (h.stack.lt j hj).2 (h.sep j hj), hown, fun j hj hr => ?_, h.bel.trans (hbel.mono (by omega)), Nat.le_trans h.size hbel.size, hb⟩
  obtain rfl : gr = j := by simpa [Value.ownBlock] using hr
  rcases hat with e | e
  · exact h.sep _ hj e
  · have := (h.stack.lt _ hj).2
    omega

/-- The run as a string. -/
def sortStr (p : List Nat) : ByteArray := if sortsB p = true then strOfNums ((finS p).run.map fun (x : Nat) => (x : Int)) else ⟨#[]⟩
def RetSort (p : List Nat) (w : World) (e : Ending) (w' : World) : Prop :=
  e = .returned (.tuple #[.string (sortStr p), .bool (sortsB p), .int .i64 0]) ∧ Below w.heap.size w w'

theorem calm_cases {st : List Nat} {nx : Nat} (h : calm st nx = true) : st.length = 0 ∨ st.getD (st.length - 1) 0 ≠ nx := by
  simpa [calm] using h
theorem own_capd {w : World} {B g cap n : Nat} {e : TypeId} {xs : List Value} (h : w.ownsRow B e 1 (.slice (some ⟨g, 0, none⟩) n cap) n xs) : n ≤ cap := by
  obtain ⟨hl, ⟨e1, _⟩ | ⟨g', cap', cur, e1, hb, hg, hc, _, hs, ht⟩⟩ := h
  · cases e1
  · injection e1 with e1 e2 e3
    omega

/-- What a round of the sort begins with. -/
structure SortHead (w : World) (B g b off : Nat) (p : List Nat) (i nx m : Nat) (st run : List Nat) (A : Option Addr) (c : Nat) (sv v : Value) (wr : World) : Prop where
  steps : Sorting p i st nx run
  rest : i < p.length → A = some ⟨b, off + i, none⟩ ∧ p.length - i ≤ c ∧ c ≤ 9223372036854775807
  cnt : m = i + nx
  mem : SortMem w B g (.slice A (p.length - i) c) sv nx st.length st v m run wr

theorem fin_yes {p : List Nat} {i nx : Nat} {st run : List Nat} (h : Sorting p i st nx run) (hc : calm st nx = true) (hi : i = p.length) (hn : p.length ≤ nx) : sortsB p = true ∧ sortStr p = strOfNums (run.map fun (x : Nat) => (x : Int)) := by
  have e := h.fin hc hi
  have e1 : sortsB p = true := by unfold sortsB; rw [e]; simpa using hn
  refine ⟨e1, ?_⟩
  unfold sortStr
  rw [if_pos e1, e]
theorem fin_no {p : List Nat} {i nx : Nat} {st run : List Nat} (h : Sorting p i st nx run) (hc : calm st nx = true) (hi : i = p.length) (hn : nx < p.length) : sortsB p = false ∧ sortStr p = ⟨#[]⟩ := by
  have e := h.fin hc hi
  have e1 : sortsB p = false := by unfold sortsB; rw [e]; simpa using hn
  refine ⟨e1, ?_⟩
  unfold sortStr
  rw [if_neg (by rw [e1]; decide)]

set_option maxRecDepth 100000 in
set_option maxHeartbeats 4000000 in
theorem sort_any (b off n cap : Nat) (p : List Nat) (w : World) (hS : Sl .i64 w (some ⟨b, off, none⟩) n p) (hp : IsPerm p) (hn : n ≤ 60) (h0 : 0 < n) (hcap : n ≤ cap) (hc9 : cap ≤ 9223372036854775807) :
    Calls Try.prog 28 #[.slice (some ⟨b, off, none⟩) n cap] w (RetSort p w) := by
  have hl := hS.len
  subst hl
  obtain ⟨i0, hi, hz0, hz1, hz2⟩ := info_parts info_u8
  have Hchk := Lib.hid (check_perm b off p.length cap p w hS hp hn h0)
  obtain ⟨b', off', e, hs, hcl⟩ := hS.at h0
  injection e with e
  injection e with e1 e2
  subst e1 e2
  have Hcl := Lib.hid hcl
  clear hcl
  go_enter Try.func28, Try.ntmps28
  go_wp2_with (go_at_call 16; refine Hchk.out.mono ?_; rintro e w1 ⟨rfl, hb1⟩)
  have hs1 := hb1.size
  have hmem0 : SortMem w (w1.heap.size + 1) w1.heap.size (.slice (some ⟨b, off, none⟩) p.length cap) (.slice none 0 0) 0 0 [] (.slice none 0 0) 0 [] (w1.alloc (.cells #[.slice (some ⟨b, off, none⟩) p.length cap, .slice none 0 0, .int .i64 0] 94)) :=
    ⟨Blk.new w1 _ _, ⟨rfl, .inl ⟨rfl, rfl⟩⟩, ⟨rfl, .inl ⟨rfl, rfl⟩⟩, (fun _ h => by cases h), hb1.trans ((below_new' w1 _).mono hs1), by simp, ⟨hs1, by omega⟩⟩
  generalize w1.heap.size + 1 = B at *
  generalize w1.heap.size = g at *
  go_loopg [7] (2 * p.length + 1) (fun gk v wr => ∃ i nx m st run A c sv, gk = 2 * p.length + 1 - m ∧ calm st nx = true ∧ SortHead w B g b off p i nx m st run A c sv v wr)
  case atStart => exact ⟨0, 0, 0, [], [], some ⟨b, off, none⟩, cap, .slice none 0 0, rfl, rfl, Sorting.start p, fun _ => ⟨rfl, hcap, hc9⟩, rfl, hmem0⟩
  case round =>
    obtain ⟨i, nx, m, st, run, A, c, sv, hk, hcalm, hsteps, hrest, hcnt, hmem⟩ := hrel
    have Hk := Lib.hid hk
    have Hcalm := Lib.hid hcalm
    have Hsteps := Lib.hid hsteps
    have Hcnt := Lib.hid hcnt
    have hst := hsteps.st
    have htop := hsteps.top
    have hm120 : m ≤ 120 := by omega
    have hst60 : st.length ≤ 60 := by omega
    have hnx60 : nx ≤ 60 := by omega
    have hnxi : nx ≤ i := by omega
    clear hk hcalm hsteps hcnt hst
    have hB := hmem.size
    have hbase := hmem.base
    by_cases hlt : i < p.length
    · obtain ⟨rfl, hc1, hc2⟩ := hrest hlt
      obtain ⟨m', hm'⟩ : ∃ m', p.length - i = m' + 1 := ⟨p.length - i - 1, by omega⟩
      have Hm' := Lib.hid hm'
      rw [hm'] at hmem hc1
      have hcx := (hmem.bel.cell (p := ⟨b, off + i, none⟩) hs).trans (Hcl.out i hlt)
      have Hnext := Lib.hid (Hsteps.out.put Hcalm.out hlt)
      have Hput := Lib.hid (put_some B g b (off + i) m' c (p.getD i 0) nx st.length sv st wr hmem.sorter hc1 hc2 hcx hmem.stack hB hbase.2 (by omega) (by omega) (by omega))
      generalize p.getD i 0 = x at *
      have Hmem := Lib.hid hmem
      clear hm' hmem hcx hrest
      go_wp2_with (first
        | (go_at_call 73; refine Hput.out.mono ?_; rintro e w2 ⟨A', c', gg, cg, hP⟩; obtain rfl := hP.ret; have hmem2 := Hmem.out.put hP; have hsz2 := hmem2.size; have Hrest2 := Lib.hid hP.rest; clear hP)
        | (at_builtin; refine wpList_append_lies _ rfl _ _ 95 rfl B 5 i0 (.int .u8 0) 1 1 Try.underlying95 hi hz0 hz1 hz2 rfl (by decide) _ m (nums .u8 run) rfl (hmem2.run.alloc _) ⟨w2.heap.size, 0, none⟩ 1 1 [.int .u8 105] rfl rfl ?c1 ?c2 ?c3 ?c4 ?c5 ?c6 (w2.heap.size + 1) (size_new'' _ _) ?_))
      case c1 => exact cell_one_new _ _ _
      case c2 => exact one_cell _ rfl
      case c3 => exact Nat.one_pos
      case c4 => unfold maxLen; omega
      case c5 => omega
      case c6 => simp; omega
      intro gr cr w3 hown3 hgrow hat hlt3
      have hmem3 := hmem2.app hown3 hgrow hat
      have Hmem3 : Hid (SortMem w B g (.slice A' m' c') (.slice (some ⟨gg, 0, none⟩) (st.length + 1) cg) nx (st ++ [x]).length (st ++ [x]) (.slice (some ⟨gr, 0, none⟩) (m + 1) cr) (m + 1) (run ++ [105]) w3) := by
        rw [List.length_append, List.length_singleton]; exact hmem3
      clear hown3 hgrow hat hmem2 hmem3 Hput
      go_wp2
      obtain ⟨wo, rfl⟩ : ∃ wo : World, wo = w3 := ⟨_, rfl⟩
      go_loopg [7] (2 * p.length + 1 - (m + 1)) (fun gk2 v wr2 => ∃ nx2 m2 st2 run2 sv2, gk2 = 2 * p.length + 1 - m2 ∧ m < m2 ∧ Sorting p (i + 1) st2 nx2 run2 ∧ m2 = i + 1 + nx2 ∧ SortMem w B g (.slice A' m' c') sv2 nx2 st2.length st2 v m2 run2 wr2)
      case atStart => exact ⟨nx, m + 1, st ++ [x], run ++ [105], _, rfl, by omega, Hnext.out, by have := Hcnt.out; omega, Hmem3.out⟩
      case round =>
        obtain ⟨nx2, m2, st2, run2, sv2, hk2, hmm2, hsteps2, hcnt2, hmem2⟩ := hrel
        have Hk2 := Lib.hid hk2
        have Hsteps2 := Lib.hid hsteps2
        have Hcnt2 := Lib.hid hcnt2
        have hst2 := hsteps2.st
        have htop2 := hsteps2.top
        have hm120' : m2 ≤ 120 := by omega
        have hst60' : st2.length ≤ 60 := by omega
        have hnx60' : nx2 ≤ 60 := by omega
        have hnxi2 : nx2 ≤ i + 1 := by omega
        clear hk2 hsteps2 hcnt2 hst2
        by_cases hcalm2 : calm st2 nx2 = true
        · have Hcalm2 := Lib.hid hcalm2
          have Htake : Hid (Calls Try.prog 74 #[.pointer (some ⟨g, 0, none⟩)] wr fun e w' => e = .returned (.bool false) ∧ Drew wr w') := by
            rcases Nat.eq_zero_or_pos st2.length with h | h
            · obtain ⟨A2, c2, rfl⟩ := own_slice' hmem2.stack
              rw [h] at hmem2
              exact take_none g A2 c2 _ nx2 wr hmem2.sorter
            · obtain ⟨g2, c2, rfl⟩ := own_pos hmem2.stack h
              obtain ⟨k2, hk2⟩ : ∃ k2, st2.length = k2 + 1 := ⟨st2.length - 1, by omega⟩
              have hcc : wr.cell? ⟨g2, st2.length - 1, none⟩ = _ := own_num hmem2.stack (st2.length - 1) (by omega)
              have hne : st2.getD (st2.length - 1) 0 ≠ nx2 := by
                rcases calm_cases hcalm2 with e | e
                · omega
                · exact e
              have hso := hmem2.sorter
              rw [hk2] at hso hcc hne
              exact take_no g g2 c2 k2 _ nx2 _ wr hso hcc (by omega) hne
          clear hcalm2
          go_wp2_with (go_at_call 74; refine Htake.out.mono ?_; rintro e w4 ⟨rfl, q4, rfl⟩)
          go_roundg (2 * p.length + 1 - m2)
          case rel => exact ⟨i + 1, nx2, m2, st2, run2, A', c', sv2, rfl, Hcalm2.out, Hsteps2.out, fun h => by obtain ⟨e1, e2, e3⟩ := Hrest2.out (by have := Hm'.out; omega); exact ⟨by rw [e1, Nat.add_assoc], by have := Hm'.out; omega, e3⟩, Hcnt2.out, by rw [show p.length - (i + 1) = m' by have := Hm'.out; omega]; exact hmem2.drewN q4⟩
          case measure => have := Hk.out; have := Hcnt.out; omega
        · have hcf : calm st2 nx2 = false := by simpa using hcalm2
          have hcc := calm_false hcf
          have Hcf := Lib.hid hcf
          clear hcalm2 hcf
          obtain ⟨g2, c2, rfl⟩ := own_pos hmem2.stack hcc.1
          obtain ⟨k2, hk2⟩ : ∃ k2, st2.length = k2 + 1 := ⟨st2.length - 1, by omega⟩
          have Hnext2 := Lib.hid (Hsteps2.out.take Hcf.out)
          rw [hk2, Nat.add_sub_cancel] at Hnext2
          have hcell := own_num hmem2.stack (st2.length - 1) (by omega)
          rw [hcc.2, hk2, Nat.add_sub_cancel] at hcell
          have hcap2 := own_capd hmem2.stack
          rw [hk2] at hmem2 hcap2
          have Htake := Lib.hid (take_yes g g2 c2 k2 nx2 _ wr hmem2.sorter hcell (by omega) hcap2 (by omega))
          have Hk2' := Lib.hid hk2
          have Hmem2 := Lib.hid hmem2
          clear hk2 hcell hcc hmem2
          go_wp2_with (first
            | (go_at_call 74; refine Htake.out.mono ?_; rintro e w4 ⟨rfl, hs4, ht4⟩; have hmem4 := Hmem2.out.take hs4 ht4; have hsz4 := hmem4.size; clear hs4 ht4)
            | (at_builtin; refine wpList_append_lies _ rfl _ _ 95 rfl B 5 i0 (.int .u8 0) 1 1 Try.underlying95 hi hz0 hz1 hz2 rfl (by decide) _ m2 (nums .u8 run2) rfl (hmem4.run.alloc _) ⟨w4.heap.size, 0, none⟩ 1 1 [.int .u8 111] rfl rfl ?d1 ?d2 ?d3 ?d4 ?d5 ?d6 (w4.heap.size + 1) (size_new'' _ _) ?_))
          case d1 => exact cell_one_new _ _ _
          case d2 => exact one_cell _ rfl
          case d3 => exact Nat.one_pos
          case d4 => unfold maxLen; omega
          case d5 => omega
          case d6 => simp; omega
          intro gr2 cr2 w5 hown5 hgrow5 hat5 hlt5
          have hmem5 := hmem4.app hown5 hgrow5 hat5
          clear hown5 hgrow5 hat5 hmem4
          go_wp2
          go_roundg (2 * p.length + 1 - (m2 + 1))
          case rel => exact ⟨nx2 + 1, m2 + 1, st2.take k2, run2 ++ [111], _, rfl, by omega, Hnext2.out, by have := Hcnt2.out; omega, by rw [List.length_take, show min k2 st2.length = k2 by have := Hk2'.out; omega]; exact hmem5⟩
          case measure => have := Hk2.out; have := Hcnt2.out; omega
    · obtain rfl : i = p.length := by omega
      rw [Nat.sub_self] at hmem
      obtain ⟨s0, s1, s2, -, -, -⟩ := sort_three hmem.sorter
      have Hput := Lib.hid (put_none g A c sv nx wr hmem.sorter)
      have hbel := hmem.bel
      by_cases hnx : nx < p.length
      · have hf := fin_no Hsteps.out Hcalm.out rfl hnx
        have Hf := Lib.hid hf
        have hd : decide ((nx : Int) < (p.length : Int)) = true := decide_eq_true (by omega)
        clear hf hmem hrest
        go_wp2_with (go_at_call 73; refine Hput.out.mono ?_; rintro e w4 ⟨rfl, rfl⟩)
        go_ret3
        exact ⟨by rw [Hf.out.1, Hf.out.2]; rfl, hbel⟩
      · have hf := fin_yes Hsteps.out Hcalm.out rfl (by omega)
        have Hf := Lib.hid hf
        have hd : decide ((nx : Int) < (p.length : Int)) = false := decide_eq_false (by omega)
        obtain ⟨gr, cr, rfl⟩ := own_pos hmem.run (by have := Hcnt.out; omega)
        have hrl := own_len hmem.run
        have hconv := run_convert_bytes_arg (P := Try.prog) wr 95 5 Try.underlying95 Try.underlying5 gr 0 m cr (run.map fun (x : Nat) => (x : Int)) (by simpa using hrl) (fun j hj => by
          rw [Nat.zero_add, own_num hmem.run j hj]
          simp [List.getD_eq_getElem?_getD, show j < run.length by omega]) 9 Try.underlying9
        clear hf hmem hrest hrl
        go_wp2_with (go_at_call 73; refine Hput.out.mono ?_; rintro e w4 ⟨rfl, rfl⟩)
        go_ret3
        exact ⟨by rw [Hf.out.1, Hf.out.2]; rfl, hbel⟩

end Go.Proofs.Ytgdaidmkcgblbaa
